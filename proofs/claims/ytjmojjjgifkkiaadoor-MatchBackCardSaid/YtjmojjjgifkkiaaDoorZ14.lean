/-
  What the program's atom and factor do, of what group does. Conditions: at most 40 bytes.
-/
import Derived.Test.YtjmojjjgifkkiaaDoorProg
import Derived.Test.YtjmojjjgifkkiaaDoorZ01
import Derived.Test.YtjmojjjgifkkiaaDoorZ02
import Derived.Test.YtjmojjjgifkkiaaDoorZ03
import Derived.Test.YtjmojjjgifkkiaaDoorZ04
import Derived.Test.YtjmojjjgifkkiaaDoorZ06
import Derived.Test.YtjmojjjgifkkiaaDoorZ07
import Derived.Test.YtjmojjjgifkkiaaDoorZ05
import Derived.Test.YtjmojjjgifkkiaaDoorZ08
import Derived.Test.YtjmojjjgifkkiaaDoorZ09
import Derived.Laws.MakeOwn
import Derived.Laws.OwnMore
import Derived.OwnWalk
import Derived.WalkKit
import Derived.WalkSpells
import Derived.WalkLawsBesides
import Derived.Lib.Hide
import Derived.Below
import Derived.BigQuiet
import Derived.Lib.QuietBelow
import Derived.Laws.StructEq
import Derived.KernelRfl
import Derived.Deep.QuietTactic
import Derived.Lib.Bytealg
import Derived.Laws.Externs
import Derived.Laws.AppendOwn
import Derived.Deep.LoopGhost
import Derived.Deep.RegionHeld3
import Derived.Laws.CopyOwn
import Derived.StillTailTactics
import Derived.Laws.ResultCell
import Derived.Maps.AppendAt
namespace Go.Proofs.YtjmojjjgifkkiaaDoor
open Go.RowKit Go.Sort
open Pz

/-- What is told of a part of the parser: its tree at each place. -/
def Tells (f : FuncId) (P : Nat) (s : ByteArray) (d : Nat) (G : Nat → Option (Rx × Nat)) : Prop := ∀ i W, Par W P s i d → Calls Tryd.prog f #[.pointer (some ⟨P, 0, none⟩)] W (PRes W P s d (G i))
theorem put_span (c : Nat) : span none4 c (c + 1 - c) = put none4 c := by
  rw [show c + 1 - c = 1 by omega]; rfl
set_option maxRecDepth 100000 in
set_option maxHeartbeats 8000000 in
theorem atom_any (P d : Nat) (s : ByteArray) (G : Nat → Option (Rx × Nat)) (hG : Tells 115 P s d G) : Tells 111 P s d (atom (txt8 s) 42 G) := by
  intro i w h
  have H := Lib.hid (At.start h zero6 60)
  have Z1 : Hid ((w.alloc (.cells zero6 60)).heap.size = w.heap.size + 1) := by show _ = _; simp
  clear h
  unfold zero6 at H
  unfold zero6 at Z1
  have GH := Lib.hid hG
  have BH : Hid (Tells 116 P s d (class1 (txt8 s) 42)) := fun i W h => brackets_any P i d s W h
  clear hG
  by_cases h40 : pk (txt8 s) i = 40
  · have C1 := Lib.hid (fun W => skip_yes (P := P) (d := d) h40 (by omega) W)
    have e1 : atom (txt8 s) 42 G i = G (i + 1) := by unfold atom; rw [if_pos h40]
    cases hg : G (i + 1) with
    | none =>
      have R : Hid (atom (txt8 s) 42 G i = none) := e1.trans hg
      have HG := Lib.hid hg
      clear h40 e1 hg
      go_enter Tryd.func111, Tryd.ntmps111
      go_wp2_with fail
      refine (C1.out _ H.out.pa).mono ?_
      rintro e W1 ⟨rfl, S1, P1⟩
      replace H := Lib.hid (H.out.step S1 P1)
      clear S1 P1
      go_wp2_with fail
      refine (GH.out (i + 1) _ H.out.pa).mono ?_
      intro e W1 hp
      obtain ⟨rfl, S1, j1, P1⟩ := hp.no HG.out
      replace H := Lib.hid (H.out.step S1 P1)
      clear S1 P1 hp
      go_wp2_with (refine wpList_store_row rfl 60 (.tmp 2) (.tmp 11) rfl w.heap.size #[.int .i64 0, .int .u64 0, .int .u64 0, .int .u64 0, .int .u64 0, .slice none 0 0] rfl rfl 60 _ H.out.r Tryd.size6 rfl (by simp [Value.oneCell']) ?_)
      exact bodyPost_ret (run_ct rfl _ _ _ w.heap.size #[.int .i64 0, .int .u64 0, .int .u64 0, .int .u64 0, .int .u64 0, .slice none 0 0] (.bool false) rfl rfl (run_loadVar_row _ _ _ _ _ _ _ (H.out.fin _).2.2 Tryd.underlying60 rfl Tryd.size6)) rfl (pres_none R.out H.out)
    | some q =>
      obtain ⟨t, j⟩ := q
      have R : Hid (atom (txt8 s) 42 G i = some (t, j)) := e1.trans hg
      have HG := Lib.hid hg
      clear h40 e1 hg
      go_enter Tryd.func111, Tryd.ntmps111
      go_wp2_with fail
      refine (C1.out _ H.out.pa).mono ?_
      rintro e W1 ⟨rfl, S1, P1⟩
      replace H := Lib.hid (H.out.step S1 P1)
      clear S1 P1
      have hbig := H.out.big
      have hlt := H.out.lt
      go_wp2_with fail
      refine (GH.out (i + 1) _ H.out.pa).mono ?_
      intro e W2 hp
      obtain ⟨op, a, b, c, d1, A, n, cap, rfl, RX, S1, P1⟩ := hp.yes HG.out
      replace H := Lib.hid (H.out.step S1 P1)
      replace RX : Hid (RxIn (fun b => w.heap.size + 1 ≤ b) W2 (.agg (c6 op a b c d1 A n cap)) t) := RX.under (Below.refl _ _) hbig
      clear S1 P1 hp hbig
      go_wp2_with (refine wpList_store_row rfl 60 (.tmp 2) (.tmp 11) rfl w.heap.size #[.int .i64 op, .int .u64 (a : Int), .int .u64 (b : Int), .int .u64 (c : Int), .int .u64 (d1 : Int), .slice A n cap] rfl rfl 60 _ H.out.r Tryd.size6 rfl (by simp [Value.oneCell']) ?_)
      exact bodyPost_ret (run_ct rfl _ _ _ w.heap.size #[.int .i64 op, .int .u64 (a : Int), .int .u64 (b : Int), .int .u64 (c : Int), .int .u64 (d1 : Int), .slice A n cap] (.bool true) rfl rfl (run_loadVar_row _ _ _ _ _ _ _ (H.out.fin _).2.2 Tryd.underlying60 rfl Tryd.size6)) rfl (pres_some R.out H.out RX.out)
  have N1 := Lib.hid (fun W => skip_no (P := P) (d := d) h40 (by omega) W)
  by_cases h91 : pk (txt8 s) i = 91
  · have C1 := Lib.hid (fun W => skip_yes (P := P) (d := d) h91 (by omega) W)
    have e1 : atom (txt8 s) 42 G i = class1 (txt8 s) 42 (i + 1) := by unfold atom; rw [if_neg h40, if_pos h91]
    cases hg : class1 (txt8 s) 42 (i + 1) with
    | none =>
      have R : Hid (atom (txt8 s) 42 G i = none) := e1.trans hg
      have HG := Lib.hid hg
      clear h40 h91 e1 hg
      go_enter Tryd.func111, Tryd.ntmps111
      go_wp2_with fail
      refine (N1.out _ H.out.pa).mono ?_
      rintro e W1 ⟨rfl, S1, P1⟩
      replace H := Lib.hid (H.out.step S1 P1)
      clear S1 P1
      go_wp2_with fail
      refine (C1.out _ H.out.pa).mono ?_
      rintro e W1 ⟨rfl, S1, P1⟩
      replace H := Lib.hid (H.out.step S1 P1)
      clear S1 P1
      go_wp2_with fail
      refine (BH.out (i + 1) _ H.out.pa).mono ?_
      intro e W1 hp
      obtain ⟨rfl, S1, j1, P1⟩ := hp.no HG.out
      replace H := Lib.hid (H.out.step S1 P1)
      clear S1 P1 hp
      go_wp2_with (refine wpList_store_row rfl 60 (.tmp 2) (.tmp 18) rfl w.heap.size #[.int .i64 0, .int .u64 0, .int .u64 0, .int .u64 0, .int .u64 0, .slice none 0 0] rfl rfl 60 _ H.out.r Tryd.size6 rfl (by simp [Value.oneCell']) ?_)
      exact bodyPost_ret (run_ct rfl _ _ _ w.heap.size #[.int .i64 0, .int .u64 0, .int .u64 0, .int .u64 0, .int .u64 0, .slice none 0 0] (.bool false) rfl rfl (run_loadVar_row _ _ _ _ _ _ _ (H.out.fin _).2.2 Tryd.underlying60 rfl Tryd.size6)) rfl (pres_none R.out H.out)
    | some q =>
      obtain ⟨t, j⟩ := q
      have R : Hid (atom (txt8 s) 42 G i = some (t, j)) := e1.trans hg
      have HG := Lib.hid hg
      clear h40 h91 e1 hg
      go_enter Tryd.func111, Tryd.ntmps111
      go_wp2_with fail
      refine (N1.out _ H.out.pa).mono ?_
      rintro e W1 ⟨rfl, S1, P1⟩
      replace H := Lib.hid (H.out.step S1 P1)
      clear S1 P1
      go_wp2_with fail
      refine (C1.out _ H.out.pa).mono ?_
      rintro e W1 ⟨rfl, S1, P1⟩
      replace H := Lib.hid (H.out.step S1 P1)
      clear S1 P1
      have hbig := H.out.big
      have hlt := H.out.lt
      go_wp2_with fail
      refine (BH.out (i + 1) _ H.out.pa).mono ?_
      intro e W2 hp
      obtain ⟨op, a, b, c, d1, A, n, cap, rfl, RX, S1, P1⟩ := hp.yes HG.out
      replace H := Lib.hid (H.out.step S1 P1)
      replace RX : Hid (RxIn (fun b => w.heap.size + 1 ≤ b) W2 (.agg (c6 op a b c d1 A n cap)) t) := RX.under (Below.refl _ _) hbig
      clear S1 P1 hp hbig
      go_wp2_with (refine wpList_store_row rfl 60 (.tmp 2) (.tmp 18) rfl w.heap.size #[.int .i64 op, .int .u64 (a : Int), .int .u64 (b : Int), .int .u64 (c : Int), .int .u64 (d1 : Int), .slice A n cap] rfl rfl 60 _ H.out.r Tryd.size6 rfl (by simp [Value.oneCell']) ?_)
      exact bodyPost_ret (run_ct rfl _ _ _ w.heap.size #[.int .i64 op, .int .u64 (a : Int), .int .u64 (b : Int), .int .u64 (c : Int), .int .u64 (d1 : Int), .slice A n cap] (.bool true) rfl rfl (run_loadVar_row _ _ _ _ _ _ _ (H.out.fin _).2.2 Tryd.underlying60 rfl Tryd.size6)) rfl (pres_some R.out H.out RX.out)
  have N2 := Lib.hid (fun W => skip_no (P := P) (d := d) h91 (by omega) W)
  by_cases h46 : pk (txt8 s) i = 46
  · have C1 := Lib.hid (fun W => skip_yes (P := P) (d := d) h46 (by omega) W)
    obtain ⟨U, hU⟩ : ∃ U, neg none4 = U := ⟨_, rfl⟩
    have R : Hid (atom (txt8 s) 42 G i = some (setOf U, i + 1)) := by show _ = _; unfold atom; rw [if_neg h40, if_neg h91, if_pos h46, hU]
    have OT : Hid (∀ W, Calls Tryd.prog 117 #[.agg #[.int .u64 0, .int .u64 0, .int .u64 0, .int .u64 0]] W fun e w' => e = .returned (.agg #[.int .u64 (U 0 : Int), .int .u64 (U 1 : Int), .int .u64 (U 2 : Int), .int .u64 (U 3 : Int)]) ∧ Below W.heap.size W w') := fun W => by rw [← hU]; exact others_any none4 none4_fits W
    clear hU h40 h91 h46
    go_enter Tryd.func111, Tryd.ntmps111
    go_wp2_with fail
    refine (N1.out _ H.out.pa).mono ?_
    rintro e W1 ⟨rfl, S1, P1⟩
    replace H := Lib.hid (H.out.step S1 P1)
    clear S1 P1
    go_wp2_with fail
    refine (N2.out _ H.out.pa).mono ?_
    rintro e W1 ⟨rfl, S1, P1⟩
    replace H := Lib.hid (H.out.step S1 P1)
    clear S1 P1
    go_wp2_with fail
    refine (C1.out _ H.out.pa).mono ?_
    rintro e W1 ⟨rfl, S1, P1⟩
    replace H := Lib.hid (H.out.step S1 P1)
    clear S1 P1
    go_wp2_with fail
    refine (OT.out _).mono ?_
    rintro e W1 ⟨rfl, B1⟩
    replace H := Lib.hid (H.out.grow B1)
    clear B1
    go_wp2_with (refine wpList_store_row rfl 60 (.tmp 2) (.tmp 25) rfl w.heap.size #[.int .i64 1, .int .u64 (U 0 : Int), .int .u64 (U 1 : Int), .int .u64 (U 2 : Int), .int .u64 (U 3 : Int), .slice none 0 0] rfl rfl 60 _ H.out.r Tryd.size6 rfl (by simp [Value.oneCell']) ?_)
    exact bodyPost_ret (run_ct rfl _ _ _ w.heap.size #[.int .i64 1, .int .u64 (U 0 : Int), .int .u64 (U 1 : Int), .int .u64 (U 2 : Int), .int .u64 (U 3 : Int), .slice none 0 0] (.bool true) rfl rfl (run_loadVar_row _ _ _ _ _ _ _ (H.out.fin _).2.2 Tryd.underlying60 rfl Tryd.size6)) rfl (pres_some R.out H.out (RxIn.leaf _ _ 1 _ _ _ _))
  have N3 := Lib.hid (fun W => skip_no (P := P) (d := d) h46 (by omega) W)
  cases h1 : byte1 (txt8 s) special i with
  | none =>
    have R : Hid (atom (txt8 s) 42 G i = none) := by show _ = _; unfold atom; rw [if_neg h40, if_neg h91, if_neg h46, h1]
    have C1 := Lib.hid (fun W => bb_none (P := P) (d := d) sS special mem_S h1 W)
    clear h1 h40 h91 h46
    go_enter Tryd.func111, Tryd.ntmps111
    go_wp2_with fail
    refine (N1.out _ H.out.pa).mono ?_
    rintro e W1 ⟨rfl, S1, P1⟩
    replace H := Lib.hid (H.out.step S1 P1)
    clear S1 P1
    go_wp2_with fail
    refine (N2.out _ H.out.pa).mono ?_
    rintro e W1 ⟨rfl, S1, P1⟩
    replace H := Lib.hid (H.out.step S1 P1)
    clear S1 P1
    go_wp2_with fail
    refine (N3.out _ H.out.pa).mono ?_
    rintro e W1 ⟨rfl, S1, P1⟩
    replace H := Lib.hid (H.out.step S1 P1)
    clear S1 P1
    go_wp2_with fail
    refine (C1.out _ H.out.pa).mono ?_
    rintro e W1 ⟨rfl, S1, j1, P1⟩
    replace H := Lib.hid (H.out.step S1 P1)
    clear S1 P1
    go_wp2_with (refine wpList_store_row rfl 60 (.tmp 2) (.tmp 33) rfl w.heap.size #[.int .i64 0, .int .u64 0, .int .u64 0, .int .u64 0, .int .u64 0, .slice none 0 0] rfl rfl 60 _ H.out.r Tryd.size6 rfl (by simp [Value.oneCell']) ?_)
    exact bodyPost_ret (run_ct rfl _ _ _ w.heap.size #[.int .i64 0, .int .u64 0, .int .u64 0, .int .u64 0, .int .u64 0, .slice none 0 0] (.bool false) rfl rfl (run_loadVar_row _ _ _ _ _ _ _ (H.out.fin _).2.2 Tryd.underlying60 rfl Tryd.size6)) rfl (pres_none R.out H.out)
  | some q =>
    obtain ⟨c, j⟩ := q
    have ⟨l1, _, _⟩ := byte1_lt h1
    obtain ⟨U, hU⟩ : ∃ U, put none4 c = U := ⟨_, rfl⟩
    have R : Hid (atom (txt8 s) 42 G i = some (setOf U, j)) := by show _ = _; unfold atom; rw [if_neg h40, if_neg h91, if_neg h46, h1, ← hU]
    have C1 := Lib.hid (fun W => bb_some (P := P) (d := d) sS special mem_S h1 W)
    have SP : Hid (∀ W, Calls Tryd.prog 119 #[.int .u8 (c : Int), .int .u8 (c : Int)] W fun e w' => e = .returned (.agg #[.int .u64 (U 0 : Int), .int .u64 (U 1 : Int), .int .u64 (U 2 : Int), .int .u64 (U 3 : Int)]) ∧ Below W.heap.size W w') := fun W => by have := span_any c c l1 l1 W; rw [put_span, hU] at this; exact this
    clear h1 h40 h91 h46 hU
    go_enter Tryd.func111, Tryd.ntmps111
    go_wp2_with fail
    refine (N1.out _ H.out.pa).mono ?_
    rintro e W1 ⟨rfl, S1, P1⟩
    replace H := Lib.hid (H.out.step S1 P1)
    clear S1 P1
    go_wp2_with fail
    refine (N2.out _ H.out.pa).mono ?_
    rintro e W1 ⟨rfl, S1, P1⟩
    replace H := Lib.hid (H.out.step S1 P1)
    clear S1 P1
    go_wp2_with fail
    refine (N3.out _ H.out.pa).mono ?_
    rintro e W1 ⟨rfl, S1, P1⟩
    replace H := Lib.hid (H.out.step S1 P1)
    clear S1 P1
    go_wp2_with fail
    refine (C1.out _ H.out.pa).mono ?_
    rintro e W1 ⟨rfl, S1, P1⟩
    replace H := Lib.hid (H.out.step S1 P1)
    clear S1 P1
    go_wp2_with fail
    refine (SP.out _).mono ?_
    rintro e W1 ⟨rfl, B1⟩
    replace H := Lib.hid (H.out.grow B1)
    clear B1
    go_wp2_with (refine wpList_store_row rfl 60 (.tmp 2) (.tmp 37) rfl w.heap.size #[.int .i64 1, .int .u64 (U 0 : Int), .int .u64 (U 1 : Int), .int .u64 (U 2 : Int), .int .u64 (U 3 : Int), .slice none 0 0] rfl rfl 60 _ H.out.r Tryd.size6 rfl (by simp [Value.oneCell']) ?_)
    exact bodyPost_ret (run_ct rfl _ _ _ w.heap.size #[.int .i64 1, .int .u64 (U 0 : Int), .int .u64 (U 1 : Int), .int .u64 (U 2 : Int), .int .u64 (U 3 : Int), .slice none 0 0] (.bool true) rfl rfl (run_loadVar_row _ _ _ _ _ _ _ (H.out.fin _).2.2 Tryd.underlying60 rfl Tryd.size6)) rfl (pres_some R.out H.out (RxIn.leaf _ _ 1 _ _ _ _))

set_option maxRecDepth 100000 in
set_option maxHeartbeats 8000000 in
theorem factor_any (P d : Nat) (s : ByteArray) (G : Nat → Option (Rx × Nat)) (hG : Tells 115 P s d G) : Tells 103 P s d (factor (txt8 s) 42 G) := by
  intro i w h
  have H := Lib.hid (At.start h zero6 60)
  clear h
  unfold zero6 at H
  have GH := Lib.hid (atom_any P d s G hG)
  clear hG
  cases hg : atom (txt8 s) 42 G i with
  | none =>
    have R : Hid (factor (txt8 s) 42 G i = none) := by show _ = _; unfold factor; rw [hg]
    have HG := Lib.hid hg
    clear hg
    go_enter Tryd.func103, Tryd.ntmps103
    go_wp2_with fail
    refine (GH.out i _ H.out.pa).mono ?_
    intro e W1 hp
    obtain ⟨rfl, S1, j1, P1⟩ := hp.no HG.out
    replace H := Lib.hid (H.out.step S1 P1)
    clear S1 P1 hp
    replace H := Lib.hid (H.out.grow ((Below.refl _ _).alloc (Nat.le_refl _) (.cells #[.int .i64 0, .int .u64 0, .int .u64 0, .int .u64 0, .int .u64 0, .slice none 0 0] 60)))
    go_wp2_with (refine wpList_store_row rfl 60 (.tmp 2) (.tmp 13) rfl w.heap.size #[.int .i64 0, .int .u64 0, .int .u64 0, .int .u64 0, .int .u64 0, .slice none 0 0] rfl rfl 60 _ H.out.r Tryd.size6 rfl (by simp [Value.oneCell']) ?_)
    exact bodyPost_ret (run_ct rfl _ _ _ w.heap.size #[.int .i64 0, .int .u64 0, .int .u64 0, .int .u64 0, .int .u64 0, .slice none 0 0] (.bool false) rfl rfl (run_loadVar_row _ _ _ _ _ _ _ (H.out.fin _).2.2 Tryd.underlying60 rfl Tryd.size6)) rfl (pres_none R.out H.out)
  | some q =>
    obtain ⟨t, j⟩ := q
    have e1 : factor (txt8 s) 42 G i = if pk (txt8 s) j = 42 then some (rep 4 t, j + 1) else if pk (txt8 s) j = 43 then some (rep 5 t, j + 1) else if pk (txt8 s) j = 63 then some (rep 6 t, j + 1) else some (t, j) := by unfold factor; rw [hg]
    have HG := Lib.hid hg
    clear hg
    by_cases h42 : pk (txt8 s) j = 42
    · have C1 := Lib.hid (fun W => skip_yes (P := P) (d := d) h42 (by omega) W)
      have R : Hid (factor (txt8 s) 42 G i = some (rep 4 t, j + 1)) := by show _ = _; rw [e1, if_pos h42]
      clear h42 e1
      go_enter Tryd.func103, Tryd.ntmps103
      have hbig := H.out.big
      have hlt := H.out.lt
      go_wp2_with fail
      refine (GH.out i _ H.out.pa).mono ?_
      intro e W1 hp
      obtain ⟨op, a, b, c, d1, A, n, cap, rfl, RX, S1, P1⟩ := hp.yes HG.out
      replace H := Lib.hid (H.out.step S1 P1)
      replace RX : Hid (RxIn (fun b => w.heap.size + 1 ≤ b) W1 (.agg (c6 op a b c d1 A n cap)) t) := RX.under (Below.refl _ _) hbig
      clear S1 P1 hp hbig
      have X6 : Hid (Row6 (W1.alloc (.cells #[.int .i64 op, .int .u64 (a : Int), .int .u64 (b : Int), .int .u64 (c : Int), .int .u64 (d1 : Int), .slice A n cap] 60)) W1.heap.size #[.int .i64 op, .int .u64 (a : Int), .int .u64 (b : Int), .int .u64 (c : Int), .int .u64 (d1 : Int), .slice A n cap]) := heap_alloc_new W1 _
      have B6 : Below W1.heap.size W1 (W1.alloc (.cells #[.int .i64 op, .int .u64 (a : Int), .int .u64 (b : Int), .int .u64 (c : Int), .int .u64 (d1 : Int), .slice A n cap] 60)) := (Below.refl _ _).alloc (Nat.le_refl _) _
      have hgP : P < W1.heap.size := by have := H.out.pa.lt; omega
      replace RX := Lib.hid (RX.out.under B6 (Nat.le_refl _))
      replace H := Lib.hid (H.out.grow B6)
      clear B6
      go_wp2_with fail
      generalize W1.alloc (.cells #[.int .i64 op, .int .u64 (a : Int), .int .u64 (b : Int), .int .u64 (c : Int), .int .u64 (d1 : Int), .slice A n cap] 60) = W2 at *
      generalize W1.heap.size = g at *
      refine (C1.out _ H.out.pa).mono ?_
      rintro e W3 ⟨rfl, S1, P1⟩
      replace X6 := Lib.hid (X6.out.stp S1 hgP)
      replace RX := Lib.hid (RX.out.stp S1 (by omega) (Nat.le_refl _))
      replace H := Lib.hid (H.out.step S1 P1)
      clear S1 P1
      obtain ⟨x0, x1, x2, x3, x4, x5⟩ := X6.out.cells
      have CR := Lib.hid (repeated_any 4 t _ op a b c d1 A n cap _ (by have := H.out.big; omega) RX.out)
      go_wp2_with fail
      refine CR.out.mono ?_
      rintro e W4 ⟨A1, n1, cap1, rfl, RX2, B1⟩
      replace H := Lib.hid (H.out.grow B1)
      have RX2 := Lib.hid RX2
      clear B1 CR x0 x1 x2 x3 x4 x5
      go_wp2_with (refine wpList_store_row rfl 60 (.tmp 2) (.tmp 18) rfl w.heap.size #[.int .i64 4, .int .u64 0, .int .u64 0, .int .u64 0, .int .u64 0, .slice A1 n1 cap1] rfl rfl 60 _ H.out.r Tryd.size6 rfl (by simp [Value.oneCell']) ?_)
      exact bodyPost_ret (run_ct rfl _ _ _ w.heap.size #[.int .i64 4, .int .u64 0, .int .u64 0, .int .u64 0, .int .u64 0, .slice A1 n1 cap1] (.bool true) rfl rfl (run_loadVar_row _ _ _ _ _ _ _ (H.out.fin _).2.2 Tryd.underlying60 rfl Tryd.size6)) rfl (pres_some R.out H.out RX2.out)
    have N1 := Lib.hid (fun W => skip_no (P := P) (d := d) h42 (by omega) W)
    by_cases h43 : pk (txt8 s) j = 43
    · have C1 := Lib.hid (fun W => skip_yes (P := P) (d := d) h43 (by omega) W)
      have R : Hid (factor (txt8 s) 42 G i = some (rep 5 t, j + 1)) := by show _ = _; rw [e1, if_neg h42, if_pos h43]
      clear h42 h43 e1
      go_enter Tryd.func103, Tryd.ntmps103
      have hbig := H.out.big
      have hlt := H.out.lt
      go_wp2_with fail
      refine (GH.out i _ H.out.pa).mono ?_
      intro e W1 hp
      obtain ⟨op, a, b, c, d1, A, n, cap, rfl, RX, S1, P1⟩ := hp.yes HG.out
      replace H := Lib.hid (H.out.step S1 P1)
      replace RX : Hid (RxIn (fun b => w.heap.size + 1 ≤ b) W1 (.agg (c6 op a b c d1 A n cap)) t) := RX.under (Below.refl _ _) hbig
      clear S1 P1 hp hbig
      have X6 : Hid (Row6 (W1.alloc (.cells #[.int .i64 op, .int .u64 (a : Int), .int .u64 (b : Int), .int .u64 (c : Int), .int .u64 (d1 : Int), .slice A n cap] 60)) W1.heap.size #[.int .i64 op, .int .u64 (a : Int), .int .u64 (b : Int), .int .u64 (c : Int), .int .u64 (d1 : Int), .slice A n cap]) := heap_alloc_new W1 _
      have B6 : Below W1.heap.size W1 (W1.alloc (.cells #[.int .i64 op, .int .u64 (a : Int), .int .u64 (b : Int), .int .u64 (c : Int), .int .u64 (d1 : Int), .slice A n cap] 60)) := (Below.refl _ _).alloc (Nat.le_refl _) _
      have hgP : P < W1.heap.size := by have := H.out.pa.lt; omega
      replace RX := Lib.hid (RX.out.under B6 (Nat.le_refl _))
      replace H := Lib.hid (H.out.grow B6)
      clear B6
      go_wp2_with fail
      generalize W1.alloc (.cells #[.int .i64 op, .int .u64 (a : Int), .int .u64 (b : Int), .int .u64 (c : Int), .int .u64 (d1 : Int), .slice A n cap] 60) = W2 at *
      generalize W1.heap.size = g at *
      refine (N1.out _ H.out.pa).mono ?_
      rintro e W3 ⟨rfl, S1, P1⟩
      replace X6 := Lib.hid (X6.out.stp S1 hgP)
      replace RX := Lib.hid (RX.out.stp S1 (by omega) (Nat.le_refl _))
      replace H := Lib.hid (H.out.step S1 P1)
      clear S1 P1
      go_wp2_with fail
      refine (C1.out _ H.out.pa).mono ?_
      rintro e W3 ⟨rfl, S1, P1⟩
      replace X6 := Lib.hid (X6.out.stp S1 hgP)
      replace RX := Lib.hid (RX.out.stp S1 (by omega) (Nat.le_refl _))
      replace H := Lib.hid (H.out.step S1 P1)
      clear S1 P1
      obtain ⟨x0, x1, x2, x3, x4, x5⟩ := X6.out.cells
      have CR := Lib.hid (repeated_any 5 t _ op a b c d1 A n cap _ (by have := H.out.big; omega) RX.out)
      go_wp2_with fail
      refine CR.out.mono ?_
      rintro e W4 ⟨A1, n1, cap1, rfl, RX2, B1⟩
      replace H := Lib.hid (H.out.grow B1)
      have RX2 := Lib.hid RX2
      clear B1 CR x0 x1 x2 x3 x4 x5
      go_wp2_with (refine wpList_store_row rfl 60 (.tmp 2) (.tmp 23) rfl w.heap.size #[.int .i64 5, .int .u64 0, .int .u64 0, .int .u64 0, .int .u64 0, .slice A1 n1 cap1] rfl rfl 60 _ H.out.r Tryd.size6 rfl (by simp [Value.oneCell']) ?_)
      exact bodyPost_ret (run_ct rfl _ _ _ w.heap.size #[.int .i64 5, .int .u64 0, .int .u64 0, .int .u64 0, .int .u64 0, .slice A1 n1 cap1] (.bool true) rfl rfl (run_loadVar_row _ _ _ _ _ _ _ (H.out.fin _).2.2 Tryd.underlying60 rfl Tryd.size6)) rfl (pres_some R.out H.out RX2.out)
    have N2 := Lib.hid (fun W => skip_no (P := P) (d := d) h43 (by omega) W)
    by_cases h63 : pk (txt8 s) j = 63
    · have C1 := Lib.hid (fun W => skip_yes (P := P) (d := d) h63 (by omega) W)
      have R : Hid (factor (txt8 s) 42 G i = some (rep 6 t, j + 1)) := by show _ = _; rw [e1, if_neg h42, if_neg h43, if_pos h63]
      clear h42 h43 h63 e1
      go_enter Tryd.func103, Tryd.ntmps103
      have hbig := H.out.big
      have hlt := H.out.lt
      go_wp2_with fail
      refine (GH.out i _ H.out.pa).mono ?_
      intro e W1 hp
      obtain ⟨op, a, b, c, d1, A, n, cap, rfl, RX, S1, P1⟩ := hp.yes HG.out
      replace H := Lib.hid (H.out.step S1 P1)
      replace RX : Hid (RxIn (fun b => w.heap.size + 1 ≤ b) W1 (.agg (c6 op a b c d1 A n cap)) t) := RX.under (Below.refl _ _) hbig
      clear S1 P1 hp hbig
      have X6 : Hid (Row6 (W1.alloc (.cells #[.int .i64 op, .int .u64 (a : Int), .int .u64 (b : Int), .int .u64 (c : Int), .int .u64 (d1 : Int), .slice A n cap] 60)) W1.heap.size #[.int .i64 op, .int .u64 (a : Int), .int .u64 (b : Int), .int .u64 (c : Int), .int .u64 (d1 : Int), .slice A n cap]) := heap_alloc_new W1 _
      have B6 : Below W1.heap.size W1 (W1.alloc (.cells #[.int .i64 op, .int .u64 (a : Int), .int .u64 (b : Int), .int .u64 (c : Int), .int .u64 (d1 : Int), .slice A n cap] 60)) := (Below.refl _ _).alloc (Nat.le_refl _) _
      have hgP : P < W1.heap.size := by have := H.out.pa.lt; omega
      replace RX := Lib.hid (RX.out.under B6 (Nat.le_refl _))
      replace H := Lib.hid (H.out.grow B6)
      clear B6
      go_wp2_with fail
      generalize W1.alloc (.cells #[.int .i64 op, .int .u64 (a : Int), .int .u64 (b : Int), .int .u64 (c : Int), .int .u64 (d1 : Int), .slice A n cap] 60) = W2 at *
      generalize W1.heap.size = g at *
      refine (N1.out _ H.out.pa).mono ?_
      rintro e W3 ⟨rfl, S1, P1⟩
      replace X6 := Lib.hid (X6.out.stp S1 hgP)
      replace RX := Lib.hid (RX.out.stp S1 (by omega) (Nat.le_refl _))
      replace H := Lib.hid (H.out.step S1 P1)
      clear S1 P1
      go_wp2_with fail
      refine (N2.out _ H.out.pa).mono ?_
      rintro e W3 ⟨rfl, S1, P1⟩
      replace X6 := Lib.hid (X6.out.stp S1 hgP)
      replace RX := Lib.hid (RX.out.stp S1 (by omega) (Nat.le_refl _))
      replace H := Lib.hid (H.out.step S1 P1)
      clear S1 P1
      go_wp2_with fail
      refine (C1.out _ H.out.pa).mono ?_
      rintro e W3 ⟨rfl, S1, P1⟩
      replace X6 := Lib.hid (X6.out.stp S1 hgP)
      replace RX := Lib.hid (RX.out.stp S1 (by omega) (Nat.le_refl _))
      replace H := Lib.hid (H.out.step S1 P1)
      clear S1 P1
      obtain ⟨x0, x1, x2, x3, x4, x5⟩ := X6.out.cells
      have CR := Lib.hid (repeated_any 6 t _ op a b c d1 A n cap _ (by have := H.out.big; omega) RX.out)
      go_wp2_with fail
      refine CR.out.mono ?_
      rintro e W4 ⟨A1, n1, cap1, rfl, RX2, B1⟩
      replace H := Lib.hid (H.out.grow B1)
      have RX2 := Lib.hid RX2
      clear B1 CR x0 x1 x2 x3 x4 x5
      go_wp2_with (refine wpList_store_row rfl 60 (.tmp 2) (.tmp 28) rfl w.heap.size #[.int .i64 6, .int .u64 0, .int .u64 0, .int .u64 0, .int .u64 0, .slice A1 n1 cap1] rfl rfl 60 _ H.out.r Tryd.size6 rfl (by simp [Value.oneCell']) ?_)
      exact bodyPost_ret (run_ct rfl _ _ _ w.heap.size #[.int .i64 6, .int .u64 0, .int .u64 0, .int .u64 0, .int .u64 0, .slice A1 n1 cap1] (.bool true) rfl rfl (run_loadVar_row _ _ _ _ _ _ _ (H.out.fin _).2.2 Tryd.underlying60 rfl Tryd.size6)) rfl (pres_some R.out H.out RX2.out)
    have N3 := Lib.hid (fun W => skip_no (P := P) (d := d) h63 (by omega) W)
    have R : Hid (factor (txt8 s) 42 G i = some (t, j)) := by show _ = _; rw [e1, if_neg h42, if_neg h43, if_neg h63]
    clear h42 h43 h63 e1
    go_enter Tryd.func103, Tryd.ntmps103
    have hbig := H.out.big
    have hlt := H.out.lt
    go_wp2_with fail
    refine (GH.out i _ H.out.pa).mono ?_
    intro e W1 hp
    obtain ⟨op, a, b, c, d1, A, n, cap, rfl, RX, S1, P1⟩ := hp.yes HG.out
    replace H := Lib.hid (H.out.step S1 P1)
    replace RX : Hid (RxIn (fun b => w.heap.size + 1 ≤ b) W1 (.agg (c6 op a b c d1 A n cap)) t) := RX.under (Below.refl _ _) hbig
    clear S1 P1 hp hbig
    have X6 : Hid (Row6 (W1.alloc (.cells #[.int .i64 op, .int .u64 (a : Int), .int .u64 (b : Int), .int .u64 (c : Int), .int .u64 (d1 : Int), .slice A n cap] 60)) W1.heap.size #[.int .i64 op, .int .u64 (a : Int), .int .u64 (b : Int), .int .u64 (c : Int), .int .u64 (d1 : Int), .slice A n cap]) := heap_alloc_new W1 _
    have B6 : Below W1.heap.size W1 (W1.alloc (.cells #[.int .i64 op, .int .u64 (a : Int), .int .u64 (b : Int), .int .u64 (c : Int), .int .u64 (d1 : Int), .slice A n cap] 60)) := (Below.refl _ _).alloc (Nat.le_refl _) _
    have hgP : P < W1.heap.size := by have := H.out.pa.lt; omega
    replace RX := Lib.hid (RX.out.under B6 (Nat.le_refl _))
    replace H := Lib.hid (H.out.grow B6)
    clear B6
    go_wp2_with fail
    generalize W1.alloc (.cells #[.int .i64 op, .int .u64 (a : Int), .int .u64 (b : Int), .int .u64 (c : Int), .int .u64 (d1 : Int), .slice A n cap] 60) = W2 at *
    generalize W1.heap.size = g at *
    refine (N1.out _ H.out.pa).mono ?_
    rintro e W3 ⟨rfl, S1, P1⟩
    replace X6 := Lib.hid (X6.out.stp S1 hgP)
    replace RX := Lib.hid (RX.out.stp S1 (by omega) (Nat.le_refl _))
    replace H := Lib.hid (H.out.step S1 P1)
    clear S1 P1
    go_wp2_with fail
    refine (N2.out _ H.out.pa).mono ?_
    rintro e W3 ⟨rfl, S1, P1⟩
    replace X6 := Lib.hid (X6.out.stp S1 hgP)
    replace RX := Lib.hid (RX.out.stp S1 (by omega) (Nat.le_refl _))
    replace H := Lib.hid (H.out.step S1 P1)
    clear S1 P1
    go_wp2_with fail
    refine (N3.out _ H.out.pa).mono ?_
    rintro e W3 ⟨rfl, S1, P1⟩
    replace X6 := Lib.hid (X6.out.stp S1 hgP)
    replace RX := Lib.hid (RX.out.stp S1 (by omega) (Nat.le_refl _))
    replace H := Lib.hid (H.out.step S1 P1)
    clear S1 P1
    obtain ⟨x0, x1, x2, x3, x4, x5⟩ := X6.out.cells
    go_wp2_with (refine wpList_store_row rfl 60 (.tmp 2) (.tmp 29) rfl w.heap.size #[.int .i64 op, .int .u64 (a : Int), .int .u64 (b : Int), .int .u64 (c : Int), .int .u64 (d1 : Int), .slice A n cap] rfl rfl 60 _ H.out.r Tryd.size6 rfl (by simp [Value.oneCell']) ?_)
    exact bodyPost_ret (run_ct rfl _ _ _ w.heap.size #[.int .i64 op, .int .u64 (a : Int), .int .u64 (b : Int), .int .u64 (c : Int), .int .u64 (d1 : Int), .slice A n cap] (.bool true) rfl rfl (run_loadVar_row _ _ _ _ _ _ _ (H.out.fin _).2.2 Tryd.underlying60 rfl Tryd.size6)) rfl (pres_some R.out H.out RX.out)

end Go.Proofs.YtjmojjjgifkkiaaDoor
