/-
  What the program's group and Parse do. No conditions.
-/
import Derived.Test.YtjmojjjgifkkiaaDoorProg
import Derived.Test.YtjmojjjgifkkiaaDoorZ01
import Derived.Test.YtjmojjjgifkkiaaDoorZ02
import Derived.Test.YtjmojjjgifkkiaaDoorZ03
import Derived.Test.YtjmojjjgifkkiaaDoorZ04
import Derived.Test.YtjmojjjgifkkiaaDoorZ06
import Derived.Test.YtjmojjjgifkkiaaDoorZ05
import Derived.Test.YtjmojjjgifkkiaaDoorZ08
import Derived.Test.YtjmojjjgifkkiaaDoorZ09
import Derived.Test.YtjmojjjgifkkiaaDoorZ14
import Derived.Test.YtjmojjjgifkkiaaDoorZ15
import Derived.Laws.MakeOwn
import Derived.Laws.OwnMore
import Derived.OwnWalk
import Derived.WalkKit
import Derived.WalkSpells
import Derived.WalkLawsBesides
import Derived.Lib.Hide
import Derived.Below
import Derived.BigQuiet
import Derived.Lib.QuietBelow
import Derived.Laws.StructEq
import Derived.KernelRfl
import Derived.Deep.QuietTactic
import Derived.Lib.Bytealg
import Derived.Laws.Externs
import Derived.Laws.AppendOwn
import Derived.Deep.LoopGhost
import Derived.Deep.RegionHeld3
import Derived.Laws.CopyOwn
import Derived.StillTailTactics
import Derived.Laws.ResultCell
import Derived.Maps.AppendAt
namespace Go.Proofs.YtjmojjjgifkkiaaDoor
open Go.RowKit Go.Sort
open Pz

set_option maxRecDepth 100000 in
set_option maxHeartbeats 8000000 in
theorem group_zero (P : Nat) (s : ByteArray) : Tells 115 P s 8 (group (txt8 s) 42 0) := by
  intro i w h
  have H := Lib.hid (At.start h zero6 60)
  have R : Hid (group (txt8 s) 42 0 i = none) := rfl
  clear h
  unfold zero6 at H
  have c2 : _ = some (Value.int .i64 8) := H.out.pa.c2
  go_enter Tryd.func115, Tryd.ntmps115
  go_wp2_with (refine wpList_store_row rfl 60 (.tmp 2) (.tmp 11) rfl w.heap.size #[.int .i64 0, .int .u64 0, .int .u64 0, .int .u64 0, .int .u64 0, .slice none 0 0] rfl rfl 60 _ H.out.r Tryd.size6 rfl (by simp [Value.oneCell']) ?_)
  exact bodyPost_ret (run_ct rfl _ _ _ w.heap.size #[.int .i64 0, .int .u64 0, .int .u64 0, .int .u64 0, .int .u64 0, .slice none 0 0] (.bool false) rfl rfl (run_loadVar_row _ _ _ _ _ _ _ (H.out.fin _).2.2 Tryd.underlying60 rfl Tryd.size6)) rfl (pres_none R.out H.out)
theorem At.start2 {w : World} {P i d : Nat} {s : ByteArray} (h : Par w P s i d) (d2 : Nat) (row : Array Value) (ty : TypeId) : At w P s i d2 row ty ((w.setCell ⟨P, 2, none⟩ (.int .i64 (d2 : Int))).alloc (.cells row ty)) := by
  have hb : Below (w.setCell ⟨P, 2, none⟩ (.int .i64 (d2 : Int))).heap.size _ _ := (Below.refl _ (w.setCell ⟨P, 2, none⟩ (.int .i64 (d2 : Int)))).alloc (Nat.le_refl _) (.cells row ty)
  have e := heap_alloc_new (w.setCell ⟨P, 2, none⟩ (.int .i64 (d2 : Int))) (.cells row ty)
  rw [show (w.setCell ⟨P, 2, none⟩ (.int .i64 (d2 : Int))).heap.size = w.heap.size by simp] at e
  exact ⟨(Stp.put _ _ _).trans (Stp.of hb), (h.put2 d2).grown hb, h.lt, e⟩
/-- A variable is laid, and behind it the parser's depth is written: the walk has it the other way round. -/
theorem At.deep {w W : World} {P i d : Nat} {s : ByteArray} {row : Array Value} {ty : TypeId} (h : At w P s i d row ty W) (d2 : Nat) (o : Obj) : At w P s i d2 row ty ((W.setCell ⟨P, 2, none⟩ (.int .i64 (d2 : Int))).alloc o) :=
  (h.step (Stp.put _ _ _) (h.pa.put2 d2)).grow ((Below.refl _ _).alloc (Nat.le_refl _) _)
set_option maxRecDepth 100000 in
set_option maxHeartbeats 8000000 in
theorem group_succ (P d D : Nat) (s : ByteArray) (hd : d < 8) (hW : Tells 69 P s (d + 1) (Pz.ways (txt8 s) 42 (group (txt8 s) 42 D) 42 [])) : Tells 115 P s d (group (txt8 s) 42 (D + 1)) := by
  intro i w h
  have H := Lib.hid (At.start h zero6 60)
  have WC := Lib.hid hW
  have h0 := h
  clear h hW
  unfold zero6 at H
  have e1 : group (txt8 s) 42 (D + 1) i = match Pz.ways (txt8 s) 42 (group (txt8 s) 42 D) 42 [] i with
    | none => none
    | some (x, j) => if pk (txt8 s) j = 41 then some (x, j + 1) else none := rfl
  have c2 := H.out.pa.c2
  have f2 := H.out.pa.fr 2
  have hd8 : ((d : Int) == 8) = false := by simp; omega
  obtain ⟨d2, hd2⟩ : ∃ d2, d + 1 = d2 := ⟨_, rfl⟩
  rw [hd2] at WC
  have hw1 : IntKind.i64.wrap ((d : Int) + 1) = (d2 : Int) := by rw [IntKind.wrap_i64]; omega
  have hw2 : IntKind.i64.wrap ((d2 : Int) - 1) = (d : Int) := by rw [IntKind.wrap_i64]; omega
  have hw3 : (d : Int) + 1 = (d2 : Int) := by omega
  have hw4 : (d2 : Int) - 1 = (d : Int) := by omega
  clear hd2
  replace H := Lib.hid (At.start2 h0 d2 #[.int .i64 0, .int .u64 0, .int .u64 0, .int .u64 0, .int .u64 0, .slice none 0 0] 60)
  clear h0
  cases hf : Pz.ways (txt8 s) 42 (group (txt8 s) 42 D) 42 [] i with
  | none =>
    have R : Hid (group (txt8 s) 42 (D + 1) i = none) := by show _ = _; rw [e1, hf]
    have HF := Lib.hid hf
    clear hf e1
    go_enter Tryd.func115, Tryd.ntmps115
    have hlt := H.out.lt
    go_wp2_with fail
    clear c2 f2 hd8
    refine (WC.out i _ H.out.pa).mono ?_
    intro e W1 hp
    obtain ⟨rfl, S1, j1, P1⟩ := hp.no HF.out
    have c2 := P1.c2
    have f2 := P1.fr 2
    have hPl := P1.lt
    replace H := Lib.hid ((H.out.step S1 P1).deep d (.cells #[.int .i64 0, .int .u64 0, .int .u64 0, .int .u64 0, .int .u64 0, .slice none 0 0] 60))
    clear S1 P1 hp
    go_wp2_with (refine wpList_store_row rfl 60 (.tmp 2) (.tmp 38) rfl w.heap.size #[.int .i64 0, .int .u64 0, .int .u64 0, .int .u64 0, .int .u64 0, .slice none 0 0] rfl rfl 60 _ H.out.r Tryd.size6 rfl (by simp [Value.oneCell']) ?_)
    exact bodyPost_ret (run_ct rfl _ _ _ w.heap.size #[.int .i64 0, .int .u64 0, .int .u64 0, .int .u64 0, .int .u64 0, .slice none 0 0] (.bool false) rfl rfl (run_loadVar_row _ _ _ _ _ _ _ (H.out.fin _).2.2 Tryd.underlying60 rfl Tryd.size6)) rfl (pres_none R.out H.out)
  | some q =>
    obtain ⟨x, j⟩ := q
    have HF := Lib.hid hf
    by_cases h41 : pk (txt8 s) j = 41
    · have C1 := Lib.hid (fun W => skip_yes (P := P) (d := d) h41 (by omega) W)
      have R : Hid (group (txt8 s) 42 (D + 1) i = some (x, j + 1)) := by show _ = _; rw [e1, hf]; exact if_pos h41
      clear hf e1 h41
      go_enter Tryd.func115, Tryd.ntmps115
      have hbig := H.out.big
      have hlt := H.out.lt
      go_wp2_with fail
      clear c2 f2 hd8
      refine (WC.out i _ H.out.pa).mono ?_
      intro e W1 hp
      obtain ⟨op, a, b, c, d1, A, n, cap, rfl, RX, S1, P1⟩ := hp.yes HF.out
      have c2 := P1.c2
      have f2 := P1.fr 2
      have hgP := P1.lt
      have B6 : Below W1.heap.size (W1.setCell ⟨P, 2, none⟩ (.int .i64 (d : Int))) ((W1.setCell ⟨P, 2, none⟩ (.int .i64 (d : Int))).alloc (.cells #[.int .i64 op, .int .u64 (a : Int), .int .u64 (b : Int), .int .u64 (c : Int), .int .u64 (d1 : Int), .slice A n cap] 60)) := (Below.refl _ _).alloc (by simp) _
      have X6 : Hid (Row6 ((W1.setCell ⟨P, 2, none⟩ (.int .i64 (d : Int))).alloc (.cells #[.int .i64 op, .int .u64 (a : Int), .int .u64 (b : Int), .int .u64 (c : Int), .int .u64 (d1 : Int), .slice A n cap] 60)) W1.heap.size #[.int .i64 op, .int .u64 (a : Int), .int .u64 (b : Int), .int .u64 (c : Int), .int .u64 (d1 : Int), .slice A n cap]) := by
        have h := heap_alloc_new (W1.setCell ⟨P, 2, none⟩ (.int .i64 (d : Int))) (.cells #[.int .i64 op, .int .u64 (a : Int), .int .u64 (b : Int), .int .u64 (c : Int), .int .u64 (d1 : Int), .slice A n cap] 60)
        rw [show (W1.setCell ⟨P, 2, none⟩ (.int .i64 (d : Int))).heap.size = W1.heap.size by simp] at h
        exact h
      have ST : Stp P W1 _ := Stp.put W1 2 (.int .i64 (d : Int))
      replace RX : Hid (RxIn (fun b => w.heap.size + 1 ≤ b) ((W1.setCell ⟨P, 2, none⟩ (.int .i64 (d : Int))).alloc (.cells #[.int .i64 op, .int .u64 (a : Int), .int .u64 (b : Int), .int .u64 (c : Int), .int .u64 (d1 : Int), .slice A n cap] 60)) (.agg (c6 op a b c d1 A n cap)) x) := ((RX.under (Below.refl _ _) hbig).stp ST (by omega) (Nat.le_refl _)).under ((Below.refl _ _).alloc (Nat.le_refl _) _) (Nat.le_refl _)
      replace H := Lib.hid ((H.out.step S1 P1).deep d (.cells #[.int .i64 op, .int .u64 (a : Int), .int .u64 (b : Int), .int .u64 (c : Int), .int .u64 (d1 : Int), .slice A n cap] 60))
      clear S1 P1 B6 hp hbig ST
      go_wp2_with fail
      clear c2 f2
      generalize (W1.setCell ⟨P, 2, none⟩ (.int .i64 (d : Int))).alloc (.cells #[.int .i64 op, .int .u64 (a : Int), .int .u64 (b : Int), .int .u64 (c : Int), .int .u64 (d1 : Int), .slice A n cap] 60) = W2 at *
      generalize W1.heap.size = g at *
      refine (C1.out _ H.out.pa).mono ?_
      rintro e W3 ⟨rfl, S1, P1⟩
      replace X6 := Lib.hid (X6.out.stp S1 hgP)
      replace RX := Lib.hid (RX.out.stp S1 (by omega) (Nat.le_refl _))
      replace H := Lib.hid (H.out.step S1 P1)
      clear S1 P1
      obtain ⟨x0, x1, x2, x3, x4, x5⟩ := X6.out.cells
      go_wp2_with (refine wpList_store_row rfl 60 (.tmp 2) (.tmp 39) rfl w.heap.size #[.int .i64 op, .int .u64 (a : Int), .int .u64 (b : Int), .int .u64 (c : Int), .int .u64 (d1 : Int), .slice A n cap] rfl rfl 60 _ H.out.r Tryd.size6 rfl (by simp [Value.oneCell']) ?_)
      exact bodyPost_ret (run_ct rfl _ _ _ w.heap.size #[.int .i64 op, .int .u64 (a : Int), .int .u64 (b : Int), .int .u64 (c : Int), .int .u64 (d1 : Int), .slice A n cap] (.bool true) rfl rfl (run_loadVar_row _ _ _ _ _ _ _ (H.out.fin _).2.2 Tryd.underlying60 rfl Tryd.size6)) rfl (pres_some R.out H.out RX.out)
    · have C1 := Lib.hid (fun W => skip_no (P := P) (d := d) h41 (by omega) W)
      have R : Hid (group (txt8 s) 42 (D + 1) i = none) := by show _ = _; rw [e1, hf]; exact if_neg h41
      clear hf e1 h41
      go_enter Tryd.func115, Tryd.ntmps115
      have hbig := H.out.big
      have hlt := H.out.lt
      go_wp2_with fail
      clear c2 f2 hd8
      refine (WC.out i _ H.out.pa).mono ?_
      intro e W1 hp
      obtain ⟨op, a, b, c, d1, A, n, cap, rfl, RX, S1, P1⟩ := hp.yes HF.out
      have c2 := P1.c2
      have f2 := P1.fr 2
      have hgP := P1.lt
      have B6 : Below W1.heap.size (W1.setCell ⟨P, 2, none⟩ (.int .i64 (d : Int))) ((W1.setCell ⟨P, 2, none⟩ (.int .i64 (d : Int))).alloc (.cells #[.int .i64 op, .int .u64 (a : Int), .int .u64 (b : Int), .int .u64 (c : Int), .int .u64 (d1 : Int), .slice A n cap] 60)) := (Below.refl _ _).alloc (by simp) _
      have X6 : Hid (Row6 ((W1.setCell ⟨P, 2, none⟩ (.int .i64 (d : Int))).alloc (.cells #[.int .i64 op, .int .u64 (a : Int), .int .u64 (b : Int), .int .u64 (c : Int), .int .u64 (d1 : Int), .slice A n cap] 60)) W1.heap.size #[.int .i64 op, .int .u64 (a : Int), .int .u64 (b : Int), .int .u64 (c : Int), .int .u64 (d1 : Int), .slice A n cap]) := by
        have h := heap_alloc_new (W1.setCell ⟨P, 2, none⟩ (.int .i64 (d : Int))) (.cells #[.int .i64 op, .int .u64 (a : Int), .int .u64 (b : Int), .int .u64 (c : Int), .int .u64 (d1 : Int), .slice A n cap] 60)
        rw [show (W1.setCell ⟨P, 2, none⟩ (.int .i64 (d : Int))).heap.size = W1.heap.size by simp] at h
        exact h
      have ST : Stp P W1 _ := Stp.put W1 2 (.int .i64 (d : Int))
      replace RX : Hid (RxIn (fun b => w.heap.size + 1 ≤ b) ((W1.setCell ⟨P, 2, none⟩ (.int .i64 (d : Int))).alloc (.cells #[.int .i64 op, .int .u64 (a : Int), .int .u64 (b : Int), .int .u64 (c : Int), .int .u64 (d1 : Int), .slice A n cap] 60)) (.agg (c6 op a b c d1 A n cap)) x) := ((RX.under (Below.refl _ _) hbig).stp ST (by omega) (Nat.le_refl _)).under ((Below.refl _ _).alloc (Nat.le_refl _) _) (Nat.le_refl _)
      replace H := Lib.hid ((H.out.step S1 P1).deep d (.cells #[.int .i64 op, .int .u64 (a : Int), .int .u64 (b : Int), .int .u64 (c : Int), .int .u64 (d1 : Int), .slice A n cap] 60))
      clear S1 P1 B6 hp hbig ST
      go_wp2_with fail
      clear c2 f2
      generalize (W1.setCell ⟨P, 2, none⟩ (.int .i64 (d : Int))).alloc (.cells #[.int .i64 op, .int .u64 (a : Int), .int .u64 (b : Int), .int .u64 (c : Int), .int .u64 (d1 : Int), .slice A n cap] 60) = W2 at *
      generalize W1.heap.size = g at *
      refine (C1.out _ H.out.pa).mono ?_
      rintro e W3 ⟨rfl, S1, P1⟩
      replace X6 := Lib.hid (X6.out.stp S1 hgP)
      replace RX := Lib.hid (RX.out.stp S1 (by omega) (Nat.le_refl _))
      replace H := Lib.hid (H.out.step S1 P1)
      clear S1 P1
      go_wp2_with (refine wpList_store_row rfl 60 (.tmp 2) (.tmp 38) rfl w.heap.size #[.int .i64 0, .int .u64 0, .int .u64 0, .int .u64 0, .int .u64 0, .slice none 0 0] rfl rfl 60 _ H.out.r Tryd.size6 rfl (by simp [Value.oneCell']) ?_)
      exact bodyPost_ret (run_ct rfl _ _ _ w.heap.size #[.int .i64 0, .int .u64 0, .int .u64 0, .int .u64 0, .int .u64 0, .slice none 0 0] (.bool false) rfl rfl (run_loadVar_row _ _ _ _ _ _ _ (H.out.fin _).2.2 Tryd.underlying60 rfl Tryd.size6)) rfl (pres_none R.out H.out)
theorem group_any (P : Nat) (s : ByteArray) : ∀ D d, d + D = 8 → Tells 115 P s d (group (txt8 s) 42 D)
  | 0, d, h => by
    obtain rfl : d = 8 := by omega
    exact group_zero P s
  | D + 1, d, h => group_succ P d D s (by omega) (ways_any P (d + 1) s _ (group_le D) (group_any P s D (d + 1) (by omega)))
/-- What Parse hands back. -/
def ParseRes (w : World) (r : Option Rx) (e : Ending) (w' : World) : Prop :=
  Below w.heap.size w w' ∧ ((∃ t v, r = some t ∧ e = .returned (.tuple #[v, .bool true]) ∧ RxIn (fun b => w.heap.size ≤ b) w' v t) ∨ (r = none ∧ e = .returned (.tuple #[.agg zero6, .bool false])))
theorem below_row {w W : World} (h : Below w.heap.size w W) (cs : Array Value) : Below w.heap.size w (W.setRow w.heap.size cs) :=
  ⟨h.os, h.tape, h.output, by rw [setRow_size]; exact h.size, fun k hk => (setRow_other _ _ _ _ (by omega)).trans (h.block k hk)⟩
set_option maxRecDepth 100000 in
set_option maxHeartbeats 8000000 in
theorem parse_any (s : ByteArray) (hs : s.size ≤ 1099511627776) (w : World) : Calls Tryd.prog 36 #[.string s] w (ParseRes w (parse (txt8 s))) := by
  obtain ⟨L, hL⟩ : ∃ L, s.size = L := ⟨_, rfl⟩
  by_cases h40 : 40 < L
  · have hz : decide ((L : Int) > 40) = true := decide_eq_true (by omega)
    have R : Hid (parse (txt8 s) = none) := by show _ = _; unfold parse; rw [txt8_len, if_pos (by omega)]
    have B := Lib.hid ((Below.refl w.heap.size w).alloc (Nat.le_refl _) (.cells #[.int .i64 0, .int .u64 0, .int .u64 0, .int .u64 0, .int .u64 0, .slice none 0 0] 60))
    have HH := Lib.hid (heap_alloc_new w (.cells #[.int .i64 0, .int .u64 0, .int .u64 0, .int .u64 0, .int .u64 0, .slice none 0 0] 60))
    clear h40
    go_enter Tryd.func36, Tryd.ntmps36
    go_wp2
    exact bodyPost_ret (run_ct rfl _ _ _ w.heap.size #[.int .i64 0, .int .u64 0, .int .u64 0, .int .u64 0, .int .u64 0, .slice none 0 0] (.bool false) rfl rfl (run_loadVar_row _ _ _ _ _ _ _ HH.out Tryd.underlying60 rfl Tryd.size6)) rfl ⟨B.out, .inr ⟨R.out, rfl⟩⟩
  · have hz : decide ((L : Int) > 40) = false := decide_eq_false (by omega)
    have WC := Lib.hid (fun P => ways_any P 0 s _ (group_le 8) (group_any P s 8 0 rfl))
    obtain ⟨e1, e2, z, B⟩ := alloc2 w (.cells #[.int .i64 0, .int .u64 0, .int .u64 0, .int .u64 0, .int .u64 0, .slice none 0 0] 60) (.cells #[.string s, .int .i64 0, .int .i64 0] 88)
    have PA : Hid (Par ((w.alloc (.cells #[.int .i64 0, .int .u64 0, .int .u64 0, .int .u64 0, .int .u64 0, .slice none 0 0] 60)).alloc (.cells #[.string s, .int .i64 0, .int .i64 0] 88)) (w.heap.size + 1) s 0 0) := by
      generalize (w.alloc (.cells #[.int .i64 0, .int .u64 0, .int .u64 0, .int .u64 0, .int .u64 0, .slice none 0 0] 60)).alloc (.cells #[.string s, .int .i64 0, .int .i64 0] 88) = W at *
      refine ⟨?_, ?_, ?_, fun j => by rw [World.frozen?, e2]; simp, by omega, by omega⟩ <;> (rw [cell_of_row _ _ _ _ _ _ e2]; rfl)
    have E1 := Lib.hid e1
    have ZZ := Lib.hid z
    have BB := Lib.hid B
    clear e1 e2 z B
    have e1 : parse (txt8 s) = match Pz.ways (txt8 s) 42 (group (txt8 s) 42 8) 42 [] 0 with
      | none => none
      | some (x, j) => if j < s.size then none else some x := by
      unfold parse
      rw [txt8_len, if_neg (by omega)]
      cases Pz.ways (txt8 s) 42 (group (txt8 s) 42 8) 42 [] 0 <;> rfl
    cases hf : Pz.ways (txt8 s) 42 (group (txt8 s) 42 8) 42 [] 0 with
    | none =>
      have R : Hid (parse (txt8 s) = none) := by show _ = _; rw [e1, hf]
      have HF := Lib.hid hf
      clear hf e1 h40
      go_enter Tryd.func36, Tryd.ntmps36
      go_wp2_with fail
      refine (WC.out _ 0 _ PA.out).mono ?_
      intro e W1 hp
      obtain ⟨rfl, S1, j1, P1⟩ := hp.no HF.out
      have r1 := (S1.block w.heap.size (by rw [ZZ.out]; omega) (by omega)).trans E1.out
      have b1 := BB.out.trans (S1.below (B := w.heap.size) (by omega) (by rw [ZZ.out]; omega))
      have B6 : Below W1.heap.size W1 (W1.alloc (.cells #[.int .i64 0, .int .u64 0, .int .u64 0, .int .u64 0, .int .u64 0, .slice none 0 0] 60)) := (Below.refl _ _).alloc (Nat.le_refl _) _
      have R2 := Lib.hid ((B6.block w.heap.size (Array.getElem?_eq_some_iff.1 r1).1).trans r1)
      have b2 := Lib.hid (b1.trans (B6.mono b1.size))
      clear S1 P1 hp B6 r1 b1 E1 ZZ BB PA WC
      go_wp2_with (refine wpList_store_row rfl 60 (.tmp 2) (.tmp 26) rfl w.heap.size #[.int .i64 0, .int .u64 0, .int .u64 0, .int .u64 0, .int .u64 0, .slice none 0 0] rfl rfl 60 _ R2.out Tryd.size6 rfl (by simp [Value.oneCell']) ?_)
      exact bodyPost_ret (run_ct rfl _ _ _ w.heap.size #[.int .i64 0, .int .u64 0, .int .u64 0, .int .u64 0, .int .u64 0, .slice none 0 0] (.bool false) rfl rfl (run_loadVar_row _ _ _ _ _ _ _ (setRow_heap _ _ _ _ _ _ R2.out) Tryd.underlying60 rfl Tryd.size6)) rfl ⟨below_row b2.out _, .inr ⟨R.out, rfl⟩⟩
    | some q =>
      obtain ⟨x, j⟩ := q
      have HF := Lib.hid hf
      have R1 : Hid (parse (txt8 s) = if j < L then none else some x) := by show _ = _; rw [e1, hf, ← hL]
      clear hf e1 h40
      go_enter Tryd.func36, Tryd.ntmps36
      go_wp2_with fail
      refine (WC.out _ 0 _ PA.out).mono ?_
      intro e W1 hp
      obtain ⟨op, a, b, c, d1, A, n, cap, rfl, RX, S1, P1⟩ := hp.yes HF.out
      have r1 := (S1.block w.heap.size (by rw [ZZ.out]; omega) (by omega)).trans E1.out
      have b1 := BB.out.trans (S1.below (B := w.heap.size) (by omega) (by rw [ZZ.out]; omega))
      have B6 : Below W1.heap.size W1 (W1.alloc (.cells #[.int .i64 op, .int .u64 (a : Int), .int .u64 (b : Int), .int .u64 (c : Int), .int .u64 (d1 : Int), .slice A n cap] 60)) := (Below.refl _ _).alloc (Nat.le_refl _) _
      have X6 : Row6 (W1.alloc (.cells #[.int .i64 op, .int .u64 (a : Int), .int .u64 (b : Int), .int .u64 (c : Int), .int .u64 (d1 : Int), .slice A n cap] 60)) W1.heap.size #[.int .i64 op, .int .u64 (a : Int), .int .u64 (b : Int), .int .u64 (c : Int), .int .u64 (d1 : Int), .slice A n cap] := heap_alloc_new W1 _
      have hPl : w.heap.size + 1 < W1.heap.size := P1.lt
      have c1 := (P1.grown B6).c1
      have R2 := Lib.hid ((B6.block w.heap.size (Array.getElem?_eq_some_iff.1 r1).1).trans r1)
      have RX2 := Lib.hid (RX.under B6 (B' := w.heap.size + 1) (by rw [ZZ.out]; omega))
      have b2 := Lib.hid (b1.trans (B6.mono b1.size))
      obtain ⟨x0, x1, x2, x3, x4, x5⟩ := X6.cells
      clear S1 P1 hp B6 r1 b1 E1 ZZ BB PA WC RX X6
      by_cases hjl : j < L
      · have hjz : (j : Int) < (L : Int) := by omega
        have R : Hid (parse (txt8 s) = none) := by show _ = _; rw [R1.out, if_pos hjl]
        clear R1 hjl
        go_wp2_with (refine wpList_store_row rfl 60 (.tmp 2) (.tmp 26) rfl w.heap.size #[.int .i64 0, .int .u64 0, .int .u64 0, .int .u64 0, .int .u64 0, .slice none 0 0] rfl rfl 60 _ R2.out Tryd.size6 rfl (by simp [Value.oneCell']) ?_)
        exact bodyPost_ret (run_ct rfl _ _ _ w.heap.size #[.int .i64 0, .int .u64 0, .int .u64 0, .int .u64 0, .int .u64 0, .slice none 0 0] (.bool false) rfl rfl (run_loadVar_row _ _ _ _ _ _ _ (setRow_heap _ _ _ _ _ _ R2.out) Tryd.underlying60 rfl Tryd.size6)) rfl ⟨below_row b2.out _, .inr ⟨R.out, rfl⟩⟩
      · have hjz : ¬ (j : Int) < (L : Int) := by omega
        have R : Hid (parse (txt8 s) = some x) := by show _ = _; rw [R1.out, if_neg hjl]
        clear R1 hjl
        go_wp2_with (refine wpList_store_row rfl 60 (.tmp 2) (.tmp 27) rfl w.heap.size #[.int .i64 op, .int .u64 (a : Int), .int .u64 (b : Int), .int .u64 (c : Int), .int .u64 (d1 : Int), .slice A n cap] rfl rfl 60 _ R2.out Tryd.size6 rfl (by simp [Value.oneCell']) ?_)
        exact bodyPost_ret (run_ct rfl _ _ _ w.heap.size #[.int .i64 op, .int .u64 (a : Int), .int .u64 (b : Int), .int .u64 (c : Int), .int .u64 (d1 : Int), .slice A n cap] (.bool true) rfl rfl (run_loadVar_row _ _ _ _ _ _ _ (setRow_heap _ _ _ _ _ _ R2.out) Tryd.underlying60 rfl Tryd.size6)) rfl ⟨below_row b2.out _, .inl ⟨x, _, R.out, rfl, RX2.out.frame (fun b hb => setRow_other _ _ _ _ (by omega)) (fun b _ hb => by omega)⟩⟩

end Go.Proofs.YtjmojjjgifkkiaaDoor
