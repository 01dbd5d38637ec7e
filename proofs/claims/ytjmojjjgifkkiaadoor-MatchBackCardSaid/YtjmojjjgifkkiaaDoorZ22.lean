/-
  What the reference's atom does, of what ways does one group deeper. Conditions: at most 40 bytes.
  What the reference's factor does, of what ways does one group deeper. Conditions: at most 40 bytes.
  What the reference's way and ways do. Conditions: at most 40 bytes.
-/
import Derived.Test.YtjmojjjgifkkiaaDoorProg
import Derived.Test.YtjmojjjgifkkiaaDoorZ01
import Derived.Test.YtjmojjjgifkkiaaDoorZ02
import Derived.Test.YtjmojjjgifkkiaaDoorZ03
import Derived.Test.YtjmojjjgifkkiaaDoorZ04
import Derived.Test.YtjmojjjgifkkiaaDoorZ06
import Derived.Test.YtjmojjjgifkkiaaDoorZ05
import Derived.Test.YtjmojjjgifkkiaaDoorZ08
import Derived.Test.YtjmojjjgifkkiaaDoorZ09
import Derived.Test.YtjmojjjgifkkiaaDoorZ15
import Derived.Test.YtjmojjjgifkkiaaDoorZ21
import Derived.Laws.MakeOwn
import Derived.Laws.OwnMore
import Derived.OwnWalk
import Derived.WalkKit
import Derived.WalkSpells
import Derived.WalkLawsBesides
import Derived.Lib.Hide
import Derived.Below
import Derived.BigQuiet
import Derived.Lib.QuietBelow
import Derived.Laws.StructEq
import Derived.KernelRfl
import Derived.Deep.QuietTactic
import Derived.Lib.Bytealg
import Derived.Laws.Externs
import Derived.Laws.AppendOwn
import Derived.Deep.LoopGhost
import Derived.Deep.RegionHeld3
import Derived.Laws.CopyOwn
import Derived.StillTailTactics
import Derived.Laws.ResultCell
import Derived.Maps.AppendAt
import Derived.Deep.Cut
import Derived.Deep.CutRange
namespace Go.Proofs.YtjmojjjgifkkiaaDoor
open Go.RowKit Go.Sort
open Pz

/-- What is told of groups: so many deep there are none; else they are ways, closed. -/
def GT (P : Nat) (s : ByteArray) (d : Nat) (G : Nat → Option (Rx × Nat)) : Prop :=
  (d = 8 ∧ ∀ i, G i = none) ∨ (d < 8 ∧ ∃ Wf, RTells 70 P s (d + 1) Wf (fun _ => True) ∧ ∀ i, G i = match Wf i with | none => none | some (x, j) => if pk (txt8 s) j = 41 then some (x, j + 1) else none)
theorem all_ones : setOf (neg none4) = .mk 1 18446744073709551615 18446744073709551615 18446744073709551615 18446744073709551615 [] := rfl
theorem RRes.form {w w' : World} {P d : Nat} {s : ByteArray} {r : Option (Rx × Nat)} {e : Ending} (h : RRes w P s d r e w') :
    ∃ op a b c d1 A n cap t, e = .returned (.agg #[.int .i64 op, .int .u64 ((a : Nat) : Int), .int .u64 ((b : Nat) : Int), .int .u64 ((c : Nat) : Int), .int .u64 ((d1 : Nat) : Int), .slice A n cap]) ∧ RxIn (fun b => w.heap.size ≤ b) w' (.agg (c6 op a b c d1 A n cap)) t ∧ Stp P w w' ∧ ((∃ j, r = some (t, j) ∧ RPar w' P s j d false) ∨ (r = none ∧ ∃ j d', RPar w' P s j d' true)) := by
  obtain ⟨v, t, he, hx, st, hr⟩ := h
  obtain ⟨op, a, b, c, d', A, n, cap, rfl⟩ := hx.form
  exact ⟨op, a, b, c, d', A, n, cap, t, he, hx, st, hr⟩
set_option maxRecDepth 100000 in
set_option maxHeartbeats 16000000 in
theorem ratom_any (P d : Nat) (s : ByteArray) (G : Nat → Option (Rx × Nat)) (hG : GT P s d G) : RTells 113 P s d (atom (txt8 s) 42 G) (fun i => i < s.size) := by
  intro i w hi h
  have H := Lib.hid (RAt.start h zero6 60)
  have hle := h.le
  have hsm := h.sm
  have hlt := h.lt
  clear h
  unfold zero6 at H
  have GH := Lib.hid hG
  clear hG
  obtain ⟨L, hL⟩ : ∃ L, s.size = L := ⟨_, rfl⟩
  rw [hL] at hi
  have TX := fun W => txt8_at W s i (by omega)
  have hpk : pk (txt8 s) i = (txt8 s).getD i 0 := pk_lt (by omega)
  obtain ⟨c, hc⟩ : ∃ c, (txt8 s).getD i 0 = c := ⟨_, rfl⟩
  have hcb : c < 256 := by rw [← hc]; exact txt8_lt s i
  simp only [hc] at TX
  rw [hc] at hpk
  clear hc
  obtain ⟨i1, hi1⟩ : ∃ i1, i + 1 = i1 := ⟨_, rfl⟩
  have hb1 : i1 ≤ s.size := by omega
  have hw1 : IntKind.i64.wrap ((i : Int) + 1) = (i1 : Int) := by rw [IntKind.wrap_i64]; omega
  obtain ⟨r, hr⟩ : ∃ r, atom (txt8 s) 42 G i = r := ⟨_, rfl⟩
  rw [hr]
  have e0 := hr
  unfold atom at e0
  rw [hpk, hi1] at e0
  clear hr
  by_cases h46 : c = 46
  · have R : Hid (r = some (.mk 1 18446744073709551615 18446744073709551615 18446744073709551615 18446744073709551615 [], i1)) := by show _ = _; rw [← e0, h46, ← all_ones]; rfl
    have z46 : ((c : Int) == 46) = true := by simp; omega
    clear e0 h46 hpk hi1 GH
    go_enter Tryd.func113, Tryd.ntmps113
    go_upto_region 1 with fail
    generalize w.alloc (.cells #[.int .i64 0, .int .u64 0, .int .u64 0, .int .u64 0, .int .u64 0, .slice none 0 0] 60) = w0 at *
    have c0 := H.out.pa.c0
    have c1 := H.out.pa.c1
    have f1 := H.out.pa.fr 1
    go_quiet (fail)
    go_upto_region 3 with fail
    replace H := Lib.hid (H.out.drew nq)
    have PU := Lib.hid (H.out.step (Stp.put _ _ _) (H.out.pa.put1 i1 hb1))
    clear c0 c1 f1 H TX
    have H := PU
    clear PU
    generalize (w0.drewN nq).setCell ⟨P, 1, none⟩ (.int .i64 (i1 : Int)) = w1 at *
    go_wp2_with (refine wpList_store_row rfl 60 (.tmp 2) (.tmp 25) rfl w.heap.size #[.int .i64 1, .int .u64 18446744073709551615, .int .u64 18446744073709551615, .int .u64 18446744073709551615, .int .u64 18446744073709551615, .slice none 0 0] rfl rfl 60 _ H.out.r Tryd.size6 rfl (by simp [Value.oneCell']) ?_)
    exact bodyPost_ret (results_cell_row rfl _ _ w.heap.size 60 _ (0, 0) _ rfl (H.out.fin _).2.2 Tryd.underlying60 rfl Tryd.size6) rfl (rres_some R.out H.out (RxIn.leaf _ _ 1 18446744073709551615 18446744073709551615 18446744073709551615 18446744073709551615))
  have z46 : ((c : Int) == 46) = false := by simp; omega
  by_cases h92 : c = 92
  · have z92 : ((c : Int) == 92) = true := by simp; omega
    clear GH
    have e1 : (match (if quotable (pk (txt8 s) i1) = true then some (pk (txt8 s) i1, i + 2) else none) with | none => none | some (c, j) => some (setOf (put none4 c), j)) = r := by
      have : byte1 (txt8 s) special i = if quotable (pk (txt8 s) i1) = true then some (pk (txt8 s) i1, i + 2) else none := by
        unfold byte1
        rw [if_pos (hpk.trans h92), hi1]
      rw [if_neg (by omega : ¬ c = 40), if_neg (by omega : ¬ c = 91), if_neg (by omega : ¬ c = 46), this] at e0
      exact e0
    by_cases h1 : i1 < L
    · have TX2 := fun W => txt8_at W s i1 (by omega)
      have hpk1 : pk (txt8 s) i1 = (txt8 s).getD i1 0 := pk_lt (by omega)
      obtain ⟨c2, hc2⟩ : ∃ c2, (txt8 s).getD i1 0 = c2 := ⟨_, rfl⟩
      have hcb2 : c2 < 256 := by rw [← hc2]; exact txt8_lt s i1
      simp only [hc2] at TX2
      rw [hpk1, hc2] at e1
      have M2 := Lib.hid (fun W (h : RPar W P s i1 d false) => rmore_t h (by omega))
      obtain ⟨q, hq⟩ : ∃ q, quotable c2 = q := ⟨_, rfl⟩
      have QC := Lib.hid (fun W => (rquoted_any c2 hcb2 W).mono fun e w' h => And.intro h.1 h.2.symm)
      rw [hq] at QC e1
      clear hc2 hq hpk1 e0 h92
      cases q
      · have R : Hid (r = none) := e1.symm
        clear e1 hpk hi1
        go_enter Tryd.func113, Tryd.ntmps113
        go_upto_region 1 with fail
        generalize w.alloc (.cells #[.int .i64 0, .int .u64 0, .int .u64 0, .int .u64 0, .int .u64 0, .slice none 0 0] 60) = w0 at *
        have c0 := H.out.pa.c0
        have c1 := H.out.pa.c1
        have f1 := H.out.pa.fr 1
        go_quiet (fail)
        go_upto_region 3 with fail
        replace H := Lib.hid (H.out.drew nq)
        have PU := Lib.hid (H.out.step (Stp.put _ _ _) (H.out.pa.put1 i1 hb1))
        clear c0 c1 f1 H TX
        have H := PU
        clear PU
        generalize (w0.drewN nq).setCell ⟨P, 1, none⟩ (.int .i64 (i1 : Int)) = w1 at *
        have c0 := H.out.pa.c0
        have c1 := H.out.pa.c1
        have f1 := H.out.pa.fr 1
        go_upto_region 6 with fail
        go_quiet (first | (go_at_call 90; exact Calls.quiet_of (M2.out _ (H.out.pa.drew _))) | (go_at_call 120; exact Calls.quiet_of_same (QC.out _)))
        replace H := Lib.hid (H.out.drew nq)
        go_wp2_with fail
        refine (rfail_any P i1 d s _ _ H.out.pa).mono ?_
        rintro e W6 ⟨rfl, S1, P1⟩
        replace H := Lib.hid (H.out.step S1 P1)
        clear S1 P1
        go_wp2_with (refine wpList_store_row rfl 60 (.tmp 2) (.tmp 47) rfl w.heap.size #[.int .i64 0, .int .u64 0, .int .u64 0, .int .u64 0, .int .u64 0, .slice none 0 0] rfl rfl 60 _ H.out.r Tryd.size6 rfl (by simp [Value.oneCell']) ?_)
        exact bodyPost_ret (results_cell_row rfl _ _ w.heap.size 60 _ (0, 0) _ rfl (H.out.fin _).2.2 Tryd.underlying60 rfl Tryd.size6) rfl (rres_none R.out H.out (leaf0 _ _))
      · obtain ⟨i2, hi2⟩ : ∃ i2, i1 + 1 = i2 := ⟨_, rfl⟩
        obtain ⟨U, hU⟩ : ∃ U, put none4 c2 = U := ⟨_, rfl⟩
        have R : Hid (r = some (setOf U, i2)) := by show _ = _; rw [← e1, ← hU, ← hi2, ← hi1]; rfl
        have ON : Hid (∀ W, Calls Tryd.prog 122 #[.int .u8 (c2 : Int)] W fun e w' => e = .returned (.agg #[.int .u64 (U 0 : Int), .int .u64 (U 1 : Int), .int .u64 (U 2 : Int), .int .u64 (U 3 : Int)]) ∧ Below W.heap.size W w') := fun W => by have := rone_any c2 hcb2 W; rw [hU] at this; exact this
        have hw2 : IntKind.i64.wrap ((i1 : Int) + 1) = (i2 : Int) := by rw [IntKind.wrap_i64]; omega
        have hw3 : IntKind.i64.wrap ((i2 : Int) - 1) = (i1 : Int) := by rw [IntKind.wrap_i64]; omega
        have hb2 : i2 ≤ s.size := by omega
        clear e1 hU hpk hi1 hi2
        go_enter Tryd.func113, Tryd.ntmps113
        go_upto_region 1 with fail
        generalize w.alloc (.cells #[.int .i64 0, .int .u64 0, .int .u64 0, .int .u64 0, .int .u64 0, .slice none 0 0] 60) = w0 at *
        have c0 := H.out.pa.c0
        have c1 := H.out.pa.c1
        have f1 := H.out.pa.fr 1
        go_quiet (fail)
        go_upto_region 3 with fail
        replace H := Lib.hid (H.out.drew nq)
        have PU := Lib.hid (H.out.step (Stp.put _ _ _) (H.out.pa.put1 i1 hb1))
        clear c0 c1 f1 H TX
        have H := PU
        clear PU
        generalize (w0.drewN nq).setCell ⟨P, 1, none⟩ (.int .i64 (i1 : Int)) = w1 at *
        have c0 := H.out.pa.c0
        have c1 := H.out.pa.c1
        have f1 := H.out.pa.fr 1
        go_upto_region 6 with fail
        go_quiet (first | (go_at_call 90; exact Calls.quiet_of (M2.out _ (H.out.pa.drew _))) | (go_at_call 120; exact Calls.quiet_of_same (QC.out _)))
        replace H := Lib.hid (H.out.drew nq)
        have PU := Lib.hid (H.out.step (Stp.put _ _ _) (H.out.pa.put1 i2 hb2))
        clear H
        have H := PU
        clear PU
        go_upto_region 10 with fail
        clear c0 c1 f1 hw1 hw2 M2 QC
        generalize (w1.drewN nq).setCell ⟨P, 1, none⟩ (.int .i64 (i2 : Int)) = w2 at *
        have c0 := H.out.pa.c0
        have c1 := H.out.pa.c1
        have f1 := H.out.pa.fr 1
        go_still_tail 10, (by kernel_rfl)
        change wpList _ _ _ _ _ (w2.drewN 1)
        replace H := Lib.hid (H.out.drew 1)
        go_wp2_with fail
        refine (ON.out _).mono ?_
        rintro e W5 ⟨rfl, B1⟩
        replace H := Lib.hid (H.out.grow B1)
        clear B1
        go_wp2_with (refine wpList_store_row rfl 60 (.tmp 2) (.tmp 66) rfl w.heap.size #[.int .i64 1, .int .u64 (U 0 : Int), .int .u64 (U 1 : Int), .int .u64 (U 2 : Int), .int .u64 (U 3 : Int), .slice none 0 0] rfl rfl 60 _ H.out.r Tryd.size6 rfl (by simp [Value.oneCell']) ?_)
        exact bodyPost_ret (results_cell_row rfl _ _ w.heap.size 60 _ (0, 0) _ rfl (H.out.fin _).2.2 Tryd.underlying60 rfl Tryd.size6) rfl (rres_some R.out H.out (RxIn.leaf _ _ 1 _ _ _ _))
    · have M2 := Lib.hid (fun W (h : RPar W P s i1 d false) => rmore_f h (by omega))
      have R : Hid (r = none) := by show _ = _; rw [← e1, pk_end (by omega : s.size ≤ i1)]; rfl
      clear e1 e0 h92 hpk hi1
      go_enter Tryd.func113, Tryd.ntmps113
      go_upto_region 1 with fail
      generalize w.alloc (.cells #[.int .i64 0, .int .u64 0, .int .u64 0, .int .u64 0, .int .u64 0, .slice none 0 0] 60) = w0 at *
      have c0 := H.out.pa.c0
      have c1 := H.out.pa.c1
      have f1 := H.out.pa.fr 1
      go_quiet (fail)
      go_upto_region 3 with fail
      replace H := Lib.hid (H.out.drew nq)
      have PU := Lib.hid (H.out.step (Stp.put _ _ _) (H.out.pa.put1 i1 hb1))
      clear c0 c1 f1 H TX
      have H := PU
      clear PU
      generalize (w0.drewN nq).setCell ⟨P, 1, none⟩ (.int .i64 (i1 : Int)) = w1 at *
      have c0 := H.out.pa.c0
      have c1 := H.out.pa.c1
      go_upto_region 6 with fail
      go_quiet ((go_at_call 90; exact Calls.quiet_of (M2.out _ (H.out.pa.drew _))))
      replace H := Lib.hid (H.out.drew nq)
      go_wp2_with fail
      refine (rfail_any P i1 d s _ _ H.out.pa).mono ?_
      rintro e W6 ⟨rfl, S1, P1⟩
      replace H := Lib.hid (H.out.step S1 P1)
      clear S1 P1
      go_wp2_with (refine wpList_store_row rfl 60 (.tmp 2) (.tmp 47) rfl w.heap.size #[.int .i64 0, .int .u64 0, .int .u64 0, .int .u64 0, .int .u64 0, .slice none 0 0] rfl rfl 60 _ H.out.r Tryd.size6 rfl (by simp [Value.oneCell']) ?_)
      exact bodyPost_ret (results_cell_row rfl _ _ w.heap.size 60 _ (0, 0) _ rfl (H.out.fin _).2.2 Tryd.underlying60 rfl Tryd.size6) rfl (rres_none R.out H.out (leaf0 _ _))
  have z92 : ((c : Int) == 92) = false := by simp; omega
  by_cases h40 : c = 40
  · have z40 : ((c : Int) == 40) = true := by simp; omega
    rw [if_pos h40] at e0
    rcases GH.out with ⟨hd8, hG⟩ | ⟨hd8, Wf, hW, hG⟩
    · have R : Hid (r = none) := by show _ = _; rw [← e0, hG]
      subst hd8
      clear e0 hG h40 hpk hi1 GH
      go_enter Tryd.func113, Tryd.ntmps113
      go_upto_region 1 with fail
      generalize w.alloc (.cells #[.int .i64 0, .int .u64 0, .int .u64 0, .int .u64 0, .int .u64 0, .slice none 0 0] 60) = w0 at *
      have c0 := H.out.pa.c0
      have c1 := H.out.pa.c1
      have f1 := H.out.pa.fr 1
      go_quiet (fail)
      go_upto_region 3 with fail
      replace H := Lib.hid (H.out.drew nq)
      have PU := Lib.hid (H.out.step (Stp.put _ _ _) (H.out.pa.put1 i1 hb1))
      clear c0 c1 f1 H TX
      have H := PU
      clear PU
      generalize (w0.drewN nq).setCell ⟨P, 1, none⟩ (.int .i64 (i1 : Int)) = w1 at *
      have c2 : _ = some (Value.int .i64 8) := H.out.pa.c2
      have f2 := H.out.pa.fr 2
      have PU := Lib.hid (H.out.step (Stp.put _ _ _) (H.out.pa.put2 9 (by omega)))
      clear H
      have H := PU
      clear PU
      go_wp2_with fail
      generalize w1.setCell ⟨P, 2, none⟩ (.int .i64 9) = w2 at *
      refine (rfail_any P i1 9 s _ _ H.out.pa).mono ?_
      rintro e W6 ⟨rfl, S1, P1⟩
      replace H := Lib.hid (H.out.step S1 P1)
      clear S1 P1
      go_wp2_with (refine wpList_store_row rfl 60 (.tmp 2) (.tmp 84) rfl w.heap.size #[.int .i64 0, .int .u64 0, .int .u64 0, .int .u64 0, .int .u64 0, .slice none 0 0] rfl rfl 60 _ H.out.r Tryd.size6 rfl (by simp [Value.oneCell']) ?_)
      exact bodyPost_ret (results_cell_row rfl _ _ w.heap.size 60 _ (0, 0) _ rfl (H.out.fin _).2.2 Tryd.underlying60 rfl Tryd.size6) rfl (rres_none R.out H.out (leaf0 _ _))
    · obtain ⟨d2, hd2⟩ : ∃ d2, d + 1 = d2 := ⟨_, rfl⟩
      rw [hd2] at hW
      have WC := Lib.hid hW
      have hwd : IntKind.i64.wrap ((d : Int) + 1) = (d2 : Int) := by rw [IntKind.wrap_i64]; omega
      have hwe : IntKind.i64.wrap ((d2 : Int) - 1) = (d : Int) := by rw [IntKind.wrap_i64]; omega
      have hd9 : d2 ≤ 9 := by omega
      have hz8 : decide ((d2 : Int) > 8) = false := decide_eq_false (by omega)
      have hdl : d ≤ 9 := by omega
      rw [hG i1] at e0
      have HE := Lib.hid e0
      clear e0 hG h40 hpk hi1 GH hW hd2
      go_enter Tryd.func113, Tryd.ntmps113
      go_upto_region 1 with fail
      generalize w.alloc (.cells #[.int .i64 0, .int .u64 0, .int .u64 0, .int .u64 0, .int .u64 0, .slice none 0 0] 60) = w0 at *
      have c0 := H.out.pa.c0
      have c1 := H.out.pa.c1
      have f1 := H.out.pa.fr 1
      go_quiet (fail)
      go_upto_region 3 with fail
      replace H := Lib.hid (H.out.drew nq)
      have PU := Lib.hid (H.out.step (Stp.put _ _ _) (H.out.pa.put1 i1 hb1))
      clear c0 c1 f1 H TX
      have H := PU
      clear PU
      generalize (w0.drewN nq).setCell ⟨P, 1, none⟩ (.int .i64 (i1 : Int)) = w1 at *
      have c2 := H.out.pa.c2
      have f2 := H.out.pa.fr 2
      have PU := Lib.hid (H.out.step (Stp.put _ _ _) (H.out.pa.put2 d2 hd9))
      clear H
      have H := PU
      clear PU
      go_wp2_with fail
      clear c2 f2 hwd
      generalize w1.setCell ⟨P, 2, none⟩ (.int .i64 (d2 : Int)) = w2 at *
      have hbig := H.out.big
      refine (WC.out i1 _ trivial H.out.pa).mono ?_
      intro e W5 hp
      obtain ⟨op, a, b, c3, d1, A, n, cap, t, rfl, RX, S1, hres⟩ := hp.form
      clear hp
      obtain ⟨j, d3, bb, P1, hres⟩ : ∃ j d3 bb, RPar W5 P s j d3 bb ∧ ((bb = false ∧ d3 = d2 ∧ Wf i1 = some (t, j)) ∨ (bb = true ∧ Wf i1 = none)) := by
        rcases hres with ⟨j, h1, h2⟩ | ⟨h1, j, d3, h2⟩
        · exact ⟨j, d2, false, h2, .inl ⟨rfl, rfl, h1⟩⟩
        · exact ⟨j, d3, true, h2, .inr ⟨rfl, h1⟩⟩
      replace H := Lib.hid (H.out.step S1 P1)
      have hgP : P < W5.heap.size := by have := H.out.big; omega
      replace RX := Lib.hid ((RX.under (Below.refl _ _) hbig).under ((Below.refl W5.heap.size W5).alloc (Nat.le_refl _) (.cells #[.int .i64 op, .int .u64 (a : Int), .int .u64 (b : Int), .int .u64 (c3 : Int), .int .u64 (d1 : Int), .slice A n cap] 60)) (Nat.le_refl _))
      replace H := Lib.hid (H.out.grow ((Below.refl W5.heap.size W5).alloc (Nat.le_refl _) (.cells #[.int .i64 op, .int .u64 (a : Int), .int .u64 (b : Int), .int .u64 (c3 : Int), .int .u64 (d1 : Int), .slice A n cap] 60)))
      have X6 : Hid (Row6 (W5.alloc (.cells #[.int .i64 op, .int .u64 (a : Int), .int .u64 (b : Int), .int .u64 (c3 : Int), .int .u64 (d1 : Int), .slice A n cap] 60)) W5.heap.size #[.int .i64 op, .int .u64 (a : Int), .int .u64 (b : Int), .int .u64 (c3 : Int), .int .u64 (d1 : Int), .slice A n cap]) := heap_alloc_new W5 _
      have hg2 : w.heap.size < W5.heap.size := by have := S1.size; omega
      clear S1 P1 hbig WC
      go_upto_region 17 with fail
      generalize W5.alloc (.cells #[.int .i64 op, .int .u64 (a : Int), .int .u64 (b : Int), .int .u64 (c3 : Int), .int .u64 (d1 : Int), .slice A n cap] 60) = W6 at *
      generalize W5.heap.size = g at *
      by_cases hno : bb = true ∨ L ≤ j
      · have MF : Hid (∀ W (h : RPar W P s j d3 bb), Calls Tryd.prog 90 #[.pointer (some ⟨P, 0, none⟩)] W fun e w' => e = .returned (.bool false) ∧ ∃ n, w' = W.drewN n) := by
          intro W h
          rcases hno with rfl | hno
          · exact rmore_b h
          · cases bb
            · exact rmore_f h (by omega)
            · exact rmore_b h
        have R : Hid (r = none) := by
          show _ = _
          rw [← HE.out]
          rcases hres with ⟨h1, h2, h3⟩ | ⟨h1, h2⟩
          · rw [h3]
            exact if_neg (by rw [pk_end (by rcases hno with h | h; rw [h1] at h; cases h; omega : s.size ≤ j)]; omega)
          · rw [h2]
        clear hres hno HE
        have c0 := H.out.pa.c0
        have c1 := H.out.pa.c1
        go_quiet ((go_at_call 90; exact Calls.quiet_of (MF.out _ (H.out.pa.drew _))))
        replace H := Lib.hid (H.out.drew nq)
        go_wp2_with fail
        refine (rfail_any P j d3 s _ _ H.out.pa).mono ?_
        rintro e W6 ⟨rfl, S1, P1⟩
        replace H := Lib.hid (H.out.step S1 P1)
        clear S1 P1
        go_wp2_with (refine wpList_store_row rfl 60 (.tmp 2) (.tmp 104) rfl w.heap.size #[.int .i64 0, .int .u64 0, .int .u64 0, .int .u64 0, .int .u64 0, .slice none 0 0] rfl rfl 60 _ H.out.r Tryd.size6 rfl (by simp [Value.oneCell']) ?_)
        exact bodyPost_ret (results_cell_row rfl _ _ w.heap.size 60 _ (0, 0) _ rfl (H.out.fin _).2.2 Tryd.underlying60 rfl Tryd.size6) rfl (rres_none R.out H.out (leaf0 _ _))
      have hbb : bb = false := by cases bb; rfl; exact absurd (.inl rfl) hno
      subst hbb
      have hjl : j < L := by omega
      obtain ⟨hd3, hWf⟩ : d3 = d2 ∧ Wf i1 = some (t, j) := by rcases hres with h | h; exact h.2; cases h.1
      subst hd3
      have MT := Lib.hid (fun W (h : RPar W P s j d3 false) => rmore_t h (by omega))
      have TX := fun W => txt8_at W s j (by omega)
      have hpk : pk (txt8 s) j = (txt8 s).getD j 0 := pk_lt (by omega)
      obtain ⟨c4, hc⟩ : ∃ c4, (txt8 s).getD j 0 = c4 := ⟨_, rfl⟩
      simp only [hc] at TX
      rw [hc] at hpk
      have e0 : (if pk (txt8 s) j = 41 then some (t, j + 1) else none) = r := by have := HE.out; rw [hWf] at this; exact this
      rw [hpk] at e0
      clear hc hpk hres hno HE hWf
      by_cases h41 : c4 = 41
      · have z41 : ((c4 : Int) != 41) = false := by simp; omega
        obtain ⟨j1, hj1⟩ : ∃ j1, j + 1 = j1 := ⟨_, rfl⟩
        have hb3 : j1 ≤ s.size := by omega
        have hw3 : IntKind.i64.wrap ((j : Int) + 1) = (j1 : Int) := by rw [IntKind.wrap_i64]; omega
        have R : Hid (r = some (t, j1)) := by show _ = _; rw [← e0, if_pos h41, hj1]
        clear e0 h41 hj1
        have c0 := H.out.pa.c0
        have c1 := H.out.pa.c1
        have f1 := H.out.pa.fr 1
        have c2 := H.out.pa.c2
        have f2 := H.out.pa.fr 2
        go_quiet ((go_at_call 90; exact Calls.quiet_of (MT.out _ (H.out.pa.drew _))))
        replace H := Lib.hid (H.out.drew nq)
        replace X6 := Lib.hid (X6.out.stp ((Stp.refl P W6).drew nq) hgP)
        replace RX := Lib.hid (RX.out.stp ((Stp.refl P W6).drew nq) (by omega) (Nat.le_refl _))
        have PU := Lib.hid (H.out.step (Stp.put _ _ _) (H.out.pa.put1 j1 hb3))
        replace PU := Lib.hid (PU.out.step (Stp.put _ _ _) (PU.out.pa.put2 d hdl))
        clear H
        have H := PU
        clear PU
        replace X6 := Lib.hid ((X6.out.stp (Stp.put _ 1 (.int .i64 (j1 : Int))) hgP).stp (Stp.put _ 2 (.int .i64 (d : Int))) hgP)
        replace RX := Lib.hid (RX.out.stp (Stp.put (P := P) _ 1 (.int .i64 (j1 : Int))) (by omega) (Nat.le_refl _))
        replace RX := Lib.hid (RX.out.stp (Stp.put (P := P) _ 2 (.int .i64 (d : Int))) (by omega) (Nat.le_refl _))
        go_upto_region 22 with fail
        generalize ((W6.drewN nq).setCell ⟨P, 1, none⟩ (.int .i64 (j1 : Int))).setCell ⟨P, 2, none⟩ (.int .i64 (d : Int)) = W7 at *
        clear c0 c1 c2 f1 f2
        obtain ⟨x0, x1, x2, x3, x4, x5⟩ := X6.out.cells
        go_wp2_with (refine wpList_store_row rfl 60 (.tmp 2) (.tmp 119) rfl w.heap.size #[.int .i64 op, .int .u64 (a : Int), .int .u64 (b : Int), .int .u64 (c3 : Int), .int .u64 (d1 : Int), .slice A n cap] rfl rfl 60 _ H.out.r Tryd.size6 rfl (by simp [Value.oneCell']) ?_)
        exact bodyPost_ret (results_cell_row rfl _ _ w.heap.size 60 _ (0, 0) _ rfl (H.out.fin _).2.2 Tryd.underlying60 rfl Tryd.size6) rfl (rres_some R.out H.out RX.out)
      · have z41 : ((c4 : Int) != 41) = true := by simp; omega
        have R : Hid (r = none) := by show _ = _; rw [← e0, if_neg h41]
        clear e0 h41
        have c0 := H.out.pa.c0
        have c1 := H.out.pa.c1
        go_quiet ((go_at_call 90; exact Calls.quiet_of (MT.out _ (H.out.pa.drew _))))
        replace H := Lib.hid (H.out.drew nq)
        go_wp2_with fail
        refine (rfail_any P j d3 s _ _ H.out.pa).mono ?_
        rintro e W6 ⟨rfl, S1, P1⟩
        replace H := Lib.hid (H.out.step S1 P1)
        clear S1 P1
        go_wp2_with (refine wpList_store_row rfl 60 (.tmp 2) (.tmp 104) rfl w.heap.size #[.int .i64 0, .int .u64 0, .int .u64 0, .int .u64 0, .int .u64 0, .slice none 0 0] rfl rfl 60 _ H.out.r Tryd.size6 rfl (by simp [Value.oneCell']) ?_)
        exact bodyPost_ret (results_cell_row rfl _ _ w.heap.size 60 _ (0, 0) _ rfl (H.out.fin _).2.2 Tryd.underlying60 rfl Tryd.size6) rfl (rres_none R.out H.out (leaf0 _ _))
  have z40 : ((c : Int) == 40) = false := by simp; omega
  rw [if_neg h40] at e0
  by_cases h91 : c = 91
  · have z91 : ((c : Int) == 91) = true := by simp; omega
    rw [if_pos h91] at e0
    have HE := Lib.hid e0
    clear e0 h40 h46 h91 h92 hpk hi1 GH
    go_enter Tryd.func113, Tryd.ntmps113
    go_upto_region 1 with fail
    generalize w.alloc (.cells #[.int .i64 0, .int .u64 0, .int .u64 0, .int .u64 0, .int .u64 0, .slice none 0 0] 60) = w0 at *
    have c0 := H.out.pa.c0
    have c1 := H.out.pa.c1
    have f1 := H.out.pa.fr 1
    go_quiet (fail)
    go_upto_region 3 with fail
    replace H := Lib.hid (H.out.drew nq)
    have PU := Lib.hid (H.out.step (Stp.put _ _ _) (H.out.pa.put1 i1 hb1))
    clear c0 c1 f1 H TX
    have H := PU
    clear PU
    generalize (w0.drewN nq).setCell ⟨P, 1, none⟩ (.int .i64 (i1 : Int)) = w1 at *
    go_wp2_with fail
    have hbig := H.out.big
    refine (rclass_any P d s i1 _ trivial H.out.pa).mono ?_
    intro e W5 hp
    obtain ⟨op, a, b, c3, d1, A, n, cap, t, rfl, RX, S1, hres⟩ := hp.form
    clear hp
    replace RX := Lib.hid (RX.under (Below.refl _ _) hbig)
    rcases hres with ⟨j, h1, P1⟩ | ⟨h1, j, d3, P1⟩
    · replace H := Lib.hid (H.out.step S1 P1)
      have R : Hid (r = some (t, j)) := by show _ = _; rw [← HE.out, h1]
      clear S1 P1 h1 HE
      go_wp2_with (refine wpList_store_row rfl 60 (.tmp 2) (.tmp 124) rfl w.heap.size #[.int .i64 op, .int .u64 (a : Int), .int .u64 (b : Int), .int .u64 (c3 : Int), .int .u64 (d1 : Int), .slice A n cap] rfl rfl 60 _ H.out.r Tryd.size6 rfl (by simp [Value.oneCell']) ?_)
      exact bodyPost_ret (results_cell_row rfl _ _ w.heap.size 60 _ (0, 0) _ rfl (H.out.fin _).2.2 Tryd.underlying60 rfl Tryd.size6) rfl (rres_some R.out H.out RX.out)
    · replace H := Lib.hid (H.out.step S1 P1)
      have R : Hid (r = none) := by show _ = _; rw [← HE.out, h1]
      clear S1 P1 h1 HE
      go_wp2_with (refine wpList_store_row rfl 60 (.tmp 2) (.tmp 124) rfl w.heap.size #[.int .i64 op, .int .u64 (a : Int), .int .u64 (b : Int), .int .u64 (c3 : Int), .int .u64 (d1 : Int), .slice A n cap] rfl rfl 60 _ H.out.r Tryd.size6 rfl (by simp [Value.oneCell']) ?_)
      exact bodyPost_ret (results_cell_row rfl _ _ w.heap.size 60 _ (0, 0) _ rfl (H.out.fin _).2.2 Tryd.underlying60 rfl Tryd.size6) rfl (rres_none R.out H.out RX.out)
  have z91 : ((c : Int) == 91) = false := by simp; omega
  rw [if_neg h91, if_neg h46] at e0
  have SP := Lib.hid (fun W => (rspecial_any c hcb W).mono fun e w' h => And.intro h.1 h.2.symm)
  have e1 : byte1 (txt8 s) special i = if special c = true then none else some (c, i1) := by
    unfold byte1
    rw [if_neg (by rw [hpk]; exact h92), hpk, hi1]
    by_cases hq : special c = true
    · rw [if_pos (.inr hq), if_pos hq]
    · rw [if_neg (fun h => by rcases h with h | h; omega; exact hq h), if_neg hq]
  rw [e1] at e0
  cases hsp : special c
  · rw [hsp] at SP e0
    obtain ⟨U, hU⟩ : ∃ U, put none4 c = U := ⟨_, rfl⟩
    have R : Hid (r = some (setOf U, i1)) := by show _ = _; rw [← e0, ← hU]; rfl
    have ON : Hid (∀ W, Calls Tryd.prog 122 #[.int .u8 (c : Int)] W fun e w' => e = .returned (.agg #[.int .u64 (U 0 : Int), .int .u64 (U 1 : Int), .int .u64 (U 2 : Int), .int .u64 (U 3 : Int)]) ∧ Below W.heap.size W w') := fun W => by have := rone_any c hcb W; rw [hU] at this; exact this
    clear e0 e1 hU hsp h40 h46 h91 h92 hpk hi1 GH
    go_enter Tryd.func113, Tryd.ntmps113
    go_upto_region 1 with fail
    generalize w.alloc (.cells #[.int .i64 0, .int .u64 0, .int .u64 0, .int .u64 0, .int .u64 0, .slice none 0 0] 60) = w0 at *
    have c0 := H.out.pa.c0
    have c1 := H.out.pa.c1
    have f1 := H.out.pa.fr 1
    go_quiet (fail)
    go_upto_region 3 with fail
    replace H := Lib.hid (H.out.drew nq)
    have PU := Lib.hid (H.out.step (Stp.put _ _ _) (H.out.pa.put1 i1 hb1))
    clear c0 c1 f1 H TX
    have H := PU
    clear PU
    generalize (w0.drewN nq).setCell ⟨P, 1, none⟩ (.int .i64 (i1 : Int)) = w1 at *
    go_wp2_with fail
    refine (SP.out _).mono ?_
    rintro e W5 ⟨rfl, rfl⟩
    clear SP
    go_wp2_with fail
    refine (ON.out _).mono ?_
    rintro e W5 ⟨rfl, B1⟩
    replace H := Lib.hid (H.out.grow B1)
    clear B1
    go_wp2_with (refine wpList_store_row rfl 60 (.tmp 2) (.tmp 133) rfl w.heap.size #[.int .i64 1, .int .u64 (U 0 : Int), .int .u64 (U 1 : Int), .int .u64 (U 2 : Int), .int .u64 (U 3 : Int), .slice none 0 0] rfl rfl 60 _ H.out.r Tryd.size6 rfl (by simp [Value.oneCell']) ?_)
    exact bodyPost_ret (results_cell_row rfl _ _ w.heap.size 60 _ (0, 0) _ rfl (H.out.fin _).2.2 Tryd.underlying60 rfl Tryd.size6) rfl (rres_some R.out H.out (RxIn.leaf _ _ 1 _ _ _ _))
  · rw [hsp] at SP e0
    have R : Hid (r = none) := e0.symm
    clear e0 e1 hsp h40 h46 h91 h92 hpk hi1 GH
    go_enter Tryd.func113, Tryd.ntmps113
    go_upto_region 1 with fail
    generalize w.alloc (.cells #[.int .i64 0, .int .u64 0, .int .u64 0, .int .u64 0, .int .u64 0, .slice none 0 0] 60) = w0 at *
    have c0 := H.out.pa.c0
    have c1 := H.out.pa.c1
    have f1 := H.out.pa.fr 1
    go_quiet (fail)
    go_upto_region 3 with fail
    replace H := Lib.hid (H.out.drew nq)
    have PU := Lib.hid (H.out.step (Stp.put _ _ _) (H.out.pa.put1 i1 hb1))
    clear c0 c1 f1 H TX
    have H := PU
    clear PU
    generalize (w0.drewN nq).setCell ⟨P, 1, none⟩ (.int .i64 (i1 : Int)) = w1 at *
    go_wp2_with fail
    refine (SP.out _).mono ?_
    rintro e W5 ⟨rfl, rfl⟩
    clear SP
    go_wp2_with fail
    refine (rfail_any P i1 d s _ _ H.out.pa).mono ?_
    rintro e W6 ⟨rfl, S1, P1⟩
    replace H := Lib.hid (H.out.step S1 P1)
    clear S1 P1
    go_wp2_with (refine wpList_store_row rfl 60 (.tmp 2) (.tmp 130) rfl w.heap.size #[.int .i64 0, .int .u64 0, .int .u64 0, .int .u64 0, .int .u64 0, .slice none 0 0] rfl rfl 60 _ H.out.r Tryd.size6 rfl (by simp [Value.oneCell']) ?_)
    exact bodyPost_ret (results_cell_row rfl _ _ w.heap.size 60 _ (0, 0) _ rfl (H.out.fin _).2.2 Tryd.underlying60 rfl Tryd.size6) rfl (rres_none R.out H.out (leaf0 _ _))
theorem rep_in (op : Int) (t : Rx) (B : Nat) (o : Int) (a b c d : Nat) (A : Option Addr) (n cap : Nat) (W : World) (hb : B ≤ W.heap.size) (hx : RxIn (fun b => B ≤ b) W (.agg (c6 o a b c d A n cap)) t) :
    RxIn (fun b => B ≤ b) (W.alloc (.cells (c6 o a b c d A n cap) 60)) (.agg (c6 op 0 0 0 0 (some ⟨W.heap.size, 0, none⟩) 1 1)) (rep op t) := by
  have X := hx.under ((Below.refl _ _).alloc (Nat.le_refl _) (.cells (c6 o a b c d A n cap) 60)) (Nat.le_refl _)
  have e3 := heap_alloc_new W (.cells (c6 o a b c d A n cap) 60)
  generalize W.alloc (.cells (c6 o a b c d A n cap) 60) = W2 at *
  refine RxIn.node op 0 0 0 0 [t] (some ⟨W.heap.size, 0, none⟩) 1 W.heap.size 0 (fun _ i => (c6 o a b c d A n cap).getD i Go.undef) (Nat.le_refl _) (fun e => by cases e) (fun _ => rfl) (fun _ => hb) (fun j i hj hi => ?_) (fun j hj => ?_)
  · obtain rfl : j = 0 := by simpa using hj
    obtain ⟨q0, q1, q2, q3, q4, q5⟩ := Row6.cells e3
    match i, hi with
    | 0, _ => exact q0
    | 1, _ => exact q1
    | 2, _ => exact q2
    | 3, _ => exact q3
    | 4, _ => exact q4
    | 5, _ => exact q5
  · obtain rfl : j = 0 := by simpa using hj
    exact X
set_option maxRecDepth 100000 in
set_option maxHeartbeats 16000000 in
theorem rfactor_any (P d : Nat) (s : ByteArray) (G : Nat → Option (Rx × Nat)) (hG : GT P s d G) : RTells 104 P s d (factor (txt8 s) 42 G) (fun i => i < s.size) := by
  intro i w hi h
  have H := Lib.hid (RAt.start h zero6 60)
  have hsm := h.sm
  have hlt := h.lt
  clear h
  unfold zero6 at H
  have AC := Lib.hid (ratom_any P d s G hG i)
  have HI := Lib.hid hi
  clear hG hi
  obtain ⟨L, hL⟩ : ∃ L, s.size = L := ⟨_, rfl⟩
  obtain ⟨r, hr⟩ : ∃ r, factor (txt8 s) 42 G i = r := ⟨_, rfl⟩
  rw [hr]
  have HE := Lib.hid hr
  clear hr
  go_enter Tryd.func104, Tryd.ntmps104
  go_wp2_with fail
  have hbig := H.out.big
  refine (AC.out _ HI.out H.out.pa).mono ?_
  intro e W5 hp
  obtain ⟨op, a, b, c3, d1, A, n, cap, t, rfl, RX, S1, hres⟩ := hp.form
  clear hp AC HI
  obtain ⟨j, d3, bb, P1, hres⟩ : ∃ j d3 bb, RPar W5 P s j d3 bb ∧ ((bb = false ∧ d3 = d ∧ atom (txt8 s) 42 G i = some (t, j)) ∨ (bb = true ∧ atom (txt8 s) 42 G i = none)) := by
    rcases hres with ⟨j, h1, h2⟩ | ⟨h1, j, d3, h2⟩
    · exact ⟨j, d, false, h2, .inl ⟨rfl, rfl, h1⟩⟩
    · exact ⟨j, d3, true, h2, .inr ⟨rfl, h1⟩⟩
  replace H := Lib.hid (H.out.step S1 P1)
  have hg2 : w.heap.size < W5.heap.size := by have := S1.size; omega
  replace RX := Lib.hid ((RX.under (Below.refl _ _) hbig).under ((Below.refl W5.heap.size W5).alloc (Nat.le_refl _) (.cells #[.int .i64 op, .int .u64 (a : Int), .int .u64 (b : Int), .int .u64 (c3 : Int), .int .u64 (d1 : Int), .slice A n cap] 60)) (Nat.le_refl _))
  replace H := Lib.hid (H.out.grow ((Below.refl W5.heap.size W5).alloc (Nat.le_refl _) (.cells #[.int .i64 op, .int .u64 (a : Int), .int .u64 (b : Int), .int .u64 (c3 : Int), .int .u64 (d1 : Int), .slice A n cap] 60)))
  have X6 : Hid (Row6 (W5.alloc (.cells #[.int .i64 op, .int .u64 (a : Int), .int .u64 (b : Int), .int .u64 (c3 : Int), .int .u64 (d1 : Int), .slice A n cap] 60)) W5.heap.size #[.int .i64 op, .int .u64 (a : Int), .int .u64 (b : Int), .int .u64 (c3 : Int), .int .u64 (d1 : Int), .slice A n cap]) := heap_alloc_new W5 _
  have hgP : P < W5.heap.size := by omega
  clear S1 P1 hbig
  go_upto_region 2 with fail
  generalize (W5.alloc (.cells #[.int .i64 op, .int .u64 (a : Int), .int .u64 (b : Int), .int .u64 (c3 : Int), .int .u64 (d1 : Int), .slice A n cap] 60)) = W6 at *
  generalize W5.heap.size = g at *
  by_cases hno : bb = true ∨ L ≤ j
  · have MF : Hid (∀ W (h : RPar W P s j d3 bb), Calls Tryd.prog 90 #[.pointer (some ⟨P, 0, none⟩)] W fun e w' => e = .returned (.bool false) ∧ ∃ n, w' = W.drewN n) := by
      intro W h
      rcases hno with rfl | hno
      · exact rmore_b h
      · cases bb
        · exact rmore_f h (by omega)
        · exact rmore_b h
    go_wp2_with fail
    refine (MF.out _ H.out.pa).mono ?_
    rintro e W7 ⟨rfl, n1, rfl⟩
    replace H := Lib.hid (H.out.drew n1)
    replace X6 := Lib.hid (X6.out.stp ((Stp.refl P W6).drew n1) hgP)
    replace RX := Lib.hid (RX.out.stp ((Stp.refl P W6).drew n1) (by omega) (Nat.le_refl _))
    obtain ⟨x0, x1, x2, x3, x4, x5⟩ := X6.out.cells
    rcases hres with ⟨h1, h2, h3⟩ | ⟨h1, h2⟩
    · subst h1 h2
      have R : Hid (r = some (t, j)) := by
        show _ = _
        have hp : pk (txt8 s) j = 256 := pk_end (by rcases hno with h | h; cases h; omega : s.size ≤ j)
        rw [← HE.out]; unfold factor; rw [h3]; simp only; rw [if_neg (by omega), if_neg (by omega), if_neg (by omega)]
      clear h3 hno MF HE
      go_wp2_with (refine wpList_store_row rfl 60 (.tmp 2) (.tmp 10) rfl w.heap.size #[.int .i64 op, .int .u64 (a : Int), .int .u64 (b : Int), .int .u64 (c3 : Int), .int .u64 (d1 : Int), .slice A n cap] rfl rfl 60 _ H.out.r Tryd.size6 rfl (by simp [Value.oneCell']) ?_)
      exact bodyPost_ret (results_cell_row rfl _ _ w.heap.size 60 _ (0, 0) _ rfl (H.out.fin _).2.2 Tryd.underlying60 rfl Tryd.size6) rfl (rres_some R.out H.out RX.out)
    · subst h1
      have R : Hid (r = none) := by show _ = _; rw [← HE.out]; unfold factor; rw [h2]
      clear h2 hno MF HE
      go_wp2_with (refine wpList_store_row rfl 60 (.tmp 2) (.tmp 10) rfl w.heap.size #[.int .i64 op, .int .u64 (a : Int), .int .u64 (b : Int), .int .u64 (c3 : Int), .int .u64 (d1 : Int), .slice A n cap] rfl rfl 60 _ H.out.r Tryd.size6 rfl (by simp [Value.oneCell']) ?_)
      exact bodyPost_ret (results_cell_row rfl _ _ w.heap.size 60 _ (0, 0) _ rfl (H.out.fin _).2.2 Tryd.underlying60 rfl Tryd.size6) rfl (rres_none R.out H.out RX.out)
  have hbb : bb = false := by cases bb; rfl; exact absurd (.inl rfl) hno
  subst hbb
  have hjl : j < L := by omega
  obtain ⟨hd3, hWf⟩ : d3 = d ∧ atom (txt8 s) 42 G i = some (t, j) := by rcases hres with h | h; exact h.2; cases h.1
  subst hd3
  have MT := Lib.hid (fun W (h : RPar W P s j d3 false) => rmore_t h (by omega))
  have TX := fun W => txt8_at W s j (by omega)
  have hpk : pk (txt8 s) j = (txt8 s).getD j 0 := pk_lt (by omega)
  obtain ⟨c4, hc⟩ : ∃ c4, (txt8 s).getD j 0 = c4 := ⟨_, rfl⟩
  simp only [hc] at TX
  rw [hc] at hpk
  have e0 := HE.out
  unfold factor at e0
  rw [hWf] at e0
  simp only at e0
  rw [hpk] at e0
  obtain ⟨j1, hj1⟩ : ∃ j1, j + 1 = j1 := ⟨_, rfl⟩
  have hb3 : j1 ≤ s.size := by omega
  have hw3 : IntKind.i64.wrap ((j : Int) + 1) = (j1 : Int) := by rw [IntKind.wrap_i64]; omega
  rw [hj1] at e0
  clear hc hpk hres hno HE hWf hj1
  by_cases h42 : c4 = 42
  · have z42 : ((c4 : Int) == 42) = true := by simp; omega
    rw [if_pos h42] at e0
    have R : Hid (r = some (rep 4 t, j1)) := e0.symm
    clear e0 h42
    have c0 := H.out.pa.c0
    have c1 := H.out.pa.c1
    have f1 := H.out.pa.fr 1
    go_wp2_with fail
    refine (MT.out _ H.out.pa).mono ?_
    rintro e W7 ⟨rfl, n1, rfl⟩
    go_wp2_with fail
    go_quiet (fail)
    go_upto_region 14 with fail
    replace H := Lib.hid (H.out.drew (n1 + nq))
    replace X6 := Lib.hid (X6.out.stp ((Stp.refl P W6).drew (n1 + nq)) hgP)
    replace RX := Lib.hid (RX.out.stp ((Stp.refl P W6).drew (n1 + nq)) (by omega) (Nat.le_refl _))
    have PU := Lib.hid (H.out.step (Stp.put _ _ _) (H.out.pa.put1 j1 hb3))
    clear H
    have H := PU
    clear PU
    replace X6 := Lib.hid (X6.out.stp (Stp.put _ 1 (.int .i64 (j1 : Int))) hgP)
    replace RX := Lib.hid (RX.out.stp (Stp.put (P := P) _ 1 (.int .i64 (j1 : Int))) (by omega) (Nat.le_refl _))
    generalize (W6.drewN (n1 + nq)).setCell ⟨P, 1, none⟩ (.int .i64 (j1 : Int)) = W7 at *
    clear c0 c1 f1
    obtain ⟨x0, x1, x2, x3, x4, x5⟩ := X6.out.cells
    have RR := Lib.hid (rep_in 4 t _ op a b c3 d1 A n cap _ H.out.big RX.out)
    replace H := Lib.hid (H.out.grow ((Below.refl W7.heap.size W7).alloc (Nat.le_refl _) (.cells #[.int .i64 op, .int .u64 (a : Int), .int .u64 (b : Int), .int .u64 (c3 : Int), .int .u64 (d1 : Int), .slice A n cap] 60)))
    clear RX X6
    go_wp2_with (refine wpList_store_row rfl 60 (.tmp 2) (.tmp 37) rfl w.heap.size #[.int .i64 4, .int .u64 0, .int .u64 0, .int .u64 0, .int .u64 0, .slice (some ⟨W7.heap.size, 0, none⟩) 1 1] rfl rfl 60 _ H.out.r Tryd.size6 rfl (by simp [Value.oneCell']) ?_)
    exact bodyPost_ret (results_cell_row rfl _ _ w.heap.size 60 _ (0, 0) _ rfl (H.out.fin _).2.2 Tryd.underlying60 rfl Tryd.size6) rfl (rres_some R.out H.out RR.out)
  have z42 : ((c4 : Int) == 42) = false := by simp; omega
  rw [if_neg h42] at e0
  by_cases h43 : c4 = 43
  · have z43 : ((c4 : Int) == 43) = true := by simp; omega
    rw [if_pos h43] at e0
    have R : Hid (r = some (rep 5 t, j1)) := e0.symm
    clear e0 h43
    have c0 := H.out.pa.c0
    have c1 := H.out.pa.c1
    have f1 := H.out.pa.fr 1
    go_wp2_with fail
    refine (MT.out _ H.out.pa).mono ?_
    rintro e W7 ⟨rfl, n1, rfl⟩
    go_wp2_with fail
    go_quiet (fail)
    go_upto_region 14 with fail
    replace H := Lib.hid (H.out.drew (n1 + nq))
    replace X6 := Lib.hid (X6.out.stp ((Stp.refl P W6).drew (n1 + nq)) hgP)
    replace RX := Lib.hid (RX.out.stp ((Stp.refl P W6).drew (n1 + nq)) (by omega) (Nat.le_refl _))
    have PU := Lib.hid (H.out.step (Stp.put _ _ _) (H.out.pa.put1 j1 hb3))
    clear H
    have H := PU
    clear PU
    replace X6 := Lib.hid (X6.out.stp (Stp.put _ 1 (.int .i64 (j1 : Int))) hgP)
    replace RX := Lib.hid (RX.out.stp (Stp.put (P := P) _ 1 (.int .i64 (j1 : Int))) (by omega) (Nat.le_refl _))
    generalize (W6.drewN (n1 + nq)).setCell ⟨P, 1, none⟩ (.int .i64 (j1 : Int)) = W7 at *
    clear c0 c1 f1
    obtain ⟨x0, x1, x2, x3, x4, x5⟩ := X6.out.cells
    have RR := Lib.hid (rep_in 5 t _ op a b c3 d1 A n cap _ H.out.big RX.out)
    replace H := Lib.hid (H.out.grow ((Below.refl W7.heap.size W7).alloc (Nat.le_refl _) (.cells #[.int .i64 op, .int .u64 (a : Int), .int .u64 (b : Int), .int .u64 (c3 : Int), .int .u64 (d1 : Int), .slice A n cap] 60)))
    clear RX X6
    go_wp2_with (refine wpList_store_row rfl 60 (.tmp 2) (.tmp 37) rfl w.heap.size #[.int .i64 5, .int .u64 0, .int .u64 0, .int .u64 0, .int .u64 0, .slice (some ⟨W7.heap.size, 0, none⟩) 1 1] rfl rfl 60 _ H.out.r Tryd.size6 rfl (by simp [Value.oneCell']) ?_)
    exact bodyPost_ret (results_cell_row rfl _ _ w.heap.size 60 _ (0, 0) _ rfl (H.out.fin _).2.2 Tryd.underlying60 rfl Tryd.size6) rfl (rres_some R.out H.out RR.out)
  have z43 : ((c4 : Int) == 43) = false := by simp; omega
  rw [if_neg h43] at e0
  by_cases h63 : c4 = 63
  · have z63 : ((c4 : Int) == 63) = true := by simp; omega
    rw [if_pos h63] at e0
    have R : Hid (r = some (rep 6 t, j1)) := e0.symm
    clear e0 h63
    have c0 := H.out.pa.c0
    have c1 := H.out.pa.c1
    have f1 := H.out.pa.fr 1
    go_wp2_with fail
    refine (MT.out _ H.out.pa).mono ?_
    rintro e W7 ⟨rfl, n1, rfl⟩
    go_wp2_with fail
    go_quiet (fail)
    go_upto_region 14 with fail
    replace H := Lib.hid (H.out.drew (n1 + nq))
    replace X6 := Lib.hid (X6.out.stp ((Stp.refl P W6).drew (n1 + nq)) hgP)
    replace RX := Lib.hid (RX.out.stp ((Stp.refl P W6).drew (n1 + nq)) (by omega) (Nat.le_refl _))
    have PU := Lib.hid (H.out.step (Stp.put _ _ _) (H.out.pa.put1 j1 hb3))
    clear H
    have H := PU
    clear PU
    replace X6 := Lib.hid (X6.out.stp (Stp.put _ 1 (.int .i64 (j1 : Int))) hgP)
    replace RX := Lib.hid (RX.out.stp (Stp.put (P := P) _ 1 (.int .i64 (j1 : Int))) (by omega) (Nat.le_refl _))
    generalize (W6.drewN (n1 + nq)).setCell ⟨P, 1, none⟩ (.int .i64 (j1 : Int)) = W7 at *
    clear c0 c1 f1
    obtain ⟨x0, x1, x2, x3, x4, x5⟩ := X6.out.cells
    have RR := Lib.hid (rep_in 6 t _ op a b c3 d1 A n cap _ H.out.big RX.out)
    replace H := Lib.hid (H.out.grow ((Below.refl W7.heap.size W7).alloc (Nat.le_refl _) (.cells #[.int .i64 op, .int .u64 (a : Int), .int .u64 (b : Int), .int .u64 (c3 : Int), .int .u64 (d1 : Int), .slice A n cap] 60)))
    clear RX X6
    go_wp2_with (refine wpList_store_row rfl 60 (.tmp 2) (.tmp 37) rfl w.heap.size #[.int .i64 6, .int .u64 0, .int .u64 0, .int .u64 0, .int .u64 0, .slice (some ⟨W7.heap.size, 0, none⟩) 1 1] rfl rfl 60 _ H.out.r Tryd.size6 rfl (by simp [Value.oneCell']) ?_)
    exact bodyPost_ret (results_cell_row rfl _ _ w.heap.size 60 _ (0, 0) _ rfl (H.out.fin _).2.2 Tryd.underlying60 rfl Tryd.size6) rfl (rres_some R.out H.out RR.out)
  have z63 : ((c4 : Int) == 63) = false := by simp; omega
  rw [if_neg h63] at e0
  have R : Hid (r = some (t, j)) := e0.symm
  clear e0
  have c0 := H.out.pa.c0
  have c1 := H.out.pa.c1
  have f1 := H.out.pa.fr 1
  go_wp2_with fail
  refine (MT.out _ H.out.pa).mono ?_
  rintro e W7 ⟨rfl, n1, rfl⟩
  go_wp2_with fail
  go_quiet (fail)
  go_upto_region 6 with fail
  replace H := Lib.hid (H.out.drew (n1 + nq))
  replace X6 := Lib.hid (X6.out.stp ((Stp.refl P W6).drew (n1 + nq)) hgP)
  replace RX := Lib.hid (RX.out.stp ((Stp.refl P W6).drew (n1 + nq)) (by omega) (Nat.le_refl _))
  obtain ⟨x0, x1, x2, x3, x4, x5⟩ := X6.out.cells
  clear c0 c1 f1
  go_wp2_with (refine wpList_store_row rfl 60 (.tmp 2) (.tmp 20) rfl w.heap.size #[.int .i64 op, .int .u64 (a : Int), .int .u64 (b : Int), .int .u64 (c3 : Int), .int .u64 (d1 : Int), .slice A n cap] rfl rfl 60 _ H.out.r Tryd.size6 rfl (by simp [Value.oneCell']) ?_)
  exact bodyPost_ret (results_cell_row rfl _ _ w.heap.size 60 _ (0, 0) _ rfl (H.out.fin _).2.2 Tryd.underlying60 rfl Tryd.size6) rfl (rres_some R.out H.out RX.out)
/-- Ahead of an append of a new kid, which lies in a literal's row. -/
theorem app_ready1 {w0 wr W1 : World} {P base : Nat} {kv : Value} {l : List Rx} {x : Rx} {op : Int} {a b c d : Nat} {A : Option Addr} {n cap : Nat} (hk : Kids base wr kv l) (hs : Stp P wr W1) (hP : P < base) (hbase : base ≤ wr.heap.size) (hx : RxIn (fun b => wr.heap.size ≤ b) W1 (.agg (c6 op a b c d A n cap)) x) (h2 : w0 = W1.alloc (.cells (c6 op a b c d A n cap) 60)) :
    Kids base w0 kv l ∧ (∀ i, i < 6 → w0.cell? ⟨W1.heap.size, i, none⟩ = some (v6f op a b c d A n cap i)) ∧ RxIn (fun b => base ≤ b ∧ b < w0.heap.size ∧ kv.ownBlock ≠ some b) w0 (val6 (v6f op a b c d A n cap)) x ∧ base ≤ w0.heap.size ∧ Below W1.heap.size W1 w0 := by
  subst h2
  have e2 := heap_alloc_new W1 (.cells (c6 op a b c d A n cap) 60)
  have B : Below W1.heap.size W1 (W1.alloc (.cells (c6 op a b c d A n cap) 60)) := (Below.refl _ _).alloc (Nat.le_refl _) _
  have z : (W1.alloc (.cells (c6 op a b c d A n cap) 60)).heap.size = W1.heap.size + 1 := by simp
  generalize W1.alloc (.cells (c6 op a b c d A n cap) 60) = w0 at *
  have hs1 := hs.size
  refine ⟨(hk.stp hs hP).under B, fun i hi => ?_, ?_, by omega, B⟩
  · obtain ⟨q0, q1, q2, q3, q4, q5⟩ := Row6.cells e2
    match i, hi with
    | 0, _ => exact q0
    | 1, _ => exact q1
    | 2, _ => exact q2
    | 3, _ => exact q3
    | 4, _ => exact q4
    | 5, _ => exact q5
  · have h2 : RxIn (fun b => wr.heap.size ≤ b ∧ b < W1.heap.size) W1 (val6 (v6f op a b c d A n cap)) x := RxIn.frame (show RxIn (fun b => wr.heap.size ≤ b) W1 (val6 (v6f op a b c d A n cap)) x from hx) (fun _ _ => rfl) (fun b h1 h2 => ⟨h2, h1⟩)
    refine h2.frame (fun b hq => B.block b hq.2) (fun b _ hq => ⟨by omega, by omega, fun e => ?_⟩)
    have := (hk.low b e).2
    omega
/-- A literal of one tree. -/
theorem Kids.lit {W : World} {B base : Nat} {x : Rx} {op : Int} {a b c d : Nat} {A : Option Addr} {n cap : Nat} (hb : base ≤ B) (hB : B ≤ W.heap.size) (hx : RxIn (fun b => B ≤ b) W (.agg (c6 op a b c d A n cap)) x) :
    Kids base (W.alloc (.cells (c6 op a b c d A n cap) 60)) (.slice (some ⟨W.heap.size, 0, none⟩) 1 1) [x] := by
  refine ⟨[v6f op a b c d A n cap], rfl, World.ownsRow_lit W _ 1 (by omega) (by decide) rfl, fun j hj => ?_⟩
  obtain rfl : j = 0 := by simpa using hj
  have h2 : RxIn (fun b => B ≤ b ∧ b < W.heap.size) W (val6 (v6f op a b c d A n cap)) x := RxIn.frame (show RxIn (fun b => B ≤ b) W (val6 (v6f op a b c d A n cap)) x from hx) (fun _ _ => rfl) (fun b h1 h2 => ⟨h2, h1⟩)
  exact h2.frame (fun b hq => heap_alloc_old W _ hq.2) (fun b _ hq => ⟨by omega, by simp; omega, fun e => by injection e with e; have e : W.heap.size = _ := e; omega⟩)
/-- A part's end: its tree, or no pattern. -/
def WayEnd (b : Bool) (d' d : Nat) (r : Option (Rx × Nat)) (t : Rx) (j : Nat) : Prop := (b = false ∧ d' = d ∧ r = some (t, j)) ∨ (b = true ∧ r = none)
theorem RAt.grown {w W W' : World} {P i d : Nat} {s : ByteArray} {b : Bool} {row : Array Value} {ty : TypeId} {o : Option Nat} (h : RAt w P s i d b row ty W) (hg : W.grownBy W' o) (ho : ∀ k, o = some k → w.heap.size < k) : RAt w P s i d b row ty W' := by
  have hb : ∀ k, k < W.heap.size → k ≤ w.heap.size → W'.heap[k]? = W.heap[k]? := fun k h1 h2 => hg.block k h1 (fun e => by have := ho k e.symm; omega)
  have h1 := h.big
  have h2 := h.lt
  exact ⟨⟨hg.os.trans h.st.os, hg.tape.trans h.st.tape, hg.output.trans h.st.output, Nat.le_trans h.st.size hg.size, fun k q1 q2 => (hb k (by omega) (by omega)).trans (h.st.block k q1 q2)⟩, h.pa.frame (hb P (by omega) (by omega)), h2, (hb _ (by omega) (Nat.le_refl _)).trans h.r⟩
theorem rres_mk {w W : World} {P j d d' : Nat} {b : Bool} {s : ByteArray} {r : Option (Rx × Nat)} {cs : Array Value} {t : Rx} (hr : WayEnd b d' d r t j) (h : RAt w P s j d' b zero6 60 W) (ht : RxIn (fun b => w.heap.size + 1 ≤ b) W (.agg cs) t) : RRes w P s d r (.returned (.agg cs)) (W.setRow w.heap.size cs) := by
  rcases hr with ⟨rfl, rfl, hr⟩ | ⟨rfl, hr⟩
  · exact rres_some hr h ht
  · exact rres_none hr h ht
/-- What the loops of way and ways keep: the kids so far. -/
def RWInv (w : World) (P : Nat) (s : ByteArray) (d : Nat) (F : Nat → List Rx → Nat → Option (Rx × Nat)) (r : Option (Rx × Nat)) (m : Nat) (kv : Value) (wr : World) : Prop :=
  ∃ j d' b l, RAt w P s j d' b zero6 60 wr ∧ Kids (w.heap.size + 1) wr kv l ∧ l.length + m ≤ 42 ∧ ((b = false ∧ d' = d ∧ F m l j = r ∧ s.size < j + m) ∨ (b = true ∧ r = none))
/-- The loop of ways behind a way. -/
def wLoop (S : List Nat) (G : Nat → Option (Rx × Nat)) (m : Nat) (l : List Rx) (j : Nat) : Option (Rx × Nat) := if pk S j = 124 then Pz.ways S 42 G m l (j + 1) else some (joined 3 l, j)
set_option maxRecDepth 100000 in
set_option maxHeartbeats 16000000 in
theorem rway_any (P d : Nat) (s : ByteArray) (G : Nat → Option (Rx × Nat)) (hA : Ahead G) (hG : GT P s d G) : RTells 89 P s d (way (txt8 s) 42 G 42 []) (fun _ => True) := by
  intro i w _ h
  have H0 := RAt.start h zero6 60
  have hsm := h.sm
  have hPw := h.lt
  obtain ⟨L, hL⟩ : ∃ L, s.size = L := ⟨_, rfl⟩
  obtain ⟨r, hr⟩ : ∃ r, way (txt8 s) 42 G 42 [] i = r := ⟨_, rfl⟩
  rw [hr]
  have W0 : Hid (RWInv w P s d (way (txt8 s) 42 G) r 42 (.slice none 0 0) (w.alloc (.cells zero6 60))) := ⟨i, d, false, [], H0, Kids.nil _ _, by simp, .inl ⟨rfl, rfl, hr, by omega⟩⟩
  clear h H0 hr
  unfold zero6 at W0
  have FC := Lib.hid (rfactor_any P d s G hG)
  have FL := Lib.hid (fun i t j => factor_lt (s := s) hA (i := i) (j := j) (t := t))
  clear hG hA
  go_enter Tryd.func89, Tryd.ntmps89
  go_wp2
  generalize w.alloc (.cells #[.int .i64 0, .int .u64 0, .int .u64 0, .int .u64 0, .int .u64 0, .slice none 0 0] 60) = w3 at W0 ⊢
  go_loopg [3] 42 (fun m kv wr => ∃ A n cap, kv = .slice A n cap ∧ Hid (RWInv w P s d (way (txt8 s) 42 G) r m kv wr))
  case atStart => exact ⟨_, _, _, rfl, W0⟩
  case round =>
    clear W0
    obtain ⟨A0, n0, cap0, rfl, HI⟩ := hrel
    obtain ⟨j, d2, b, l, H, K, hl, hst⟩ := HI
    have H := Lib.hid H
    have K := Lib.hid K
    have hjL : j ≤ L := by have := H.out.pa.le; omega
    by_cases hno : b = true ∨ L ≤ j
    · have MF : Hid (∀ W (h : RPar W P s j d2 b), Calls Tryd.prog 90 #[.pointer (some ⟨P, 0, none⟩)] W fun e w' => e = .returned (.bool false) ∧ ∃ n, w' = W.drewN n) := by
        intro W h
        rcases hno with rfl | hno
        · exact rmore_b h
        · cases b
          · exact rmore_f h (by omega)
          · exact rmore_b h
      have HP : Hid (WayEnd b d2 d r (joined 2 l) j) := by
        rcases hst with ⟨h1, h2, h3, h4⟩ | ⟨h1, h2⟩
        · refine .inl ⟨h1, h2, ?_⟩
          obtain ⟨m, rfl⟩ : ∃ m, gk = m + 1 := ⟨gk - 1, by omega⟩
          rw [way, if_pos (.inl (pk_end (by rcases hno with h | h; rw [h1] at h; cases h; omega : s.size ≤ j)))] at h3
          exact h3.symm
        · exact .inr ⟨h1, h2⟩
      clear hst hno
      have c0 := H.out.pa.c0
      have c1 := H.out.pa.c1
      go_wp2_with fail
      go_quiet ((go_at_call 90; exact Calls.quiet_of (MF.out _ (H.out.pa.drew _))))
      replace H := Lib.hid (H.out.drew nq)
      replace K := Lib.hid (K.out.under (drewN_below (Below.refl _ wr) nq))
      clear c0 c1 MF
      by_cases h1 : l.length = 1
      · obtain ⟨t, rfl⟩ := List.length_eq_one_iff.1 h1
        obtain ⟨rfl, gk2, V, rfl, hc, hx⟩ := K.out.one
        obtain ⟨op, a, b4, c3, d1, A, n, cap, hv⟩ := hx.form
        obtain ⟨e0, e1, e2, e3, e4, e5⟩ := val6_eq hv
        have hgl : gk2 < _ := World.block_lt_of_cell? _ _ (hc 0 (by omega))
        have x0 := hc 0 (by omega)
        have x1 := hc 1 (by omega)
        have x2 := hc 2 (by omega)
        have x3 := hc 3 (by omega)
        have x4 := hc 4 (by omega)
        have x5 := hc 5 (by omega)
        rw [e0] at x0
        rw [e1] at x1
        rw [e2] at x2
        rw [e3] at x3
        rw [e4] at x4
        rw [e5] at x5
        rw [hv] at hx
        have RX := Lib.hid hx
        clear hc hv e0 e1 e2 e3 e4 e5 hx h1 hgl K
        go_wp2_with (refine wpList_store_row rfl 60 (.tmp 2) (.tmp 40) rfl w.heap.size #[.int .i64 op, .int .u64 (a : Int), .int .u64 (b4 : Int), .int .u64 (c3 : Int), .int .u64 (d1 : Int), .slice A n cap] rfl rfl 60 _ H.out.r Tryd.size6 rfl (by simp [Value.oneCell']) ?_)
        exact bodyPost_ret (results_cell_row rfl _ _ w.heap.size 60 _ (0, 0) _ rfl (H.out.fin _).2.2 Tryd.underlying60 rfl Tryd.size6) rfl (rres_mk HP.out H.out RX.out)
      · obtain ⟨rfl, hx⟩ := K.out.node 2
        have h1z : ((l.length : Int) == 1) = false := by simp; omega
        rw [← joined_two (op := 2) h1] at hx
        have RX := Lib.hid hx
        obtain ⟨t, ht⟩ : ∃ t, joined 2 l = t := ⟨_, rfl⟩
        rw [ht] at RX HP
        clear hx h1 ht K
        generalize l.length = N at *
        go_wp2_with (refine wpList_store_row rfl 60 (.tmp 2) (.tmp 42) rfl w.heap.size #[.int .i64 2, .int .u64 0, .int .u64 0, .int .u64 0, .int .u64 0, .slice A0 N cap0] rfl rfl 60 _ H.out.r Tryd.size6 rfl (by simp [Value.oneCell']) ?_)
        exact bodyPost_ret (results_cell_row rfl _ _ w.heap.size 60 _ (0, 0) _ rfl (H.out.fin _).2.2 Tryd.underlying60 rfl Tryd.size6) rfl (rres_mk HP.out H.out RX.out)
    have hbf : b = false := by cases b; rfl; exact absurd (.inl rfl) hno
    subst hbf
    have hjl : j < L := by omega
    obtain ⟨hd2, hF, hj⟩ : d2 = d ∧ way (txt8 s) 42 G gk l j = r ∧ s.size < j + gk := by rcases hst with h | h; exact h.2; cases h.1
    subst hd2
    have MT := Lib.hid (fun W (h : RPar W P s j d2 false) => rmore_t h (by omega))
    have TX := fun W => txt8_at W s j (by omega)
    have hpk : pk (txt8 s) j = (txt8 s).getD j 0 := pk_lt (by omega)
    obtain ⟨c, hc⟩ : ∃ c, (txt8 s).getD j 0 = c := ⟨_, rfl⟩
    simp only [hc] at TX
    rw [hc] at hpk
    have hcb : c < 256 := by rw [← hc]; exact txt8_lt s j
    obtain ⟨m, rfl⟩ : ∃ m, gk = m + 1 := ⟨gk - 1, by omega⟩
    clear hc hst hno
    rw [way] at hF
    by_cases hx : c = 124 ∨ c = 41
    · have HP : Hid (WayEnd false d2 d2 r (joined 2 l) j) := by
        refine .inl ⟨rfl, rfl, ?_⟩
        rw [if_pos (by rw [hpk]; omega)] at hF
        exact hF.symm
      clear hF hpk FC FL
      have c0 := H.out.pa.c0
      have c1 := H.out.pa.c1
      rcases hx with hx | hx
      · have z1 : ((c : Int) != 124) = false := by simp; omega
        clear hx
        go_wp2_with fail
        go_quiet ((go_at_call 90; exact Calls.quiet_of (MT.out _ (H.out.pa.drew _))))
        replace H := Lib.hid (H.out.drew nq)
        replace K := Lib.hid (K.out.under (drewN_below (Below.refl _ wr) nq))
        clear c0 c1 MT
        by_cases h1 : l.length = 1
        · obtain ⟨t, rfl⟩ := List.length_eq_one_iff.1 h1
          obtain ⟨rfl, gk2, V, rfl, hc, hx⟩ := K.out.one
          obtain ⟨op, a, b4, c3, d1, A, n, cap, hv⟩ := hx.form
          obtain ⟨e0, e1, e2, e3, e4, e5⟩ := val6_eq hv
          have hgl : gk2 < _ := World.block_lt_of_cell? _ _ (hc 0 (by omega))
          have x0 := hc 0 (by omega)
          have x1 := hc 1 (by omega)
          have x2 := hc 2 (by omega)
          have x3 := hc 3 (by omega)
          have x4 := hc 4 (by omega)
          have x5 := hc 5 (by omega)
          rw [e0] at x0
          rw [e1] at x1
          rw [e2] at x2
          rw [e3] at x3
          rw [e4] at x4
          rw [e5] at x5
          rw [hv] at hx
          have RX := Lib.hid hx
          clear hc hv e0 e1 e2 e3 e4 e5 hx h1 hgl K
          go_wp2_with (refine wpList_store_row rfl 60 (.tmp 2) (.tmp 40) rfl w.heap.size #[.int .i64 op, .int .u64 (a : Int), .int .u64 (b4 : Int), .int .u64 (c3 : Int), .int .u64 (d1 : Int), .slice A n cap] rfl rfl 60 _ H.out.r Tryd.size6 rfl (by simp [Value.oneCell']) ?_)
          exact bodyPost_ret (results_cell_row rfl _ _ w.heap.size 60 _ (0, 0) _ rfl (H.out.fin _).2.2 Tryd.underlying60 rfl Tryd.size6) rfl (rres_mk HP.out H.out RX.out)
        · obtain ⟨rfl, hx⟩ := K.out.node 2
          have h1z : ((l.length : Int) == 1) = false := by simp; omega
          rw [← joined_two (op := 2) h1] at hx
          have RX := Lib.hid hx
          obtain ⟨t, ht⟩ : ∃ t, joined 2 l = t := ⟨_, rfl⟩
          rw [ht] at RX HP
          clear hx h1 ht K
          generalize l.length = N at *
          go_wp2_with (refine wpList_store_row rfl 60 (.tmp 2) (.tmp 42) rfl w.heap.size #[.int .i64 2, .int .u64 0, .int .u64 0, .int .u64 0, .int .u64 0, .slice A0 N cap0] rfl rfl 60 _ H.out.r Tryd.size6 rfl (by simp [Value.oneCell']) ?_)
          exact bodyPost_ret (results_cell_row rfl _ _ w.heap.size 60 _ (0, 0) _ rfl (H.out.fin _).2.2 Tryd.underlying60 rfl Tryd.size6) rfl (rres_mk HP.out H.out RX.out)
      · have z1 : ((c : Int) != 124) = true := by simp; omega
        have z2 : ((c : Int) != 41) = false := by simp; omega
        clear hx
        go_wp2_with fail
        go_quiet ((go_at_call 90; exact Calls.quiet_of (MT.out _ (H.out.pa.drew _))))
        replace H := Lib.hid (H.out.drew nq)
        replace K := Lib.hid (K.out.under (drewN_below (Below.refl _ wr) nq))
        clear c0 c1 MT
        by_cases h1 : l.length = 1
        · obtain ⟨t, rfl⟩ := List.length_eq_one_iff.1 h1
          obtain ⟨rfl, gk2, V, rfl, hc, hx⟩ := K.out.one
          obtain ⟨op, a, b4, c3, d1, A, n, cap, hv⟩ := hx.form
          obtain ⟨e0, e1, e2, e3, e4, e5⟩ := val6_eq hv
          have hgl : gk2 < _ := World.block_lt_of_cell? _ _ (hc 0 (by omega))
          have x0 := hc 0 (by omega)
          have x1 := hc 1 (by omega)
          have x2 := hc 2 (by omega)
          have x3 := hc 3 (by omega)
          have x4 := hc 4 (by omega)
          have x5 := hc 5 (by omega)
          rw [e0] at x0
          rw [e1] at x1
          rw [e2] at x2
          rw [e3] at x3
          rw [e4] at x4
          rw [e5] at x5
          rw [hv] at hx
          have RX := Lib.hid hx
          clear hc hv e0 e1 e2 e3 e4 e5 hx h1 hgl K
          go_wp2_with (refine wpList_store_row rfl 60 (.tmp 2) (.tmp 40) rfl w.heap.size #[.int .i64 op, .int .u64 (a : Int), .int .u64 (b4 : Int), .int .u64 (c3 : Int), .int .u64 (d1 : Int), .slice A n cap] rfl rfl 60 _ H.out.r Tryd.size6 rfl (by simp [Value.oneCell']) ?_)
          exact bodyPost_ret (results_cell_row rfl _ _ w.heap.size 60 _ (0, 0) _ rfl (H.out.fin _).2.2 Tryd.underlying60 rfl Tryd.size6) rfl (rres_mk HP.out H.out RX.out)
        · obtain ⟨rfl, hx⟩ := K.out.node 2
          have h1z : ((l.length : Int) == 1) = false := by simp; omega
          rw [← joined_two (op := 2) h1] at hx
          have RX := Lib.hid hx
          obtain ⟨t, ht⟩ : ∃ t, joined 2 l = t := ⟨_, rfl⟩
          rw [ht] at RX HP
          clear hx h1 ht K
          generalize l.length = N at *
          go_wp2_with (refine wpList_store_row rfl 60 (.tmp 2) (.tmp 42) rfl w.heap.size #[.int .i64 2, .int .u64 0, .int .u64 0, .int .u64 0, .int .u64 0, .slice A0 N cap0] rfl rfl 60 _ H.out.r Tryd.size6 rfl (by simp [Value.oneCell']) ?_)
          exact bodyPost_ret (results_cell_row rfl _ _ w.heap.size 60 _ (0, 0) _ rfl (H.out.fin _).2.2 Tryd.underlying60 rfl Tryd.size6) rfl (rres_mk HP.out H.out RX.out)
    have z1 : ((c : Int) != 124) = true := by simp; omega
    have z2 : ((c : Int) != 41) = true := by simp; omega
    rw [if_neg (by rw [hpk]; omega)] at hF
    have HF := Lib.hid hF
    have c0 := H.out.pa.c0
    have c1 := H.out.pa.c1
    clear hF hpk hx
    go_wp2_with fail
    go_quiet ((go_at_call 90; exact Calls.quiet_of (MT.out _ (H.out.pa.drew _))))
    replace H := Lib.hid (H.out.drew nq)
    replace K := Lib.hid (K.out.under (drewN_below (Below.refl _ wr) nq))
    clear c0 c1 MT z1 z2
    have hbig := H.out.big
    go_wp2_with fail
    refine (FC.out j _ (by omega) H.out.pa).mono ?_
    intro e W1 hp
    obtain ⟨op, a, b4, c3, d1, A, n, cap, x, rfl, RX, S1, hres⟩ := hp.form
    clear hp
    obtain ⟨k, d3, b3, P1, hst⟩ : ∃ k d3 b3, RPar W1 P s k d3 b3 ∧ ((b3 = false ∧ d3 = d2 ∧ way (txt8 s) 42 G m (l ++ [x]) k = r ∧ s.size < k + m) ∨ (b3 = true ∧ r = none)) := by
      rcases hres with ⟨k, h1, h2⟩ | ⟨h1, k, d3, h2⟩
      · have h3 := FL.out _ _ _ h1
        have h4 := HF.out
        rw [h1] at h4
        exact ⟨k, d2, false, h2, .inl ⟨rfl, rfl, h4, by omega⟩⟩
      · have h4 := HF.out
        rw [h1] at h4
        exact ⟨k, d3, true, h2, .inr ⟨rfl, h4.symm⟩⟩
    have AR := Lib.hid (app_ready1 K.out S1 (by omega) hbig RX rfl)
    replace H := Lib.hid ((H.out.step S1 P1).grow AR.out.2.2.2.2)
    have HST := Lib.hid hst
    clear S1 P1 RX K hbig hres hst HF
    go_wp2_with ((refine wpList_appR rfl (.tmp 30) (.tmp 33) rfl (w.heap.size + 1) (.slice A0 n0 cap0) l W1.heap.size rfl rfl AR.out.1 (v6f op a b4 c3 d1 A n cap) x AR.out.2.1 (v6f_one _ _ _ _ _ _ _ _) AR.out.2.2.1 (by omega) AR.out.2.2.2.1 ?_); (intro v' w' K2 G2); (replace H := Lib.hid (H.out.grown G2 (fun k hk => by have := (AR.out.1.low k hk).1; omega))); (obtain ⟨A2, n2, cap2, rfl⟩ := K2.form2); (replace K2 := Lib.hid K2); (clear G2 AR))
    go_roundg m
    case measure => omega
    case rel => exact ⟨_, _, _, rfl, ⟨k, d3, b3, l ++ [x], H.out, K2.out, by simp; omega, HST.out⟩⟩
set_option maxRecDepth 100000 in
set_option maxHeartbeats 16000000 in
theorem rways_any (P d : Nat) (s : ByteArray) (G : Nat → Option (Rx × Nat)) (hA : Ahead G) (hG : GT P s d G) : RTells 70 P s d (Pz.ways (txt8 s) 42 G 42 []) (fun _ => True) := by
  intro i w _ h
  have H := Lib.hid (RAt.start h zero6 60)
  have hsm := h.sm
  have hPw := h.lt
  obtain ⟨L, hL⟩ : ∃ L, s.size = L := ⟨_, rfl⟩
  obtain ⟨r, hr⟩ : ∃ r, Pz.ways (txt8 s) 42 G 42 [] i = r := ⟨_, rfl⟩
  rw [hr]
  have HR : Hid ((match way (txt8 s) 42 G 42 [] i with | none => none | some (x, j) => wLoop (txt8 s) G 41 [x] j) = r) := hr
  clear h hr
  unfold zero6 at H
  have FC := Lib.hid (rway_any P d s G hA hG)
  have FL := Lib.hid (fun i t j => way_le (s := s) hA (m := 42) (l := []) (i := i) (j := j) (t := t))
  clear hG hA
  go_enter Tryd.func70, Tryd.ntmps70
  go_wp2_with fail
  have hbig := H.out.big
  refine (FC.out i _ trivial H.out.pa).mono ?_
  intro e W1 hp
  obtain ⟨op, a, b4, c3, d1, A, n, cap, x, rfl, RX, S1, hres⟩ := hp.form
  clear hp
  obtain ⟨k, d3, b3, P1, hst⟩ : ∃ k d3 b3, RPar W1 P s k d3 b3 ∧ ((b3 = false ∧ d3 = d ∧ wLoop (txt8 s) G 41 [x] k = r ∧ s.size < k + 41) ∨ (b3 = true ∧ r = none)) := by
    rcases hres with ⟨k, h1, h2⟩ | ⟨h1, k, d3, h2⟩
    · have h4 := HR.out
      rw [h1] at h4
      exact ⟨k, d, false, h2, .inl ⟨rfl, rfl, h4, by omega⟩⟩
    · have h4 := HR.out
      rw [h1] at h4
      exact ⟨k, d3, true, h2, .inr ⟨rfl, h4.symm⟩⟩
  have W0 : Hid (RWInv w P s d (wLoop (txt8 s) G) r 41 (.slice (some ⟨W1.heap.size, 0, none⟩) 1 1) (W1.alloc (.cells #[.int .i64 op, .int .u64 (a : Int), .int .u64 (b4 : Int), .int .u64 (c3 : Int), .int .u64 (d1 : Int), .slice A n cap] 60))) :=
    ⟨k, d3, b3, [x], (H.out.step S1 P1).grow ((Below.refl _ _).alloc (Nat.le_refl _) _), Kids.lit hbig (by have := S1.size; omega) RX, by simp, hst⟩
  clear S1 P1 RX hbig hres hst HR H
  go_wp2
  generalize W1.alloc (.cells #[.int .i64 op, .int .u64 (a : Int), .int .u64 (b4 : Int), .int .u64 (c3 : Int), .int .u64 (d1 : Int), .slice A n cap] 60) = w3 at W0 ⊢
  go_loopg [3] 41 (fun m kv wr => ∃ A n cap, kv = .slice A n cap ∧ Hid (RWInv w P s d (wLoop (txt8 s) G) r m kv wr))
  case atStart => exact ⟨_, _, _, rfl, W0⟩
  case round =>
    clear W0
    obtain ⟨A0, n0, cap0, rfl, HI⟩ := hrel
    obtain ⟨j, d2, b, l, H, K, hl, hst⟩ := HI
    have H := Lib.hid H
    have K := Lib.hid K
    have hjL : j ≤ L := by have := H.out.pa.le; omega
    by_cases hno : b = true ∨ L ≤ j
    · have MF : Hid (∀ W (h : RPar W P s j d2 b), Calls Tryd.prog 90 #[.pointer (some ⟨P, 0, none⟩)] W fun e w' => e = .returned (.bool false) ∧ ∃ n, w' = W.drewN n) := by
        intro W h
        rcases hno with rfl | hno
        · exact rmore_b h
        · cases b
          · exact rmore_f h (by omega)
          · exact rmore_b h
      have HP : Hid (WayEnd b d2 d r (joined 3 l) j) := by
        rcases hst with ⟨h1, h2, h3, h4⟩ | ⟨h1, h2⟩
        · refine .inl ⟨h1, h2, ?_⟩
          rw [wLoop, if_neg (by rw [pk_end (by rcases hno with h | h; rw [h1] at h; cases h; omega : s.size ≤ j)]; omega)] at h3
          exact h3.symm
        · exact .inr ⟨h1, h2⟩
      clear hst hno
      have c0 := H.out.pa.c0
      have c1 := H.out.pa.c1
      go_wp2_with fail
      go_quiet ((go_at_call 90; exact Calls.quiet_of (MF.out _ (H.out.pa.drew _))))
      replace H := Lib.hid (H.out.drew nq)
      replace K := Lib.hid (K.out.under (drewN_below (Below.refl _ wr) nq))
      clear c0 c1 MF
      by_cases h1 : l.length = 1
      · obtain ⟨t, rfl⟩ := List.length_eq_one_iff.1 h1
        obtain ⟨rfl, gk2, V, rfl, hc, hx⟩ := K.out.one
        obtain ⟨op, a, b4, c3, d1, A, n, cap, hv⟩ := hx.form
        obtain ⟨e0, e1, e2, e3, e4, e5⟩ := val6_eq hv
        have hgl : gk2 < _ := World.block_lt_of_cell? _ _ (hc 0 (by omega))
        have x0 := hc 0 (by omega)
        have x1 := hc 1 (by omega)
        have x2 := hc 2 (by omega)
        have x3 := hc 3 (by omega)
        have x4 := hc 4 (by omega)
        have x5 := hc 5 (by omega)
        rw [e0] at x0
        rw [e1] at x1
        rw [e2] at x2
        rw [e3] at x3
        rw [e4] at x4
        rw [e5] at x5
        rw [hv] at hx
        have RX := Lib.hid hx
        clear hc hv e0 e1 e2 e3 e4 e5 hx h1 hgl K
        go_wp2_with (refine wpList_store_row rfl 60 (.tmp 2) (.tmp 38) rfl w.heap.size #[.int .i64 op, .int .u64 (a : Int), .int .u64 (b4 : Int), .int .u64 (c3 : Int), .int .u64 (d1 : Int), .slice A n cap] rfl rfl 60 _ H.out.r Tryd.size6 rfl (by simp [Value.oneCell']) ?_)
        exact bodyPost_ret (results_cell_row rfl _ _ w.heap.size 60 _ (0, 0) _ rfl (H.out.fin _).2.2 Tryd.underlying60 rfl Tryd.size6) rfl (rres_mk HP.out H.out RX.out)
      · obtain ⟨rfl, hx⟩ := K.out.node 3
        have h1z : ((l.length : Int) == 1) = false := by simp; omega
        rw [← joined_two (op := 3) h1] at hx
        have RX := Lib.hid hx
        obtain ⟨t, ht⟩ : ∃ t, joined 3 l = t := ⟨_, rfl⟩
        rw [ht] at RX HP
        clear hx h1 ht K
        generalize l.length = N at *
        go_wp2_with (refine wpList_store_row rfl 60 (.tmp 2) (.tmp 40) rfl w.heap.size #[.int .i64 3, .int .u64 0, .int .u64 0, .int .u64 0, .int .u64 0, .slice A0 N cap0] rfl rfl 60 _ H.out.r Tryd.size6 rfl (by simp [Value.oneCell']) ?_)
        exact bodyPost_ret (results_cell_row rfl _ _ w.heap.size 60 _ (0, 0) _ rfl (H.out.fin _).2.2 Tryd.underlying60 rfl Tryd.size6) rfl (rres_mk HP.out H.out RX.out)
    have hbf : b = false := by cases b; rfl; exact absurd (.inl rfl) hno
    subst hbf
    have hjl : j < L := by omega
    obtain ⟨hd2, hF, hj⟩ : d2 = d ∧ wLoop (txt8 s) G gk l j = r ∧ s.size < j + gk := by rcases hst with h | h; exact h.2; cases h.1
    subst hd2
    have MT := Lib.hid (fun W (h : RPar W P s j d2 false) => rmore_t h (by omega))
    have TX := fun W => txt8_at W s j (by omega)
    have hpk : pk (txt8 s) j = (txt8 s).getD j 0 := pk_lt (by omega)
    obtain ⟨c, hc⟩ : ∃ c, (txt8 s).getD j 0 = c := ⟨_, rfl⟩
    simp only [hc] at TX
    rw [hc] at hpk
    have hcb : c < 256 := by rw [← hc]; exact txt8_lt s j
    obtain ⟨m, rfl⟩ : ∃ m, gk = m + 1 := ⟨gk - 1, by omega⟩
    clear hc hst hno
    rw [wLoop] at hF
    by_cases hx : c = 124
    · have z1 : ((c : Int) == 124) = true := by simp; omega
      rw [if_pos (by rw [hpk]; exact hx)] at hF
      obtain ⟨j1, hj1⟩ : ∃ j1, j + 1 = j1 := ⟨_, rfl⟩
      have hw1 : IntKind.i64.wrap ((j : Int) + 1) = (j1 : Int) := by rw [IntKind.wrap_i64]; omega
      have hb3 : j1 ≤ s.size := by omega
      rw [hj1] at hF
      have HF : Hid ((match way (txt8 s) 42 G 42 [] j1 with | none => none | some (x, j) => wLoop (txt8 s) G m (l ++ [x]) j) = r) := hF
      have HJ : Hid (s.size < j1 + m) := by show _ < _; omega
      clear hF hpk hx hj1 hj
      have c0 := H.out.pa.c0
      have c1 := H.out.pa.c1
      have f1 := H.out.pa.fr 1
      go_wp2_with fail
      go_quiet ((go_at_call 90; exact Calls.quiet_of (MT.out _ (H.out.pa.drew _))))
      replace H := Lib.hid (H.out.drew nq)
      replace K := Lib.hid (K.out.under (drewN_below (Below.refl _ wr) nq))
      have PU := Lib.hid (H.out.step (Stp.put _ _ _) (H.out.pa.put1 j1 hb3))
      clear H
      have H := PU
      clear PU
      replace K := Lib.hid (K.out.stp (Stp.put (P := P) _ 1 (.int .i64 (j1 : Int))) (by omega))
      go_wp2_with fail
      generalize (wr.drewN nq).setCell ⟨P, 1, none⟩ (.int .i64 (j1 : Int)) = wq at *
      clear c0 c1 f1 MT TX
      have hbig := H.out.big
      refine (FC.out j1 _ trivial H.out.pa).mono ?_
      intro e W1 hp
      obtain ⟨op, a, b4, c3, d1, A, n, cap, x, rfl, RX, S1, hres⟩ := hp.form
      clear hp
      obtain ⟨k, d3, b3, P1, hst⟩ : ∃ k d3 b3, RPar W1 P s k d3 b3 ∧ ((b3 = false ∧ d3 = d2 ∧ wLoop (txt8 s) G m (l ++ [x]) k = r ∧ s.size < k + m) ∨ (b3 = true ∧ r = none)) := by
        rcases hres with ⟨k, h1, h2⟩ | ⟨h1, k, d3, h2⟩
        · have h3 := FL.out _ _ _ h1
          have h4 := HF.out
          rw [h1] at h4
          exact ⟨k, d2, false, h2, .inl ⟨rfl, rfl, h4, by have := HJ.out; omega⟩⟩
        · have h4 := HF.out
          rw [h1] at h4
          exact ⟨k, d3, true, h2, .inr ⟨rfl, h4.symm⟩⟩
      have AR := Lib.hid (app_ready1 K.out S1 (by omega) hbig RX rfl)
      replace H := Lib.hid ((H.out.step S1 P1).grow AR.out.2.2.2.2)
      have HST := Lib.hid hst
      clear S1 P1 RX K hbig hres hst HF
      go_wp2_with ((refine wpList_appR rfl (.tmp 28) (.tmp 31) rfl (w.heap.size + 1) (.slice A0 n0 cap0) l W1.heap.size rfl rfl AR.out.1 (v6f op a b4 c3 d1 A n cap) x AR.out.2.1 (v6f_one _ _ _ _ _ _ _ _) AR.out.2.2.1 (by omega) AR.out.2.2.2.1 ?_); (intro v' w' K2 G2); (replace H := Lib.hid (H.out.grown G2 (fun k hk => by have := (AR.out.1.low k hk).1; omega))); (obtain ⟨A2, n2, cap2, rfl⟩ := K2.form2); (replace K2 := Lib.hid K2); (clear G2 AR))
      go_roundg m
      case measure => omega
      case rel => exact ⟨_, _, _, rfl, ⟨k, d3, b3, l ++ [x], H.out, K2.out, by simp; omega, HST.out⟩⟩
    · have z1 : ((c : Int) == 124) = false := by simp; omega
      have HP : Hid (WayEnd false d2 d2 r (joined 3 l) j) := by
        refine .inl ⟨rfl, rfl, ?_⟩
        rw [if_neg (by rw [hpk]; exact hx)] at hF
        exact hF.symm
      clear hF hpk hx FC FL
      have c0 := H.out.pa.c0
      have c1 := H.out.pa.c1
      go_wp2_with fail
      go_quiet ((go_at_call 90; exact Calls.quiet_of (MT.out _ (H.out.pa.drew _))))
      replace H := Lib.hid (H.out.drew nq)
      replace K := Lib.hid (K.out.under (drewN_below (Below.refl _ wr) nq))
      clear c0 c1 MT
      by_cases h1 : l.length = 1
      · obtain ⟨t, rfl⟩ := List.length_eq_one_iff.1 h1
        obtain ⟨rfl, gk2, V, rfl, hc, hx⟩ := K.out.one
        obtain ⟨op, a, b4, c3, d1, A, n, cap, hv⟩ := hx.form
        obtain ⟨e0, e1, e2, e3, e4, e5⟩ := val6_eq hv
        have hgl : gk2 < _ := World.block_lt_of_cell? _ _ (hc 0 (by omega))
        have x0 := hc 0 (by omega)
        have x1 := hc 1 (by omega)
        have x2 := hc 2 (by omega)
        have x3 := hc 3 (by omega)
        have x4 := hc 4 (by omega)
        have x5 := hc 5 (by omega)
        rw [e0] at x0
        rw [e1] at x1
        rw [e2] at x2
        rw [e3] at x3
        rw [e4] at x4
        rw [e5] at x5
        rw [hv] at hx
        have RX := Lib.hid hx
        clear hc hv e0 e1 e2 e3 e4 e5 hx h1 hgl K
        go_wp2_with (refine wpList_store_row rfl 60 (.tmp 2) (.tmp 38) rfl w.heap.size #[.int .i64 op, .int .u64 (a : Int), .int .u64 (b4 : Int), .int .u64 (c3 : Int), .int .u64 (d1 : Int), .slice A n cap] rfl rfl 60 _ H.out.r Tryd.size6 rfl (by simp [Value.oneCell']) ?_)
        exact bodyPost_ret (results_cell_row rfl _ _ w.heap.size 60 _ (0, 0) _ rfl (H.out.fin _).2.2 Tryd.underlying60 rfl Tryd.size6) rfl (rres_mk HP.out H.out RX.out)
      · obtain ⟨rfl, hx⟩ := K.out.node 3
        have h1z : ((l.length : Int) == 1) = false := by simp; omega
        rw [← joined_two (op := 3) h1] at hx
        have RX := Lib.hid hx
        obtain ⟨t, ht⟩ : ∃ t, joined 3 l = t := ⟨_, rfl⟩
        rw [ht] at RX HP
        clear hx h1 ht K
        generalize l.length = N at *
        go_wp2_with (refine wpList_store_row rfl 60 (.tmp 2) (.tmp 40) rfl w.heap.size #[.int .i64 3, .int .u64 0, .int .u64 0, .int .u64 0, .int .u64 0, .slice A0 N cap0] rfl rfl 60 _ H.out.r Tryd.size6 rfl (by simp [Value.oneCell']) ?_)
        exact bodyPost_ret (results_cell_row rfl _ _ w.heap.size 60 _ (0, 0) _ rfl (H.out.fin _).2.2 Tryd.underlying60 rfl Tryd.size6) rfl (rres_mk HP.out H.out RX.out)
theorem rgroup_any (P : Nat) (s : ByteArray) : ∀ D d, d + D = 8 → GT P s d (group (txt8 s) 42 D)
  | 0, d, h => .inl ⟨by omega, fun _ => rfl⟩
  | D + 1, d, h => .inr ⟨by omega, _, rways_any P (d + 1) s _ (group_le D) (rgroup_any P s D (d + 1) (by omega)), fun _ => rfl⟩

end Go.Proofs.YtjmojjjgifkkiaaDoor
