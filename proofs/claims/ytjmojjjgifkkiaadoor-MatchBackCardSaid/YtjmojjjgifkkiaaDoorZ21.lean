/-
  The reference's parser in memory; what its more, fail, special, quoted and one do. Conditions: at most 40 bytes.
  What the reference's one and member do. Conditions: at most 40 bytes.
  What the reference's one and class do. Conditions: at most 40 bytes.
-/
import Derived.Test.YtjmojjjgifkkiaaDoorProg
import Derived.Test.YtjmojjjgifkkiaaDoorZ01
import Derived.Test.YtjmojjjgifkkiaaDoorZ02
import Derived.Test.YtjmojjjgifkkiaaDoorZ03
import Derived.Test.YtjmojjjgifkkiaaDoorZ04
import Derived.Test.YtjmojjjgifkkiaaDoorZ06
import Derived.Test.YtjmojjjgifkkiaaDoorZ07
import Derived.Test.YtjmojjjgifkkiaaDoorZ05
import Derived.Test.YtjmojjjgifkkiaaDoorZ08
import Derived.Test.YtjmojjjgifkkiaaDoorZ09
import Derived.Test.YtjmojjjgifkkiaaDoorZ15
import Derived.Deep.Cut
import Derived.Deep.CutRange
import Derived.Laws.MakeOwn
import Derived.Laws.OwnMore
import Derived.OwnWalk
import Derived.Deep.QuietTactic
import Derived.BigQuiet
import Derived.Lib.Bytealg
import Derived.Laws.Externs
import Derived.Laws.AppendOwn
import Derived.Deep.LoopGhost
import Derived.Deep.RegionHeld3
import Derived.Laws.CopyOwn
import Derived.StillTailTactics
import Derived.Laws.ResultCell
import Derived.Maps.AppendAt
import Derived.WalkKit
import Derived.WalkSpells
import Derived.WalkLawsBesides
import Derived.Lib.Hide
import Derived.Below
import Derived.Lib.QuietBelow
import Derived.Laws.StructEq
import Derived.KernelRfl
namespace Go.Proofs.YtjmojjjgifkkiaaDoor
open Go.RowKit Go.Sort
open Pz

/-- The reference's parser at place i, so many groups deep; bad: it is no pattern. -/
structure RPar (w : World) (P : Nat) (s : ByteArray) (i d : Nat) (b : Bool) : Prop where
  c0 : w.cell? ⟨P, 0, none⟩ = some (.string s)
  c1 : w.cell? ⟨P, 1, none⟩ = some (.int .i64 (i : Int))
  c2 : w.cell? ⟨P, 2, none⟩ = some (.int .i64 (d : Int))
  c3 : w.cell? ⟨P, 3, none⟩ = some (.bool b)
  fr : ∀ j, w.frozen? ⟨P, j, none⟩ = false
  le : i ≤ s.size
  dm : d ≤ 9
  sm : s.size ≤ 40
section
variable {w w' : World} {P i d : Nat} {s : ByteArray} {b : Bool}
theorem RPar.lt (h : RPar w P s i d b) : P < w.heap.size := World.block_lt_of_cell? w _ h.c0
theorem RPar.frame (h : RPar w P s i d b) (hb : w'.heap[P]? = w.heap[P]?) : RPar w' P s i d b :=
  ⟨(World.cell?_of_block (a := ⟨P, 0, none⟩) hb).trans h.c0, (World.cell?_of_block (a := ⟨P, 1, none⟩) hb).trans h.c1, (World.cell?_of_block (a := ⟨P, 2, none⟩) hb).trans h.c2, (World.cell?_of_block (a := ⟨P, 3, none⟩) hb).trans h.c3, fun j => (World.frozen?_of_block (a := ⟨P, j, none⟩) hb).trans (h.fr j), h.le, h.dm, h.sm⟩
theorem RPar.grown (h : RPar w P s i d b) (hb : Below w.heap.size w w') : RPar w' P s i d b := h.frame (hb.block P h.lt)
theorem RPar.drew (h : RPar w P s i d b) (q : Nat) : RPar (w.drewN q) P s i d b := ⟨h.c0, h.c1, h.c2, h.c3, h.fr, h.le, h.dm, h.sm⟩
theorem RPar.put1 (h : RPar w P s i d b) (j : Nat) (hj : j ≤ s.size) : RPar (w.setCell ⟨P, 1, none⟩ (.int .i64 (j : Int))) P s j d b :=
  ⟨(World.cell?_setCell_other _ _ _ _ (by simp)).trans h.c0, World.cell?_setCell_same _ _ _ h.c1, (World.cell?_setCell_other _ _ _ _ (by simp)).trans h.c2, (World.cell?_setCell_other _ _ _ _ (by simp)).trans h.c3, fun k => by rw [World.frozen?_setCell]; exact h.fr k, hj, h.dm, h.sm⟩
theorem RPar.put2 (h : RPar w P s i d b) (j : Nat) (hj : j ≤ 9) : RPar (w.setCell ⟨P, 2, none⟩ (.int .i64 (j : Int))) P s i j b :=
  ⟨(World.cell?_setCell_other _ _ _ _ (by simp)).trans h.c0, (World.cell?_setCell_other _ _ _ _ (by simp)).trans h.c1, World.cell?_setCell_same _ _ _ h.c2, (World.cell?_setCell_other _ _ _ _ (by simp)).trans h.c3, fun k => by rw [World.frozen?_setCell]; exact h.fr k, h.le, hj, h.sm⟩
theorem RPar.put3 (h : RPar w P s i d b) (b' : Bool) : RPar (w.setCell ⟨P, 3, none⟩ (.bool b')) P s i d b' :=
  ⟨(World.cell?_setCell_other _ _ _ _ (by simp)).trans h.c0, (World.cell?_setCell_other _ _ _ _ (by simp)).trans h.c1, (World.cell?_setCell_other _ _ _ _ (by simp)).trans h.c2, World.cell?_setCell_same _ _ _ h.c3, fun k => by rw [World.frozen?_setCell]; exact h.fr k, h.le, h.dm, h.sm⟩
end
set_option maxRecDepth 100000 in
set_option maxHeartbeats 1000000 in
theorem rmore_any (P i d : Nat) (s : ByteArray) (b : Bool) (w : World) (h : RPar w P s i d b) :
    Calls Tryd.prog 90 #[.pointer (some ⟨P, 0, none⟩)] w fun e w' => e = .returned (.bool (!b && decide (i < s.size))) ∧ ∃ n, w' = w.drewN n := by
  have c0 := h.c0
  have c1 := h.c1
  have c3 := h.c3
  have hle := h.le
  have hsm := h.sm
  clear h
  obtain ⟨L, hL⟩ : ∃ L, s.size = L := ⟨_, rfl⟩
  have R : Hid (decide (i < s.size) = decide (i < L)) := by show _ = _; rw [hL]
  cases b
  · have R2 : Hid ((!false && decide (i < s.size)) = decide (i < L)) := by show _ = _; rw [R.out]; rfl
    clear R
    go_enter Tryd.func90, Tryd.ntmps90
    go_wp2_with fail
    go_quiet (fail)
    go_wp2
    go_ret
    exact ⟨by rw [R2.out]; rfl, _, rfl⟩
  · clear R
    go_enter Tryd.func90, Tryd.ntmps90
    go_wp2_with fail
    go_quiet (fail)
    go_wp2
    go_ret
    exact ⟨rfl, _, rfl⟩
set_option maxRecDepth 100000 in
set_option maxHeartbeats 1000000 in
theorem rspecial_any (c : Nat) (hc : c < 256) (w : World) : Calls Tryd.prog 124 #[.int .u8 (c : Int)] w fun e w' => e = .returned (.bool (special c)) ∧ w = w' := by
  by_cases h : special c = true
  · have R := Lib.hid h
    have hh : c = 124 ∨ c = 42 ∨ c = 43 ∨ c = 63 ∨ c = 40 ∨ c = 41 ∨ c = 91 ∨ c = 93 ∨ c = 46 ∨ c = 92 := by simp [special] at h; omega
    clear h
    rcases hh with rfl | rfl | rfl | rfl | rfl | rfl | rfl | rfl | rfl | rfl <;>
    · go_enter Tryd.func124, Tryd.ntmps124
      go_wp2
      go_ret
      exact ⟨by rw [R.out]; rfl, rfl⟩
  · have hf : special c = false := by simpa using h
    have R := Lib.hid hf
    simp only [special, Bool.or_eq_false_iff, beq_eq_false_iff_ne] at hf
    obtain ⟨⟨⟨⟨⟨⟨⟨⟨⟨h1, h2⟩, h3⟩, h4⟩, h5⟩, h6⟩, h7⟩, h8⟩, h9⟩, h10⟩ := hf
    have e1 : ((c : Int) == 124) = false := by simp; omega
    have e2 : ((c : Int) == 42) = false := by simp; omega
    have e3 : ((c : Int) == 43) = false := by simp; omega
    have e4 : ((c : Int) == 63) = false := by simp; omega
    have e5 : ((c : Int) == 40) = false := by simp; omega
    have e6 : ((c : Int) == 41) = false := by simp; omega
    have e7 : ((c : Int) == 91) = false := by simp; omega
    have e8 : ((c : Int) == 93) = false := by simp; omega
    have e9 : ((c : Int) == 46) = false := by simp; omega
    have e10 : ((c : Int) == 92) = false := by simp; omega
    clear h h1 h2 h3 h4 h5 h6 h7 h8 h9 h10
    go_enter Tryd.func124, Tryd.ntmps124
    go_wp2
    go_ret
    exact ⟨by rw [R.out]; rfl, rfl⟩
set_option maxRecDepth 100000 in
set_option maxHeartbeats 1000000 in
theorem rquoted_any (c : Nat) (hc : c < 256) (w : World) : Calls Tryd.prog 120 #[.int .u8 (c : Int)] w fun e w' => e = .returned (.bool (quotable c)) ∧ w = w' := by
  have CS := Lib.hid (rspecial_any c hc w)
  have Q : Hid (quotable c = (special c || c == 94 || c == 45)) := rfl
  cases hs : special c
  · rw [hs] at CS Q
    have e1 : ((c : Int) == 94) = (c == 94) := by rw [Bool.eq_iff_iff]; simp; omega
    have e2 : ((c : Int) == 45) = (c == 45) := by rw [Bool.eq_iff_iff]; simp; omega
    cases h1 : (c == 94)
    · rw [h1] at e1 Q
      have Q2 : Hid (quotable c = (c == 45)) := Q.out
      generalize (c == 45) = bb at *
      clear h1 hs Q
      go_enter Tryd.func120, Tryd.ntmps120
      go_wp2_with fail
      refine CS.out.mono ?_
      rintro e w' ⟨rfl, rfl⟩
      clear CS
      go_wp2
      go_ret
      exact ⟨by rw [Q2.out]; rfl, rfl⟩
    · rw [h1] at e1 Q
      have Q2 : Hid (quotable c = true) := Q.out
      clear h1 hs Q e2
      go_enter Tryd.func120, Tryd.ntmps120
      go_wp2_with fail
      refine CS.out.mono ?_
      rintro e w' ⟨rfl, rfl⟩
      clear CS
      go_wp2
      go_ret
      exact ⟨by rw [Q2.out]; rfl, rfl⟩
  · rw [hs] at CS Q
    have Q2 : Hid (quotable c = true) := by show _ = _; rw [Q.out]; simp
    clear hs Q
    go_enter Tryd.func120, Tryd.ntmps120
    go_wp2_with fail
    refine CS.out.mono ?_
    rintro e w' ⟨rfl, rfl⟩
    clear CS
    go_wp2
    go_ret
    exact ⟨by rw [Q2.out]; rfl, rfl⟩
set_option maxRecDepth 100000 in
set_option maxHeartbeats 1000000 in
theorem rfail_any (P i d : Nat) (s : ByteArray) (b : Bool) (w : World) (h : RPar w P s i d b) :
    Calls Tryd.prog 121 #[.pointer (some ⟨P, 0, none⟩)] w fun e w' => e = .returned (.tuple #[]) ∧ Stp P w w' ∧ RPar w' P s i d true := by
  have H := Lib.hid (h.put3 true)
  have c3 := h.c3
  have f3 := h.fr 3
  clear h
  go_enter Tryd.func121, Tryd.ntmps121
  go_wp2
  go_end0
  exact ⟨rfl, Stp.put _ _ _, H.out⟩
section
variable {W : World} {P i d : Nat} {s : ByteArray}
theorem rmore_t (h : RPar W P s i d false) (hi : i < s.size) : Calls Tryd.prog 90 #[.pointer (some ⟨P, 0, none⟩)] W fun e w' => e = .returned (.bool true) ∧ ∃ n, w' = W.drewN n :=
  (rmore_any P i d s false W h).mono fun e w' ⟨h1, h2⟩ => ⟨by rw [h1, decide_eq_true hi]; rfl, h2⟩
theorem rmore_f (h : RPar W P s i d false) (hi : s.size ≤ i) : Calls Tryd.prog 90 #[.pointer (some ⟨P, 0, none⟩)] W fun e w' => e = .returned (.bool false) ∧ ∃ n, w' = W.drewN n :=
  (rmore_any P i d s false W h).mono fun e w' ⟨h1, h2⟩ => ⟨by rw [h1, decide_eq_false (by omega)]; rfl, h2⟩
theorem rmore_b (h : RPar W P s i d true) : Calls Tryd.prog 90 #[.pointer (some ⟨P, 0, none⟩)] W fun e w' => e = .returned (.bool false) ∧ ∃ n, w' = W.drewN n :=
  (rmore_any P i d s true W h).mono fun e w' ⟨h1, h2⟩ => ⟨by rw [h1]; rfl, h2⟩
end
/-- What member hands back. -/
def RMem (w : World) (P : Nat) (s : ByteArray) (i d : Nat) (e : Ending) (w' : World) : Prop :=
  ∃ c : Nat, c < 256 ∧ e = .returned (.int .u8 (c : Int)) ∧ Stp P w w' ∧ ((∃ j, byte1 (txt8 s) inside i = some (c, j) ∧ RPar w' P s j d false) ∨ (byte1 (txt8 s) inside i = none ∧ ∃ j, RPar w' P s j d true))
set_option maxRecDepth 100000 in
set_option maxHeartbeats 4000000 in
theorem rmember_any (P i d : Nat) (s : ByteArray) (w : World) (h : RPar w P s i d false) :
    Calls Tryd.prog 128 #[.pointer (some ⟨P, 0, none⟩)] w (RMem w P s i d) := by
  have H := Lib.hid h
  have hle := h.le
  have hsm := h.sm
  obtain ⟨L, hL⟩ : ∃ L, s.size = L := ⟨_, rfl⟩
  have FL := Lib.hid (fun i W (h : RPar W P s i d false) => rfail_any P i d s false W h)
  by_cases hi : i < L
  · have MT := Lib.hid (fun W (h : RPar W P s i d false) => rmore_t h (by omega))
    have TX := fun W => txt8_at W s i (by omega)
    have hpk : pk (txt8 s) i = (txt8 s).getD i 0 := pk_lt (by omega)
    obtain ⟨c, hc⟩ : ∃ c, (txt8 s).getD i 0 = c := ⟨_, rfl⟩
    have hcb : c < 256 := by rw [← hc]; exact txt8_lt s i
    simp only [hc] at TX
    rw [hc] at hpk
    obtain ⟨i1, hi1⟩ : ∃ i1, i + 1 = i1 := ⟨_, rfl⟩
    have hw1 : IntKind.i64.wrap ((i : Int) + 1) = (i1 : Int) := by rw [IntKind.wrap_i64]; omega
    have PU := Lib.hid (fun W (h : RPar W P s i d false) => h.put1 i1 (by omega))
    by_cases h92 : c = 92
    · have hz92 : ((c : Int) == 92) = true := by simp; omega
      have e0 : byte1 (txt8 s) inside i = if quotable (pk (txt8 s) i1) then some (pk (txt8 s) i1, i + 2) else none := by
        unfold byte1
        rw [if_pos (hpk.trans h92), hi1]
      by_cases h1 : i1 < L
      · have TX2 := fun W => txt8_at W s i1 (by omega)
        have hpk1 : pk (txt8 s) i1 = (txt8 s).getD i1 0 := pk_lt (by omega)
        obtain ⟨c2, hc2⟩ : ∃ c2, (txt8 s).getD i1 0 = c2 := ⟨_, rfl⟩
        have hcb2 : c2 < 256 := by rw [← hc2]; exact txt8_lt s i1
        simp only [hc2] at TX2
        rw [hc2] at hpk1
        rw [hpk1] at e0
        have M2 := Lib.hid (fun W (h : RPar W P s i1 d false) => rmore_t h (by omega))
        obtain ⟨q, hq⟩ : ∃ q, quotable c2 = q := ⟨_, rfl⟩
        have QC := Lib.hid (fun W => (rquoted_any c2 hcb2 W).mono fun e w' h => And.intro h.1 h.2.symm)
        rw [hq] at QC e0
        obtain ⟨i2, hi2⟩ : ∃ i2, i1 + 1 = i2 := ⟨_, rfl⟩
        have hw2 : IntKind.i64.wrap ((i1 : Int) + 1) = (i2 : Int) := by rw [IntKind.wrap_i64]; omega
        have hw3 : IntKind.i64.wrap ((i2 : Int) - 1) = (i1 : Int) := by rw [IntKind.wrap_i64]; omega
        have hw4 : (i2 : Int) - 1 = (i1 : Int) := by omega
        have PU2 := Lib.hid (fun W (h : RPar W P s i1 d false) => h.put1 i2 (by omega))
        cases q
        · have R : Hid (byte1 (txt8 s) inside i = none) := e0
          clear e0 h92 hpk hpk1 hc hc2 hi1 hq hi2 PU2 hw2 hw3 hw4
          clear h
          have c0 := H.out.c0
          have c1 := H.out.c1
          have f1 := H.out.fr 1
          go_enter Tryd.func128, Tryd.ntmps128
          go_wp2_with fail
          refine (MT.out _ H.out).mono ?_
          rintro e W1 ⟨rfl, n1, rfl⟩
          go_wp2_with fail
          go_quiet (fail)
          go_wp2_with fail
          have H1 : Hid (Stp P w ((w.drewN (n1 + nq)).setCell ⟨P, 1, none⟩ (.int .i64 (i1 : Int))) ∧ RPar ((w.drewN (n1 + nq)).setCell ⟨P, 1, none⟩ (.int .i64 (i1 : Int))) P s i1 d false) := ⟨((Stp.refl P w).drew (n1 + nq)).trans (Stp.put _ _ _), PU.out _ (H.out.drew _)⟩
          clear c0 c1 f1
          generalize (w.drewN (n1 + nq)).setCell ⟨P, 1, none⟩ (.int .i64 (i1 : Int)) = w1 at *
          have c0 := H1.out.2.c0
          have c1 := H1.out.2.c1
          have f1 := H1.out.2.fr 1
          go_quiet (first | (go_at_call 90; exact Calls.quiet_of (M2.out _ (H1.out.2.drew _))) | (go_at_call 120; exact Calls.quiet_of_same (QC.out _)))
          go_wp2_with fail
          refine (FL.out i1 _ (H1.out.2.drew _)).mono ?_
          rintro e W2 ⟨rfl, S1, P1⟩
          have H2 := Lib.hid (And.intro S1 P1)
          clear S1 P1
          go_wp2
          go_ret
          exact ⟨0, by omega, rfl, (H1.out.1.drew _).trans H2.out.1, .inr ⟨R.out, i1, H2.out.2⟩⟩
        · have R : Hid (byte1 (txt8 s) inside i = some (c2, i2)) := by show _ = _; rw [e0, ← hi2, ← hi1]; rfl
          clear e0 h92 hpk hpk1 hc hc2 hi1 hq hi2
          clear h
          have c0 := H.out.c0
          have c1 := H.out.c1
          have f1 := H.out.fr 1
          go_enter Tryd.func128, Tryd.ntmps128
          go_wp2_with fail
          refine (MT.out _ H.out).mono ?_
          rintro e W1 ⟨rfl, n1, rfl⟩
          go_wp2_with fail
          go_quiet (fail)
          go_wp2_with fail
          have H1 : Hid (Stp P w ((w.drewN (n1 + nq)).setCell ⟨P, 1, none⟩ (.int .i64 (i1 : Int))) ∧ RPar ((w.drewN (n1 + nq)).setCell ⟨P, 1, none⟩ (.int .i64 (i1 : Int))) P s i1 d false) := ⟨((Stp.refl P w).drew (n1 + nq)).trans (Stp.put _ _ _), PU.out _ (H.out.drew _)⟩
          clear c0 c1 f1
          generalize (w.drewN (n1 + nq)).setCell ⟨P, 1, none⟩ (.int .i64 (i1 : Int)) = w1 at *
          have c0 := H1.out.2.c0
          have c1 := H1.out.2.c1
          have f1 := H1.out.2.fr 1
          go_quiet (first | (go_at_call 90; exact Calls.quiet_of (M2.out _ (H1.out.2.drew _))) | (go_at_call 120; exact Calls.quiet_of_same (QC.out _)))
          go_wp2_with fail
          have H3 : Hid (Stp P w ((w1.drewN nq).setCell ⟨P, 1, none⟩ (.int .i64 (i2 : Int))) ∧ RPar ((w1.drewN nq).setCell ⟨P, 1, none⟩ (.int .i64 (i2 : Int))) P s i2 d false) := ⟨(H1.out.1.drew nq).trans (Stp.put _ _ _), PU2.out _ (H1.out.2.drew _)⟩
          clear c0 c1 f1
          generalize (w1.drewN nq).setCell ⟨P, 1, none⟩ (.int .i64 (i2 : Int)) = w2 at *
          have c0 := H3.out.2.c0
          have c1 := H3.out.2.c1
          have f1 := H3.out.2.fr 1
          go_quiet (fail)
          go_wp2
          go_ret
          exact ⟨c2, hcb2, rfl, H3.out.1.drew _, .inl ⟨i2, R.out, H3.out.2.drew _⟩⟩
      · have M2 := Lib.hid (fun W (h : RPar W P s i1 d false) => rmore_f h (by omega))
        have R : Hid (byte1 (txt8 s) inside i = none) := by show _ = _; rw [e0, pk_end (by omega)]; rfl
        clear e0 h92 hpk hc hi1
        clear h
        have c0 := H.out.c0
        have c1 := H.out.c1
        have f1 := H.out.fr 1
        go_enter Tryd.func128, Tryd.ntmps128
        go_wp2_with fail
        refine (MT.out _ H.out).mono ?_
        rintro e W1 ⟨rfl, n1, rfl⟩
        go_wp2_with fail
        go_quiet (fail)
        go_wp2_with fail
        have H1 : Hid (Stp P w ((w.drewN (n1 + nq)).setCell ⟨P, 1, none⟩ (.int .i64 (i1 : Int))) ∧ RPar ((w.drewN (n1 + nq)).setCell ⟨P, 1, none⟩ (.int .i64 (i1 : Int))) P s i1 d false) := ⟨((Stp.refl P w).drew (n1 + nq)).trans (Stp.put _ _ _), PU.out _ (H.out.drew _)⟩
        clear c0 c1 f1
        generalize (w.drewN (n1 + nq)).setCell ⟨P, 1, none⟩ (.int .i64 (i1 : Int)) = w1 at *
        have c0 := H1.out.2.c0
        have c1 := H1.out.2.c1
        have f1 := H1.out.2.fr 1
        go_quiet ((go_at_call 90; exact Calls.quiet_of (M2.out _ (H1.out.2.drew _))))
        go_wp2_with fail
        refine (FL.out i1 _ (H1.out.2.drew _)).mono ?_
        rintro e W2 ⟨rfl, S1, P1⟩
        have H2 := Lib.hid (And.intro S1 P1)
        clear S1 P1
        go_wp2
        go_ret
        exact ⟨0, by omega, rfl, (H1.out.1.drew _).trans H2.out.1, .inr ⟨R.out, i1, H2.out.2⟩⟩
    · have hz92 : ((c : Int) == 92) = false := by simp; omega
      have e0 : byte1 (txt8 s) inside i = if inside c = true then none else some (c, i1) := by
        unfold byte1
        rw [if_neg (by rw [hpk]; exact h92), hpk, ← hi1]
        by_cases hq : inside c = true
        · rw [if_pos (.inr hq), if_pos hq]
        · rw [if_neg (fun h => by rcases h with h | h; omega; exact hq h), if_neg hq]
      have ei : inside c = (c == 93 || c == 91 || c == 94 || c == 45) := by unfold inside; rw [(by simpa using h92 : (c == 92) = false)]; rfl
      by_cases hq : inside c = true
      · have R : Hid (byte1 (txt8 s) inside i = none) := by show _ = _; rw [e0, if_pos hq]
        have hh : c = 93 ∨ c = 91 ∨ c = 94 ∨ c = 45 := by rw [ei] at hq; simpa [or_assoc] using hq
        clear e0 h92 hpk hc hi1 ei hq hz92
        rcases hh with rfl | rfl | rfl | rfl <;>
        · clear h
          have c0 := H.out.c0
          have c1 := H.out.c1
          have f1 := H.out.fr 1
          go_enter Tryd.func128, Tryd.ntmps128
          go_wp2_with fail
          refine (MT.out _ H.out).mono ?_
          rintro e W1 ⟨rfl, n1, rfl⟩
          go_wp2_with fail
          go_quiet (fail)
          go_wp2_with fail
          have H1 : Hid (Stp P w ((w.drewN (n1 + nq)).setCell ⟨P, 1, none⟩ (.int .i64 (i1 : Int))) ∧ RPar ((w.drewN (n1 + nq)).setCell ⟨P, 1, none⟩ (.int .i64 (i1 : Int))) P s i1 d false) := ⟨((Stp.refl P w).drew (n1 + nq)).trans (Stp.put _ _ _), PU.out _ (H.out.drew _)⟩
          clear c0 c1 f1
          generalize (w.drewN (n1 + nq)).setCell ⟨P, 1, none⟩ (.int .i64 (i1 : Int)) = w1 at *
          go_wp2_with fail
          refine (FL.out i1 _ H1.out.2).mono ?_
          rintro e W2 ⟨rfl, S1, P1⟩
          have H2 := Lib.hid (And.intro S1 P1)
          clear S1 P1
          go_wp2
          go_ret
          exact ⟨_, by omega, rfl, H1.out.1.trans H2.out.1, .inr ⟨R.out, i1, H2.out.2⟩⟩
      · have R : Hid (byte1 (txt8 s) inside i = some (c, i1)) := by show _ = _; rw [e0, if_neg hq]
        have z1 : ((c : Int) == 93) = false := by simp; intro h; apply hq; rw [ei]; simp; omega
        have z2 : ((c : Int) == 91) = false := by simp; intro h; apply hq; rw [ei]; simp; omega
        have z3 : ((c : Int) == 94) = false := by simp; intro h; apply hq; rw [ei]; simp; omega
        have z4 : ((c : Int) == 45) = false := by simp; intro h; apply hq; rw [ei]; simp; omega
        clear e0 h92 hpk hc hi1 ei hq
        clear h
        have c0 := H.out.c0
        have c1 := H.out.c1
        have f1 := H.out.fr 1
        go_enter Tryd.func128, Tryd.ntmps128
        go_wp2_with fail
        refine (MT.out _ H.out).mono ?_
        rintro e W1 ⟨rfl, n1, rfl⟩
        go_wp2_with fail
        go_quiet (fail)
        go_wp2_with fail
        have H1 : Hid (Stp P w ((w.drewN (n1 + nq)).setCell ⟨P, 1, none⟩ (.int .i64 (i1 : Int))) ∧ RPar ((w.drewN (n1 + nq)).setCell ⟨P, 1, none⟩ (.int .i64 (i1 : Int))) P s i1 d false) := ⟨((Stp.refl P w).drew (n1 + nq)).trans (Stp.put _ _ _), PU.out _ (H.out.drew _)⟩
        clear c0 c1 f1
        generalize (w.drewN (n1 + nq)).setCell ⟨P, 1, none⟩ (.int .i64 (i1 : Int)) = w1 at *
        go_wp2
        go_ret
        exact ⟨c, hcb, rfl, H1.out.1, .inl ⟨i1, R.out, H1.out.2⟩⟩
  · have MF := Lib.hid (fun W (h : RPar W P s i d false) => rmore_f h (by omega))
    have R : Hid (byte1 (txt8 s) inside i = none) := by
      show _ = _
      unfold byte1
      rw [pk_end (by omega)]
      rfl
    clear h
    go_enter Tryd.func128, Tryd.ntmps128
    go_wp2_with fail
    refine (MF.out _ H.out).mono ?_
    rintro e W1 ⟨rfl, n1, rfl⟩
    go_wp2_with fail
    refine (FL.out i _ (H.out.drew _)).mono ?_
    rintro e W2 ⟨rfl, S1, P1⟩
    have H2 := Lib.hid (And.intro (((Stp.refl P w).drew n1).trans S1) P1)
    clear S1 P1
    go_wp2
    go_ret
    exact ⟨0, by omega, rfl, H2.out.1, .inr ⟨R.out, i, H2.out.2⟩⟩
/-- On the way through a function that has the reference's parser: its result's own block is as it was laid. -/
structure RAt (w : World) (P : Nat) (s : ByteArray) (i d : Nat) (b : Bool) (row : Array Value) (ty : TypeId) (W : World) : Prop where
  st : Stp P w W
  pa : RPar W P s i d b
  lt : P < w.heap.size
  r : W.heap[w.heap.size]? = some (.cells row ty (0, 0))
section
variable {w W W' : World} {P i d j d' : Nat} {s : ByteArray} {b b' : Bool} {row : Array Value} {ty : TypeId}
theorem RAt.start (h : RPar w P s i d b) (row : Array Value) (ty : TypeId) : RAt w P s i d b row ty (w.alloc (.cells row ty)) :=
  ⟨Stp.of ((Below.refl _ _).alloc (Nat.le_refl _) _), h.grown ((Below.refl _ _).alloc (Nat.le_refl _) _), h.lt, heap_alloc_new w _⟩
theorem RAt.big (h : RAt w P s i d b row ty W) : w.heap.size + 1 ≤ W.heap.size := (Array.getElem?_eq_some_iff.1 h.r).1
theorem RAt.step (h : RAt w P s i d b row ty W) (st : Stp P W W') (pa : RPar W' P s j d' b') : RAt w P s j d' b' row ty W' :=
  ⟨h.st.trans st, pa, h.lt, (st.block _ (by have := h.big; omega) (by have := h.lt; omega)).trans h.r⟩
theorem RAt.grow (h : RAt w P s i d b row ty W) (hb : Below W.heap.size W W') : RAt w P s i d b row ty W' := h.step (Stp.of hb) (h.pa.grown hb)
theorem RAt.drew (h : RAt w P s i d b row ty W) (q : Nat) : RAt w P s i d b row ty (W.drewN q) := h.step ((Stp.refl _ _).drew q) (h.pa.drew q)
theorem RAt.cell (h : RAt w P s i d b row ty W) {g k : Nat} {v : Value} (hg : w.heap.size < g) : RAt w P s i d b row ty (W.setCell ⟨g, k, none⟩ v) :=
  ⟨⟨h.st.os, h.st.tape, h.st.output, by simpa using h.st.size, fun q h1 h2 => (Below.heap_setCell _ _ _ _ (by show q ≠ g; omega)).trans (h.st.block q h1 h2)⟩, h.pa.frame (Below.heap_setCell _ _ _ _ (by show P ≠ g; have := h.lt; omega)), h.lt, (Below.heap_setCell _ _ _ _ (by show w.heap.size ≠ g; omega)).trans h.r⟩
theorem RAt.fin (h : RAt w P s i d b row ty W) (cs : Array Value) : Stp P w (W.setRow w.heap.size cs) ∧ RPar (W.setRow w.heap.size cs) P s i d b ∧ (W.setRow w.heap.size cs).heap[w.heap.size]? = some (.cells cs ty (0, 0)) :=
  ⟨⟨h.st.os, h.st.tape, h.st.output, by rw [setRow_size]; exact h.st.size, fun k h1 h2 => (setRow_other _ _ _ _ (by omega)).trans (h.st.block k h1 h2)⟩, h.pa.frame (setRow_other _ _ _ _ (by have := h.lt; omega)), setRow_heap _ _ _ _ _ _ h.r⟩
end
/-- What a part of the reference's parser hands back: a tree and where it ended, or any tree, and that it is no pattern. -/
def RRes (w : World) (P : Nat) (s : ByteArray) (d : Nat) (r : Option (Rx × Nat)) (e : Ending) (w' : World) : Prop :=
  ∃ v t, e = .returned v ∧ RxIn (fun b => w.heap.size ≤ b) w' v t ∧ Stp P w w' ∧ ((∃ j, r = some (t, j) ∧ RPar w' P s j d false) ∨ (r = none ∧ ∃ j d', RPar w' P s j d' true))
theorem rres_none {w W : World} {P j d d' : Nat} {s : ByteArray} {r : Option (Rx × Nat)} {cs : Array Value} {t : Rx} (hr : r = none) (h : RAt w P s j d' true zero6 60 W) (ht : RxIn (fun b => w.heap.size + 1 ≤ b) W (.agg cs) t) : RRes w P s d r (.returned (.agg cs)) (W.setRow w.heap.size cs) :=
  ⟨_, t, rfl, ht.frame (fun b hb => setRow_other _ _ _ _ (by omega)) (fun b _ hb => by omega), (h.fin _).1, .inr ⟨hr, j, d', (h.fin _).2.1⟩⟩
theorem rres_some {w W : World} {P j d : Nat} {s : ByteArray} {r : Option (Rx × Nat)} {cs : Array Value} {t : Rx} (hr : r = some (t, j)) (h : RAt w P s j d false zero6 60 W) (ht : RxIn (fun b => w.heap.size + 1 ≤ b) W (.agg cs) t) : RRes w P s d r (.returned (.agg cs)) (W.setRow w.heap.size cs) :=
  ⟨_, t, rfl, ht.frame (fun b hb => setRow_other _ _ _ _ (by omega)) (fun b _ hb => by omega), (h.fin _).1, .inl ⟨j, hr, (h.fin _).2.1⟩⟩
theorem leaf0 (B : Nat) (w : World) : RxIn (fun b => B ≤ b) w (.agg zero6) (.mk 0 0 0 0 0 []) := RxIn.leaf _ _ 0 0 0 0 0
theorem pow_wrap (c : Nat) : IntKind.u64.wrap (2 ^ (c % 64)) = ((2 ^ (c % 64) : Nat) : Int) := by
  have h2 : 2 ^ (c % 64) < 18446744073709551616 := Nat.pow_lt_pow_right (a := 2) (n := 64) (by omega) (by omega)
  have e2 : ((2 : Int) ^ (c % 64)) = ((2 ^ (c % 64) : Nat) : Int) := by simp
  rw [e2]
  generalize 2 ^ (c % 64) = q at *
  rw [IntKind.wrap_u64]; omega
/-- Where one lays its bit. -/
theorem one_start (w : World) : ∀ W, W = (w.alloc (.cells #[.int .u64 0, .int .u64 0, .int .u64 0, .int .u64 0] 57)).alloc (.cells #[.int .u64 0, .int .u64 0, .int .u64 0, .int .u64 0] 57) →
    Below w.heap.size w W ∧ W.heap[w.heap.size]? = some (.cells zero4 57 (0, 0)) ∧ Arr W (w.heap.size + 1) none4 := by
  rintro W rfl
  have e1 := heap_alloc_new w (.cells zero4 57)
  have b1 : Below w.heap.size w (w.alloc (.cells zero4 57)) := (Below.refl _ _).alloc (Nat.le_refl _) _
  have z1 : (w.alloc (.cells zero4 57)).heap.size = w.heap.size + 1 := by simp
  unfold zero4 at *
  generalize w.alloc (.cells #[.int .u64 0, .int .u64 0, .int .u64 0, .int .u64 0] 57) = w1 at *
  have e2 := heap_alloc_new w1 (.cells #[.int .u64 0, .int .u64 0, .int .u64 0, .int .u64 0] 57)
  rw [z1] at e2
  exact ⟨b1.alloc (by omega) _, (heap_alloc_old w1 _ (by omega)).trans e1, Arr.of (W := none4) e2⟩
set_option maxRecDepth 100000 in
set_option maxHeartbeats 2000000 in
theorem rone_any (c : Nat) (hc : c < 256) (w : World) :
    Calls Tryd.prog 122 #[.int .u8 (c : Int)] w fun e w' => e = .returned (set4 (put none4 c)) ∧ Below w.heap.size w w' := by
  obtain ⟨V, hV⟩ : ∃ V, put none4 c = V := ⟨_, rfl⟩
  rw [hV]
  have HV := Lib.hid hV
  clear hV
  have O1 := Lib.hid (one_start w _ rfl)
  have q1 : IntKind.u8.wrap ((c : Int) / 64) = (c : Int) / 64 := by rw [IntKind.wrap_u8]; omega
  have q2 : IntKind.u8.wrap ((c : Int) % 64) = (c : Int) % 64 := by rw [IntKind.wrap_u8]; omega
  have q9 : (c : Int).tmod 64 = (c : Int) % 64 := Int.tmod_eq_emod_of_nonneg (by omega)
  have q3 : (c : Int) / 64 < 4 := by omega
  have q4 : (0 : Int) ≤ (c : Int) / 64 := by omega
  have q5 : ((c : Int) / 64).toNat = c / 64 := by omega
  have q6 : (0 : Int) ≤ (c : Int) % 64 := by omega
  have q7 : ((c : Int) % 64).toNat = c % 64 := by omega
  have q8 : (c : Int) % 64 < 64 := by omega
  have EK := pow_wrap c
  have EP := Lib.hid (show ((2 : Int) ^ (c % 64)) = ((2 ^ (c % 64) : Nat) : Int) by simp)
  have PF : Hid (2 ^ (c % 64) < 18446744073709551616) := Nat.pow_lt_pow_right (a := 2) (n := 64) (by omega) (by omega)
  go_enter Tryd.func122, Tryd.ntmps122
  go_upto_region 2 with fail
  generalize (w.alloc (.cells #[.int .u64 0, .int .u64 0, .int .u64 0, .int .u64 0] 57)).alloc (.cells #[.int .u64 0, .int .u64 0, .int .u64 0, .int .u64 0] 57) = w1 at *
  have c1 := O1.out.2.2.c (c / 64) (by omega)
  have f1 := O1.out.2.2.f (c / 64)
  go_upto_region 3 with fail
  clear c1 f1 q1 q2 q3 q4 q5 q6 q7 q8 q9 EK
  rw [EP.out]
  have A2 := Lib.hid (O1.out.2.2.put (W' := V) (c / 64) (2 ^ (c % 64)) (by omega) (fun j hj => by rw [← HV.out]; unfold put; split <;> simp [none4]))
  have H2 : Hid ((w1.setCell ⟨w.heap.size + 1, c / 64, none⟩ (.int .u64 ((2 ^ (c % 64) : Nat) : Int))).heap[w.heap.size]? = some (.cells zero4 57 (0, 0))) := (Below.heap_setCell _ _ _ _ (by simp)).trans O1.out.2.1
  have B2 := Lib.hid (O1.out.1.setCell (p := ⟨w.heap.size + 1, c / 64, none⟩) (by simp) (.int .u64 ((2 ^ (c % 64) : Nat) : Int)))
  clear O1 PF EP
  generalize w1.setCell ⟨w.heap.size + 1, c / 64, none⟩ (.int .u64 ((2 ^ (c % 64) : Nat) : Int)) = w2 at *
  have x0 := A2.out.c 0 (by omega)
  have x1 := A2.out.c 1 (by omega)
  have x2 := A2.out.c 2 (by omega)
  have x3 := A2.out.c 3 (by omega)
  go_wp2_with (refine wpList_store_row rfl 57 (.tmp 2) (.tmp 11) rfl w.heap.size #[.int .u64 (V 0 : Int), .int .u64 (V 1 : Int), .int .u64 (V 2 : Int), .int .u64 (V 3 : Int)] rfl rfl 57 _ H2.out Tryd.size4 rfl (by simp [Value.oneCell']) ?_)
  refine bodyPost_ret (results_cell_row rfl _ _ w.heap.size 57 _ (0, 0) _ rfl (setRow_heap _ _ _ _ _ _ H2.out) Tryd.underlying57 rfl Tryd.size4) rfl ⟨rfl, ?_⟩
  have b := B2.out
  exact ⟨b.os, b.tape, b.output, by rw [setRow_size]; exact b.size, fun q hq => (setRow_other _ _ _ _ (by omega)).trans (b.block q hq)⟩
/-- What is told of a part of the reference's parser. -/
def RTells (f : FuncId) (P : Nat) (s : ByteArray) (d : Nat) (G : Nat → Option (Rx × Nat)) (pre : Nat → Prop) : Prop := ∀ i W, pre i → RPar W P s i d false → Calls Tryd.prog f #[.pointer (some ⟨P, 0, none⟩)] W (RRes W P s d (G i))
/-- The loop of class: so many members, so many rounds left. -/
def cls (S : List Nat) (n m : Nat) (W : Nat → Nat) (j : Nat) : Option ((Nat → Nat) × Nat) := if n = 0 ∧ pk S j = 93 then none else items S (m + 1) W j
theorem item_at {S : List Nat} {j : Nat} (h : pk S j = 93 ∨ pk S j = 256) : item S j = none := by
  unfold item
  have : byte1 S inside j = none := by
    unfold byte1
    rcases h with h | h <;> (rw [h]; rfl)
  rw [this]
theorem cls_start (S : List Nat) (m j : Nat) : cls S 0 m none4 j = cont S m none4 (item S j) := by
  unfold cls
  by_cases h : pk S j = 93
  · rw [if_pos ⟨rfl, h⟩, item_at (.inl h)]; rfl
  · rw [if_neg (fun e => h e.2), items_step h]
theorem cls_go {S : List Nat} {n m j lo hi k : Nat} {W : Nat → Nat} (h : ¬ pk S j = 93) (hi2 : item S j = some (lo, hi, k)) : cls S n (m + 1) W j = cls S (n + 1) m (span W lo (hi + 1 - lo)) k := by
  unfold cls
  rw [if_neg (fun e => h e.2), if_neg (fun e => by omega), items_step h, hi2, span_join W]
  rfl
theorem cls_no {S : List Nat} {n m j : Nat} {W : Nat → Nat} (h : ¬ pk S j = 93) (hi2 : item S j = none) : cls S n m W j = none := by
  unfold cls
  rw [if_neg (fun e => h e.2), items_step h, hi2]
  rfl
/-- On the way through class: the parser and the set so far. -/
structure RSt (w : World) (P : Nat) (s : ByteArray) (i d : Nat) (b : Bool) (g : Nat) (W : Nat → Nat) (wr : World) : Prop where
  ra : RAt w P s i d b zero6 60 wr
  ar : Arr wr g W
  hg : w.heap.size < g
section
variable {w wr w' : World} {P i j d g : Nat} {s : ByteArray} {b b' : Bool} {W V : Nat → Nat}
theorem RSt.pg (h : RSt w P s i d b g W wr) : P < g := by have := h.hg; have := h.ra.lt; omega
theorem RSt.step (h : RSt w P s i d b g W wr) (st : Stp P wr w') (pa : RPar w' P s j d b') : RSt w P s j d b' g W w' := ⟨h.ra.step st pa, h.ar.frame (st.block g h.ar.lt (by have := h.pg; omega)), h.hg⟩
theorem RSt.drew (h : RSt w P s i d b g W wr) (q : Nat) : RSt w P s i d b g W (wr.drewN q) := h.step ((Stp.refl _ _).drew q) (h.ra.pa.drew q)
theorem RSt.put1 (h : RSt w P s i d b g W wr) (j : Nat) (hj : j ≤ s.size) : RSt w P s j d b g W (wr.setCell ⟨P, 1, none⟩ (.int .i64 (j : Int))) := h.step (Stp.put _ _ _) (h.ra.pa.put1 j hj)
theorem RSt.cell (h : RSt w P s i d b g W wr) (k x : Nat) (hk : k < 4) (e : ∀ j, j < 4 → V j = if j = k then x else W j) : RSt w P s i d b g V (wr.setCell ⟨g, k, none⟩ (.int .u64 (x : Int))) := ⟨h.ra.cell h.hg, h.ar.put k x hk e, h.hg⟩
end
/-- What the loop of class keeps. -/
def CInv (w : World) (P : Nat) (s : ByteArray) (d g : Nat) (r : Option ((Nat → Nat) × Nat)) (m n : Nat) (wr : World) : Prop :=
  ∃ j b W, RSt w P s j d b g W wr ∧ Fits4 W ∧ n + m ≤ 42 ∧ (if b = true then r = none else cls (txt8 s) n m W j = r ∧ s.size < j + m)
/-- Behind an item's second byte. -/
def RItem (S : List Nat) (j lo hi k : Nat) (b : Bool) : Prop := (b = true ∧ item S j = none) ∨ (b = false ∧ j < k ∧ item S j = if hi < lo then none else some (lo, hi, k))
set_option maxRecDepth 100000 in
set_option maxHeartbeats 16000000 in
theorem rclass_any (P d : Nat) (s : ByteArray) : RTells 123 P s d (class1 (txt8 s) 42) (fun _ => True) := by
  intro i w _ h
  have H := Lib.hid (RAt.start h zero6 60)
  have hle := h.le
  have hsm := h.sm
  clear h
  unfold zero6 at H
  obtain ⟨L, hL⟩ : ∃ L, s.size = L := ⟨_, rfl⟩
  obtain ⟨nb, hnb⟩ : ∃ nb, nb = decide (pk (txt8 s) i = 94) := ⟨_, rfl⟩
  obtain ⟨i2, hi2⟩ : ∃ i2, i2 = if pk (txt8 s) i = 94 then i + 1 else i := ⟨_, rfl⟩
  have CE := Lib.hid (class_eq (txt8 s) 42 i nb i2 hnb hi2)
  rw [← cls_start] at CE
  obtain ⟨r, hr⟩ : ∃ r, cls (txt8 s) 0 42 none4 i2 = r := ⟨_, rfl⟩
  rw [hr] at CE
  have HR := Lib.hid hr
  have hi2b : i ≤ i2 ∧ i2 ≤ L := by
    rw [hi2]
    by_cases h : pk (txt8 s) i = 94
    · rw [if_pos h]; have := pk_in (s := s) (i := i) (by omega); omega
    · rw [if_neg h]; omega
  have HNB := Lib.hid (And.intro hnb hi2)
  clear hr hi2 hnb
  go_enter Tryd.func123, Tryd.ntmps123
  go_upto_region 1 with fail
  generalize w.alloc (.cells #[.int .i64 0, .int .u64 0, .int .u64 0, .int .u64 0, .int .u64 0, .slice none 0 0] 60) = w1 at *
  go_cut [3] from 10 (fun nv wx => nv = .bool nb ∧ Hid (RAt w P s i d false zero6 60 wx))
  case first =>
    have c0 := H.out.pa.c0
    have c1 := H.out.pa.c1
    by_cases hi : i < L
    · have MT := Lib.hid (fun W (h : RPar W P s i d false) => rmore_t h (by omega))
      have TX := fun W => txt8_at W s i (by omega)
      have hpk : pk (txt8 s) i = (txt8 s).getD i 0 := pk_lt (by omega)
      obtain ⟨c, hc⟩ : ∃ c, (txt8 s).getD i 0 = c := ⟨_, rfl⟩
      simp only [hc] at TX
      rw [hc] at hpk
      have hz : ((c : Int) == 94) = nb := by rw [HNB.out.1, hpk, Bool.eq_iff_iff]; simp; omega
      clear hpk hc
      go_quiet ((go_at_call 90; exact Calls.quiet_of (MT.out _ (H.out.pa.drew _))))
      go_wp2
      go_meet
      case rel => exact ⟨rfl, H.out.drew _⟩
    · have MF := Lib.hid (fun W (h : RPar W P s i d false) => rmore_f h (by omega))
      have hnb0 : nb = false := by rw [HNB.out.1, pk_end (by omega)]; rfl
      go_quiet ((go_at_call 90; exact Calls.quiet_of (MF.out _ (H.out.pa.drew _))))
      go_wp2
      go_meet
      case rel => exact ⟨by rw [hnb0], H.out.drew _⟩
  case rest =>
    clear H
    obtain ⟨rfl, H⟩ := hcut
    go_upto_if 24 with fail
    go_cut [] from 10 (fun wx => Hid (RAt w P s i2 d false zero6 60 wx))
    case first =>
      have c1 := H.out.pa.c1
      have f1 := H.out.pa.fr 1
      by_cases hp : pk (txt8 s) i = 94
      · have e1 : nb = true := by rw [HNB.out.1, hp]; rfl
        have e2 : i2 = i + 1 := by rw [HNB.out.2, if_pos hp]
        subst e1
        have hw1 : IntKind.i64.wrap ((i : Int) + 1) = (i2 : Int) := by rw [IntKind.wrap_i64]; omega
        have PU := Lib.hid (H.out.step (Stp.put _ _ _) (H.out.pa.put1 i2 (by omega)))
        clear hp e2
        go_wp2
        go_meet
        case rel => exact PU
      · have e1 : nb = false := by rw [HNB.out.1]; simpa using hp
        have e2 : i2 = i := by rw [HNB.out.2, if_neg hp]
        subst e1 e2
        clear hp
        go_wp2
        go_meet
        case rel => exact H
    case rest =>
      clear H
      have H := hcut
      have CI : Hid (CInv w P s d wc.heap.size r 42 0 (wc.alloc (.cells zero4 57))) := ⟨i2, false, none4, ⟨H.out.grow ((Below.refl _ _).alloc (Nat.le_refl _) _), Arr.of (W := none4) (heap_alloc_new wc _), by have := H.out.big; omega⟩, none4_fits, by omega, HR.out, by omega⟩
      clear H hcut
      unfold zero4 at CI
      go_wp2
      generalize wc.alloc (.cells #[.int .u64 0, .int .u64 0, .int .u64 0, .int .u64 0] 57) = w3 at *
      generalize wc.heap.size = g at *
      clear HNB HR
      go_loopg [5] 42 (fun m nv wr => ∃ n : Nat, nv = .int .i64 (n : Int) ∧ Hid (CInv w P s d g r m n wr))
      case atStart => exact ⟨0, rfl, CI⟩
      case round =>
        clear CI
        obtain ⟨n, rfl, HI⟩ := hrel
        obtain ⟨j, b, W, H, FW, hnm, HB⟩ := HI.out
        have H := Lib.hid H
        have FW := Lib.hid FW
        have HB := Lib.hid HB
        clear HI
        have hjL : j ≤ L := by have := H.out.ra.pa.le; omega
        by_cases hbad : b = true ∨ L ≤ j
        · have MF : Hid (∀ W (h : RPar W P s j d b), Calls Tryd.prog 90 #[.pointer (some ⟨P, 0, none⟩)] W fun e w' => e = .returned (.bool false) ∧ ∃ n, w' = W.drewN n) := by
            intro W h
            rcases hbad with rfl | hbad
            · exact rmore_b h
            · cases b
              · exact rmore_f h (by omega)
              · exact rmore_b h
          have hr : r = none := by
            have h := HB.out
            cases b
            · rw [if_neg (by simp)] at h
              rw [← h.1]
              have h256 : pk (txt8 s) j = 256 := pk_end (by rcases hbad with h | h; simp at h; omega)
              exact cls_no (by omega) (item_at (.inr h256))
            · simpa using h
          have R : Hid (class1 (txt8 s) 42 i = none) := by show _ = _; rw [CE.out, hr]; rfl
          clear hr CE HB
          clear hbad
          have c0 := H.out.ra.pa.c0
          have c1 := H.out.ra.pa.c1
          go_wp2_with fail
          go_quiet ((go_at_call 90; exact Calls.quiet_of (MF.out _ (H.out.ra.pa.drew _))))
          go_wp2_with fail
          refine (MF.out _ (H.out.ra.pa.drew _)).mono ?_
          rintro e W5 ⟨rfl, n5, rfl⟩
          replace H := Lib.hid (H.out.drew (nq + n5))
          go_wp2_with fail
          refine (rfail_any P j d s _ _ H.out.ra.pa).mono ?_
          rintro e W6 ⟨rfl, S1, P1⟩
          replace H := Lib.hid (H.out.step S1 P1)
          clear S1 P1
          go_wp2_with (refine wpList_store_row rfl 60 (.tmp 2) (.tmp 108) rfl w.heap.size #[.int .i64 0, .int .u64 0, .int .u64 0, .int .u64 0, .int .u64 0, .slice none 0 0] rfl rfl 60 _ H.out.ra.r Tryd.size6 rfl (by simp [Value.oneCell']) ?_)
          exact bodyPost_ret (results_cell_row rfl _ _ w.heap.size 60 _ (0, 0) _ rfl (H.out.ra.fin _).2.2 Tryd.underlying60 rfl Tryd.size6) rfl (rres_none R.out H.out.ra (leaf0 _ _))
        have hbf : b = false := by cases b; rfl; exact absurd (.inl rfl) hbad
        subst hbf
        have hjl : j < L := by omega
        clear hbad
        have MT := Lib.hid (fun W (h : RPar W P s j d false) => rmore_t h (by omega))
        have TX := fun W => txt8_at W s j (by omega)
        have hpk : pk (txt8 s) j = (txt8 s).getD j 0 := pk_lt (by omega)
        obtain ⟨c, hc⟩ : ∃ c, (txt8 s).getD j 0 = c := ⟨_, rfl⟩
        simp only [hc] at TX
        rw [hc] at hpk
        clear hc
        obtain ⟨HB1, HB2⟩ := (show cls (txt8 s) n gk W j = r ∧ s.size < j + gk by have h := HB.out; rwa [if_neg (by simp)] at h)
        clear HB
        by_cases h93 : c = 93
        · have hz : ((c : Int) != 93) = false := by simp; omega
          by_cases hn : n = 0
          · have hr : r = none := by rw [← HB1]; unfold cls; rw [if_pos ⟨hn, hpk.trans h93⟩]
            have HB := Lib.hid HB1
            have hnz : ((n : Int) == 0) = true := by simp; omega
            have R : Hid (class1 (txt8 s) 42 i = none) := by show _ = _; rw [CE.out, hr]; rfl
            clear hr CE HB
            clear hpk h93 HB1
            have c0 := H.out.ra.pa.c0
            have c1 := H.out.ra.pa.c1
            go_wp2_with fail
            go_quiet ((go_at_call 90; exact Calls.quiet_of (MT.out _ (H.out.ra.pa.drew _))))
            go_wp2_with fail
            refine (MT.out _ (H.out.ra.pa.drew _)).mono ?_
            rintro e W5 ⟨rfl, n5, rfl⟩
            replace H := Lib.hid (H.out.drew (nq + n5))
            go_wp2_with fail
            refine (rfail_any P j d s _ _ H.out.ra.pa).mono ?_
            rintro e W6 ⟨rfl, S1, P1⟩
            replace H := Lib.hid (H.out.step S1 P1)
            clear S1 P1
            go_wp2_with (refine wpList_store_row rfl 60 (.tmp 2) (.tmp 108) rfl w.heap.size #[.int .i64 0, .int .u64 0, .int .u64 0, .int .u64 0, .int .u64 0, .slice none 0 0] rfl rfl 60 _ H.out.ra.r Tryd.size6 rfl (by simp [Value.oneCell']) ?_)
            exact bodyPost_ret (results_cell_row rfl _ _ w.heap.size 60 _ (0, 0) _ rfl (H.out.ra.fin _).2.2 Tryd.underlying60 rfl Tryd.size6) rfl (rres_none R.out H.out.ra (leaf0 _ _))
          · have hr : r = some (W, j + 1) := by rw [← HB1]; unfold cls; rw [if_neg (fun e => hn e.1), items, if_pos (hpk.trans h93)]
            have R := Lib.hid CE.out
            rw [hr] at R
            have hnz : ((n : Int) == 0) = false := by simp; omega
            clear hr CE hpk h93 HB1
            obtain ⟨j1, hj1⟩ : ∃ j1, j + 1 = j1 := ⟨_, rfl⟩
            rw [hj1] at R
            have hw1 : IntKind.i64.wrap ((j : Int) + 1) = (j1 : Int) := by rw [IntKind.wrap_i64]; omega
            have c0 := H.out.ra.pa.c0
            have c1 := H.out.ra.pa.c1
            have f1 := H.out.ra.pa.fr 1
            go_wp2_with fail
            go_quiet ((go_at_call 90; exact Calls.quiet_of (MT.out _ (H.out.ra.pa.drew _))))
            go_wp2_with fail
            refine (MT.out _ (H.out.ra.pa.drew _)).mono ?_
            rintro e W5 ⟨rfl, n5, rfl⟩
            replace H := Lib.hid ((H.out.drew (nq + n5)).put1 j1 (by omega))
            go_upto_region 23 with fail
            clear c0 c1 f1 TX MT hw1 hz hnz
            generalize (wr.drewN (nq + n5)).setCell ⟨P, 1, none⟩ (.int .i64 (j1 : Int)) = w5 at *
            have x0 := H.out.ar.c 0 (by omega)
            have x1 := H.out.ar.c 1 (by omega)
            have x2 := H.out.ar.c 2 (by omega)
            have x3 := H.out.ar.c 3 (by omega)
            cases nb
            · have R2 : Hid (class1 (txt8 s) 42 i = some (setOf W, j1)) := R.out
              clear R
              go_wp2_with (refine wpList_store_row rfl 60 (.tmp 2) (.tmp 128) rfl w.heap.size #[.int .i64 1, .int .u64 (W 0 : Int), .int .u64 (W 1 : Int), .int .u64 (W 2 : Int), .int .u64 (W 3 : Int), .slice none 0 0] rfl rfl 60 _ H.out.ra.r Tryd.size6 rfl (by simp [Value.oneCell']) ?_)
              exact bodyPost_ret (results_cell_row rfl _ _ w.heap.size 60 _ (0, 0) _ rfl (H.out.ra.fin _).2.2 Tryd.underlying60 rfl Tryd.size6) rfl (rres_some R2.out H.out.ra (RxIn.leaf _ _ 1 _ _ _ _))
            · have R2 : Hid (class1 (txt8 s) 42 i = some (setOf (neg W), j1)) := R.out
              have f0 := H.out.ar.f 0
              have f1 := H.out.ar.f 1
              have f2 := H.out.ar.f 2
              have f3 := H.out.ar.f 3
              have X0 := xor_all _ (FW.out 0)
              have X1 := xor_all _ (FW.out 1)
              have X2 := xor_all _ (FW.out 2)
              have X3 := xor_all _ (FW.out 3)
              obtain ⟨V, hV⟩ : ∃ V, neg W = V := ⟨_, rfl⟩
              have y0 : 18446744073709551615 - W 0 = V 0 := by rw [← hV]; rfl
              have y1 : 18446744073709551615 - W 1 = V 1 := by rw [← hV]; rfl
              have y2 : 18446744073709551615 - W 2 = V 2 := by rw [← hV]; rfl
              have y3 : 18446744073709551615 - W 3 = V 3 := by rw [← hV]; rfl
              rw [y0] at X0
              rw [y1] at X1
              rw [y2] at X2
              rw [y3] at X3
              rw [hV] at R2
              clear y0 y1 y2 y3 hV R
              have HX := Lib.hid ((((H.out.cell 0 (V 0) (by omega) (fun _ _ => rfl)).cell 1 (V 1) (by omega) (fun _ _ => rfl)).cell 2 (V 2) (by omega) (fun _ _ => rfl)).cell 3 (V 3) (by omega) (fun _ _ => rfl))
              go_wp2
              refine wp_loop_rounds 5 ?_
              iterate 4 (rw [rounds_succ]; go_wp2)
              rw [rounds_succ]
              go_upto_region 28 with fail
              have H := HX
              clear HX x0 x1 x2 x3
              generalize ((((w5.setCell ⟨g, 0, none⟩ (.int .u64 (V 0 : Int))).setCell ⟨g, 1, none⟩ (.int .u64 (V 1 : Int))).setCell ⟨g, 2, none⟩ (.int .u64 (V 2 : Int))).setCell ⟨g, 3, none⟩ (.int .u64 (V 3 : Int))) = w6 at *
              have x0 : w6.cell? ⟨g, 0, none⟩ = some (.int .u64 (V 0 : Int)) := H.out.ar.c 0 (by omega)
              have x1 : w6.cell? ⟨g, 1, none⟩ = some (.int .u64 (V 1 : Int)) := H.out.ar.c 1 (by omega)
              have x2 : w6.cell? ⟨g, 2, none⟩ = some (.int .u64 (V 2 : Int)) := H.out.ar.c 2 (by omega)
              have x3 : w6.cell? ⟨g, 3, none⟩ = some (.int .u64 (V 3 : Int)) := H.out.ar.c 3 (by omega)
              go_wp2_with (refine wpList_store_row rfl 60 (.tmp 2) (.tmp 128) rfl w.heap.size #[.int .i64 1, .int .u64 (V 0 : Int), .int .u64 (V 1 : Int), .int .u64 (V 2 : Int), .int .u64 (V 3 : Int), .slice none 0 0] rfl rfl 60 _ H.out.ra.r Tryd.size6 rfl (by simp [Value.oneCell']) ?_)
              exact bodyPost_ret (results_cell_row rfl _ _ w.heap.size 60 _ (0, 0) _ rfl (H.out.ra.fin _).2.2 Tryd.underlying60 rfl Tryd.size6) rfl (rres_some R2.out H.out.ra (RxIn.leaf _ _ 1 _ _ _ _))
        · have hz : ((c : Int) != 93) = true := by simp; omega
          have HR := Lib.hid (And.intro HB1 HB2)
          have hb93 : ¬ pk (txt8 s) j = 93 := by omega
          have HP := Lib.hid hb93
          clear HB1 hpk h93 hb93
          have c0 := H.out.ra.pa.c0
          have c1 := H.out.ra.pa.c1
          go_wp2_with fail
          go_quiet ((go_at_call 90; exact Calls.quiet_of (MT.out _ (H.out.ra.pa.drew _))))
          replace H := Lib.hid (H.out.drew nq)
          clear c0 c1 TX MT hz
          go_wp2_with fail
          refine (rmember_any P j d s _ H.out.ra.pa).mono ?_
          rintro e W5 ⟨a, ha, rfl, S1, hb1⟩
          obtain ⟨k1, b1, P1, hb1⟩ : ∃ k1 b1, RPar W5 P s k1 d b1 ∧ ((b1 = false ∧ byte1 (txt8 s) inside j = some (a, k1)) ∨ (b1 = true ∧ byte1 (txt8 s) inside j = none)) := by
            rcases hb1 with ⟨k, h1, h2⟩ | ⟨h1, k, h2⟩
            · exact ⟨k, false, h2, .inl ⟨rfl, h1⟩⟩
            · exact ⟨k, true, h2, .inr ⟨rfl, h1⟩⟩
          replace H := Lib.hid (H.out.step S1 P1)
          have HB := Lib.hid hb1
          clear S1 P1 hb1
          go_upto_region 9 with fail
          go_cut [62] from 32 to 98 (fun v wx => ∃ q : Bool, v = .bool q ∧ (q = true ↔ b1 = false ∧ pk (txt8 s) k1 = 45) ∧ Hid (RSt w P s k1 d b1 g W wx))
          case first =>
            have c0 := H.out.ra.pa.c0
            have c1 := H.out.ra.pa.c1
            cases b1
            · by_cases hk : k1 < L
              · have MT := Lib.hid (fun W (h : RPar W P s k1 d false) => rmore_t h (by omega))
                have TX := fun W => txt8_at W s k1 (by omega)
                have hpk : pk (txt8 s) k1 = (txt8 s).getD k1 0 := pk_lt (by omega)
                obtain ⟨c2, hc⟩ : ∃ c2, (txt8 s).getD k1 0 = c2 := ⟨_, rfl⟩
                simp only [hc] at TX
                rw [hc] at hpk
                obtain ⟨q, hq⟩ : ∃ q, ((c2 : Int) == 45) = q := ⟨_, rfl⟩
                have HQ : Hid (q = true ↔ false = false ∧ pk (txt8 s) k1 = 45) := by show _ ↔ _; rw [← hq, hpk]; simp; omega
                clear hpk hc
                go_quiet ((go_at_call 90; exact Calls.quiet_of (MT.out _ (H.out.ra.pa.drew _))))
                go_wp2
                go_meet
                case rel => exact ⟨q, rfl, HQ.out, H.out.drew _⟩
              · have MF := Lib.hid (fun W (h : RPar W P s k1 d false) => rmore_f h (by omega))
                have HQ : Hid (false = true ↔ false = false ∧ pk (txt8 s) k1 = 45) := by show _ ↔ _; rw [pk_end (by omega)]; simp
                go_quiet ((go_at_call 90; exact Calls.quiet_of (MF.out _ (H.out.ra.pa.drew _))))
                go_wp2
                go_meet
                case rel => exact ⟨false, rfl, HQ.out, H.out.drew _⟩
            · have MB := Lib.hid (fun W (h : RPar W P s k1 d true) => rmore_b h)
              go_quiet ((go_at_call 90; exact Calls.quiet_of (MB.out _ (H.out.ra.pa.drew _))))
              go_wp2
              go_meet
              case rel => exact ⟨false, rfl, by simp, H.out.drew _⟩
          case rest =>
            clear H
            obtain ⟨q, rfl, hq, H⟩ := hcut
            have HQ := Lib.hid hq
            clear hq
            go_upto_if 62 with fail
            go_cut [7] from 32 to 98 (fun v wx => ∃ z k2 b2, v = .int .u8 ((z : Nat) : Int) ∧ z < 256 ∧ RItem (txt8 s) j a z k2 b2 ∧ Hid (RSt w P s k2 d b2 g W wx))
            case first =>
              cases q
              · have RI : RItem (txt8 s) j a a k1 b1 := by
                  rcases HB.out with ⟨h1, h2⟩ | ⟨h1, h2⟩
                  · refine .inr ⟨h1, (byte1_lt h2).2.1, ?_⟩
                    unfold item
                    rw [h2, if_neg (by omega)]
                    simp only
                    rw [if_neg (fun e => by have := HQ.out.2 ⟨h1, e⟩; cases this)]
                  · refine .inl ⟨h1, ?_⟩
                    unfold item
                    rw [h2]
                have RI := Lib.hid RI
                go_wp2
                go_meet
                case rel => exact ⟨a, k1, b1, rfl, ha, RI.out, H⟩
              · obtain ⟨hbf, h45⟩ := HQ.out.1 rfl
                subst hbf
                have hby : byte1 (txt8 s) inside j = some (a, k1) := by rcases HB.out with h | h; exact h.2; cases h.1
                have hk1 : k1 < s.size := pk_in (by omega)
                have hjk := (byte1_lt hby).2.1
                obtain ⟨k3, hk3⟩ : ∃ k3, k1 + 1 = k3 := ⟨_, rfl⟩
                have hw1 : IntKind.i64.wrap ((k1 : Int) + 1) = (k3 : Int) := by rw [IntKind.wrap_i64]; omega
                have EI : Hid (item (txt8 s) j = match byte1 (txt8 s) inside k3 with | none => none | some (hi, k) => if hi < a then none else some (a, hi, k)) := by show _ = _; unfold item; rw [hby]; simp only; rw [if_pos h45, hk3]; cases byte1 (txt8 s) inside k3 <;> rfl
                have c1 := H.out.ra.pa.c1
                have f1 := H.out.ra.pa.fr 1
                replace H := Lib.hid (H.out.put1 k3 (by omega))
                have HK : Hid (j < k3) := by show j < k3; omega
                clear h45 hby hk3 HQ HB hjk
                go_wp2_with fail
                generalize wc.setCell ⟨P, 1, none⟩ (.int .i64 (k3 : Int)) = w6 at *
                refine (rmember_any P k3 d s _ H.out.ra.pa).mono ?_
                rintro e W7 ⟨z, hz2, rfl, S1, hb1⟩
                have RI : ∃ k2 b2, RItem (txt8 s) j a z k2 b2 ∧ RPar W7 P s k2 d b2 := by
                  rcases hb1 with ⟨k, h1, h2⟩ | ⟨h1, k, h2⟩
                  · exact ⟨k, false, .inr ⟨rfl, by have := (byte1_lt h1).2.1; have := HK.out; omega, by rw [EI.out, h1]⟩, h2⟩
                  · exact ⟨k, true, .inl ⟨rfl, by rw [EI.out, h1]⟩, h2⟩
                obtain ⟨k2, b2, RI, P2⟩ := RI
                have H2 := Lib.hid (H.out.step S1 P2)
                have RI := Lib.hid RI
                clear S1 P2 hb1 H EI HK
                go_wp2
                go_meet
                case rel => exact ⟨z, k2, b2, rfl, hz2, RI.out, H2⟩
            case rest =>
              clear H HQ HB
              obtain ⟨z, k2, b2, rfl, hz2, RI, H⟩ := hcut
              have RI := Lib.hid RI
              have HA := Lib.hid (And.intro ha (And.intro hz2 hjL))
              by_cases hlt : z < a
              · obtain ⟨HR1, HR2⟩ := HR.out
                obtain ⟨m, rfl⟩ : ∃ m, gk = m + 1 := ⟨gk - 1, by omega⟩
                have hzl : (z : Int) < (a : Int) := by omega
                have hr0 : item (txt8 s) j = none := by
                  rcases RI.out with ⟨_, h⟩ | ⟨_, _, h⟩
                  · exact h
                  · rw [h, if_pos hlt]
                have hr : r = none := by rw [← HR1]; exact cls_no HP.out hr0
                go_wp2_with fail
                refine (rfail_any P k2 d s _ _ H.out.ra.pa).mono ?_
                rintro e W8 ⟨rfl, S1, P1⟩
                replace H := Lib.hid (H.out.step S1 P1)
                clear S1 P1
                obtain ⟨b3, hb3⟩ : ∃ b3, true = b3 := ⟨_, rfl⟩
                rw [hb3] at H
                have HF : Hid (if b3 = true then r = none else cls (txt8 s) (n + 1) m (span W a (z + 1 - a)) k2 = r ∧ s.size < k2 + m) := by
                  show ite _ _ _
                  rw [if_pos hb3.symm]; exact hr
                clear HR HR1 RI hr hr0 hb3
                go_wp2
                go_loopw [8] (fun cv wx => ∃ k : Nat, k ≤ z + 1 - a ∧ cv = .int .i64 ((a + k : Nat) : Int) ∧ Hid (RSt w P s k2 d b3 g (span W a k) wx)) (fun cv _ => z + 1 - (intOf cv).toNat)
                case atStart => exact ⟨0, by omega, rfl, H⟩
                case round =>
                  clear H
                  obtain ⟨k, hk, rfl, H⟩ := hrel
                  have ha := HA.out.1
                  have hz2 := HA.out.2.1
                  by_cases h4 : k < z + 1 - a
                  · exact absurd h4 (by omega)
                  · obtain rfl : k = z + 1 - a := by omega
                    have hkz : ¬ ((a + (z + 1 - a) : Nat) : Int) ≤ (z : Int) := by omega
                    generalize a + (z + 1 - a) = c4 at *
                    have hwn : IntKind.i64.wrap ((n : Int) + 1) = ((n + 1 : Nat) : Int) := by rw [IntKind.wrap_i64]; omega
                    go_wp2
                    go_roundg m
                    case measure => omega
                    case rel => exact ⟨n + 1, rfl, ⟨k2, b3, _, H.out, span_fits FW.out _ _, by omega, HF.out⟩⟩
              · obtain ⟨HR1, HR2⟩ := HR.out
                obtain ⟨m, rfl⟩ : ∃ m, gk = m + 1 := ⟨gk - 1, by omega⟩
                have hzl : ¬ (z : Int) < (a : Int) := by omega
                obtain ⟨b3, hb3⟩ : ∃ b3, b2 = b3 := ⟨_, rfl⟩
                have HF : Hid (if b3 = true then r = none else cls (txt8 s) (n + 1) m (span W a (z + 1 - a)) k2 = r ∧ s.size < k2 + m) := by
                  show ite _ _ _
                  rw [← hb3]
                  rcases RI.out with ⟨h1, h⟩ | ⟨h1, h2, h⟩
                  · rw [if_pos h1, ← HR1]; exact cls_no HP.out h
                  · rw [if_neg (by rw [h1]; simp)]; rw [if_neg hlt] at h
                    exact ⟨by rw [← HR1]; exact (cls_go HP.out h).symm, by omega⟩
                rw [hb3] at H
                clear HR HR1 RI hb3
                clear hlt
                go_wp2
                go_loopw [8] (fun cv wx => ∃ k : Nat, k ≤ z + 1 - a ∧ cv = .int .i64 ((a + k : Nat) : Int) ∧ Hid (RSt w P s k2 d b3 g (span W a k) wx)) (fun cv _ => z + 1 - (intOf cv).toNat)
                case atStart => exact ⟨0, by omega, rfl, H⟩
                case round =>
                  clear H
                  obtain ⟨k, hk, rfl, H⟩ := hrel
                  have ha := HA.out.1
                  have hz2 := HA.out.2.1
                  by_cases h4 : k < z + 1 - a
                  · obtain ⟨c3, hc3⟩ : ∃ c3, a + k = c3 := ⟨_, rfl⟩
                    have hkz : (c3 : Int) ≤ (z : Int) := by omega
                    have b1 : c3 < 256 := by omega
                    have c1 := H.out.ar.c (c3 / 64) (by omega)
                    have f1 := H.out.ar.f (c3 / 64)
                    obtain ⟨p, hp⟩ : ∃ p, 2 ^ (c3 % 64) = p := ⟨_, rfl⟩
                    have EP := pow_wrap c3
                    rw [hp] at EP
                    have EO := or_nat _ p (span_fits FW.out a k (c3 / 64)) (by rw [← hp]; exact Nat.pow_lt_pow_right (a := 2) (n := 64) (by omega) (by omega))
                    have NX := Lib.hid (H.out.cell (V := span W a (k + 1)) (c3 / 64) (span W a k (c3 / 64) ||| p) (by omega) (fun q _ => by show put (span W a k) (a + k) q = _; rw [hc3]; unfold put; rw [hp]; by_cases e : q = c3 / 64; rw [if_pos e, if_pos e, e]; rw [if_neg e, if_neg e]))
                    rw [hc3]
                    have HC := Lib.hid hc3
                    clear H hc3 hp
                    generalize span W a k (c3 / 64) = x at *
                    have q1 : IntKind.i64.wrap ((c3 : Int) / 64) = (c3 : Int) / 64 := by rw [IntKind.wrap_i64]; omega
                    have q2 : IntKind.i64.wrap ((c3 : Int) % 64) = (c3 : Int) % 64 := by rw [IntKind.wrap_i64]; omega
                    have q9 : (c3 : Int).tmod 64 = (c3 : Int) % 64 := Int.tmod_eq_emod_of_nonneg (by omega)
                    have q3 : (c3 : Int) / 64 < 4 := by omega
                    have q4 : (0 : Int) ≤ (c3 : Int) / 64 := by omega
                    have q5 : ((c3 : Int) / 64).toNat = c3 / 64 := by omega
                    have q6 : (0 : Int) ≤ (c3 : Int) % 64 := by omega
                    have q7 : ((c3 : Int) % 64).toNat = c3 % 64 := by omega
                    have q8 : (c3 : Int) % 64 < 64 := by omega
                    go_upto_region 16 with fail
                    clear q1 q2 q3 q4 q5 q6 q7 q8 q9 c1 f1 EP EO
                    go_wp2
                    go_roundw
                    case rel => exact ⟨k + 1, by omega, by have := HC.out; go_num, NX⟩
                    case measure => have := HC.out; simp [intOf]; omega
                  · obtain rfl : k = z + 1 - a := by omega
                    have hkz : ¬ ((a + (z + 1 - a) : Nat) : Int) ≤ (z : Int) := by omega
                    generalize a + (z + 1 - a) = c4 at *
                    have hwn : IntKind.i64.wrap ((n : Int) + 1) = ((n + 1 : Nat) : Int) := by rw [IntKind.wrap_i64]; omega
                    go_wp2
                    go_roundg m
                    case measure => omega
                    case rel => exact ⟨n + 1, rfl, ⟨k2, b3, _, H.out, span_fits FW.out _ _, by omega, HF.out⟩⟩

end Go.Proofs.YtjmojjjgifkkiaaDoor
