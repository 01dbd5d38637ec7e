/-
  What slices.rotateCmpFunc does to a row of ints: a rotation. Conditions as in XQs.
-/
import Derived.Test.YtmdpeifpgnkbiaaDoorQs
namespace Go.Proofs.YtmdpeifpgnkbiaaDoor
open Go.RowKit
section
variable {B n : Nat} {c : FuncId} {cb : Array Value} {cf : Nat → Nat → Int} {S : (Nat → Nat) → World → Prop}
set_option maxRecDepth 100000 in
set_option maxHeartbeats 1000000 in
theorem rotate_any (T : SortW B n c cb cf S) (cap a m b : Nat) (d : Nat → Nat) (w : World) (hS : S d w) (h1 : a < m) (h2 : m < b) (h3 : b ≤ n) :
    Calls Tryd.prog 60 #[.slice (some ⟨B, 0, none⟩) n cap, .int .i64 (a : Int), .int .i64 (m : Int), .int .i64 (b : Int), .func (.func c) #[] cb] w fun e w' => e = .returned (.tuple #[]) ∧ S (So.rot d a m b) w' ∧ So.Via a b d (So.rot d a m b) := by
  have HT := Lib.hid T
  have hn := T.len
  have HS := Lib.hid hS
  clear T hS
  obtain ⟨i0, hi0⟩ : ∃ i0, a + i0 = m := ⟨m - a, by omega⟩
  obtain ⟨j0, hj0⟩ : ∃ j0, m + j0 = b := ⟨b - m, by omega⟩
  have ei0 : (m : Int) - (a : Int) = (i0 : Int) := by omega
  have ej0 : (b : Int) - (m : Int) = (j0 : Int) := by omega
  go_enter Tryd.func60, Tryd.ntmps60
  go_wp2
  go_loopw [10, 11] (fun vi vj wr => ∃ i j : Nat, vi = .int .i64 (i : Int) ∧ vj = .int .i64 (j : Int) ∧ 0 < i ∧ 0 < j ∧ i ≤ i0 ∧ j ≤ j0 ∧ Hid (∃ d', S d' wr ∧ So.Via a b d d' ∧ So.rot d' (m - i) m (m + j) = So.rot d a m b)) (fun vi vj _ => (intOf vi).toNat + (intOf vj).toNat)
  case atStart => exact ⟨i0, j0, rfl, rfl, by omega, by omega, Nat.le_refl _, Nat.le_refl _, d, HS.out, .refl, by rw [show m - i0 = a by omega, hj0]⟩
  case round =>
    obtain ⟨i, j, rfl, rfl, p1, p2, p3, p4, HI⟩ := hrel
    clear HS
    obtain ⟨x, hx⟩ : ∃ x, x + i = m := ⟨m - i, by omega⟩
    have ex : (m : Int) - (i : Int) = (x : Int) := by omega
    by_cases hij : i = j
    · subst hij
      have hc : Hid (Calls Tryd.prog 61 #[.slice (some ⟨B, 0, none⟩) n cap, .int .i64 (x : Int), .int .i64 (m : Int), .int .i64 (i : Int), .func (.func c) #[] cb] wr fun e w' => e = .returned (.tuple #[]) ∧ S (So.rot d a m b) w' ∧ So.Via a b d (So.rot d a m b)) := by
        obtain ⟨d', s', v', e'⟩ := HI.out
        refine (swaprange_any HT.out cap x m i d' wr s' (by omega) (by omega)).mono fun e w' ⟨he, hs⟩ => ⟨he, ?_⟩
        have e2 := So.rot_same d' m i (by omega) p1
        rw [e', show m - i = x by omega] at e2
        have v2 := So.swr_via d' x m i a b (by omega) (by omega) (by omega) i (Nat.le_refl _)
        rw [e2] at hs v2
        exact ⟨hs, v'.trans v2⟩
      clear HI hx
      go_wp2_with fail
      refine hc.out.mono ?_
      rintro e w' ⟨rfl, r1, r2⟩
      have R1 := Lib.hid r1
      have R2 := Lib.hid r2
      clear r1 r2 hc
      go_wp2
      go_end0
      exact ⟨rfl, R1.out, R2.out⟩
    · have hne : ((i : Int) != (j : Int)) = true := by simp; omega
      by_cases hgt : j < i
      · have hgtz : (j : Int) < (i : Int) := by omega
        have hgtd : decide ((i : Int) > (j : Int)) = true := decide_eq_true (by omega)
        obtain ⟨t, ht⟩ : ∃ t, t + j = i := ⟨i - j, by omega⟩
        have et : (i : Int) - (j : Int) = (t : Int) := by omega
        have hc : Hid (Calls Tryd.prog 61 #[.slice (some ⟨B, 0, none⟩) n cap, .int .i64 (x : Int), .int .i64 (m : Int), .int .i64 (j : Int), .func (.func c) #[] cb] wr fun e w' => e = .returned (.tuple #[]) ∧ ∃ d', S d' w' ∧ So.Via a b d d' ∧ So.rot d' (m - t) m (m + j) = So.rot d a m b) := by
          obtain ⟨d', s', v', e'⟩ := HI.out
          refine (swaprange_any HT.out cap x m j d' wr s' (by omega) (by omega)).mono fun e w' ⟨he, hs⟩ => ⟨he, _, hs, v'.trans (So.swr_via d' x m j a b (by omega) (by omega) (by omega) j (Nat.le_refl _)), ?_⟩
          have e2 := So.rot_more d' m i j (by omega) p2 hgt
          rw [e', show m - i = x by omega, show i - j = t by omega] at e2
          exact e2
        clear HI hx hij
        go_wp2_with fail
        refine hc.out.mono ?_
        rintro e w' ⟨rfl, r1⟩
        have R1 := Lib.hid r1
        clear r1 hc
        go_wp2
        go_roundw
        case rel => exact ⟨t, j, rfl, rfl, by omega, p2, by omega, p4, R1⟩
        case measure => simp [intOf]; omega
      · have hgtz : ¬ (j : Int) < (i : Int) := by omega
        have hgtd : decide ((i : Int) > (j : Int)) = false := decide_eq_false (by omega)
        obtain ⟨t, ht⟩ : ∃ t, t + i = j := ⟨j - i, by omega⟩
        have ht0 : 0 < t := by omega
        have et : (j : Int) - (i : Int) = (t : Int) := by omega
        obtain ⟨y, hy⟩ : ∃ y, y + i = m + j := ⟨m + j - i, by omega⟩
        have ey : (m : Int) + (j : Int) - (i : Int) = (y : Int) := by omega
        have hc : Hid (Calls Tryd.prog 61 #[.slice (some ⟨B, 0, none⟩) n cap, .int .i64 (x : Int), .int .i64 (y : Int), .int .i64 (i : Int), .func (.func c) #[] cb] wr fun e w' => e = .returned (.tuple #[]) ∧ ∃ d', S d' w' ∧ So.Via a b d d' ∧ So.rot d' (m - i) m (m + t) = So.rot d a m b) := by
          obtain ⟨d', s', v', e'⟩ := HI.out
          refine (swaprange_any HT.out cap x y i d' wr s' (by omega) (by omega)).mono fun e w' ⟨he, hs⟩ => ⟨he, _, hs, v'.trans (So.swr_via d' x y i a b (by omega) (by omega) (by omega) i (Nat.le_refl _)), ?_⟩
          have e2 := So.rot_less d' m i j (by omega) p1 (by omega)
          rw [e', show m + j - i = y by omega, show j - i = t by omega] at e2
          rw [show m - i = x by omega] at e2 ⊢
          exact e2
        clear HI hx hij
        go_wp2_with fail
        refine hc.out.mono ?_
        rintro e w' ⟨rfl, r1⟩
        have R1 := Lib.hid r1
        clear r1 hc
        go_wp2
        go_roundw
        case rel => exact ⟨i, t, rfl, rfl, p1, by omega, p3, by omega, R1⟩
        case measure => simp [intOf]; omega
end
end Go.Proofs.YtmdpeifpgnkbiaaDoor
