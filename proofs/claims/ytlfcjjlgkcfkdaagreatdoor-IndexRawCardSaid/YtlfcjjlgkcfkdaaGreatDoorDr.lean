/-
  What sordinekeep's WeightLabels and Weight do: few labels, few matchers, with short texts. Conditions: none.
-/
import Derived.Test.YtlfcjjlgkcfkdaaGreatDoorY04
namespace Go.Proofs.YtlfcjjlgkcfkdaaGreatDoor
open Go.RowKit Go.Sort La

/-- FewA labels with short texts. -/
def FewA (ls : List Lab) : Prop := ls.length ≤ 300 ∧ ∀ x ∈ ls, x.1.size ≤ 300 ∧ x.2.size ≤ 300
theorem fewa_of {ls : List Lab} {N : Nat} (h : ls.length = N) (h1 : N ≤ 300) (h2 : ∀ j, j < N → (nth ls j).1.size ≤ 300 ∧ (nth ls j).2.size ≤ 300) : FewA ls := by
  refine ⟨by omega, fun x hx => ?_⟩
  obtain ⟨j, hj, rfl⟩ := List.getElem_of_mem hx
  have := h2 j (by omega)
  rwa [nth_eq hj] at this
theorem FewA.small {ls : List Lab} (h : FewA ls) : Small ls := fun x hx => by have := h.2 x hx; omega

set_option maxRecDepth 100000 in
set_option maxHeartbeats 2000000 in
theorem weight2_any (ls : List Lab) (A : Option Addr) (cap : Nat) (w : World) (ha : IsLabs w A ls) :
    Calls Tryz.prog 26 #[.slice A ls.length cap, .int .i64 200] w fun e w' => (∃ r : Nat, e = .returned (.int .i64 (r : Int)) ∧ (r ≤ 200 → FewA ls)) ∧ Below w.heap.size w w' := by
  have HA := Lib.hid ha
  clear ha
  have FEW := Lib.hid (fun N h (h1 : N ≤ 200) (h2 : ∀ j, j < N → (nth ls j).1.size ≤ 200 ∧ (nth ls j).2.size ≤ 200) => fewa_of (ls := ls) (N := N) h (by omega) (fun j hj => by have := h2 j hj; omega))
  obtain ⟨N, hN⟩ : ∃ N, ls.length = N := ⟨_, rfl⟩
  rw [hN]
  have HN := Lib.hid hN
  clear hN
  go_enter Tryz.func26, Tryz.ntmps26
  go_wp2
  go_loopw [5, 6] (fun v i wr => ∃ k m : Nat, k ≤ N ∧ k ≤ m ∧ m ≤ 1000 ∧ i = .int .i64 (k : Int) ∧ v = .int .i64 (m : Int) ∧ Hid (Below w.heap.size w wr ∧ ∀ j, j < k → (nth ls j).1.size ≤ 200 ∧ (nth ls j).2.size ≤ 200)) (fun _ i _ => N - (intOf i).toNat)
  case atStart => exact ⟨0, 0, by omega, by omega, by omega, rfl, rfl, Below.refl _ _, fun j hj => by omega⟩
  case round =>
    obtain ⟨k, m, hk, hkm, hm, rfl, rfl, HI⟩ := hrel
    by_cases hkn : k < N
    · have hkz : (k : Int) < (N : Int) := by omega
      by_cases hm3 : m ≤ 200
      · have hmz : (m : Int) ≤ 200 := by omega
        obtain ⟨b, off, rfl, hc⟩ := (HA.out.below HI.out.1) (by rw [HN.out]; omega)
        obtain ⟨c1, c2⟩ := hc k (by rw [HN.out]; exact hkn)
        have BL := Lib.hid HI.out.1
        have AL := Lib.hid HI.out.2
        clear hc HI
        obtain ⟨x, hx⟩ : ∃ x, (nth ls k).1 = x := ⟨_, rfl⟩
        obtain ⟨y, hy⟩ : ∃ y, (nth ls k).2 = y := ⟨_, rfl⟩
        rw [hx] at c1
        rw [hy] at c2
        have HX := Lib.hid hx
        have HY := Lib.hid hy
        clear hx hy
        by_cases hx3 : 200 < x.size
        · have hxd : decide ((x.size : Int) > 200) = true := decide_eq_true (by omega)
          go_wp2
          go_ret
          exact ⟨⟨201, rfl, fun h => by omega⟩, BL.out⟩
        · have hxd : decide ((x.size : Int) > 200) = false := decide_eq_false (by omega)
          by_cases hy3 : 200 < y.size
          · have hyd : decide ((y.size : Int) > 200) = true := decide_eq_true (by omega)
            go_wp2
            go_ret
            exact ⟨⟨201, rfl, fun h => by omega⟩, BL.out⟩
          · have hyd : decide ((y.size : Int) > 200) = false := decide_eq_false (by omega)
            have q1 : IntKind.i64.wrap ((m : Int) + 1) = (m : Int) + 1 := by rw [IntKind.wrap_i64]; omega
            have q2 : IntKind.i64.wrap ((m : Int) + 1 + (x.size : Int)) = (m : Int) + 1 + (x.size : Int) := by rw [IntKind.wrap_i64]; omega
            have q3 : IntKind.i64.wrap ((m : Int) + 1 + (x.size : Int) + (y.size : Int)) = (m : Int) + 1 + (x.size : Int) + (y.size : Int) := by rw [IntKind.wrap_i64]; omega
            go_wp2_with fail
            go_quiet (fail)
            have B2 := Lib.hid (below_drewN BL.out nq)
            clear c1 c2 BL q1 q2 q3
            go_wp2
            go_roundw
            case rel => exact ⟨k + 1, m + 1 + x.size + y.size, by omega, by omega, by omega, by go_num, by simp, B2.out, fun j hj => by
              by_cases hjk : j = k
              · rw [hjk, HX.out, HY.out]; omega
              · exact AL.out j (by omega)⟩
            case measure => simp [intOf]; omega
      · have hmz : ¬ (m : Int) ≤ 200 := by omega
        have hmm : min (m : Int) 201 = 201 := by omega
        have B := Lib.hid HI.out.1
        clear HI
        go_wp2
        go_ret
        exact ⟨⟨201, rfl, fun h => by omega⟩, B.out⟩
    · obtain rfl : k = N := by omega
      have hkz : ¬ (k : Int) < (k : Int) := by omega
      have F : Hid (∀ r : Nat, (r : Int) = min (m : Int) 201 → r ≤ 200 → FewA ls) := fun r hr h3 => FEW.out k HN.out (by omega) HI.out.2
      have B := Lib.hid HI.out.1
      clear HI
      obtain ⟨r, hr⟩ : ∃ r : Nat, (r : Int) = min (m : Int) 201 := ⟨min m 201, by omega⟩
      have F2 := Lib.hid (F.out r hr)
      clear F
      go_wp2
      go_ret
      exact ⟨⟨r, by rw [hr]; rfl, F2.out⟩, B.out⟩
/-- Few matchers with short texts. -/
def FewB (l : List Mat) : Prop := l.length ≤ 300 ∧ ∀ x ∈ l, x.n.size ≤ 300 ∧ x.v.size ≤ 300
theorem fewb_of {l : List Mat} {N : Nat} (h : l.length = N) (h1 : N ≤ 300) (h2 : ∀ j, j < N → (Mat.nth l j).n.size ≤ 300 ∧ (Mat.nth l j).v.size ≤ 300) : FewB l := by
  refine ⟨by omega, fun x hx => ?_⟩
  obtain ⟨j, hj, rfl⟩ := List.getElem_of_mem hx
  have := h2 j (by omega)
  rwa [Mat.nth_eq hj] at this
theorem FewB.small {l : List Mat} (h : FewB l) : SmallM l := fun x hx => by have := h.2 x hx; omega

set_option maxRecDepth 100000 in
set_option maxHeartbeats 2000000 in
theorem mweight2_any (ls : List Mat) (A : Option Addr) (cap : Nat) (w : World) (ha : IsMats w A ls) :
    Calls Tryz.prog 27 #[.slice A ls.length cap, .int .i64 60] w fun e w' => (∃ r : Nat, e = .returned (.int .i64 (r : Int)) ∧ (r ≤ 60 → FewB ls)) ∧ Below w.heap.size w w' := by
  have HA := Lib.hid ha
  clear ha
  have FEW := Lib.hid (fun N h (h1 : N ≤ 60) (h2 : ∀ j, j < N → (Mat.nth ls j).n.size ≤ 60 ∧ (Mat.nth ls j).v.size ≤ 60) => fewb_of (l := ls) (N := N) h (by omega) (fun j hj => by have := h2 j hj; omega))
  obtain ⟨N, hN⟩ : ∃ N, ls.length = N := ⟨_, rfl⟩
  rw [hN]
  have HN := Lib.hid hN
  clear hN
  go_enter Tryz.func27, Tryz.ntmps27
  go_wp2
  go_loopw [5, 6] (fun v i wr => ∃ k m : Nat, k ≤ N ∧ k ≤ m ∧ m ≤ 1000 ∧ i = .int .i64 (k : Int) ∧ v = .int .i64 (m : Int) ∧ Hid (Below w.heap.size w wr ∧ ∀ j, j < k → (Mat.nth ls j).n.size ≤ 60 ∧ (Mat.nth ls j).v.size ≤ 60)) (fun _ i _ => N - (intOf i).toNat)
  case atStart => exact ⟨0, 0, by omega, by omega, by omega, rfl, rfl, Below.refl _ _, fun j hj => by omega⟩
  case round =>
    obtain ⟨k, m, hk, hkm, hm, rfl, rfl, HI⟩ := hrel
    by_cases hkn : k < N
    · have hkz : (k : Int) < (N : Int) := by omega
      by_cases hm3 : m ≤ 60
      · have hmz : (m : Int) ≤ 60 := by omega
        obtain ⟨b, off, rfl, hc⟩ := (HA.out.below HI.out.1) (by rw [HN.out]; omega)
        obtain ⟨_, c1, c2⟩ := hc k (by rw [HN.out]; exact hkn)
        have BL := Lib.hid HI.out.1
        have AL := Lib.hid HI.out.2
        clear hc HI
        obtain ⟨x, hx⟩ : ∃ x, (Mat.nth ls k).n = x := ⟨_, rfl⟩
        obtain ⟨y, hy⟩ : ∃ y, (Mat.nth ls k).v = y := ⟨_, rfl⟩
        rw [hx] at c1
        rw [hy] at c2
        have HX := Lib.hid hx
        have HY := Lib.hid hy
        clear hx hy
        by_cases hx3 : 60 < x.size
        · have hxd : decide ((x.size : Int) > 60) = true := decide_eq_true (by omega)
          go_wp2
          go_ret
          exact ⟨⟨61, rfl, fun h => by omega⟩, BL.out⟩
        · have hxd : decide ((x.size : Int) > 60) = false := decide_eq_false (by omega)
          by_cases hy3 : 60 < y.size
          · have hyd : decide ((y.size : Int) > 60) = true := decide_eq_true (by omega)
            go_wp2
            go_ret
            exact ⟨⟨61, rfl, fun h => by omega⟩, BL.out⟩
          · have hyd : decide ((y.size : Int) > 60) = false := decide_eq_false (by omega)
            have q1 : IntKind.i64.wrap ((m : Int) + 1) = (m : Int) + 1 := by rw [IntKind.wrap_i64]; omega
            have q2 : IntKind.i64.wrap ((m : Int) + 1 + (x.size : Int)) = (m : Int) + 1 + (x.size : Int) := by rw [IntKind.wrap_i64]; omega
            have q3 : IntKind.i64.wrap ((m : Int) + 1 + (x.size : Int) + (y.size : Int)) = (m : Int) + 1 + (x.size : Int) + (y.size : Int) := by rw [IntKind.wrap_i64]; omega
            go_wp2_with fail
            go_quiet (fail)
            have B2 := Lib.hid (below_drewN BL.out nq)
            clear c1 c2 BL q1 q2 q3
            go_wp2
            go_roundw
            case rel => exact ⟨k + 1, m + 1 + x.size + y.size, by omega, by omega, by omega, by go_num, by simp, B2.out, fun j hj => by
              by_cases hjk : j = k
              · rw [hjk, HX.out, HY.out]; omega
              · exact AL.out j (by omega)⟩
            case measure => simp [intOf]; omega
      · have hmz : ¬ (m : Int) ≤ 60 := by omega
        have hmm : min (m : Int) 61 = 61 := by omega
        have B := Lib.hid HI.out.1
        clear HI
        go_wp2
        go_ret
        exact ⟨⟨61, rfl, fun h => by omega⟩, B.out⟩
    · obtain rfl : k = N := by omega
      have hkz : ¬ (k : Int) < (k : Int) := by omega
      have F : Hid (∀ r : Nat, (r : Int) = min (m : Int) 61 → r ≤ 60 → FewB ls) := fun r hr h3 => FEW.out k HN.out (by omega) HI.out.2
      have B := Lib.hid HI.out.1
      clear HI
      obtain ⟨r, hr⟩ : ∃ r : Nat, (r : Int) = min (m : Int) 61 := ⟨min m 61, by omega⟩
      have F2 := Lib.hid (F.out r hr)
      clear F
      go_wp2
      go_ret
      exact ⟨⟨r, by rw [hr]; rfl, F2.out⟩, B.out⟩

end Go.Proofs.YtlfcjjlgkcfkdaaGreatDoor
