/-
  MatchRuns, MatchAsk and MatchLists as contracts: chapter 8's runs; of any matcher and any labels whether it may be, is too large, holds; of any matchers whether they are a list, one is too large, all hold. Conditions: the library's table lies in its variable (DTab).
-/
import Derived.Test.YtjmojjjgifkkiaaDoorYf
import Derived.Test.YtjmojjjgifkkiaaDoorZ25
namespace Go.Proofs.YtjmojjjgifkkiaaDoor
open Go.RowKit Go.Sort

/-- Few matchers with short texts. -/
def FewM (l : List Mat) : Prop := l.length ≤ 300 ∧ ∀ x ∈ l, x.n.size ≤ 300 ∧ x.v.size ≤ 300
theorem fewm_of {l : List Mat} {N : Nat} (h : l.length = N) (h1 : N ≤ 300) (h2 : ∀ j, j < N → (Mat.nth l j).n.size ≤ 300 ∧ (Mat.nth l j).v.size ≤ 300) : FewM l := by
  refine ⟨by omega, fun x hx => ?_⟩
  obtain ⟨j, hj, rfl⟩ := List.getElem_of_mem hx
  have := h2 j (by omega)
  rwa [Mat.nth_eq hj] at this
theorem FewM.small {l : List Mat} (h : FewM l) : SmallM l := fun x hx => by have := h.2 x hx; omega

set_option maxRecDepth 100000 in
set_option maxHeartbeats 2000000 in
theorem mweight_any (ls : List Mat) (A : Option Addr) (cap : Nat) (w : World) (ha : IsMats w A ls) :
    Calls Tryd.prog 37 #[.slice A ls.length cap, .int .i64 300] w fun e w' => (∃ r : Nat, e = .returned (.int .i64 (r : Int)) ∧ (r ≤ 300 → FewM ls)) ∧ Below w.heap.size w w' := by
  have HA := Lib.hid ha
  clear ha
  have FEW := Lib.hid (fun N h h1 h2 => fewm_of (l := ls) (N := N) h h1 h2)
  obtain ⟨N, hN⟩ : ∃ N, ls.length = N := ⟨_, rfl⟩
  rw [hN]
  have HN := Lib.hid hN
  clear hN
  go_enter Tryd.func37, Tryd.ntmps37
  go_wp2
  go_loopw [5, 6] (fun v i wr => ∃ k m : Nat, k ≤ N ∧ k ≤ m ∧ m ≤ 1000 ∧ i = .int .i64 (k : Int) ∧ v = .int .i64 (m : Int) ∧ Hid (Below w.heap.size w wr ∧ ∀ j, j < k → (Mat.nth ls j).n.size ≤ 300 ∧ (Mat.nth ls j).v.size ≤ 300)) (fun _ i _ => N - (intOf i).toNat)
  case atStart => exact ⟨0, 0, by omega, by omega, by omega, rfl, rfl, Below.refl _ _, fun j hj => by omega⟩
  case round =>
    obtain ⟨k, m, hk, hkm, hm, rfl, rfl, HI⟩ := hrel
    by_cases hkn : k < N
    · have hkz : (k : Int) < (N : Int) := by omega
      by_cases hm3 : m ≤ 300
      · have hmz : (m : Int) ≤ 300 := by omega
        obtain ⟨b, off, rfl, hc⟩ := (HA.out.below HI.out.1) (by rw [HN.out]; omega)
        obtain ⟨_, c1, c2⟩ := hc k (by rw [HN.out]; exact hkn)
        have BL := Lib.hid HI.out.1
        have AL := Lib.hid HI.out.2
        clear hc HI
        obtain ⟨x, hx⟩ : ∃ x, (Mat.nth ls k).n = x := ⟨_, rfl⟩
        obtain ⟨y, hy⟩ : ∃ y, (Mat.nth ls k).v = y := ⟨_, rfl⟩
        rw [hx] at c1
        rw [hy] at c2
        have HX := Lib.hid hx
        have HY := Lib.hid hy
        clear hx hy
        by_cases hx3 : 300 < x.size
        · have hxd : decide ((x.size : Int) > 300) = true := decide_eq_true (by omega)
          go_wp2
          go_ret
          exact ⟨⟨301, rfl, fun h => by omega⟩, BL.out⟩
        · have hxd : decide ((x.size : Int) > 300) = false := decide_eq_false (by omega)
          by_cases hy3 : 300 < y.size
          · have hyd : decide ((y.size : Int) > 300) = true := decide_eq_true (by omega)
            go_wp2
            go_ret
            exact ⟨⟨301, rfl, fun h => by omega⟩, BL.out⟩
          · have hyd : decide ((y.size : Int) > 300) = false := decide_eq_false (by omega)
            have q1 : IntKind.i64.wrap ((m : Int) + 1) = (m : Int) + 1 := by rw [IntKind.wrap_i64]; omega
            have q2 : IntKind.i64.wrap ((m : Int) + 1 + (x.size : Int)) = (m : Int) + 1 + (x.size : Int) := by rw [IntKind.wrap_i64]; omega
            have q3 : IntKind.i64.wrap ((m : Int) + 1 + (x.size : Int) + (y.size : Int)) = (m : Int) + 1 + (x.size : Int) + (y.size : Int) := by rw [IntKind.wrap_i64]; omega
            go_wp2_with fail
            go_quiet (fail)
            have B2 := Lib.hid (below_drewN BL.out nq)
            clear c1 c2 BL q1 q2 q3
            go_wp2
            go_roundw
            case rel => exact ⟨k + 1, m + 1 + x.size + y.size, by omega, by omega, by omega, by go_num, by simp, B2.out, fun j hj => by
              by_cases hjk : j = k
              · rw [hjk, HX.out, HY.out]; omega
              · exact AL.out j (by omega)⟩
            case measure => simp [intOf]; omega
      · have hmz : ¬ (m : Int) ≤ 300 := by omega
        have hmm : min (m : Int) 301 = 301 := by omega
        have B := Lib.hid HI.out.1
        clear HI
        go_wp2
        go_ret
        exact ⟨⟨301, rfl, fun h => by omega⟩, B.out⟩
    · obtain rfl : k = N := by omega
      have hkz : ¬ (k : Int) < (k : Int) := by omega
      have F : Hid (∀ r : Nat, (r : Int) = min (m : Int) 301 → r ≤ 300 → FewM ls) := fun r hr h3 => FEW.out k HN.out (by omega) HI.out.2
      have B := Lib.hid HI.out.1
      clear HI
      obtain ⟨r, hr⟩ : ∃ r : Nat, (r : Int) = min (m : Int) 301 := ⟨min m 301, by omega⟩
      have F2 := Lib.hid (F.out r hr)
      clear F
      go_wp2
      go_ret
      exact ⟨⟨r, by rw [hr]; rfl, F2.out⟩, B.out⟩

set_option maxRecDepth 100000 in
set_option maxHeartbeats 4000000 in
theorem small_any (l : List Mat) (ls : List La.Lab) (A B : Option Addr) (N cap M cb : Nat) (w : World) (hN : l.length = N) (hM : ls.length = M) (ha : IsMats w A l) (hb : IsLabs w B ls) :
    Calls Tryd.prog 13 #[.slice A N cap, .slice B M cb] w fun e w' => (∃ q : Bool, e = .returned (.bool q) ∧ (q = true → FewM l ∧ Few ls)) ∧ Below w.heap.size w w' := by
  subst hN hM
  have C1 := Lib.hid (mweight_any l A cap w ha)
  have C2 := Lib.hid (fun W (hW : Below w.heap.size w W) => weight_any ls B cb W (hb.below hW))
  clear ha hb
  generalize l.length = N at *
  generalize ls.length = M at *
  go_enter Tryd.func13, Tryd.ntmps13
  go_wp2_with fail
  refine C1.out.mono ?_
  rintro e w1 ⟨⟨r, rfl, hr⟩, b1⟩
  have HR := Lib.hid hr
  clear C1 hr
  by_cases h3 : r ≤ 300
  · have hz : decide ((r : Int) ≤ 300) = true := decide_eq_true (by omega)
    have C3 := Lib.hid (C2.out w1 b1)
    have F1 := Lib.hid (HR.out h3)
    have B1 := Lib.hid b1
    clear C2 b1 HR
    go_wp2_with fail
    refine C3.out.mono ?_
    rintro e w2 ⟨⟨r2, rfl, hr2⟩, b2⟩
    have HR2 := Lib.hid hr2
    have B2 := Lib.hid (B1.out.trans (b2.mono B1.out.size))
    clear C3 hr2 b2
    by_cases h4 : r2 ≤ 300
    · have hz2 : decide ((r2 : Int) ≤ 300) = true := decide_eq_true (by omega)
      have F2 := Lib.hid (HR2.out h4)
      clear HR2
      go_wp2
      go_ret
      exact ⟨⟨true, rfl, fun _ => ⟨F1.out, F2.out⟩⟩, B2.out⟩
    · have hz2 : decide ((r2 : Int) ≤ 300) = false := decide_eq_false (by omega)
      clear HR2
      go_wp2
      go_ret
      exact ⟨⟨false, rfl, fun h => by cases h⟩, B2.out⟩
  · have hz : decide ((r : Int) ≤ 300) = false := decide_eq_false (by omega)
    have B1 := Lib.hid b1
    clear HR b1
    go_wp2
    go_ret
    exact ⟨⟨false, rfl, fun h => by cases h⟩, B1.out⟩

def sA : ByteArray := ⟨#[97]⟩
def s1c : ByteArray := ⟨#[49]⟩
def sE : ByteArray := ⟨#[]⟩
def sX : ByteArray := ⟨#[120, 124]⟩
def sP : ByteArray := ⟨#[40]⟩
theorem run1 : Mat.holds ⟨2, sA, sE⟩ [(sA, s1c)] = true := by decide +kernel
theorem run2 : Mat.holds ⟨2, sA, sE⟩ [] = false := by decide +kernel
theorem run3 : Mat.holds ⟨3, sA, sX⟩ [] = true := by decide +kernel
theorem run4 : Mat.holds ⟨3, sA, sX⟩ [(sA, s1c)] = false := by decide +kernel
theorem run5 : Mat.ok ⟨3, sA, sX⟩ = true := by decide +kernel
theorem run6 : Mat.ok ⟨3, sA, sP⟩ = false := by decide +kernel
theorem isLabs_nil (w : World) (a : Option Addr) : IsLabs w a [] := fun h => absurd h (by simp)

set_option maxRecDepth 100000 in
set_option maxHeartbeats 4000000 in
theorem runs8_any (w : World) (hT : DTab w) : Calls Tryd.prog 3 #[] w fun e w' => e = .returned (.bool true) ∧ Below w.heap.size w w' := by
  obtain ⟨w1, hw1⟩ : ∃ w1, w.alloc (.cells #[.string sA, .string s1c] 23) = w1 := ⟨_, rfl⟩
  obtain ⟨w2, hw2⟩ : ∃ w2, w1.alloc (.cells #[.int .i64 2, .string sA, .string sE] 26) = w2 := ⟨_, rfl⟩
  obtain ⟨w3, hw3⟩ : ∃ w3, w2.alloc (.cells #[.int .i64 3, .string sA, .string sX] 26) = w3 := ⟨_, rfl⟩
  have s1 : w1.heap.size = w.heap.size + 1 := by rw [← hw1]; simp
  have s2 : w2.heap.size = w.heap.size + 1 + 1 := by rw [← hw2]; simp [s1]
  have b01 : Below w.heap.size w w1 := by rw [← hw1]; exact (Below.refl _ _).alloc (Nat.le_refl _) _
  have b12 : Below w1.heap.size w1 w2 := by rw [← hw2]; exact (Below.refl _ _).alloc (Nat.le_refl _) _
  have b23 : Below w2.heap.size w2 w3 := by rw [← hw3]; exact (Below.refl _ _).alloc (Nat.le_refl _) _
  have b13 := b12.trans (b23.mono b12.size)
  have b03 := b01.trans (b13.mono b01.size)
  have i1 : IsLabs w1 (some ⟨w.heap.size, 0, none⟩) [(sA, s1c)] := by rw [← hw1]; exact lit_lab w (sA, s1c)
  have B03 := Lib.hid b03
  have CELLS : Hid (∀ W, Below w3.heap.size w3 W → (W.cell? ⟨w.heap.size + 1, 0, none⟩ = some (.int .i64 2) ∧ W.cell? ⟨w.heap.size + 1, 1, none⟩ = some (.string sA) ∧ W.cell? ⟨w.heap.size + 1, 2, none⟩ = some (.string sE)) ∧ (W.cell? ⟨w.heap.size + 1 + 1, 0, none⟩ = some (.int .i64 3) ∧ W.cell? ⟨w.heap.size + 1 + 1, 1, none⟩ = some (.string sA) ∧ W.cell? ⟨w.heap.size + 1 + 1, 2, none⟩ = some (.string sX))) := fun W hW => by
    have q1 := (box3 (w := w1) (v0 := .int .i64 2) (v1 := .string sA) (v2 := .string sE) (ty := 26) (W := W) (by rw [hw2]; exact (b23.trans (hW.mono b23.size)).mono (by omega))).1
    have q2 := (box3 (w := w2) (v0 := .int .i64 3) (v1 := .string sA) (v2 := .string sX) (ty := 26) (W := W) (by rw [hw3]; exact hW.mono (by rw [← hw3]; simp))).1
    rw [s1] at q1
    rw [s2] at q2
    exact ⟨q1, q2⟩
  have LB := Lib.hid (fun W (hW : Below w3.heap.size w3 W) => i1.below (b13.trans (hW.mono b13.size)))
  have DT := Lib.hid (fun W (hW : Below w3.heap.size w3 W) => hT.below (b03.trans (hW.mono b03.size)))
  have C1 : Hid (∀ W, Below w3.heap.size w3 W → Calls Tryd.prog 11 #[.agg #[.int .i64 2, .string sA, .string sE], .slice (some ⟨w.heap.size, 0, none⟩) 1 1] W fun e w' => e = .returned (.bool true) ∧ Below W.heap.size W w') := fun W hW => by
    have := mholds_any 2 sA sE [(sA, s1c)] (some ⟨w.heap.size, 0, none⟩) 1 1 W (by decide) (by decide) rfl (by omega) (by decide) (LB.out W hW) (DT.out W hW)
    rwa [run1] at this
  have C2 : Hid (∀ W, Below w3.heap.size w3 W → Calls Tryd.prog 11 #[.agg #[.int .i64 2, .string sA, .string sE], .slice none 0 0] W fun e w' => e = .returned (.bool false) ∧ Below W.heap.size W w') := fun W hW => by
    have := mholds_any 2 sA sE [] none 0 0 W (by decide) (by decide) rfl (by omega) (by decide) (isLabs_nil W none) (DT.out W hW)
    rwa [run2] at this
  have C3 : Hid (∀ W, Below w3.heap.size w3 W → Calls Tryd.prog 11 #[.agg #[.int .i64 3, .string sA, .string sX], .slice none 0 0] W fun e w' => e = .returned (.bool true) ∧ Below W.heap.size W w') := fun W hW => by
    have := mholds_any 3 sA sX [] none 0 0 W (by decide) (by decide) rfl (by omega) (by decide) (isLabs_nil W none) (DT.out W hW)
    rwa [run3] at this
  have C4 : Hid (∀ W, Below w3.heap.size w3 W → Calls Tryd.prog 11 #[.agg #[.int .i64 3, .string sA, .string sX], .slice (some ⟨w.heap.size, 0, none⟩) 1 1] W fun e w' => e = .returned (.bool false) ∧ Below W.heap.size W w') := fun W hW => by
    have := mholds_any 3 sA sX [(sA, s1c)] (some ⟨w.heap.size, 0, none⟩) 1 1 W (by decide) (by decide) rfl (by omega) (by decide) (LB.out W hW) (DT.out W hW)
    rwa [run4] at this
  have C5 : Hid (∀ W, Calls Tryd.prog 12 #[.agg #[.int .i64 3, .string sA, .string sX]] W fun e w' => e = .returned (.bool true) ∧ Below W.heap.size W w') := fun W => by
    have := mis_any 3 sA sX W (by decide) (by decide)
    rwa [run5] at this
  have C6 : Hid (∀ W, Calls Tryd.prog 12 #[.agg #[.int .i64 3, .string sA, .string sP]] W fun e w' => e = .returned (.bool false) ∧ Below W.heap.size W w') := fun W => by
    have := mis_any 3 sA sP W (by decide) (by decide)
    rwa [run6] at this
  have HW3 := Lib.hid (show ((w.alloc (.cells #[.string sA, .string s1c] 23)).alloc (.cells #[.int .i64 2, .string sA, .string sE] 26)).alloc (.cells #[.int .i64 3, .string sA, .string sX] 26) = w3 by rw [hw1, hw2, hw3])
  clear hw1 hw2 hw3 s1 s2 b01 b12 b23 b13 b03 i1 hT LB DT
  have fA : (⟨#[97]⟩ : ByteArray) = sA := rfl
  have f1 : (⟨#[49]⟩ : ByteArray) = s1c := rfl
  have fX : (⟨#[120, 124]⟩ : ByteArray) = sX := rfl
  have fP : (⟨#[40]⟩ : ByteArray) = sP := rfl
  go_enter Tryd.func3, Tryd.ntmps3
  simp only [fA, f1, fX, fP]
  clear fA f1 fX fP
  generalize sA = zA at *
  generalize s1c = z1 at *
  generalize sX = zX at *
  generalize sP = zP at *
  go_upto_region 4 with fail
  have fE : (⟨#[]⟩ : ByteArray) = sE := rfl
  simp only [fE, HW3.out]
  clear fE
  generalize sE = zE at *
  obtain ⟨⟨q0, q1, q2⟩, r0, r1, r2⟩ := CELLS.out w3 (Below.refl _ _)
  have D := Lib.hid (C1.out w3 (Below.refl _ _))
  clear HW3
  go_wp2_with fail
  refine D.out.mono ?_
  rintro e w4 ⟨rfl, b4⟩
  clear D q0 q1 q2 r0 r1 r2
  obtain ⟨⟨q0, q1, q2⟩, r0, r1, r2⟩ := CELLS.out w4 b4
  have D := Lib.hid (C2.out w4 b4)
  have B4 := Lib.hid b4
  clear b4
  go_wp2_with fail
  refine D.out.mono ?_
  rintro e w5 ⟨rfl, b5⟩
  have b5 := B4.out.trans (b5.mono B4.out.size)
  clear D q0 q1 q2 r0 r1 r2
  obtain ⟨⟨q0, q1, q2⟩, r0, r1, r2⟩ := CELLS.out w5 b5
  have D := Lib.hid (C3.out w5 b5)
  have B5 := Lib.hid b5
  clear b5
  go_wp2_with fail
  refine D.out.mono ?_
  rintro e w6 ⟨rfl, b6⟩
  have b6 := B5.out.trans (b6.mono B5.out.size)
  clear D q0 q1 q2 r0 r1 r2
  obtain ⟨⟨q0, q1, q2⟩, r0, r1, r2⟩ := CELLS.out w6 b6
  have D := Lib.hid (C4.out w6 b6)
  have B6 := Lib.hid b6
  clear b6
  go_wp2_with fail
  refine D.out.mono ?_
  rintro e w7 ⟨rfl, b7⟩
  have b7 := B6.out.trans (b7.mono B6.out.size)
  clear D q0 q1 q2 r0 r1 r2
  obtain ⟨⟨q0, q1, q2⟩, r0, r1, r2⟩ := CELLS.out w7 b7
  have B7 := Lib.hid b7
  clear b7
  go_wp2_with fail
  refine (C5.out _).mono ?_
  rintro e w8 ⟨rfl, b8⟩
  have B8 := Lib.hid (B7.out.trans (b8.mono B7.out.size))
  clear b8 q0 q1 q2 r0 r1 r2
  go_wp2_with fail
  refine (C6.out _).mono ?_
  rintro e w9 ⟨rfl, b9⟩
  have B9 := Lib.hid (B03.out.trans ((B8.out.trans (b9.mono B8.out.size)).mono B03.out.size))
  clear b9
  go_wp2
  go_ret
  exact ⟨rfl, B9.out⟩
end Go.Proofs.YtjmojjjgifkkiaaDoor
