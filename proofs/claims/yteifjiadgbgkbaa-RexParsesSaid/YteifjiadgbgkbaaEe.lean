/-
  What the reference's same and Has do. Conditions: no more than 1000 places; words have 64 bits, a byte 8.
-/
import Derived.Test.YteifjiadgbgkbaaEd
namespace Go.Proofs.Yteifjiadgbgkbaa
open Go.RowKit Go.Sort

theorem drewN_below {B : Nat} {a w : World} (h : Below B a w) (q : Nat) : Below B a (w.drewN q) := ⟨h.os, h.tape, h.output, h.size, h.block⟩
def sameB (n : Nat) (f g : Nat → Bool) : Bool := decide (∀ i, i < n → f i = g i)
set_option maxRecDepth 100000 in
set_option maxHeartbeats 1000000 in
theorem rsame_any (n : Nat) (f g : Nat → Bool) (A B : Option Addr) (ca cb : Nat) (w : World) (hn : n ≤ 1000) (ha : IsBo w A n f) (hb : IsBo w B n g) :
    Calls Try.prog 41 #[.slice A n ca, .slice B n cb] w fun e w' => e = .returned (.bool (sameB n f g)) ∧ Below w.heap.size w w' := by
  have HA := Lib.hid (fun W (hW : Below w.heap.size w W) => ha.below hW)
  have HB := Lib.hid (fun W (hW : Below w.heap.size w W) => hb.below hW)
  clear ha hb
  go_enter Try.func41, Try.ntmps41
  go_wp2
  go_loopw [5] (fun i wr => ∃ k : Nat, k ≤ n ∧ i = .int .i64 (k : Int) ∧ Hid ((∀ i, i < k → f i = g i) ∧ Below w.heap.size w wr)) (fun i _ => n - (intOf i).toNat)
  case atStart => exact ⟨0, by omega, rfl, fun i hi => by omega, Below.refl _ _⟩
  case round =>
    obtain ⟨k, hk, rfl, HI⟩ := hrel
    by_cases hkn : k < n
    · have hkz : (k : Int) < (n : Int) := by omega
      obtain ⟨b1, o1, rfl, h1⟩ := HA.out wr HI.out.2 (by omega)
      obtain ⟨b2, o2, rfl, h2⟩ := HB.out wr HI.out.2 (by omega)
      have c1 := h1 k hkn
      have c2 := h2 k hkn
      have AL := Lib.hid HI.out.1
      have BL := Lib.hid HI.out.2
      clear h1 h2 HI
      by_cases e : f k = g k
      · have E := Lib.hid e
        rw [e] at c1
        clear e
        cases hy : g k
        · rw [hy] at c1 c2
          clear hy
          go_wp2_with fail
          go_quiet (fail)
          have B2 := Lib.hid (drewN_below BL.out nq)
          clear c1 c2 BL
          go_wp2
          go_roundw
          case rel => exact ⟨k + 1, by omega, by go_num, fun i hi => by
            by_cases hik : i < k
            · exact AL.out i hik
            · obtain rfl : i = k := by omega
              exact E.out, B2.out⟩
          case measure => simp [intOf]; omega
        · rw [hy] at c1 c2
          clear hy
          go_wp2_with fail
          go_quiet (fail)
          have B2 := Lib.hid (drewN_below BL.out nq)
          clear c1 c2 BL
          go_wp2
          go_roundw
          case rel => exact ⟨k + 1, by omega, by go_num, fun i hi => by
            by_cases hik : i < k
            · exact AL.out i hik
            · obtain rfl : i = k := by omega
              exact E.out, B2.out⟩
          case measure => simp [intOf]; omega
      · have NE : Hid (sameB n f g = false) := decide_eq_false fun h => e (h k hkn)
        have hy : g k = !f k := by cases h1 : f k <;> cases h2 : g k <;> simp_all
        rw [hy] at c2
        clear hy e
        cases hx : f k
        · rw [hx] at c1 c2
          simp only [Bool.not_false] at c2
          clear hx
          go_wp2_with fail
          go_quiet (fail)
          have B2 := Lib.hid (drewN_below BL.out nq)
          clear c1 c2 BL
          go_wp2
          go_ret
          exact ⟨by rw [NE.out]; rfl, B2.out⟩
        · rw [hx] at c1 c2
          simp only [Bool.not_true] at c2
          clear hx
          go_wp2_with fail
          go_quiet (fail)
          have B2 := Lib.hid (drewN_below BL.out nq)
          clear c1 c2 BL
          go_wp2
          go_ret
          exact ⟨by rw [NE.out]; rfl, B2.out⟩
    · obtain rfl : k = n := by omega
      have hkz : ¬ (k : Int) < (k : Int) := by omega
      have YE : Hid (sameB k f g = true) := decide_eq_true HI.out.1
      have B2 := Lib.hid HI.out.2
      clear HI
      go_wp2
      go_ret
      exact ⟨by rw [YE.out]; rfl, B2.out⟩

/-- The word of a set that a byte belongs to. -/
def word4 (a b c d j : Nat) : Nat := if j = 0 then a else if j = 1 then b else if j = 2 then c else d
/-- Is a byte in the set? -/
def hasB (a b c d x : Nat) : Bool := word4 a b c d (x / 64) / 2 ^ (x % 64) % 2 == 1
/-- Four words of 64 bits. -/
def Fit4 (a b c d : Nat) : Prop := a < 18446744073709551616 ∧ b < 18446744073709551616 ∧ c < 18446744073709551616 ∧ d < 18446744073709551616
theorem word4_lt {a b c d : Nat} (h : Fit4 a b c d) (j : Nat) : word4 a b c d j < 18446744073709551616 := by
  obtain ⟨h1, h2, h3, h4⟩ := h
  unfold word4
  split
  · exact h1
  · split
    · exact h2
    · split
      · exact h3
      · exact h4
set_option maxRecDepth 100000 in
set_option maxHeartbeats 1000000 in
theorem rhas_any (a b c d x : Nat) (hx : x < 256) (w : World) (hf : Fit4 a b c d) :
    Calls Try.prog 39 #[.agg #[.int .u64 (a : Int), .int .u64 (b : Int), .int .u64 (c : Int), .int .u64 (d : Int)], .int .u8 (x : Int)] w fun e w' => e = .returned (.bool (hasB a b c d x)) ∧ Below w.heap.size w w' := by
  have B0 : Hid (Below w.heap.size w (w.alloc (.cells #[.int .u64 (a : Int), .int .u64 (b : Int), .int .u64 (c : Int), .int .u64 (d : Int)] 23))) := (Below.refl _ _).alloc (Nat.le_refl _) _
  have CW : (w.alloc (.cells #[.int .u64 (a : Int), .int .u64 (b : Int), .int .u64 (c : Int), .int .u64 (d : Int)] 23)).cell? ⟨w.heap.size, x / 64, none⟩ = some (.int .u64 ((word4 a b c d (x / 64) : Nat) : Int)) := by
    rw [cell_of_row _ w.heap.size _ _ 23 (0, 0) (heap_alloc_new w _)]
    have hj : x / 64 < 4 := by omega
    generalize x / 64 = j at *
    match j, hj with
    | 0, _ => rfl
    | 1, _ => rfl
    | 2, _ => rfl
    | 3, _ => rfl
  have HF : Hid (word4 a b c d (x / 64) / 2 ^ (x % 64) < 18446744073709551616) := Nat.lt_of_le_of_lt (Nat.div_le_self _ _) (word4_lt hf _)
  clear hf
  go_enter Try.func39, Try.ntmps39
  go_wp2_with fail
  clear CW
  go_ret
  refine ⟨?_, B0.out⟩
  have hf := HF.out
  have e1 : ((word4 a b c d (x / 64) : Nat) : Int) / 2 ^ (x % 64) = ((word4 a b c d (x / 64) / 2 ^ (x % 64) : Nat) : Int) := by simp
  unfold hasB
  generalize word4 a b c d (x / 64) / 2 ^ (x % 64) = q at *
  have e2 := u64_and_nat q 1 hf (by omega)
  rw [Nat.and_one_is_mod] at e2
  have e3 : (bits .and .u64 (q : Int) 1 == 1) = (q % 2 == 1) := by
    have c1 : ((1 : Nat) : Int) = 1 := rfl
    rw [c1] at e2
    rw [e2, Bool.eq_iff_iff]
    simp
    omega
  show Ending.returned (.bool (bits .and .u64 (((word4 a b c d (x / 64) : Nat) : Int) / 2 ^ (x % 64)) 1 == 1)) = _
  rw [e1, e3]
end Go.Proofs.Yteifjiadgbgkbaa
