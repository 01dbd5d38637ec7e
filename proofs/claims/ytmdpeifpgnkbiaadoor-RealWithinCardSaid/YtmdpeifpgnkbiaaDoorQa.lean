/-
  What package real's own Bits, Of, Key, Less, May, In do, by words (Fm), and math.IsNaN. Conditions: words have 64 bits.
-/
import Derived.Test.YtmdpeifpgnkbiaaDoorLc
namespace Go.Proofs.YtmdpeifpgnkbiaaDoor
open Go.RowKit

theorem u64_xor63 {u : Nat} (h : u < 9223372036854775808) : bits .xor .u64 (u : Int) 9223372036854775808 = ((u + 9223372036854775808 : Nat) : Int) := by
  have e : (9223372036854775808 : Int) = ((9223372036854775808 : Nat) : Int) := rfl
  rw [e, u64_xor_nat _ _ (by omega) (by decide)]
  congr 1
  have hu : u < 2 ^ 63 := by omega
  have ho : u ||| 9223372036854775808 = u + 9223372036854775808 := by
    have := Nat.two_pow_add_eq_or_of_lt (i := 63) (b := u) hu 1
    rw [Nat.or_comm]
    simp at this
    omega
  rw [← ho]
  apply Nat.eq_of_testBit_eq
  intro i
  rw [Nat.testBit_xor, Nat.testBit_or]
  have e63 : (9223372036854775808 : Nat) = 2 ^ 63 := rfl
  rw [e63, Nat.testBit_two_pow]
  by_cases c : 63 = i
  · subst c
    rw [Nat.testBit_lt_two_pow hu]
    simp
  · simp [c]
theorem u64_and63 {u : Nat} (h : Fm.W u) : bits .and .u64 (u : Int) 9223372036854775808 = if u < 9223372036854775808 then 0 else 9223372036854775808 := by
  have e : (9223372036854775808 : Int) = ((9223372036854775808 : Nat) : Int) := rfl
  unfold Fm.W at h
  rw [e, u64_and_nat _ _ (by omega) (by decide)]
  have e63 : (9223372036854775808 : Nat) = 2 ^ 63 := rfl
  have ht : u.testBit 63 = decide (2 ^ 63 ≤ u) := by
    by_cases c : u < 2 ^ 63
    · rw [Nat.testBit_lt_two_pow c]; simp; omega
    · rw [Nat.testBit_eq_decide_div_mod_eq]
      have h1 : u / 2 ^ 63 = 1 := by omega
      rw [h1]; simp; omega
  have hand : u &&& 9223372036854775808 = if u < 9223372036854775808 then 0 else 9223372036854775808 := by
    apply Nat.eq_of_testBit_eq
    intro i
    rw [Nat.testBit_and]
    by_cases c : u < 9223372036854775808
    · rw [if_pos c, e63, Nat.testBit_two_pow, Nat.zero_testBit]
      by_cases d : 63 = i
      · subst d; rw [ht]; simp; omega
      · simp [d]
    · rw [if_neg c, e63, Nat.testBit_two_pow]
      by_cases d : 63 = i
      · subst d; rw [ht]; simp; omega
      · simp [d]
  rw [hand]
  split <;> rfl

section
attribute [local go_sem] Fm.order_eql Fm.order_neq Fm.order_lss Fm.order_gtr Fm.lt_or_eq
set_option maxRecDepth 100000 in
theorem isnan_any (f : Nat) (w : World) : Calls Tryd.prog 40 #[.float .f64 f] w fun e w' => e = .returned (.bool (Fm.isN f)) ∧ w' = w := by
  have q : Fm.eq f f = !Fm.isN f := Fm.eq_self f
  generalize Fm.isN f = n at *
  cases n
  · simp only [Bool.not_false] at q
    go_enter Tryd.func40, Tryd.ntmps40
    go_wp2
    go_ret
    exact ⟨rfl, rfl⟩
  · simp only [Bool.not_true] at q
    go_enter Tryd.func40, Tryd.ntmps40
    go_wp2
    go_ret
    exact ⟨rfl, rfl⟩

set_option maxRecDepth 100000 in
theorem bits_any (f : Nat) (w : World) : Calls Tryd.prog 22 #[.float .f64 f] w fun e w' => e = .returned (.int .u64 ((Fm.bits f : Nat) : Int)) ∧ w' = w := by
  have fb := fbits w f
  have IN := isnan_any f w
  by_cases h : Fm.isN f = true
  · have r : Hid ((Fm.bits f : Nat) = 9221120237041090561) := by show _ = _; rw [Fm.bits, if_pos h]; rfl
    rw [h] at IN
    clear h
    go_enter Tryd.func22, Tryd.ntmps22
    go_wp2_with fail
    refine IN.mono ?_
    rintro e w' ⟨rfl, rfl⟩
    go_wp2
    go_ret
    exact ⟨by rw [r.out]; rfl, rfl⟩
  · have r : Hid ((Fm.bits f : Nat) = f) := by show _ = _; rw [Fm.bits, if_neg h]
    have h' : Fm.isN f = false := by simpa using h
    rw [h'] at IN
    clear h h'
    go_enter Tryd.func22, Tryd.ntmps22
    go_wp2_with fail
    refine IN.mono ?_
    rintro e w' ⟨rfl, rfl⟩
    go_wp2
    go_ret
    exact ⟨by rw [r.out]; rfl, rfl⟩

set_option maxRecDepth 100000 in
theorem of_any (u : Nat) (w : World) : Calls Tryd.prog 20 #[.int .u64 (u : Int)] w fun e w' => e = .returned (.tuple #[.float .f64 (Fm.ofw u), .bool (Fm.has u)]) ∧ w' = w := by
  have fb := ffrom w u
  have BB := bits_any u w
  by_cases h : Fm.has u = true
  · have r2 : Hid (Fm.ofw u = u) := by show _ = _; rw [Fm.ofw, h]; rfl
    rw [Fm.bits_has h] at BB
    have r := Lib.hid h
    clear h
    go_enter Tryd.func20, Tryd.ntmps20
    go_wp2_with fail
    refine BB.mono ?_
    rintro e w' ⟨rfl, rfl⟩
    go_wp2
    go_ret2
    exact ⟨by rw [r.out, r2.out]; rfl, rfl⟩
  · have r : Hid (Fm.has u = false) := by show _ = _; simpa using h
    have r2 : Hid (Fm.ofw u = 0) := by show _ = _; rw [Fm.ofw, r.out]; rfl
    have hne : (((Fm.bits u : Nat) : Int) != (u : Int)) = true := by
      have : Fm.bits u ≠ u := fun e => h (by rw [← e]; exact Fm.has_bits u)
      simp; omega
    clear h
    generalize Fm.bits u = b at *
    go_enter Tryd.func20, Tryd.ntmps20
    go_wp2_with fail
    refine BB.mono ?_
    rintro e w' ⟨rfl, rfl⟩
    go_wp2
    go_ret2
    exact ⟨by rw [r.out, r2.out]; rfl, rfl⟩

set_option maxRecDepth 100000 in
theorem key_any (f : Nat) (hf : Fm.W f) (w : World) : Calls Tryd.prog 26 #[.float .f64 f] w fun e w' => e = .returned (.int .u64 ((Fm.key f : Nat) : Int)) ∧ w' = w := by
  have hb := Fm.bits_W hf
  have BB := bits_any f w
  have an := u64_and63 hb
  by_cases h : Fm.bits f < 9223372036854775808
  · have r : Hid (Fm.key f = Fm.bits f + 9223372036854775808) := by show _ = _; rw [Fm.key, if_pos h]
    have o := u64_xor63 h
    rw [if_pos h] at an
    clear hb hf h
    generalize Fm.bits f = u at *
    go_enter Tryd.func26, Tryd.ntmps26
    go_wp2_with fail
    refine BB.mono ?_
    rintro e w' ⟨rfl, rfl⟩
    go_wp2
    go_ret
    exact ⟨by rw [r.out]; rfl, rfl⟩
  · have r : Hid (Fm.key f = 18446744073709551615 - Fm.bits f) := by show _ = _; rw [Fm.key, if_neg h]
    have o := u64_not hb
    rw [if_neg h] at an
    clear hb hf h
    generalize Fm.bits f = u at *
    go_enter Tryd.func26, Tryd.ntmps26
    go_wp2_with fail
    refine BB.mono ?_
    rintro e w' ⟨rfl, rfl⟩
    go_wp2
    go_ret
    exact ⟨by rw [r.out]; rfl, rfl⟩

set_option maxRecDepth 100000 in
theorem less_any (a b : Nat) (ha : Fm.W a) (hb : Fm.W b) (w : World) : Calls Tryd.prog 16 #[.float .f64 a, .float .f64 b] w fun e w' => e = .returned (.bool (Fm.less a b)) ∧ w' = w := by
  have KA := key_any a ha w
  have KB := key_any b hb w
  have HL := Lib.hid (Fm.less_key ha hb)
  clear ha hb
  generalize Fm.key a = x at *
  generalize Fm.key b = y at *
  have hi : decide ((x : Int) < (y : Int)) = decide (x < y) := by rw [Bool.eq_iff_iff]; simp
  go_enter Tryd.func16, Tryd.ntmps16
  go_wp2_with fail
  refine KA.mono ?_
  rintro e w' ⟨rfl, rfl⟩
  go_wp2_with fail
  refine KB.mono ?_
  rintro e w' ⟨rfl, rfl⟩
  go_wp2
  go_ret
  exact ⟨by rw [HL.out]; rfl, rfl⟩

set_option maxRecDepth 100000 in
set_option maxHeartbeats 400000 in
theorem may_any (any : Bool) (lo hi : Nat) (w : World) : Calls Tryd.prog 28 #[.agg (band any lo hi)] w fun e w' => e = .returned (.bool (Fm.may any lo hi)) ∧ Below w.heap.size w w' := by
  have B : Below w.heap.size w (w.alloc (.cells (band any lo hi) 31)) := (Below.refl _ _).alloc (Nat.le_refl _) _
  have R1 := bits_any lo (w.alloc (.cells (band any lo hi) 31))
  have R2 := bits_any hi (w.alloc (.cells (band any lo hi) 31))
  cases any
  · have HM : Hid (Fm.may false lo hi = Fm.le lo hi) := by show _ = _; rfl
    clear R1 R2
    unfold band at B ⊢
    go_enter Tryd.func28, Tryd.ntmps28
    go_wp2
    go_ret
    exact ⟨by rw [HM.out]; rfl, B⟩
  · have HM : Hid (Fm.may true lo hi = (decide (Fm.bits lo = 0) && decide (Fm.bits hi = 0))) := by show _ = _; rfl
    unfold band at B R1 R2 ⊢
    generalize Fm.bits lo = x at *
    generalize Fm.bits hi = y at *
    go_enter Tryd.func28, Tryd.ntmps28
    go_wp2_with fail
    refine R1.mono ?_
    rintro e w' ⟨rfl, rfl⟩
    by_cases c : x = 0
    · subst c
      have hy : ((y : Int) == 0) = decide (y = 0) := by rw [Bool.eq_iff_iff]; simp
      go_wp2_with fail
      refine R2.mono ?_
      rintro e w' ⟨rfl, rfl⟩
      go_wp2
      go_ret
      exact ⟨by rw [HM.out]; simp only [decide_true, Bool.true_and]; rfl, B⟩
    · have c' : ((x : Int) == 0) = false := by simp; omega
      go_wp2
      go_ret
      exact ⟨by rw [HM.out]; simp [c], B⟩

set_option maxRecDepth 100000 in
set_option maxHeartbeats 400000 in
theorem in_any (any : Bool) (lo hi f : Nat) (w : World) : Calls Tryd.prog 17 #[.agg (band any lo hi), .float .f64 f] w fun e w' => e = .returned (.bool (Fm.inb any lo hi f)) ∧ Below w.heap.size w w' := by
  have B : Below w.heap.size w (w.alloc (.cells (band any lo hi) 31)) := (Below.refl _ _).alloc (Nat.le_refl _) _
  have F : Has (w.alloc (.cells (band any lo hi) 31)) w.heap.size 31 (band any lo hi) := Has.new _ _ _
  have R1 := may_any any lo hi (w.alloc (.cells (band any lo hi) 31))
  have HI : Hid (Fm.inb any lo hi f = (Fm.may any lo hi && (any || Fm.le lo f && Fm.le f hi))) := by show _ = _; rfl
  generalize Fm.may any lo hi = m at *
  unfold band at B F R1 ⊢
  go_enter Tryd.func17, Tryd.ntmps17
  go_wp2_with fail
  refine R1.mono ?_
  rintro e w1 ⟨rfl, b1⟩
  have F1 := F.below b1 F.lt
  have B1 := B.trans (b1.mono B.size)
  have c0 : w1.cell? ⟨w.heap.size, 0, none⟩ = some (.bool any) := by rw [F1.cell]; rfl
  have c1 : w1.cell? ⟨w.heap.size, 1, none⟩ = some (.float .f64 lo) := by rw [F1.cell]; rfl
  have c2 : w1.cell? ⟨w.heap.size, 2, none⟩ = some (.float .f64 hi) := by rw [F1.cell]; rfl
  clear R1 F B b1 F1
  cases m
  · go_wp2
    go_ret
    exact ⟨by rw [HI.out]; rfl, B1⟩
  · cases any
    · cases hp : Fm.le lo f
      · go_wp2
        go_ret
        exact ⟨by rw [HI.out, hp]; rfl, B1⟩
      · go_wp2
        go_ret
        exact ⟨by rw [HI.out, hp]; rfl, B1⟩
    · go_wp2
      go_ret
      exact ⟨by rw [HI.out]; rfl, B1⟩
end
end Go.Proofs.YtmdpeifpgnkbiaaDoor
