/-
  What package math's functions on the bits of floats do (Float64bits, Float64frombits, Signbit, Copysign, NaN, Inf), and the reference's Bits, FromBits, Key, Less, MayBand, In: by words (Fm). Conditions: words have 64 bits.
-/
import Derived.Test.YtmdpeifpgnkbiaaDoorBy
import Derived.Test.YtmdpeifpgnkbiaaDoorFl
import Derived.Test.YtmdpeifpgnkbiaaDoorSb
import Derived.Laws.Cover2
import Derived.Laws.Externs
import Derived.Laws.BitsAllLaws
import Derived.BigRegion
import Derived.BigQuiet
namespace Go.Proofs.YtmdpeifpgnkbiaaDoor
open Go.RowKit

theorem fbits (w : World) (b : Nat) : (callFunc 24 #[.float .f64 b]).run Tryd.prog w = .ok (.value (.int .u64 (b : Int))) w := by kernel_rfl
theorem ffrom (w : World) (n : Nat) : (callFunc 39 #[.int .u64 (n : Int)]).run Tryd.prog w = .ok (.value (.float .f64 n)) w := by kernel_rfl

theorem u64_not {u : Nat} (h : Fm.W u) : bits .xor .u64 IntKind.u64.max (u : Int) = ((18446744073709551615 - u : Nat) : Int) := by
  have e : IntKind.u64.max = ((18446744073709551615 : Nat) : Int) := by decide
  unfold Fm.W at h
  rw [e, u64_xor_nat _ _ (by decide) (by omega)]
  have h1 := congrArg BitVec.toNat (BitVec.allOnes_xor (x := BitVec.ofNat 64 u))
  rw [BitVec.toNat_xor, BitVec.toNat_not, BitVec.toNat_allOnes, BitVec.toNat_ofNat, Nat.mod_eq_of_lt (by omega)] at h1
  congr 1
theorem u64_or63 {u : Nat} (h : u < 9223372036854775808) : bits .or .u64 (u : Int) 9223372036854775808 = ((u + 9223372036854775808 : Nat) : Int) := by
  have e : (9223372036854775808 : Int) = ((9223372036854775808 : Nat) : Int) := rfl
  rw [e, u64_or_nat _ _ (by omega) (by decide)]
  have := Nat.two_pow_add_eq_or_of_lt (i := 63) (b := u) (by omega) 1
  congr 1
  rw [Nat.or_comm]
  simp at this
  omega

section
attribute [local go_sem] Fm.order_eql Fm.order_neq Fm.order_lss Fm.order_gtr Fm.lt_or_eq
set_option maxRecDepth 100000 in
theorem rbits_any (f : Nat) (w : World) : Calls Tryd.prog 23 #[.float .f64 f] w fun e w' => e = .returned (.int .u64 ((Fm.bits f : Nat) : Int)) ∧ w' = w := by
  have fb := fbits w f
  by_cases h : Fm.isN f = true
  · have q : Fm.eq f f = false := by rw [Fm.eq_self, h]; rfl
    have r : Hid ((Fm.bits f : Nat) = 9221120237041090561) := by show _ = _; rw [Fm.bits, if_pos h]; rfl
    clear h
    go_enter Tryd.func23, Tryd.ntmps23
    go_wp2
    go_ret
    exact ⟨by rw [r.out]; rfl, rfl⟩
  · have q : Fm.eq f f = true := by rw [Fm.eq_self]; simpa using h
    have r : Hid ((Fm.bits f : Nat) = f) := by show _ = _; rw [Fm.bits, if_neg h]
    clear h
    go_enter Tryd.func23, Tryd.ntmps23
    go_wp2
    go_ret
    exact ⟨by rw [r.out]; rfl, rfl⟩

set_option maxRecDepth 100000 in
theorem rfrom_any (u : Nat) (w : World) : Calls Tryd.prog 21 #[.int .u64 (u : Int)] w fun e w' => e = .returned (.tuple #[.float .f64 (Fm.ofw u), .bool (Fm.has u)]) ∧ w' = w := by
  have fb := ffrom w u
  by_cases h : Fm.isN u = true
  · have q : Fm.eq u u = false := by rw [Fm.eq_self, h]; rfl
    by_cases c : u = Fm.nan
    · have HC : Hid (u = 9221120237041090561) := c
      have hu : ((u : Int) != 9221120237041090561) = false := by rw [HC.out]; rfl
      have r : Hid (Fm.has u = true) := by show _ = _; unfold Fm.has; simp [c]
      have r2 : Hid (Fm.ofw u = u) := by show _ = _; rw [Fm.ofw, r.out]; rfl
      clear h c
      go_enter Tryd.func21, Tryd.ntmps21
      go_wp2
      go_ret2
      exact ⟨by rw [r.out, r2.out]; rfl, rfl⟩
    · have hu : ((u : Int) != 9221120237041090561) = true := by
        have : u ≠ 9221120237041090561 := c
        simp; omega
      have r : Hid (Fm.has u = false) := by show _ = _; unfold Fm.has; simp [c, h]
      have r2 : Hid (Fm.ofw u = 0) := by show _ = _; rw [Fm.ofw, r.out]; rfl
      clear h c
      go_enter Tryd.func21, Tryd.ntmps21
      go_wp2
      go_ret2
      exact ⟨by rw [r.out, r2.out]; rfl, rfl⟩
  · have q : Fm.eq u u = true := by rw [Fm.eq_self]; simpa using h
    have r : Hid (Fm.has u = true) := by show _ = _; unfold Fm.has; simp [h]
    have r2 : Hid (Fm.ofw u = u) := by show _ = _; rw [Fm.ofw, r.out]; rfl
    clear h
    go_enter Tryd.func21, Tryd.ntmps21
    go_wp2
    go_ret2
    exact ⟨by rw [r.out, r2.out]; rfl, rfl⟩

set_option maxRecDepth 100000 in
theorem rkey_any (f : Nat) (hf : Fm.W f) (w : World) : Calls Tryd.prog 27 #[.float .f64 f] w fun e w' => e = .returned (.int .u64 ((Fm.key f : Nat) : Int)) ∧ w' = w := by
  have hb := Fm.bits_W hf
  by_cases h : Fm.bits f < 9223372036854775808
  · have r : Hid (Fm.key f = Fm.bits f + 9223372036854775808) := by show _ = _; rw [Fm.key, if_pos h]
    have o := u64_or63 h
    have d : ((Fm.bits f : Nat) : Int) / 9223372036854775808 = 0 := by omega
    have RB := rbits_any f w
    clear hb hf h
    generalize Fm.bits f = u at *
    go_enter Tryd.func27, Tryd.ntmps27
    go_wp2_with fail
    refine RB.mono ?_
    rintro e w' ⟨rfl, rfl⟩
    go_wp2
    go_ret
    exact ⟨by rw [r.out]; rfl, rfl⟩
  · have r : Hid (Fm.key f = 18446744073709551615 - Fm.bits f) := by show _ = _; rw [Fm.key, if_neg h]
    have o := u64_not hb
    have d : ((Fm.bits f : Nat) : Int) / 9223372036854775808 = 1 := by unfold Fm.W at hb; omega
    have RB := rbits_any f w
    clear hb hf h
    generalize Fm.bits f = u at *
    go_enter Tryd.func27, Tryd.ntmps27
    go_wp2_with fail
    refine RB.mono ?_
    rintro e w' ⟨rfl, rfl⟩
    go_wp2
    go_ret
    exact ⟨by rw [r.out]; rfl, rfl⟩

set_option maxRecDepth 100000 in
theorem sign_any (f : Nat) (hf : Fm.W f) (w : World) : Calls Tryd.prog 45 #[.float .f64 f] w fun e w' => e = .returned (.bool (Fm.neg f)) ∧ w' = w := by
  have fb := fbits w f
  have n := Fm.neg_iff hf
  have m : Hid (decide (wrap64 (f : Int) < 0) = Fm.neg f) := by
    show _ = _
    rw [Bool.eq_iff_iff, n]
    unfold Fm.W at hf
    simp [wrap64]
    omega
  clear hf n
  go_enter Tryd.func45, Tryd.ntmps45
  go_wp2
  go_ret
  exact ⟨by rw [← m.out]; rfl, rfl⟩

set_option maxRecDepth 100000 in
set_option maxHeartbeats 400000 in
theorem rless_any (a b : Nat) (ha : Fm.W a) (hb : Fm.W b) (w : World) : Calls Tryd.prog 25 #[.float .f64 a, .float .f64 b] w fun e w' => e = .returned (.bool (Fm.less a b)) ∧ w' = w := by
  have SA := sign_any a ha w
  have SB := sign_any b hb w
  clear ha hb
  have HL : Hid (Fm.less a b = if Fm.isN a || Fm.isN b then !Fm.isN a && Fm.isN b else if Fm.rk a = Fm.rk b then Fm.neg a && !Fm.neg b else decide (Fm.rk a < Fm.rk b)) := by show _ = _; rfl
  have qa := Fm.eq_self a
  have qb := Fm.eq_self b
  have qe : Fm.eq a b = (!Fm.isN a && !Fm.isN b && decide (Fm.rk a = Fm.rk b)) := rfl
  have ql : Fm.lt a b = (!Fm.isN a && !Fm.isN b && decide (Fm.rk a < Fm.rk b)) := rfl
  generalize Fm.less a b = r at *
  generalize Fm.neg a = na at *
  generalize Fm.neg b = nb at *
  by_cases ca : Fm.isN a = true
  · rw [ca] at qa HL
    simp only [Bool.not_true] at qa
    clear qe ql
    have r0 : Hid (r = false) := by show _ = _; rw [HL.out]; simp
    go_enter Tryd.func25, Tryd.ntmps25
    go_wp2
    go_ret
    exact ⟨by rw [r0.out]; rfl, rfl⟩
  · have ca' : Fm.isN a = false := by simpa using ca
    rw [ca'] at qa HL qe ql
    clear ca ca'
    simp only [Bool.not_false] at qa
    by_cases cb : Fm.isN b = true
    · rw [cb] at qb HL
      simp only [Bool.not_true] at qb
      clear qe ql
      have r0 : Hid (r = true) := by show _ = _; rw [HL.out]; simp
      go_enter Tryd.func25, Tryd.ntmps25
      go_wp2
      go_ret
      exact ⟨by rw [r0.out]; rfl, rfl⟩
    · have cb' : Fm.isN b = false := by simpa using cb
      rw [cb'] at qb HL qe ql
      clear cb cb'
      simp only [Bool.not_false, Bool.true_and] at qb qe ql
      by_cases e : Fm.rk a = Fm.rk b
      · rw [decide_eq_true e] at qe
        have r0 : Hid (r = (na && !nb)) := by show _ = _; rw [HL.out]; simp [e]
        clear ql e
        cases na
        · go_enter Tryd.func25, Tryd.ntmps25
          go_wp2_with fail
          refine SA.mono ?_
          rintro e w' ⟨rfl, rfl⟩
          go_wp2
          go_ret
          exact ⟨by rw [r0.out]; rfl, rfl⟩
        · go_enter Tryd.func25, Tryd.ntmps25
          go_wp2_with fail
          refine SA.mono ?_
          rintro e w' ⟨rfl, rfl⟩
          go_wp2_with fail
          refine SB.mono ?_
          rintro e w'' ⟨rfl, rfl⟩
          go_wp2
          go_ret
          exact ⟨by rw [r0.out]; rfl, rfl⟩
      · rw [decide_eq_false e] at qe
        have r0 : Hid (r = Fm.lt a b) := by show _ = _; rw [HL.out, ql]; simp [e]
        clear ql e
        go_enter Tryd.func25, Tryd.ntmps25
        go_wp2
        go_ret
        exact ⟨by rw [r0.out]; rfl, rfl⟩

/-- A band, as the model has it. -/
def band (any : Bool) (lo hi : Nat) : Array Value := #[.bool any, .float .f64 lo, .float .f64 hi]
set_option maxRecDepth 100000 in
set_option maxHeartbeats 400000 in
theorem rmay_any (any : Bool) (lo hi : Nat) (w : World) : Calls Tryd.prog 29 #[.agg (band any lo hi)] w fun e w' => e = .returned (.bool (Fm.may any lo hi)) ∧ Below w.heap.size w w' := by
  have B : Below w.heap.size w (w.alloc (.cells (band any lo hi) 31)) := (Below.refl _ _).alloc (Nat.le_refl _) _
  have R1 := rbits_any lo (w.alloc (.cells (band any lo hi) 31))
  have R2 := rbits_any hi (w.alloc (.cells (band any lo hi) 31))
  cases any
  · have HM : Hid (Fm.may false lo hi = Fm.le lo hi) := by show _ = _; rfl
    clear R1 R2
    unfold band at B ⊢
    go_enter Tryd.func29, Tryd.ntmps29
    go_wp2
    go_ret
    exact ⟨by rw [HM.out]; rfl, B⟩
  · have HM : Hid (Fm.may true lo hi = (decide (Fm.bits lo = 0) && decide (Fm.bits hi = 0))) := by show _ = _; rfl
    unfold band at B R1 R2 ⊢
    generalize Fm.bits lo = x at *
    generalize Fm.bits hi = y at *
    go_enter Tryd.func29, Tryd.ntmps29
    go_wp2_with fail
    refine R1.mono ?_
    rintro e w' ⟨rfl, rfl⟩
    by_cases c : x = 0
    · subst c
      have hy : ((y : Int) == 0) = decide (y = 0) := by rw [Bool.eq_iff_iff]; simp
      go_wp2_with fail
      refine R2.mono ?_
      rintro e w' ⟨rfl, rfl⟩
      go_wp2
      go_ret
      exact ⟨by rw [HM.out]; simp only [decide_true, Bool.true_and]; rfl, B⟩
    · have c' : ((x : Int) == 0) = false := by simp; omega
      go_wp2
      go_ret
      exact ⟨by rw [HM.out]; simp [c], B⟩

set_option maxRecDepth 100000 in
set_option maxHeartbeats 400000 in
theorem rin_any (any : Bool) (lo hi f : Nat) (w : World) : Calls Tryd.prog 30 #[.agg (band any lo hi), .float .f64 f] w fun e w' => e = .returned (.bool (Fm.inb any lo hi f)) ∧ Below w.heap.size w w' := by
  have B : Below w.heap.size w (w.alloc (.cells (band any lo hi) 31)) := (Below.refl _ _).alloc (Nat.le_refl _) _
  have F : Has (w.alloc (.cells (band any lo hi) 31)) w.heap.size 31 (band any lo hi) := Has.new _ _ _
  have R1 := rmay_any any lo hi (w.alloc (.cells (band any lo hi) 31))
  have HI : Hid (Fm.inb any lo hi f = (Fm.may any lo hi && (any || Fm.le lo f && Fm.le f hi))) := by show _ = _; rfl
  generalize Fm.may any lo hi = m at *
  unfold band at B F R1 ⊢
  go_enter Tryd.func30, Tryd.ntmps30
  go_wp2_with fail
  refine R1.mono ?_
  rintro e w1 ⟨rfl, b1⟩
  have F1 := F.below b1 F.lt
  have B1 := B.trans (b1.mono B.size)
  have c0 : w1.cell? ⟨w.heap.size, 0, none⟩ = some (.bool any) := by rw [F1.cell]; rfl
  have c1 : w1.cell? ⟨w.heap.size, 1, none⟩ = some (.float .f64 lo) := by rw [F1.cell]; rfl
  have c2 : w1.cell? ⟨w.heap.size, 2, none⟩ = some (.float .f64 hi) := by rw [F1.cell]; rfl
  clear R1 F B b1 F1
  cases m
  · go_wp2
    go_ret
    exact ⟨by rw [HI.out]; rfl, B1⟩
  · cases any
    · cases hp : Fm.le lo f
      · go_wp2
        go_ret
        exact ⟨by rw [HI.out, hp]; rfl, B1⟩
      · go_wp2
        go_ret
        exact ⟨by rw [HI.out, hp]; rfl, B1⟩
    · go_wp2
      go_ret
      exact ⟨by rw [HI.out]; rfl, B1⟩
end

section
set_option maxRecDepth 100000 in
theorem copysign_minus (w : World) : Calls Tryd.prog 13 #[.float .f64 0, .float .f64 13830554455654793216] w fun e w' => e = .returned (.float .f64 9223372036854775808) ∧ w' = w := by
  have f1 : (callFunc 24 #[.float .f64 0]).run Tryd.prog w = .ok (.value (.int .u64 0)) w := fbits w 0
  have f2 : (callFunc 24 #[.float .f64 13830554455654793216]).run Tryd.prog w = .ok (.value (.int .u64 13830554455654793216)) w := fbits w 13830554455654793216
  have f3 : (callFunc 39 #[.int .u64 9223372036854775808]).run Tryd.prog w = .ok (.value (.float .f64 9223372036854775808)) w := ffrom w 9223372036854775808
  have o1 : bits .andNot .u64 0 9223372036854775808 = 0 := by decide
  have o2 : bits .and .u64 13830554455654793216 9223372036854775808 = 9223372036854775808 := by decide
  have o3 : bits .or .u64 0 9223372036854775808 = 9223372036854775808 := by decide
  go_enter Tryd.func13, Tryd.ntmps13
  go_wp2
  go_ret
  exact ⟨rfl, rfl⟩
set_option maxRecDepth 100000 in
theorem nan_any (w : World) : Calls Tryd.prog 15 #[] w fun e w' => e = .returned (.float .f64 Fm.nan) ∧ w' = w := by
  have f3 : (callFunc 39 #[.int .u64 9221120237041090561]).run Tryd.prog w = .ok (.value (.float .f64 9221120237041090561)) w := ffrom w 9221120237041090561
  go_enter Tryd.func15, Tryd.ntmps15
  go_wp2
  go_ret
  exact ⟨rfl, rfl⟩
set_option maxRecDepth 100000 in
theorem inf_plus (w : World) : Calls Tryd.prog 31 #[.int .i64 1] w fun e w' => e = .returned (.float .f64 9218868437227405312) ∧ w' = w := by
  have f3 : (callFunc 39 #[.int .u64 9218868437227405312]).run Tryd.prog w = .ok (.value (.float .f64 9218868437227405312)) w := ffrom w 9218868437227405312
  go_enter Tryd.func31, Tryd.ntmps31
  go_wp2
  go_ret
  exact ⟨rfl, rfl⟩
set_option maxRecDepth 100000 in
theorem inf_minus (w : World) : Calls Tryd.prog 31 #[.int .i64 (-1)] w fun e w' => e = .returned (.float .f64 18442240474082181120) ∧ w' = w := by
  have f3 : (callFunc 39 #[.int .u64 18442240474082181120]).run Tryd.prog w = .ok (.value (.float .f64 18442240474082181120)) w := ffrom w 18442240474082181120
  go_enter Tryd.func31, Tryd.ntmps31
  go_wp2
  go_ret
  exact ⟨rfl, rfl⟩
end
end Go.Proofs.YtmdpeifpgnkbiaaDoor
