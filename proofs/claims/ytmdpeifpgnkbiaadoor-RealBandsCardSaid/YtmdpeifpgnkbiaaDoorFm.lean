/-
  The order of 64-bit floats (the model's Ieee.double) by their words: none where one is a NaN, else that of the signed rungs; what follows for '==', '<', '<='. No conditions; nothing of any program.
-/
import Ieee.Arith
import GoSem.Core.Float
namespace Go.Proofs.YtmdpeifpgnkbiaaDoor.Fm

def inf : Nat := 9218868437227405312
/-- A word's rung, its sign, whether it is a NaN; its signed rung. -/
def rung (u : Nat) : Nat := u % 9223372036854775808
def neg (u : Nat) : Bool := u / 9223372036854775808 % 2 == 1
def isN (u : Nat) : Bool := decide (inf < rung u)
def rk (u : Nat) : Int := if neg u then -(rung u : Int) else (rung u : Int)

def mant (r : Nat) : Nat := if r < 4503599627370496 then r else 4503599627370496 + r % 4503599627370496
def expo (r : Nat) : Nat := r / 4503599627370496 - 1
theorem mant_lo {r : Nat} (h : 4503599627370496 ≤ r) : 4503599627370496 ≤ mant r := by unfold mant; split <;> omega
theorem mant_hi (r : Nat) : mant r < 9007199254740992 := by unfold mant; split <;> omega
/-- Magnitudes rise with the rungs. -/
theorem val_lt {a b : Nat} (h : a < b) : mant a * 2 ^ expo a < mant b * 2 ^ expo b := by
  have hb0 := mant_hi b
  have ha0 := mant_hi a
  by_cases hb : b < 4503599627370496
  · have ea : expo a = 0 := by unfold expo; omega
    have eb : expo b = 0 := by unfold expo; omega
    have ma : mant a = a := by unfold mant; rw [if_pos (by omega)]
    have mb : mant b = b := by unfold mant; rw [if_pos hb]
    rw [ea, eb, ma, mb]; omega
  · have lb := mant_lo (r := b) (by omega)
    have hle : expo a ≤ expo b := by unfold expo; have := Nat.div_le_div_right (c := 4503599627370496) (Nat.le_of_lt h); omega
    by_cases he : expo a = expo b
    · have hm : mant a < mant b := by
        by_cases ha : a < 4503599627370496
        · have ma : mant a = a := by unfold mant; rw [if_pos ha]
          omega
        · have ma : mant a = 4503599627370496 + a % 4503599627370496 := by unfold mant; rw [if_neg ha]
          have mb : mant b = 4503599627370496 + b % 4503599627370496 := by unfold mant; rw [if_neg hb]
          unfold expo at he
          omega
      rw [he]
      exact Nat.mul_lt_mul_of_pos_right hm (Nat.two_pow_pos _)
    · obtain ⟨d, hd⟩ : ∃ d, expo b = expo a + 1 + d := ⟨expo b - expo a - 1, by omega⟩
      have h1 : mant a * 2 ^ expo a < 9007199254740992 * 2 ^ expo a := Nat.mul_lt_mul_of_pos_right ha0 (Nat.two_pow_pos _)
      have h2 : 9007199254740992 * 2 ^ expo a ≤ mant b * 2 ^ expo b := by
        rw [hd, Nat.pow_add, Nat.pow_add]
        have h3 : 1 ≤ 2 ^ d := Nat.one_le_two_pow
        have h4 : 4503599627370496 * (2 ^ expo a * 2 ^ 1) ≤ mant b * (2 ^ expo a * 2 ^ 1) := Nat.mul_le_mul_right _ lb
        have h5 : mant b * (2 ^ expo a * 2 ^ 1) * 1 ≤ mant b * (2 ^ expo a * 2 ^ 1) * 2 ^ d := Nat.mul_le_mul_left _ h3
        have h6 : mant b * (2 ^ expo a * 2 ^ 1 * 2 ^ d) = mant b * (2 ^ expo a * 2 ^ 1) * 2 ^ d := (Nat.mul_assoc _ _ _).symm
        rw [h6]
        omega
      omega
theorem val_lt_iff (a b : Nat) : mant a * 2 ^ expo a < mant b * 2 ^ expo b ↔ a < b := by
  refine ⟨fun h => ?_, val_lt⟩
  rcases Nat.lt_trichotomy a b with h1 | h1 | h1
  · exact h1
  · subst h1; exact absurd h (Nat.lt_irrefl _)
  · exact absurd (val_lt h1) (by omega)
theorem val_eq_iff (a b : Nat) : mant a * 2 ^ expo a = mant b * 2 ^ expo b ↔ a = b := by
  refine ⟨fun h => ?_, fun h => by rw [h]⟩
  rcases Nat.lt_trichotomy a b with h1 | h1 | h1
  · have := val_lt h1; omega
  · exact h1
  · have := val_lt h1; omega

theorem cmp_eq {x y x' y' : Int} (h1 : x < y ↔ x' < y') (h2 : x = y ↔ x' = y') : compare x y = compare x' y' := by
  simp only [compare, compareOfLessAndEq]
  by_cases a : x < y
  · rw [if_pos a, if_pos (h1.1 a)]
  · rw [if_neg a, if_neg (fun h => a (h1.2 h))]
    by_cases b : x = y
    · rw [if_pos b, if_pos (h2.1 b)]
    · rw [if_neg b, if_neg (fun h => b (h2.2 h))]

theorem read_eq (u : Nat) : Ieee.double.read u =
    if rung u < inf then .number (neg u) (mant (rung u)) ((expo (rung u) : Int) - 1074) else if rung u = inf then .infinity (neg u) else .nan (neg u) (rung u - inf) := by
  have s : Ieee.double.signWeight = 9223372036854775808 := by decide
  have b : Ieee.double.binade = 4503599627370496 := by decide
  have i : Ieee.double.infRung = 9218868437227405312 := by decide
  have p : Ieee.double.leastPlace = -1074 := by decide
  unfold Ieee.Format.read
  simp only [s, b, i, p]
  unfold rung neg inf mant expo
  generalize u % 9223372036854775808 = r
  by_cases h1 : r < 4503599627370496
  · rw [if_pos h1, if_pos (by omega), if_pos h1]
    congr 1
    omega
  · rw [if_neg h1]
    by_cases h2 : r < 9218868437227405312
    · rw [if_pos h2, if_pos h2, if_neg h1]
      congr 1
      try omega
    · rw [if_neg h2, if_neg h2]

theorem signed_cmp (s t : Bool) (a b : Nat) : compare (Ieee.signed s (mant a) ((expo a : Int) - 1074 - min ((expo a : Int) - 1074) ((expo b : Int) - 1074)).toNat) (Ieee.signed t (mant b) ((expo b : Int) - 1074 - min ((expo a : Int) - 1074) ((expo b : Int) - 1074)).toNat)
    = compare (if s then -(a : Int) else (a : Int)) (if t then -(b : Int) else (b : Int)) := by
  obtain ⟨m, hm⟩ : ∃ m, m = min (expo a) (expo b) := ⟨_, rfl⟩
  have e1 : ((expo a : Int) - 1074 - min ((expo a : Int) - 1074) ((expo b : Int) - 1074)).toNat = expo a - m := by omega
  have e2 : ((expo b : Int) - 1074 - min ((expo a : Int) - 1074) ((expo b : Int) - 1074)).toNat = expo b - m := by omega
  rw [e1, e2]
  have va : mant a * 2 ^ expo a = (mant a <<< (expo a - m)) * 2 ^ m := by
    rw [Nat.shiftLeft_eq, Nat.mul_assoc, ← Nat.pow_add, Nat.sub_add_cancel (by omega)]
  have vb : mant b * 2 ^ expo b = (mant b <<< (expo b - m)) * 2 ^ m := by
    rw [Nat.shiftLeft_eq, Nat.mul_assoc, ← Nat.pow_add, Nat.sub_add_cancel (by omega)]
  have l1 := val_lt_iff a b
  have l2 := val_lt_iff b a
  have l3 := val_eq_iff a b
  have z1 := val_eq_iff a 0
  have z2 := val_eq_iff b 0
  have z0 : mant 0 * 2 ^ expo 0 = 0 := by decide
  rw [z0] at z1 z2
  rw [va, vb] at l1 l2 l3
  rw [va] at z1
  rw [vb] at z2
  have hp : 0 < 2 ^ m := Nat.two_pow_pos _
  unfold Ieee.signed
  generalize mant a <<< (expo a - m) = A at *
  generalize mant b <<< (expo b - m) = B at *
  generalize 2 ^ m = q at *
  rw [Nat.mul_lt_mul_right hp] at l1 l2
  have l3' : A = B ↔ a = b := by
    rw [← l3]; exact ⟨fun h => by rw [h], fun h => Nat.eq_of_mul_eq_mul_right hp h⟩
  have z1' : A = 0 ↔ a = 0 := by
    rw [← z1]; exact ⟨fun h => by rw [h, Nat.zero_mul], fun h => by rcases Nat.mul_eq_zero.1 h with h | h <;> omega⟩
  have z2' : B = 0 ↔ b = 0 := by
    rw [← z2]; exact ⟨fun h => by rw [h, Nat.zero_mul], fun h => by rcases Nat.mul_eq_zero.1 h with h | h <;> omega⟩
  clear l3 z1 z2 va vb
  refine cmp_eq ?_ ?_ <;> cases s <;> cases t <;> simp only [Bool.false_eq_true, if_true, if_false] <;> omega

theorem cmp_cases (x y : Int) : (compare x y = .lt ↔ x < y) ∧ (compare x y = .eq ↔ x = y) ∧ (compare x y = .gt ↔ y < x) := by
  simp only [compare, compareOfLessAndEq]
  by_cases h : x < y
  · rw [if_pos h]; simp; omega
  · rw [if_neg h]
    by_cases h2 : x = y
    · rw [if_pos h2]; simp; omega
    · rw [if_neg h2]; simp; omega
theorem order_eq (x y : Nat) : Ieee.double.order x y = if isN x || isN y then none else some (compare (rk x) (rk y)) := by
  unfold Ieee.Format.order
  rw [read_eq, read_eq]
  unfold isN rk
  generalize rung x = a
  generalize rung y = b
  generalize neg x = s
  generalize neg y = t
  have hi : inf = 9218868437227405312 := rfl
  by_cases a1 : a < inf
  · rw [if_pos a1]
    have na : ¬ inf < a := by omega
    by_cases b1 : b < inf
    · have nb : ¬ inf < b := by omega
      rw [if_pos b1]
      simp only [Ieee.Datum.order, na, nb, decide_false, Bool.or_self, Bool.false_eq_true, if_false]
      rw [signed_cmp]
    · rw [if_neg b1]
      by_cases b2 : b = inf
      · have nb : ¬ inf < b := by omega
        rw [if_pos b2]
        simp only [Ieee.Datum.order, na, nb, decide_false, Bool.or_self, Bool.false_eq_true, if_false]
        congr 1
        subst b2
        cases t
        · exact ((cmp_cases _ _).1.2 (by cases s <;> simp <;> omega)).symm
        · exact ((cmp_cases _ _).2.2.2 (by cases s <;> simp <;> omega)).symm
      · have nb : inf < b := by omega
        rw [if_neg b2]
        simp [Ieee.Datum.order, na, nb]
  · rw [if_neg a1]
    by_cases a2 : a = inf
    · have na : ¬ inf < a := by omega
      rw [if_pos a2]
      by_cases b1 : b < inf
      · have nb : ¬ inf < b := by omega
        rw [if_pos b1]
        simp only [Ieee.Datum.order, na, nb, decide_false, Bool.or_self, Bool.false_eq_true, if_false]
        congr 1
        subst a2
        cases s
        · exact ((cmp_cases _ _).2.2.2 (by cases t <;> simp <;> omega)).symm
        · exact ((cmp_cases _ _).1.2 (by cases t <;> simp <;> omega)).symm
      · rw [if_neg b1]
        by_cases b2 : b = inf
        · have nb : ¬ inf < b := by omega
          rw [if_pos b2]
          simp only [Ieee.Datum.order, na, nb, decide_false, Bool.or_self, Bool.false_eq_true, if_false]
          congr 1
          subst a2 b2
          cases s <;> cases t <;> decide
        · have nb : inf < b := by omega
          rw [if_neg b2]
          simp [Ieee.Datum.order, na, nb]
    · have na : inf < a := by omega
      rw [if_neg a2]
      simp [Ieee.Datum.order, na]

/-- What Go's '==', '<', '<=' say of two floats. -/
def eq (x y : Nat) : Bool := !isN x && !isN y && decide (rk x = rk y)
def lt (x y : Nat) : Bool := !isN x && !isN y && decide (rk x < rk y)
def le (x y : Nat) : Bool := !isN x && !isN y && decide (rk x ≤ rk y)
theorem order_eql (x y : Nat) : (FloatKind.f64.format.order x y == some .eq) = eq x y := by
  show (Ieee.double.order x y == some .eq) = eq x y
  rw [order_eq, eq]
  have h := cmp_cases (rk x) (rk y)
  cases isN x <;> cases isN y <;> simp
  rw [Bool.eq_iff_iff]; simp [h.2.1]
theorem order_lss (x y : Nat) : (FloatKind.f64.format.order x y == some .lt) = lt x y := by
  show (Ieee.double.order x y == some .lt) = lt x y
  rw [order_eq, lt]
  have h := cmp_cases (rk x) (rk y)
  cases isN x <;> cases isN y <;> simp
  rw [Bool.eq_iff_iff]; simp [h.1]
theorem order_gtr (x y : Nat) : (FloatKind.f64.format.order x y == some .gt) = lt y x := by
  show (Ieee.double.order x y == some .gt) = lt y x
  rw [order_eq, lt]
  have h := cmp_cases (rk x) (rk y)
  cases isN x <;> cases isN y <;> simp
  rw [Bool.eq_iff_iff]; simp [h.2.2]
theorem order_neq (x y : Nat) : (FloatKind.f64.format.order x y != some .eq) = !eq x y := by rw [bne, order_eql]
theorem lt_or_eq (x y : Nat) : (lt x y || eq x y) = le x y := by
  unfold lt eq le
  cases isN x <;> cases isN y <;> simp
  rw [Bool.eq_iff_iff]; simp; omega
end Go.Proofs.YtmdpeifpgnkbiaaDoor.Fm
