/-
  Plain mathematics of chapter 1 once more (no Go in it): what was laid is read again; a number has one form; a greater number has no fewer bytes. Condition: numbers fit 64 bits.
-/
import Derived.Test.YtbfpcolbkfcanaaVm
namespace Go.Proofs.Ytbfpcolbkfcanaa.Vm

theorem putF_len_mono : ∀ (f a b : Nat), a ≤ b → (putF f a).length ≤ (putF f b).length
  | 0, a, b, _ => by simp [putF]
  | f + 1, a, b, h => by
    rw [putF, putF]
    by_cases ha : a < 128
    · rw [if_pos ha]; split <;> simp
    · rw [if_neg ha, if_neg (by omega)]
      have := putF_len_mono f (a / 128) (b / 128) (Nat.div_le_div_right h)
      simp; omega
theorem put_mono {a b : Nat} (h : a ≤ b) : (put a).length ≤ (put b).length := putF_len_mono 9 a b h

/-- What was laid is read, whatever stands behind it. -/
theorem decF_putF : ∀ (f i acc n : Nat) (r : List Nat), f + i = 9 → n < lim i → (i ≠ 0 → n ≠ 0) → decF (f + 1) i acc (putF f n ++ r) = some (acc + n * 128 ^ i, i + (putF f n).length)
  | 0, i, acc, n, r, hi, hn, h0 => by
    obtain rfl : i = 9 := by omega
    have e : lim 9 = 2 := by decide
    rw [e] at hn
    simp only [putF, List.cons_append, List.nil_append, decF]
    rw [if_pos (by omega), if_neg (by omega)]
    rfl
  | f + 1, i, acc, n, r, hi, hn, h0 => by
    rw [putF]
    by_cases hs : n < 128
    · rw [if_pos hs]
      simp only [List.cons_append, List.nil_append, decF]
      rw [if_pos hs, if_neg (by omega)]
      rfl
    · rw [if_neg hs]
      simp only [List.cons_append, decF]
      rw [if_neg (by omega)]
      have ih := decF_putF f (i + 1) (acc + (n % 128 + 128 - 128) * 128 ^ i) (n / 128) r (by omega) (lim_step (by omega) hn (by omega)).2 (by omega)
      rw [ih]
      have e : acc + (n % 128 + 128 - 128) * 128 ^ i + n / 128 * 128 ^ (i + 1) = acc + n * 128 ^ i := by
        have h1 : n % 128 + 128 - 128 = n % 128 := by omega
        have h2 : n % 128 * 128 ^ i + n / 128 * (128 ^ i * 128) = n * 128 ^ i := by
          generalize 128 ^ i = X
          have h3 : n % 128 * X + n / 128 * (X * 128) = (n % 128 + 128 * (n / 128)) * X := by
            rw [Nat.add_mul, Nat.mul_comm X 128, ← Nat.mul_assoc, Nat.mul_comm (n / 128) 128]
          rw [h3, Nat.mod_add_div]
        rw [h1, Nat.pow_succ, Nat.add_assoc, h2]
      rw [e]
      simp; omega
theorem dec_put {n : Nat} (h : Fits n) (r : List Nat) : dec (put n ++ r) = some (n, (put n).length) := by
  have := decF_putF 9 0 0 n r rfl (by unfold Fits at h; unfold lim; simpa using h) (by omega)
  rw [dec, put, this]; simp
theorem put_inj {a b : Nat} (ha : Fits a) (hb : Fits b) (h : put a = put b) : a = b := by
  have h1 := dec_put ha []
  rw [h, dec_put hb []] at h1
  injection h1 with h1; injection h1 with h1 _
  exact h1.symm
theorem put_small {n : Nat} (h : n < 128) : put n = [n] := by rw [put, putF, if_pos h]

end Go.Proofs.Ytbfpcolbkfcanaa.Vm
