/-
  Plain mathematics of chapter 1 (no Go in it): texts and words that were laid are read again, whatever stands behind; no beginning of what was laid is one; what is read, laid again, are the bytes that were read. Condition: numbers fit 64 bits.
-/
import Derived.Test.YtbfpcolbkfcanaaVn
namespace Go.Proofs.Ytbfpcolbkfcanaa.Vm

theorem decF_take : ∀ (f i acc n k : Nat), k < (putF f n).length → decF (f + 1) i acc ((putF f n).take k) = none
  | f, i, acc, n, 0, _ => by simp [decF]
  | 0, i, acc, n, k + 1, h => by simp [putF] at h
  | f + 1, i, acc, n, k + 1, h => by
    rw [putF] at h ⊢
    by_cases hs : n < 128
    · rw [if_pos hs] at h; simp at h
    · rw [if_neg hs] at h ⊢
      simp only [List.take_succ_cons, decF]
      rw [if_neg (by omega)]
      exact decF_take f (i + 1) _ (n / 128) k (by simpa using h)
theorem dec_take {n k : Nat} (h : k < (put n).length) : dec ((put n).take k) = none := decF_take 9 0 0 n k h

theorem text_back {T : List Nat} (h : Fits T.length) (r : List Nat) : getText (put T.length ++ T ++ r) (T.length : Int) = some (T, (put T.length ++ T).length) := by
  rw [getText, List.append_assoc, dec_put h]
  simp
theorem text_less {T : List Nat} (h : Fits T.length) (r : List Nat) : getText (put T.length ++ T ++ r) ((T.length : Int) - 1) = none := by
  rw [getText, List.append_assoc, dec_put h]
  simp; omega
theorem text_take {T : List Nat} (h : Fits T.length) {k : Nat} (hk : k < (put T.length ++ T).length) (m : Int) : getText ((put T.length ++ T).take k) m = none := by
  by_cases hp : k < (put T.length).length
  · rw [getText, List.take_append_of_le_length (by omega), dec_take hp]
  · rw [getText]
    have e : (put T.length ++ T).take k = put T.length ++ T.take (k - (put T.length).length) := by
      rw [List.take_append, List.take_of_length_le (by omega)]
    rw [e, dec_put h]
    simp only [List.length_append] at hk
    refine if_pos (.inr (.inr ?_))
    simp; omega
theorem word_length (n : Nat) : (word n).length = 8 := rfl
theorem word_byte (n : Nat) : ∀ x ∈ word n, x < 256 := by
  intro x hx
  simp only [word, List.mem_cons, List.not_mem_nil, or_false] at hx
  omega
theorem word_back {n : Nat} (h : Fits n) (r : List Nat) : be ((word n ++ r).take 8) = n := by
  have e : (word n ++ r).take 8 = word n := by rw [List.take_append_of_le_length (by simp [word])]; rfl
  rw [e, be_word n h]

/-- What is read, laid again, are the bytes that were read. -/
theorem putF_decF : ∀ (f i acc : Nat) (l : List Nat) (n k : Nat), f + i = 10 → (∀ j, l.getD j 0 < 256) → decF f i acc l = some (n, k) → ∃ m, n = acc + m * 128 ^ i ∧ (i ≠ 0 → m ≠ 0) ∧ putF (f - 1) m = l.take (k - i) ∧ i < k ∧ m < lim i
  | 0, _, _, _, _, _, _, _, h => by simp [decF] at h
  | _ + 1, _, _, [], _, _, _, _, h => by simp [decF] at h
  | f + 1, i, acc, b :: r, n, k, hf, hb, h => by
    rw [decF] at h
    have hb0 : b < 256 := by simpa using hb 0
    by_cases h1 : b < 128
    · rw [if_pos h1] at h
      split at h
      · cases h
      · next hn =>
        injection h with h; injection h with e1 e2
        subst e1 e2
        have hl : b < lim i := by
          by_cases h9 : i = 9
          · subst h9; have : lim 9 = 2 := by decide
            omega
          · have : lim 8 ≤ lim i := Nat.pow_le_pow_right (by omega) (by omega)
            have e8 : lim 8 = 256 := by decide
            omega
        refine ⟨b, rfl, by omega, ?_, by omega, hl⟩
        have e : i + 1 - i = 1 := by omega
        rw [e]
        cases f with
        | zero => rfl
        | succ g => show putF g.succ b = _; rw [putF, if_pos h1]; rfl
    · rw [if_neg h1] at h
      obtain ⟨m, e1, e2, e3, e4, e5⟩ := putF_decF f (i + 1) _ r n k (by omega) (fun j => by simpa using hb (j + 1)) h
      have hm0 : m ≠ 0 := e2 (by omega)
      have hf0 : f ≠ 0 := by rintro rfl; simp [decF] at h
      obtain ⟨g, rfl⟩ : ∃ g, f = g + 1 := ⟨f - 1, by omega⟩
      refine ⟨(b - 128) + 128 * m, ?_, by omega, ?_, by omega, ?_⟩
      · rw [e1, Nat.pow_succ, Nat.add_assoc, Nat.add_mul]
        have : m * (128 ^ i * 128) = 128 * m * 128 ^ i := by rw [Nat.mul_comm (128 ^ i) 128, ← Nat.mul_assoc, Nat.mul_comm m 128]
        rw [this]
      · have e : k - i = (k - (i + 1)) + 1 := by omega
        show putF (g + 1) _ = _
        rw [putF, if_neg (by omega), e, List.take_succ_cons, ← e3]
        have d1 : (b - 128 + 128 * m) % 128 + 128 = b := by omega
        have d2 : (b - 128 + 128 * m) / 128 = m := by omega
        rw [d1, d2]; rfl
      · have hx : lim i = lim (i + 1) * 128 := by
          unfold lim
          have e : 64 - 7 * i = (64 - 7 * (i + 1)) + 7 := by omega
          rw [e, Nat.pow_add]
        omega
theorem put_dec {l : List Nat} {n k : Nat} (h : dec l = some (n, k)) (hb : ∀ j, l.getD j 0 < 256) : put n = l.take k := by
  obtain ⟨m, e1, _, e3, _, _⟩ := putF_decF 10 0 0 l n k rfl hb h
  have : n = m := by simpa using e1
  rw [this]; simpa [put] using e3

end Go.Proofs.Ytbfpcolbkfcanaa.Vm
