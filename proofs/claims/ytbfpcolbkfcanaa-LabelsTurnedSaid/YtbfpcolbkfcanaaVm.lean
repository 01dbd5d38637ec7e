/-
  Plain mathematics of chapter 1 (no Go in it): a number laid in groups of seven bits ('put'), bytes read as a number ('dec'), a word as eight bytes ('word'). No conditions.
-/
import Derived.Below
namespace Go.Proofs.Ytbfpcolbkfcanaa.Vm

/-- A number in groups of seven bits, with fuel. -/
def putF : Nat → Nat → List Nat
  | 0, n => [n]
  | f + 1, n => if n < 128 then [n] else (n % 128 + 128) :: putF f (n / 128)
def put (n : Nat) : List Nat := putF 9 n

/-- It fits 64 bits. -/
def Fits (n : Nat) : Prop := n < 18446744073709551616

/-- How large the rest may be after k groups. -/
def lim (k : Nat) : Nat := 2 ^ (64 - 7 * k)
def PutRel (n : Nat) (acc : List Nat) (m : Nat) : Prop := m < lim acc.length ∧ acc ++ putF (9 - acc.length) m = put n

theorem lim_step {k m : Nat} (hk : k ≤ 9) (h : m < lim k) (hm : 128 ≤ m) : k < 9 ∧ m / 128 < lim (k + 1) := by
  unfold lim at h ⊢
  have hk9 : k ≠ 9 := by rintro rfl; simp at h; omega
  refine ⟨by omega, ?_⟩
  have e : 64 - 7 * k = (64 - 7 * (k + 1)) + 7 := by omega
  rw [e, Nat.pow_add] at h
  have : (2 : Nat) ^ 7 = 128 := by decide
  rw [this] at h
  exact Nat.div_lt_of_lt_mul (by rw [Nat.mul_comm]; exact h)
theorem lim_le (k : Nat) : lim k ≤ 18446744073709551616 := by
  have h : lim k ≤ 2 ^ 64 := Nat.pow_le_pow_right (by omega) (by omega)
  have : (2 : Nat) ^ 64 = 18446744073709551616 := by decide
  omega

theorem putRel_start (n : Nat) (h : Fits n) : PutRel n [] n := ⟨by unfold Fits at h; unfold lim; simpa using h, rfl⟩
theorem fits_of {n m : Nat} {acc : List Nat} (h : PutRel n acc m) : Fits m := Nat.lt_of_lt_of_le h.1 (lim_le _)
theorem putRel_step {n m : Nat} {acc : List Nat} (hl : acc.length ≤ 9) (h : PutRel n acc m) (hm : 128 ≤ m) : (acc ++ [m % 128 + 128]).length ≤ 9 ∧ PutRel n (acc ++ [m % 128 + 128]) (m / 128) := by
  obtain ⟨h1, h2⟩ := h
  obtain ⟨h3, h4⟩ := lim_step hl h1 hm
  refine ⟨by simp; omega, by simpa using h4, ?_⟩
  obtain ⟨f, hf⟩ : ∃ f, 9 - acc.length = f + 1 := ⟨8 - acc.length, by omega⟩
  rw [hf, putF, if_neg (by omega)] at h2
  have e : 9 - (acc ++ [m % 128 + 128]).length = f := by simp; omega
  rw [e, List.append_assoc]
  exact h2
theorem putRel_end {n m : Nat} {acc : List Nat} (h : PutRel n acc m) (hm : m < 128) : acc ++ [m] = put n := by
  obtain ⟨_, h2⟩ := h
  rw [← h2]
  cases 9 - acc.length with
  | zero => rfl
  | succ f => rw [putF, if_pos hm]

theorem putF_len : ∀ (f n : Nat), (putF f n).length ≤ f + 1
  | 0, n => by simp [putF]
  | f + 1, n => by
    rw [putF]; split
    · simp
    · have := putF_len f (n / 128); simp; omega
theorem putF_pos : ∀ (f n : Nat), 0 < (putF f n).length
  | 0, n => by simp [putF]
  | f + 1, n => by rw [putF]; split <;> simp

theorem putF_byte : ∀ (f n : Nat), f ≤ 9 → n < lim (9 - f) → ∀ x ∈ putF f n, x < 256
  | 0, n, _, h, x, hx => by
    simp [putF] at hx; subst hx
    have : lim (9 - 0) = 2 := by decide
    omega
  | f + 1, n, hf, h, x, hx => by
    rw [putF] at hx
    split at hx
    · simp at hx; subst hx; omega
    · next hn =>
      rcases List.mem_cons.1 hx with e | e
      · subst e; omega
      · have g := (lim_step (k := 9 - (f + 1)) (by omega) h (by omega)).2
        have e9 : 9 - (f + 1) + 1 = 9 - f := by omega
        rw [e9] at g
        exact putF_byte f (n / 128) (by omega) g x e
theorem getD_lt {l : List Nat} (h : ∀ x ∈ l, x < 256) (j : Nat) : l.getD j 0 < 256 := by
  by_cases hj : j < l.length
  · simp only [List.getD, List.getElem?_eq_getElem hj, Option.getD_some]; exact h _ (List.getElem_mem hj)
  · simp only [List.getD, List.getElem?_eq_none (show l.length ≤ j by omega), Option.getD_none]; omega
theorem put_byte {n : Nat} (h : Fits n) : ∀ x ∈ put n, x < 256 := putF_byte 9 n (by omega) (by unfold Fits at h; unfold lim; simpa using h)

/-! ### Reading a number -/
def decF : Nat → Nat → Nat → List Nat → Option (Nat × Nat)
  | 0, _, _, _ => none
  | _ + 1, _, _, [] => none
  | f + 1, i, acc, b :: r => if b < 128 then (if (b = 0 ∧ i ≠ 0) ∨ (i = 9 ∧ 1 < b) then none else some (acc + b * 128 ^ i, i + 1)) else decF f (i + 1) (acc + (b - 128) * 128 ^ i) r
/-- The number that bytes begin with, and how many bytes it takes. -/
def dec (l : List Nat) : Option (Nat × Nat) := decF 10 0 0 l
def GetRel (l : List Nat) (k m acc : Nat) : Prop := Fits m ∧ (k ≤ 9 → m = acc ∧ acc < 128 ^ k) ∧ decF (10 - k) k acc (l.drop k) = dec l

theorem drop_at (l : List Nat) (k : Nat) (h : k < l.length) : l.drop k = l.getD k 0 :: l.drop (k + 1) := by
  rw [List.drop_eq_getElem_cons h]; simp [List.getD, List.getElem?_eq_getElem h]
theorem getRel_start (l : List Nat) : GetRel l 0 0 0 := ⟨by unfold Fits; omega, fun _ => ⟨rfl, by simp⟩, rfl⟩
theorem getRel_out {l : List Nat} {k m acc : Nat} (h : GetRel l k m acc) (hk : 10 ≤ k ∨ l.length ≤ k) : dec l = none := by
  rw [← h.2.2]
  rcases hk with hk | hk
  · have e : 10 - k = 0 := by omega
    rw [e, decF]
  · rw [List.drop_of_length_le hk]
    cases 10 - k <;> rfl
theorem getRel_step {l : List Nat} {k m acc : Nat} (h : GetRel l k m acc) (hk : k < 10) (hl : k < l.length) (h1 : 128 ≤ l.getD k 0) (h2 : l.getD k 0 < 256) (m' : Nat) (hm : Fits m')
    (he : k ≤ 8 → m' = m + (l.getD k 0 - 128) * 128 ^ k) : GetRel l (k + 1) m' (acc + (l.getD k 0 - 128) * 128 ^ k) := by
  obtain ⟨a, b, c⟩ := h
  refine ⟨hm, fun h9 => ?_, ?_⟩
  · obtain ⟨e, f⟩ := b (by omega)
    refine ⟨by rw [he (by omega), e], ?_⟩
    have g : (l.getD k 0 - 128) * 128 ^ k ≤ 127 * 128 ^ k := Nat.mul_le_mul_right _ (by omega)
    rw [Nat.pow_succ]; omega
  · rw [← c]
    obtain ⟨f, hf⟩ : ∃ f, 10 - k = f + 1 := ⟨9 - k, by omega⟩
    have e : 10 - (k + 1) = f := by omega
    rw [hf, drop_at l k hl, decF, if_neg (by omega), e]
theorem getRel_bad {l : List Nat} {k m acc : Nat} (h : GetRel l k m acc) (hk : k < 10) (hl : k < l.length) (h1 : l.getD k 0 < 128) (hb : (l.getD k 0 = 0 ∧ k ≠ 0) ∨ (k = 9 ∧ 1 < l.getD k 0)) : dec l = none := by
  rw [← h.2.2]
  obtain ⟨f, hf⟩ : ∃ f, 10 - k = f + 1 := ⟨9 - k, by omega⟩
  rw [hf, drop_at l k hl, decF, if_pos h1, if_pos hb]
theorem getRel_good {l : List Nat} {k m acc : Nat} (h : GetRel l k m acc) (hk : k < 10) (hl : k < l.length) (h1 : l.getD k 0 < 128) (hb : ¬ ((l.getD k 0 = 0 ∧ k ≠ 0) ∨ (k = 9 ∧ 1 < l.getD k 0))) : dec l = some (m + l.getD k 0 * 128 ^ k, k + 1) := by
  rw [← h.2.2]
  obtain ⟨f, hf⟩ : ∃ f, 10 - k = f + 1 := ⟨9 - k, by omega⟩
  rw [hf, drop_at l k hl, decF, if_pos h1, if_neg hb, (h.2.1 (by omega)).1]

theorem decF_ok : ∀ (f i acc : Nat) (l : List Nat) (n k : Nat), f + i = 10 → acc < 128 ^ i → decF f i acc l = some (n, k) → (∀ j, l.getD j 0 < 256) → i < k ∧ k ≤ i + l.length ∧ k ≤ 10 ∧ Fits n
  | 0, _, _, _, _, _, _, _, h, _ => by simp [decF] at h
  | _ + 1, _, _, [], _, _, _, _, h, _ => by simp [decF] at h
  | f + 1, i, acc, b :: r, n, k, hf, ha, h, hb => by
    rw [decF] at h
    have hb0 : b < 256 := by simpa using hb 0
    have p9 : (128 : Nat) ^ 9 = 9223372036854775808 := by decide
    by_cases h1 : b < 128
    · rw [if_pos h1] at h
      split at h
      · cases h
      · next hn =>
        injection h with h; injection h with e1 e2
        subst e1 e2
        refine ⟨by omega, by simp, by omega, ?_⟩
        unfold Fits
        have g : b * 128 ^ i ≤ 127 * 128 ^ i := Nat.mul_le_mul_right _ (by omega)
        by_cases h9 : i = 9
        · subst h9
          rw [p9] at ha ⊢
          omega
        · have p : 128 ^ (i + 1) ≤ 128 ^ 9 := Nat.pow_le_pow_right (by omega) (by omega)
          rw [Nat.pow_succ, p9] at p
          omega
    · rw [if_neg h1] at h
      have g : (b - 128) * 128 ^ i ≤ 127 * 128 ^ i := Nat.mul_le_mul_right _ (by omega)
      have ih := decF_ok f (i + 1) _ r n k (by omega) (by rw [Nat.pow_succ]; omega) h (fun j => by simpa using hb (j + 1))
      obtain ⟨i1, i2, i3, i4⟩ := ih
      simp only [List.length_cons]
      exact ⟨by omega, by omega, i3, i4⟩
theorem dec_ok {l : List Nat} {n k : Nat} (h : dec l = some (n, k)) (hb : ∀ j, l.getD j 0 < 256) : 1 ≤ k ∧ k ≤ l.length ∧ k ≤ 10 ∧ Fits n := by
  obtain ⟨i1, i2, i3, i4⟩ := decF_ok 10 0 0 l n k rfl (by simp) h hb
  exact ⟨by omega, by omega, i3, i4⟩
/-- The text that bytes begin with, of at most most bytes, and how many bytes it takes. -/
def getText (l : List Nat) (most : Int) : Option (List Nat × Nat) :=
  match dec l with
  | none => none
  | some (n, k) => if most < 0 ∨ most < (n : Int) ∨ l.length < k + n then none else some ((l.drop k).take n, k + n)

theorem pow128 (k : Nat) : 128 ^ k = 2 ^ (7 * k) := by rw [Nat.pow_mul]
theorem or_add {m x k : Nat} (h : m < 128 ^ k) : m ||| x * 128 ^ k = m + x * 128 ^ k := by
  rw [pow128] at h ⊢
  have := Nat.two_pow_add_eq_or_of_lt h x
  rw [Nat.or_comm, Nat.mul_comm x, ← this, Nat.add_comm]
theorem small_fits {m x k : Nat} (hk : k ≤ 8) (hx : x < 128) (h : m < 128 ^ k) : m + x * 128 ^ k < 9223372036854775808 := by
  have a : x * 128 ^ k ≤ 127 * 128 ^ k := Nat.mul_le_mul_right _ (by omega)
  have b : 128 ^ (k + 1) ≤ 128 ^ 9 := Nat.pow_le_pow_right (by omega) (by omega)
  have c : (128 : Nat) ^ 9 = 9223372036854775808 := by decide
  rw [Nat.pow_succ] at b
  omega
theorem nine_fits {m x : Nat} (hx : x ≤ 1) (h : m < 128 ^ 9) : m + x * 128 ^ 9 < 18446744073709551616 := by
  have c : (128 : Nat) ^ 9 = 9223372036854775808 := by decide
  rw [c] at h ⊢
  omega

/-! ### Words -/
def word (n : Nat) : List Nat := [n / 72057594037927936 % 256, n / 281474976710656 % 256, n / 1099511627776 % 256, n / 4294967296 % 256, n / 16777216 % 256, n / 65536 % 256, n / 256 % 256, n % 256]
def be (l : List Nat) : Nat := l.foldl (fun a c => a * 256 + c) 0
theorem be_snoc (l : List Nat) (c : Nat) : be (l ++ [c]) = be l * 256 + c := by simp [be]
theorem take_snoc (l : List Nat) (k : Nat) (h : k < l.length) : l.take (k + 1) = l.take k ++ [l.getD k 0] := by
  rw [List.take_succ_eq_append_getElem h]; simp [List.getD, List.getElem?_eq_getElem h]
theorem be_lt (l : List Nat) (hb : ∀ j, l.getD j 0 < 256) : ∀ k, k ≤ l.length → be (l.take k) < 256 ^ k
  | 0, _ => by simp [be]
  | k + 1, h => by
    have ih := be_lt l hb k (by omega)
    have hc := hb k
    rw [take_snoc l k (by omega), be_snoc, Nat.pow_succ]; omega
theorem be_small {l : List Nat} (hb : ∀ j, l.getD j 0 < 256) {k : Nat} (hk : k < 8) (hl : k ≤ l.length) : be (l.take k) < 72057594037927936 := by
  have h1 := be_lt l hb k hl
  have h2 : 256 ^ k ≤ 256 ^ 7 := Nat.pow_le_pow_right (by omega) (by omega)
  have h3 : (256 : Nat) ^ 7 = 72057594037927936 := by decide
  omega
theorem or256 {m c : Nat} (h : c < 256) : m * 256 ||| c = m * 256 + c := by
  have h2 : c < 2 ^ 8 := h
  have := Nat.two_pow_add_eq_or_of_lt h2 m
  have e : (2 : Nat) ^ 8 = 256 := by decide
  rw [e, Nat.mul_comm] at this
  exact this.symm
theorem be_word (n : Nat) (h : Fits n) : be (word n) = n := by
  unfold Fits at h
  simp only [be, word, List.foldl]
  omega

end Go.Proofs.Ytbfpcolbkfcanaa.Vm
