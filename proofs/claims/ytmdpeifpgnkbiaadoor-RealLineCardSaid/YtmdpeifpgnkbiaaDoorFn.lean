/-
  Values by their words: bits, keys, the order, bands; lists of values: the least, the greatest, the rank. Plain mathematics over XFm; no conditions but that a word has 64 bits.
-/
import Derived.Test.YtmdpeifpgnkbiaaDoorFm
namespace Go.Proofs.YtmdpeifpgnkbiaaDoor.Fm

def W (u : Nat) : Prop := u < 18446744073709551616
def nan : Nat := 9221120237041090561
def bits (f : Nat) : Nat := if isN f then nan else f
def key (f : Nat) : Nat := if bits f < 9223372036854775808 then bits f + 9223372036854775808 else 18446744073709551615 - bits f
def less (a b : Nat) : Bool := if isN a || isN b then !isN a && isN b else if rk a = rk b then neg a && !neg b else decide (rk a < rk b)
theorem nan_isN : isN nan = true := by decide
theorem bits_W {f : Nat} (h : W f) : W (bits f) := by unfold bits W nan at *; split <;> omega
theorem bits_bits (f : Nat) : bits (bits f) = bits f := by
  unfold bits
  by_cases h : isN f = true
  · simp [h, nan_isN]
  · simp [h]
theorem isN_bits (f : Nat) : isN (bits f) = isN f := by
  unfold bits
  by_cases h : isN f = true
  · simp [h, nan_isN]
  · simp [h]
theorem neg_iff {u : Nat} (h : W u) : neg u = true ↔ 9223372036854775808 ≤ u := by unfold neg W at *; simp; omega
theorem rung_of {u : Nat} (h : W u) : rung u = if neg u then u - 9223372036854775808 else u := by
  have := neg_iff h
  unfold W at h
  unfold rung
  by_cases n : neg u = true
  · rw [if_pos n]; have := this.1 n; omega
  · rw [if_neg n]; have : ¬ 9223372036854775808 ≤ u := fun h' => n (this.2 h'); omega
theorem key_lt {f : Nat} (h : W f) : W (key f) := by
  have := bits_W h
  unfold W at this ⊢
  unfold key; split <;> omega
/-- The order is that of the keys. -/
theorem less_key {a b : Nat} (ha : W a) (hb : W b) : less a b = decide (key a < key b) := by
  have ra := rung_of ha
  have rb := rung_of hb
  have na := neg_iff ha
  have nb := neg_iff hb
  unfold W at ha hb
  unfold less key bits
  have ia : isN a = decide (inf < rung a) := rfl
  have ib : isN b = decide (inf < rung b) := rfl
  have hi : inf = 9218868437227405312 := rfl
  have hn : nan = 9221120237041090561 := rfl
  unfold rk
  cases sa : neg a <;> cases sb : neg b <;> simp [sa, sb] at ra rb na nb ⊢ <;>
    by_cases ca : isN a = true <;> by_cases cb : isN b = true <;> simp only [ca, cb] at * <;> simp at * <;> (try (split <;> (try split) <;> (try split) <;> (try split))) <;> (try simp) <;> (try omega) <;> (try (rw [Bool.eq_iff_iff]; simp; omega))

theorem key_inj {a b : Nat} (ha : W a) (hb : W b) (h : key a = key b) : bits a = bits b := by
  have h1 := bits_W ha
  have h2 := bits_W hb
  unfold W at h1 h2
  unfold key at h
  split at h <;> split at h <;> omega
/-- Of the bits the value, or that there is none. -/
def has (u : Nat) : Bool := !isN u || decide (u = nan)
/-- The value of bits; +0 where there is none. -/
def ofw (u : Nat) : Nat := if has u then u else 0
theorem bits_has {u : Nat} (h : has u = true) : bits u = u := by
  unfold has at h
  unfold bits
  by_cases c : isN u = true
  · simp [c] at h; rw [if_pos c, h]
  · rw [if_neg c]
theorem has_bits (f : Nat) : has (bits f) = true := by
  unfold has bits
  by_cases c : isN f = true
  · simp [c]
  · simp [c]

/-- Bands. -/
def may (any : Bool) (lo hi : Nat) : Bool := if any then decide (bits lo = 0) && decide (bits hi = 0) else le lo hi
def inb (any : Bool) (lo hi f : Nat) : Bool := may any lo hi && (any || le lo f && le f hi)
theorem le_iff (x y : Nat) : le x y = true ↔ isN x = false ∧ isN y = false ∧ rk x ≤ rk y := by
  unfold le; simp [and_assoc]
theorem lt_iff (x y : Nat) : lt x y = true ↔ isN x = false ∧ isN y = false ∧ rk x < rk y := by
  unfold lt; simp [and_assoc]
theorem eq_iff (x y : Nat) : eq x y = true ↔ isN x = false ∧ isN y = false ∧ rk x = rk y := by
  unfold eq; simp [and_assoc]
theorem eq_self (x : Nat) : eq x x = !isN x := by unfold eq; cases isN x <;> simp
theorem bits_zero (x : Nat) : bits x = 0 ↔ x = 0 := by
  unfold bits
  by_cases c : isN x = true
  · rw [if_pos c]
    refine ⟨fun h => absurd h (by decide), fun h => ?_⟩
    subst h; exact absurd c (by decide)
  · rw [if_neg c]
end Go.Proofs.YtmdpeifpgnkbiaaDoor.Fm
