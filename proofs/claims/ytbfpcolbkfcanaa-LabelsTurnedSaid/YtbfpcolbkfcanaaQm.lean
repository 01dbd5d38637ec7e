/-
  A stable sort by blocks and merges, as mathematics: rows as functions of places; exchanges; insertion, rotation and merging by exchanges keep what they hold, and sort it. Conditions: an order that is transitive, and of any two numbers that stand the wrong way round tells which comes first.
-/
import Derived.Test.YtbfpcolbkfcanaaVm
namespace Go.Proofs.Ytbfpcolbkfcanaa.So

/-- The row with two places exchanged. -/
def sw (d : Nat → Nat) (i j k : Nat) : Nat := if k = i then d j else if k = j then d i else d k
/-- d' is made of d by exchanges of places in [a, b). -/
inductive Via (a b : Nat) (d : Nat → Nat) : (Nat → Nat) → Prop where
  | refl : Via a b d d
  | step {d' : Nat → Nat} (i j : Nat) : Via a b d d' → a ≤ i → i < b → a ≤ j → j < b → Via a b d (sw d' i j)
theorem Via.mono {a b a' b' : Nat} {d d' : Nat → Nat} (h : Via a b d d') (ha : a' ≤ a) (hb : b ≤ b') : Via a' b' d d' := by
  induction h with
  | refl => exact .refl
  | step i j _ h1 h2 h3 h4 ih => exact .step i j ih (by omega) (by omega) (by omega) (by omega)
theorem Via.trans {a b : Nat} {d d' d'' : Nat → Nat} (h : Via a b d d') (h' : Via a b d' d'') : Via a b d d'' := by
  induction h' with
  | refl => exact h
  | step i j _ h1 h2 h3 h4 ih => exact .step i j ih h1 h2 h3 h4
theorem Via.out {a b : Nat} {d d' : Nat → Nat} (h : Via a b d d') (k : Nat) (hk : k < a ∨ b ≤ k) : d' k = d k := by
  induction h with
  | refl => rfl
  | step i j _ h1 h2 h3 h4 ih =>
    unfold sw
    rw [if_neg (by omega), if_neg (by omega)]
    exact ih
/-- What holds of all that stands in [a, b) holds behind the exchanges. -/
theorem Via.all {a b : Nat} {d d' : Nat → Nat} (h : Via a b d d') (P : Nat → Prop) (hp : ∀ k, a ≤ k → k < b → P (d k)) : ∀ k, a ≤ k → k < b → P (d' k) := by
  induction h with
  | refl => exact hp
  | step i j _ h1 h2 h3 h4 ih =>
    intro k k1 k2
    unfold sw
    split
    · exact ih j h3 h4
    · split
      · exact ih i h1 h2
      · exact ih k k1 k2
theorem sw_perm (d : Nat → Nat) (n i j : Nat) (hi : i < n) (hj : j < n) : ((List.range n).map (sw d i j)).Perm ((List.range n).map d) := by
  have hi' : i < ((List.range n).map d).toArray.size := by simpa using hi
  have hj' : j < ((List.range n).map d).toArray.size := by simpa using hj
  have h := Array.swap_perm (xs := ((List.range n).map d).toArray) hi' hj'
  rw [Array.perm_iff_toList_perm] at h
  refine List.Perm.trans (List.Perm.of_eq ?_) h
  refine List.ext_getElem (by simp) fun k h1 h2 => ?_
  have e := Array.getElem_swap (xs := ((List.range n).map d).toArray) hi' hj' (k := k) (by simpa using h2)
  rw [← Array.getElem_toList] at e
  rw [e]
  simp only [List.getElem_map, List.getElem_range, List.getElem_toArray, sw]
theorem Via.perm {a b n : Nat} {d d' : Nat → Nat} (h : Via a b d d') (hb : b ≤ n) : ((List.range n).map d').Perm ((List.range n).map d) := by
  induction h with
  | refl => exact .refl _
  | step i j _ h1 h2 h3 h4 ih => exact (sw_perm _ n i j (by omega) (by omega)).trans ih

/-- What the sort is told of the order. -/
structure Ord (R : Nat → Nat → Prop) (lt : Nat → Nat → Bool) : Prop where
  trans : ∀ {x y z}, R x y → R y z → R x z
  yes : ∀ {x y}, y < x → lt x y = true → R x y
  no : ∀ {x y}, y < x → lt x y = false → R y x

variable {R : Nat → Nat → Prop} {lt : Nat → Nat → Bool}
def Sorted (R : Nat → Nat → Prop) (d : Nat → Nat) (a b : Nat) : Prop := ∀ i j, a ≤ i → i < j → j < b → R (d i) (d j)
/-- All of [a, m) are lesser numbers than all of [m, b). -/
def Cross (d : Nat → Nat) (a m b : Nat) : Prop := ∀ i j, a ≤ i → i < m → m ≤ j → j < b → d i < d j
def Asc (d : Nat → Nat) (a b : Nat) : Prop := ∀ i j, a ≤ i → i < j → j < b → d i < d j
theorem Sorted.sub {d : Nat → Nat} {a b a' b' : Nat} (h : Sorted R d a b) (h1 : a ≤ a') (h2 : b' ≤ b) : Sorted R d a' b' := fun i j x y z => h i j (by omega) y (by omega)
theorem Sorted.congr {d d' : Nat → Nat} {a b : Nat} (h : Sorted R d a b) (he : ∀ k, a ≤ k → k < b → d' k = d k) : Sorted R d' a b := fun i j x y z => by
  rw [he i x (by omega), he j (by omega) z]; exact h i j x y z

/-! ### insertion -/
/-- Behind some rounds of the inner loop: the number of place i has come to place j. -/
structure Ins (R : Nat → Nat → Prop) (d0 d : Nat → Nat) (a i j : Nat) : Prop where
  via : Via a (i + 1) d0 d
  rest : ∀ p q, a ≤ p → p < q → q ≤ i → p ≠ j → q ≠ j → R (d p) (d q)
  up : ∀ q, j < q → q ≤ i → R (d j) (d q)
  big : ∀ p, a ≤ p → p ≤ i → p ≠ j → d p < d j
theorem Ins.start {d0 d : Nat → Nat} {a i : Nat} (hv : Via a i d0 d) (hs : Sorted R d a i) (hc : ∀ k, a ≤ k → k < i → d0 k < d0 i) : Ins R d0 d a i i where
  via := hv.mono (Nat.le_refl _) (by omega)
  rest p q h1 h2 h3 h4 h5 := hs p q h1 h2 (by omega)
  up q h1 h2 := by omega
  big p h1 h2 h3 := by
    have e : d i = d0 i := hv.out i (.inr (Nat.le_refl _))
    rw [e]
    exact hv.all (fun x => x < d0 i) hc p h1 (by omega)
theorem Ins.swap {d0 d : Nat → Nat} {a i j : Nat} (H : Ord R lt) (h : Ins R d0 d a i (j + 1)) (ha : a ≤ j) (hj : j + 1 ≤ i) (hl : lt (d (j + 1)) (d j) = true) : Ins R d0 (sw d (j + 1) j) a i j := by
  have r0 : R (d (j + 1)) (d j) := H.yes (h.big j ha (by omega) (by omega)) hl
  have s1 : sw d (j + 1) j j = d (j + 1) := by unfold sw; rw [if_neg (by omega), if_pos rfl]
  have s2 : sw d (j + 1) j (j + 1) = d j := by unfold sw; rw [if_pos rfl]
  have s3 : ∀ k, k ≠ j → k ≠ j + 1 → sw d (j + 1) j k = d k := fun k h1 h2 => by unfold sw; rw [if_neg h2, if_neg h1]
  refine ⟨h.via.step _ _ (by omega) (by omega) ha (by omega), fun p q h1 h2 h3 h4 h5 => ?_, fun q h1 h2 => ?_, fun p h1 h2 h3 => ?_⟩
  · by_cases c1 : p = j + 1
    · rw [c1, s2, s3 q h5 (by omega)]
      exact h.rest j q ha (by omega) h3 (by omega) (by omega)
    · rw [s3 p h4 c1]
      by_cases c2 : q = j + 1
      · rw [c2, s2]
        exact h.rest p j h1 (by omega) (by omega) c1 (by omega)
      · rw [s3 q h5 c2]
        exact h.rest p q h1 h2 h3 c1 c2
  · rw [s1]
    by_cases c : q = j + 1
    · rw [c, s2]; exact r0
    · rw [s3 q (by omega) c]
      exact h.up q (by omega) h2
  · rw [s1]
    by_cases c : p = j + 1
    · rw [c, s2]; exact h.big j ha (by omega) (by omega)
    · rw [s3 p h3 c]
      exact h.big p h1 h2 c
theorem Ins.stop {d0 d : Nat → Nat} {a i j : Nat} (H : Ord R lt) (h : Ins R d0 d a i j) (ha : a ≤ j) (hj : j ≤ i) (hl : j = a ∨ lt (d j) (d (j - 1)) = false) : Sorted R d a (i + 1) := by
  intro p q h1 h2 h3
  by_cases c1 : p = j
  · subst c1; exact h.up q h2 (by omega)
  · by_cases c2 : q = j
    · subst c2
      have hq : q ≠ a := by omega
      have hl' : lt (d q) (d (q - 1)) = false := hl.resolve_left hq
      have r1 : R (d (q - 1)) (d q) := H.no (h.big (q - 1) (by omega) (by omega) (by omega)) hl'
      by_cases c3 : p = q - 1
      · rw [c3]; exact r1
      · exact H.trans (h.rest p (q - 1) h1 (by omega) (by omega) c1 (by omega)) r1
    · exact h.rest p q h1 h2 (by omega) c1 c2

/-! ### two rows of places exchanged, a rotation -/
def swr (d : Nat → Nat) (a b n k : Nat) : Nat := if a ≤ k ∧ k < a + n then d (k - a + b) else if b ≤ k ∧ k < b + n then d (k - b + a) else d k
theorem swr_zero (d : Nat → Nat) (a b : Nat) : swr d a b 0 = d := by
  funext k; unfold swr; rw [if_neg (by omega), if_neg (by omega)]
theorem swr_succ (d : Nat → Nat) (a b n i : Nat) (hi : i < n) (h : a + n ≤ b) : sw (swr d a b i) (a + i) (b + i) = swr d a b (i + 1) := by
  funext k
  unfold sw swr
  repeat' split
  all_goals first | rfl | (congr 1; omega) | (exfalso; omega)
theorem swr_via (d : Nat → Nat) (a b n lo hi : Nat) (h : a + n ≤ b) (h1 : lo ≤ a) (h2 : b + n ≤ hi) : ∀ i, i ≤ n → Via lo hi d (swr d a b i)
  | 0, _ => by rw [swr_zero]; exact .refl
  | i + 1, hi' => by
    rw [← swr_succ d a b n i (by omega) h]
    exact (swr_via d a b n lo hi h h1 h2 i (by omega)).step _ _ (by omega) (by omega) (by omega) (by omega)
def rot (d : Nat → Nat) (a m b k : Nat) : Nat := if a ≤ k ∧ k < a + (b - m) then d (k - a + m) else if a + (b - m) ≤ k ∧ k < b then d (k - (b - m)) else d k
theorem rot_more (d : Nat → Nat) (m i j : Nat) (hi : i ≤ m) (hj : 0 < j) (hij : j < i) : rot (swr d (m - i) m j) (m - (i - j)) m (m + j) = rot d (m - i) m (m + j) := by
  funext k
  unfold rot swr
  repeat' split
  all_goals first | rfl | (congr 1; omega) | (exfalso; omega)
theorem rot_less (d : Nat → Nat) (m i j : Nat) (hi : i ≤ m) (hi0 : 0 < i) (hij : i < j) : rot (swr d (m - i) (m + j - i) i) (m - i) m (m + (j - i)) = rot d (m - i) m (m + j) := by
  funext k
  unfold rot swr
  repeat' split
  all_goals first | rfl | (congr 1; omega) | (exfalso; omega)
theorem rot_same (d : Nat → Nat) (m i : Nat) (hi : i ≤ m) (h0 : 0 < i) : swr d (m - i) m i = rot d (m - i) m (m + i) := by
  funext k
  unfold rot swr
  repeat' split
  all_goals first | rfl | (congr 1; omega) | (exfalso; omega)
end Go.Proofs.Ytbfpcolbkfcanaa.So
