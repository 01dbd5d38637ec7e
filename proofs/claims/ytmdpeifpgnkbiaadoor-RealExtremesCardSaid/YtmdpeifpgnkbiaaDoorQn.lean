/-
  Merging two rows in place, as mathematics: a number put into a row by binary search and exchanges; the symmetric merge: where to rotate, and why what is merged behind it is sorted. Conditions as in XQm.
-/
import Derived.Test.YtmdpeifpgnkbiaaDoorQm
namespace Go.Proofs.YtmdpeifpgnkbiaaDoor.So
variable {R : Nat → Nat → Prop} {lt : Nat → Nat → Bool}

theorem Sorted.pre {d : Nat → Nat} {a b i j : Nat} (H : Ord R lt) (h : Sorted R d a b) (hi : a ≤ i) (hij : i ≤ j) (hj : j < b) {z : Nat} (hz : R (d j) z) : R (d i) z := by
  by_cases c : i = j
  · rw [c]; exact hz
  · exact H.trans (h i j hi (by omega) hj) hz
theorem Sorted.post {d : Nat → Nat} {a b i j : Nat} (H : Ord R lt) (h : Sorted R d a b) (hi : a ≤ i) (hij : i ≤ j) (hj : j < b) {z : Nat} (hz : R z (d i)) : R z (d j) := by
  by_cases c : i = j
  · rw [← c]; exact hz
  · exact H.trans hz (h i j hi (by omega) hj)

/-! ### one number ahead of a row -/
structure BsL (R : Nat → Nat → Prop) (d : Nat → Nat) (a b i j : Nat) : Prop where
  h1 : a + 1 ≤ i
  h2 : i ≤ j
  h3 : j ≤ b
  lo : ∀ k, a + 1 ≤ k → k < i → R (d k) (d a)
  hi : ∀ k, j ≤ k → k < b → R (d a) (d k)
theorem BsL.start {d : Nat → Nat} {a b : Nat} (h : a + 1 ≤ b) : BsL R d a b (a + 1) b := ⟨Nat.le_refl _, h, Nat.le_refl _, fun k _ _ => by omega, fun k _ _ => by omega⟩
theorem BsL.yes {d : Nat → Nat} {a b i j : Nat} (H : Ord R lt) (hs : Sorted R d (a + 1) b) (hc : Cross d a (a + 1) b) (h : BsL R d a b i j) (k : Nat) (h1 : i ≤ k) (h2 : k < j) (hl : lt (d k) (d a) = true) : BsL R d a b (k + 1) j := by
  have g1 := h.h1
  have g3 := h.h3
  have r := H.yes (hc a k (Nat.le_refl _) (by omega) (by omega) (by omega)) hl
  exact ⟨by omega, by omega, g3, fun p p1 p2 => hs.pre H p1 (by omega) (by omega) r, h.hi⟩
theorem BsL.no {d : Nat → Nat} {a b i j : Nat} (H : Ord R lt) (hs : Sorted R d (a + 1) b) (hc : Cross d a (a + 1) b) (h : BsL R d a b i j) (k : Nat) (h1 : i ≤ k) (h2 : k < j) (hl : lt (d k) (d a) = false) : BsL R d a b i k := by
  have g1 := h.h1
  have g3 := h.h3
  have r := H.no (hc a k (Nat.le_refl _) (by omega) (by omega) (by omega)) hl
  exact ⟨g1, h1, by omega, h.lo, fun p p1 p2 => hs.post H (by omega) p1 p2 r⟩
/-- The number of place a has come to place k. -/
def shl (d : Nat → Nat) (a k p : Nat) : Nat := if p < a then d p else if p < k then d (p + 1) else if p = k then d a else d p
theorem shl_start (d : Nat → Nat) (a : Nat) : shl d a a = d := by
  funext p
  unfold shl
  repeat' split
  all_goals first | rfl | (congr 1; omega) | (exfalso; omega)
theorem shl_step (d : Nat → Nat) (a k : Nat) (h : a ≤ k) : sw (shl d a k) k (k + 1) = shl d a (k + 1) := by
  funext p
  unfold sw shl
  repeat' split
  all_goals first | rfl | (congr 1; omega) | (exfalso; omega)
theorem shl_via (d : Nat → Nat) (a b : Nat) : ∀ k, a ≤ k → k < b → Via a b d (shl d a k) := by
  intro k
  induction k with
  | zero => intro h1 _; obtain rfl : a = 0 := by omega
            rw [shl_start]; exact .refl
  | succ k ih =>
    intro h1 h2
    by_cases c : a = k + 1
    · rw [c, shl_start]; exact .refl
    · rw [← shl_step d a k (by omega)]
      exact (ih (by omega) (by omega)).step _ _ (by omega) (by omega) (by omega) h2
theorem shl_sorted {d : Nat → Nat} {a b i : Nat} (hs : Sorted R d (a + 1) b) (h : BsL R d a b i i) : Sorted R (shl d a (i - 1)) a b := by
  intro p q p1 p2 p3
  have g1 := h.h1
  have g3 := h.h3
  unfold shl
  rw [if_neg (show ¬ p < a by omega), if_neg (show ¬ q < a by omega)]
  by_cases c1 : p < i - 1
  · rw [if_pos c1]
    by_cases c2 : q < i - 1
    · rw [if_pos c2]; exact hs _ _ (by omega) (by omega) (by omega)
    · rw [if_neg c2]
      by_cases c3 : q = i - 1
      · rw [if_pos c3]; exact h.lo _ (by omega) (by omega)
      · rw [if_neg c3]; exact hs _ _ (by omega) (by omega) p3
  · rw [if_neg c1, if_neg (show ¬ q < i - 1 by omega), if_neg (show ¬ q = i - 1 by omega)]
    by_cases c3 : p = i - 1
    · rw [if_pos c3]; exact h.hi _ (by omega) p3
    · rw [if_neg c3]; exact hs _ _ (by omega) p2 p3

/-! ### one number behind a row -/
structure BsR (R : Nat → Nat → Prop) (d : Nat → Nat) (a m i j : Nat) : Prop where
  h1 : a ≤ i
  h2 : i ≤ j
  h3 : j ≤ m
  lo : ∀ k, a ≤ k → k < i → R (d k) (d m)
  hi : ∀ k, j ≤ k → k < m → R (d m) (d k)
theorem BsR.start {d : Nat → Nat} {a m : Nat} (h : a ≤ m) : BsR R d a m a m := ⟨Nat.le_refl _, h, Nat.le_refl _, fun k _ _ => by omega, fun k _ _ => by omega⟩
theorem BsR.yes {d : Nat → Nat} {a m i j : Nat} (H : Ord R lt) (hs : Sorted R d a m) (hc : Cross d a m (m + 1)) (h : BsR R d a m i j) (k : Nat) (h1 : i ≤ k) (h2 : k < j) (hl : lt (d m) (d k) = true) : BsR R d a m i k := by
  have g1 := h.h1
  have g3 := h.h3
  have r := H.yes (hc k m (by omega) (by omega) (Nat.le_refl _) (by omega)) hl
  exact ⟨g1, h1, by omega, h.lo, fun p p1 p2 => hs.post H (by omega) p1 p2 r⟩
theorem BsR.no {d : Nat → Nat} {a m i j : Nat} (H : Ord R lt) (hs : Sorted R d a m) (hc : Cross d a m (m + 1)) (h : BsR R d a m i j) (k : Nat) (h1 : i ≤ k) (h2 : k < j) (hl : lt (d m) (d k) = false) : BsR R d a m (k + 1) j := by
  have g1 := h.h1
  have g3 := h.h3
  have r := H.no (hc k m (by omega) (by omega) (Nat.le_refl _) (by omega)) hl
  exact ⟨by omega, by omega, g3, fun p p1 p2 => hs.pre H p1 (by omega) (by omega) r, h.hi⟩
/-- The number of place m has come to place k. -/
def shr (d : Nat → Nat) (m k p : Nat) : Nat := if p < k then d p else if p = k then d m else if p ≤ m then d (p - 1) else d p
theorem shr_start (d : Nat → Nat) (m : Nat) : shr d m m = d := by
  funext p
  unfold shr
  repeat' split
  all_goals first | rfl | (congr 1; omega) | (exfalso; omega)
theorem shr_step (d : Nat → Nat) (m k : Nat) (h : k < m) : sw (shr d m (k + 1)) (k + 1) k = shr d m k := by
  funext p
  unfold sw shr
  repeat' split
  all_goals first | rfl | (congr 1; omega) | (exfalso; omega)
theorem shr_via (d : Nat → Nat) (a m : Nat) : ∀ n k, k + n = m → a ≤ k → Via a (m + 1) d (shr d m k)
  | 0, k, h, _ => by obtain rfl : k = m := by omega
                     rw [shr_start]; exact .refl
  | n + 1, k, h, ha => by
    rw [← shr_step d m k (by omega)]
    exact (shr_via d a m n (k + 1) (by omega) (by omega)).step _ _ (by omega) (by omega) ha (by omega)
theorem shr_sorted {d : Nat → Nat} {a m i : Nat} (hs : Sorted R d a m) (h : BsR R d a m i i) : Sorted R (shr d m i) a (m + 1) := by
  intro p q p1 p2 p3
  have g1 := h.h1
  have g3 := h.h3
  unfold shr
  by_cases c1 : p < i
  · rw [if_pos c1]
    by_cases c2 : q < i
    · rw [if_pos c2]; exact hs _ _ p1 p2 (by omega)
    · rw [if_neg c2]
      by_cases c3 : q = i
      · rw [if_pos c3]; exact h.lo _ p1 c1
      · rw [if_neg c3, if_pos (by omega)]; exact hs _ _ p1 (by omega) (by omega)
  · rw [if_neg c1, if_neg (show ¬ q < i by omega), if_neg (show ¬ q = i by omega), if_pos (show q ≤ m by omega)]
    by_cases c3 : p = i
    · rw [if_pos c3]; exact h.hi _ (by omega) (by omega)
    · rw [if_neg c3, if_pos (by omega)]; exact hs _ _ (by omega) (by omega) (by omega)

/-! ### the symmetric merge -/
structure BsM (R : Nat → Nat → Prop) (d : Nat → Nat) (u v p s r : Nat) : Prop where
  h1 : u ≤ s
  h2 : s ≤ r
  h3 : r ≤ v
  lo : ∀ c, u ≤ c → c < s → R (d c) (d (p - c))
  hi : ∀ c, r ≤ c → c < v → R (d (p - c)) (d c)
theorem BsM.start {d : Nat → Nat} {u v p : Nat} (h : u ≤ v) : BsM R d u v p u v := ⟨Nat.le_refl _, h, Nat.le_refl _, fun k _ _ => by omega, fun k _ _ => by omega⟩
theorem BsM.no {d : Nat → Nat} {a m b u v p s r : Nat} (H : Ord R lt) (h1 : Sorted R d a m) (h2 : Sorted R d m b) (hc : Cross d a m b) (hr : ∀ c, u ≤ c → c < v → a ≤ c ∧ c < m ∧ c ≤ p ∧ m ≤ p - c ∧ p - c < b) (h : BsM R d u v p s r) (c : Nat) (c1 : s ≤ c) (c2 : c < r) (hl : lt (d (p - c)) (d c) = false) : BsM R d u v p (c + 1) r := by
  have g1 := h.h1
  have g3 := h.h3
  have q := hr c (by omega) (by omega)
  have t := H.no (hc c (p - c) q.1 q.2.1 q.2.2.2.1 q.2.2.2.2) hl
  refine ⟨by omega, by omega, g3, fun k k1 k2 => ?_, h.hi⟩
  have w := hr k k1 (by omega)
  exact h1.pre H w.1 (by omega) q.2.1 (h2.post H q.2.2.2.1 (show p - c ≤ p - k by omega) w.2.2.2.2 t)
theorem BsM.yes {d : Nat → Nat} {a m b u v p s r : Nat} (H : Ord R lt) (h1 : Sorted R d a m) (h2 : Sorted R d m b) (hc : Cross d a m b) (hr : ∀ c, u ≤ c → c < v → a ≤ c ∧ c < m ∧ c ≤ p ∧ m ≤ p - c ∧ p - c < b) (h : BsM R d u v p s r) (c : Nat) (c1 : s ≤ c) (c2 : c < r) (hl : lt (d (p - c)) (d c) = true) : BsM R d u v p s c := by
  have g1 := h.h1
  have g3 := h.h3
  have q := hr c (by omega) (by omega)
  have t := H.yes (hc c (p - c) q.1 q.2.1 q.2.2.2.1 q.2.2.2.2) hl
  refine ⟨g1, c1, by omega, h.lo, fun k k1 k2 => ?_⟩
  have w := hr k (by omega) k2
  exact h2.pre H w.2.2.2.1 (show p - k ≤ p - c by omega) q.2.2.2.2 (h1.post H q.1 k1 w.2.1 t)

theorem rot_left (d : Nat → Nat) (m e : Nat) : rot d m m e = d := by
  funext k
  unfold rot
  repeat' split
  all_goals first | rfl | (congr 1; omega) | (exfalso; omega)
theorem rot_right (d : Nat → Nat) (s m : Nat) : rot d s m m = d := by
  funext k
  unfold rot
  repeat' split
  all_goals first | rfl | (congr 1; omega) | (exfalso; omega)

/-- What is known where the symmetric merge has found its cut: s, and e = mid + m - s. -/
structure Cut (R : Nat → Nat → Prop) (d : Nat → Nat) (a m b mid s e : Nat) : Prop where
  sum : s + e = mid + m
  as : a ≤ s
  sm : s ≤ m
  me : m ≤ e
  eb : e ≤ b
  amid : a ≤ mid
  midb : mid ≤ b
  h1 : Sorted R d a m
  h2 : Sorted R d m b
  hc : Cross d a m b
  low : a < s → e < b → R (d (s - 1)) (d e)
  high : s < m → m < e → R (d (e - 1)) (d s)
theorem BsM.cut {d : Nat → Nat} {a m b mid u v p s : Nat} (h1 : Sorted R d a m) (h2 : Sorted R d m b) (hc : Cross d a m b) (h : BsM R d u v p s s) (hp : p + 1 = mid + m) (ham : a < m) (hmb : m < b) (hmid : mid = (a + b) / 2)
    (hu : u = if mid < m then mid + m - b else a) (hv : v = if mid < m then mid else m) : Cut R d a m b mid s (mid + m - s) := by
  have g1 := h.h1
  have g3 := h.h3
  by_cases c : mid < m
  · rw [if_pos c] at hu hv
    refine ⟨by omega, by omega, by omega, by omega, by omega, by omega, by omega, h1, h2, hc, fun x1 x2 => ?_, fun x1 x2 => ?_⟩
    · have := h.lo (s - 1) (by omega) (by omega)
      rwa [show p - (s - 1) = mid + m - s by omega] at this
    · have := h.hi s (Nat.le_refl _) (by omega)
      rwa [show p - s = mid + m - s - 1 by omega] at this
  · rw [if_neg c] at hu hv
    refine ⟨by omega, by omega, by omega, by omega, by omega, by omega, by omega, h1, h2, hc, fun x1 x2 => ?_, fun x1 x2 => ?_⟩
    · have := h.lo (s - 1) (by omega) (by omega)
      rwa [show p - (s - 1) = mid + m - s by omega] at this
    · have := h.hi s (Nat.le_refl _) (by omega)
      rwa [show p - s = mid + m - s - 1 by omega] at this
variable {d : Nat → Nat} {a m b mid s e : Nat}
theorem Cut.a1 (C : Cut R d a m b mid s e) {k : Nat} (h : k < s) : rot d s m e k = d k := by
  have := C.sum; have := C.sm; have := C.me
  unfold rot; rw [if_neg (by omega), if_neg (by omega)]
theorem Cut.a2 (C : Cut R d a m b mid s e) {k : Nat} (h1 : s ≤ k) (h2 : k < mid) : rot d s m e k = d (k - s + m) := by
  have := C.sum; have := C.sm; have := C.me
  unfold rot; rw [if_pos (by omega)]
theorem Cut.a3 (C : Cut R d a m b mid s e) {k : Nat} (h1 : mid ≤ k) (h2 : k < e) : rot d s m e k = d (k - (e - m)) := by
  have := C.sum; have := C.sm; have := C.me
  unfold rot; rw [if_neg (by omega), if_pos (by omega)]
theorem Cut.a4 (C : Cut R d a m b mid s e) {k : Nat} (h1 : e ≤ k) : rot d s m e k = d k := by
  have := C.sum; have := C.sm; have := C.me
  unfold rot; rw [if_neg (by omega), if_neg (by omega)]
theorem Cut.f1 (C : Cut R d a m b mid s e) : Sorted R (rot d s m e) a s := fun i j h1 h2 h3 => by
  rw [C.a1 (by omega), C.a1 h3]; exact C.h1 i j h1 h2 (by have := C.sm; omega)
theorem Cut.f2 (C : Cut R d a m b mid s e) : Sorted R (rot d s m e) s mid := fun i j h1 h2 h3 => by
  have := C.sum; have := C.sm; have := C.me; have := C.eb
  rw [C.a2 h1 (by omega), C.a2 (by omega) h3]; exact C.h2 _ _ (by omega) (by omega) (by omega)
theorem Cut.f3 (C : Cut R d a m b mid s e) : Sorted R (rot d s m e) mid e := fun i j h1 h2 h3 => by
  have := C.sum; have := C.sm; have := C.me; have := C.as
  rw [C.a3 h1 (by omega), C.a3 (by omega) h3]; exact C.h1 _ _ (by omega) (by omega) (by omega)
theorem Cut.f4 (C : Cut R d a m b mid s e) : Sorted R (rot d s m e) e b := fun i j h1 h2 h3 => by
  have := C.me
  rw [C.a4 h1, C.a4 (by omega)]; exact C.h2 _ _ (by omega) h2 h3
theorem Cut.c1 (C : Cut R d a m b mid s e) : Cross (rot d s m e) a s mid := fun i j h1 h2 h3 h4 => by
  have := C.sum; have := C.sm; have := C.me; have := C.eb
  rw [C.a1 h2, C.a2 h3 h4]; exact C.hc _ _ h1 (by omega) (by omega) (by omega)
theorem Cut.c2 (C : Cut R d a m b mid s e) : Cross (rot d s m e) mid e b := fun i j h1 h2 h3 h4 => by
  have := C.sum; have := C.sm; have := C.me; have := C.as
  rw [C.a3 h1 h2, C.a4 h3]; exact C.hc _ _ (by omega) (by omega) (by omega) h4
/-- All of the first half stand ahead of all of the second. -/
theorem Cut.halves (C : Cut R d a m b mid s e) (H : Ord R lt) : ∀ i j, a ≤ i → i < mid → mid ≤ j → j < b → R (rot d s m e i) (rot d s m e j) := by
  intro i j i1 i2 j1 j2
  have q1 := C.sum; have q2 := C.sm; have q3 := C.me; have q4 := C.eb; have q5 := C.as
  by_cases c1 : i < s
  · rw [C.a1 c1]
    by_cases c2 : j < e
    · rw [C.a3 j1 c2]; exact C.h1 _ _ i1 (by omega) (by omega)
    · rw [C.a4 (by omega)]
      exact C.h1.pre H i1 (show i ≤ s - 1 by omega) (by omega) (C.h2.post H q3 (by omega) j2 (C.low (by omega) (by omega)))
  · rw [C.a2 (by omega) i2]
    by_cases c2 : j < e
    · rw [C.a3 j1 c2]
      exact C.h2.pre H (by omega) (show i - s + m ≤ e - 1 by omega) (by omega) (C.h1.post H q5 (by omega) (by omega) (C.high (by omega) (by omega)))
    · rw [C.a4 (by omega)]; exact C.h2 _ _ (by omega) (by omega) j2
theorem Cut.whole (C : Cut R d a m b mid s e) (H : Ord R lt) {d2 d3 : Nat → Nat} (v2 : Via a mid (rot d s m e) d2) (s2 : Sorted R d2 a mid) (v3 : Via mid b d2 d3) (s3 : Sorted R d3 mid b) : Sorted R d3 a b := by
  intro i j i1 ij j2
  by_cases c1 : j < mid
  · rw [v3.out i (.inl (by omega)), v3.out j (.inl c1)]; exact s2 i j i1 ij c1
  · by_cases c2 : mid ≤ i
    · exact s3 i j c2 ij j2
    · rw [v3.out i (.inl (by omega))]
      have h0 : ∀ k, mid ≤ k → k < b → R (d2 i) (d2 k) := fun k k1 k2 => by
        rw [v2.out k (.inr k1)]
        exact v2.all (fun x => R x (rot d s m e k)) (fun i' p1 p2 => C.halves H i' k p1 p2 k1 k2) i i1 (by omega)
      exact v3.all (fun y => R (d2 i) y) h0 j (by omega) j2
end Go.Proofs.YtmdpeifpgnkbiaaDoor.So
