/-
  Plain mathematics of chapter 5: where the matches of trees made of trees end. No conditions.
-/
import Derived.Test.YteifjiadgbgkbaaIc
import Derived.Test.YteifjiadgbgkbaaHc
namespace Go.Proofs.Yteifjiadgbgkbaa
open Rx

theorem mem_ends {S : List Nat} {t : Rx} {p k : Nat} (hr : Rx.isRex t = true) (hp : p ≤ S.length) : k ∈ ends S t (p : Int) ↔ k ≤ S.length ∧ mt S t p k := by
  unfold ends
  rw [if_pos ⟨hr, by omega, by omega⟩, Int.toNat_natCast]
  unfold endsTo
  rw [List.mem_filter, List.mem_range]
  constructor
  · rintro ⟨h1, h2⟩
    exact ⟨by omega, (aft_mt hp (by omega)).1 h2⟩
  · rintro ⟨h1, h2⟩
    exact ⟨by omega, (aft_mt hp h1).2 h2⟩
theorem ends_rise (S : List Nat) (t : Rx) (z : Int) : (zn (ends S t z)).Pairwise (· < ·) := by
  have h : (ends S t z).Pairwise (· < ·) := by
    unfold ends
    split
    · exact List.Pairwise.filter _ List.pairwise_lt_range
    · exact List.Pairwise.nil
  unfold zn
  rw [List.pairwise_map]
  exact h.imp (fun h => by omega)
/-- Two rows of places are one where the same is in both. -/
theorem ends_eq {S : List Nat} {t u : Rx} {z y : Int} (h : ∀ k : Nat, k ∈ ends S t z ↔ k ∈ ends S u y) : zn (ends S t z) = zn (ends S u y) :=
  rise_unique (ends_rise _ _ _) (ends_rise _ _ _) (fun x => by
    unfold zn
    simp only [List.mem_map]
    constructor
    · rintro ⟨k, hk, e⟩; exact ⟨k, (h k).1 hk, e⟩
    · rintro ⟨k, hk, e⟩; exact ⟨k, (h k).2 hk, e⟩)
def nd (op : Int) (ks : List Rx) : Rx := .mk op 0 0 0 0 ks
theorem mt_star {S : List Nat} {x : Rx} {i j : Nat} : mt S (nd 4 [x]) i j ↔ Star (mt S x) i j := by
  unfold nd; rw [Rx.mt]; simp only [show ¬ ((4 : Int) = 1) by decide, show ¬ ((4 : Int) = 2) by decide, show ¬ ((4 : Int) = 3) by decide, show ¬ ((4 : Int) = 6) by decide, show ¬ ((4 : Int) = 5) by decide, if_false]
  have e : mtHd S [x] = mt S x := by funext i j; rw [mtHd]
  rw [e]
theorem mt_plus {S : List Nat} {x : Rx} {i j : Nat} : mt S (nd 5 [x]) i j ↔ ∃ m, mt S x i m ∧ Star (mt S x) m j := by
  unfold nd; rw [Rx.mt]; simp only [show ¬ ((5 : Int) = 1) by decide, show ¬ ((5 : Int) = 2) by decide, show ¬ ((5 : Int) = 3) by decide, show ¬ ((5 : Int) = 6) by decide, if_false, if_true]
  have e : mtHd S [x] = mt S x := by funext i j; rw [mtHd]
  rw [e]
theorem mt_maybe {S : List Nat} {x : Rx} {i j : Nat} : mt S (nd 6 [x]) i j ↔ i = j ∨ mt S x i j := by
  unfold nd; rw [Rx.mt]; simp only [show ¬ ((6 : Int) = 1) by decide, show ¬ ((6 : Int) = 2) by decide, show ¬ ((6 : Int) = 3) by decide, if_false, if_true]
  rw [mtHd]
theorem mt_two {S : List Nat} {x y : Rx} {i j : Nat} : mt S (nd 2 [x, y]) i j ↔ ∃ m, mt S x i m ∧ mt S y m j := by
  unfold nd; rw [Rx.mt]; simp only [show ¬ ((2 : Int) = 1) by decide, if_false, if_true]
  rw [mtSeq]
  constructor
  · rintro ⟨m, h1, h2⟩
    rw [mtSeq] at h2
    obtain ⟨n, h2, h3⟩ := h2
    rw [mtSeq] at h3
    subst h3
    exact ⟨m, h1, h2⟩
  · rintro ⟨m, h1, h2⟩
    refine ⟨m, h1, ?_⟩
    rw [mtSeq]
    exact ⟨j, h2, by rw [mtSeq]⟩
theorem mt_or {S : List Nat} {x y : Rx} {i j : Nat} : mt S (nd 3 [x, y]) i j ↔ mt S x i j ∨ mt S y i j := by
  unfold nd; rw [Rx.mt]; simp only [show ¬ ((3 : Int) = 1) by decide, show ¬ ((3 : Int) = 2) by decide, if_false, if_true]
  rw [mtAlt, mtAlt, mtAlt]; simp
theorem rex_nd1 {x : Rx} (h : Rx.isRex x = true) (op : Int) (ho : op = 4 ∨ op = 5 ∨ op = 6) : Rx.isRex (nd op [x]) = true := by
  unfold nd
  rw [Rx.isRex, Rx.isAll, Rx.isAll, h]
  rcases ho with rfl | rfl | rfl <;> simp [Rx.may]
theorem rex_nd2 {x y : Rx} (h : Rx.isRex x = true) (h2 : Rx.isRex y = true) (op : Int) (ho : op = 2 ∨ op = 3) : Rx.isRex (nd op [x, y]) = true := by
  unfold nd
  rw [Rx.isRex, Rx.isAll, Rx.isAll, Rx.isAll, h, h2]
  rcases ho with rfl | rfl <;> simp [Rx.may]
theorem mt_le {S : List Nat} {t : Rx} {i j : Nat} (h : mt S t i j) : i ≤ j := ((aft_says S t).1 i j h).1
/-- P5.4 of repeated trees. -/
theorem star_here {S : List Nat} {x : Rx} {p : Nat} (hr : Rx.isRex x = true) (hp : p ≤ S.length) : p ∈ ends S (nd 4 [x]) (p : Int) := (mem_ends (rex_nd1 hr 4 (by simp)) hp).2 ⟨hp, mt_star.2 (.refl _)⟩
theorem plus_both {S : List Nat} {x : Rx} {p : Nat} (hr : Rx.isRex x = true) (hp : p ≤ S.length) : zn (ends S (nd 5 [x]) (p : Int)) = zn (ends S (nd 2 [x, nd 4 [x]]) (p : Int)) :=
  ends_eq (fun k => by
    rw [mem_ends (rex_nd1 hr 5 (by simp)) hp, mem_ends (rex_nd2 hr (rex_nd1 hr 4 (by simp)) 2 (by simp)) hp, mt_plus, mt_two]
    constructor
    · rintro ⟨h1, m, h2, h3⟩; exact ⟨h1, m, h2, mt_star.2 h3⟩
    · rintro ⟨h1, m, h2, h3⟩; exact ⟨h1, m, h2, mt_star.1 h3⟩)
theorem star_more {S : List Nat} {x : Rx} {p e : Nat} (hr : Rx.isRex x = true) (hp : p ≤ S.length) (he : e ∈ ends S (nd 4 [x]) (p : Int)) : p ≤ e ∧ e ≤ S.length ∧ pickZ (zn (ends S (nd 4 [x]) (p : Int))) false (zn (ends S x (e : Int))) = [] := by
  obtain ⟨h1, h2⟩ := (mem_ends (rex_nd1 hr 4 (by simp)) hp).1 he
  refine ⟨mt_le h2, h1, ?_⟩
  rw [pickZ, List.filter_eq_nil_iff]
  intro z hz
  unfold zn at hz
  obtain ⟨k, hk, rfl⟩ := List.mem_map.1 hz
  obtain ⟨h3, h4⟩ := (mem_ends hr h1).1 hk
  have : k ∈ ends S (nd 4 [x]) (p : Int) := (mem_ends (rex_nd1 hr 4 (by simp)) hp).2 ⟨h3, mt_star.2 ((mt_star.1 h2).tail h4)⟩
  have h5 : ((k : Nat) : Int) ∈ zn (ends S (nd 4 [x]) (p : Int)) := zn_mem.2 this
  simp [h5]
/-- P5.4 of two trees. -/
theorem either_rise {S : List Nat} {x y : Rx} {p : Nat} (hx : Rx.isRex x = true) (hy : Rx.isRex y = true) (hp : p ≤ S.length) {out : List Int} (h : IsRise (zn (ends S x (p : Int)) ++ zn (ends S y (p : Int))) out) : zn (ends S (nd 3 [x, y]) (p : Int)) = out :=
  rise_unique (ends_rise _ _ _) h.1 (fun z => by
    rw [h.2, List.mem_append]
    unfold zn
    simp only [List.mem_map]
    constructor
    · rintro ⟨k, hk, rfl⟩
      obtain ⟨h1, h2⟩ := (mem_ends (rex_nd2 hx hy 3 (by simp)) hp).1 hk
      rcases mt_or.1 h2 with h2 | h2
      · exact .inl ⟨k, (mem_ends hx hp).2 ⟨h1, h2⟩, rfl⟩
      · exact .inr ⟨k, (mem_ends hy hp).2 ⟨h1, h2⟩, rfl⟩
    · rintro (⟨k, hk, rfl⟩ | ⟨k, hk, rfl⟩)
      · obtain ⟨h1, h2⟩ := (mem_ends hx hp).1 hk
        exact ⟨k, (mem_ends (rex_nd2 hx hy 3 (by simp)) hp).2 ⟨h1, mt_or.2 (.inl h2)⟩, rfl⟩
      · obtain ⟨h1, h2⟩ := (mem_ends hy hp).1 hk
        exact ⟨k, (mem_ends (rex_nd2 hx hy 3 (by simp)) hp).2 ⟨h1, mt_or.2 (.inr h2)⟩, rfl⟩)
theorem maybe_rise {S : List Nat} {x : Rx} {p : Nat} (hx : Rx.isRex x = true) (hp : p ≤ S.length) {out : List Int} (h : IsRise (zn (ends S x (p : Int)) ++ [(p : Int)]) out) : zn (ends S (nd 6 [x]) (p : Int)) = out :=
  rise_unique (ends_rise _ _ _) h.1 (fun z => by
    rw [h.2, List.mem_append, List.mem_singleton]
    unfold zn
    simp only [List.mem_map]
    constructor
    · rintro ⟨k, hk, rfl⟩
      obtain ⟨h1, h2⟩ := (mem_ends (rex_nd1 hx 6 (by simp)) hp).1 hk
      rcases mt_maybe.1 h2 with h2 | h2
      · exact .inr (by rw [h2])
      · exact .inl ⟨k, (mem_ends hx hp).2 ⟨h1, h2⟩, rfl⟩
    · rintro (⟨k, hk, rfl⟩ | rfl)
      · obtain ⟨h1, h2⟩ := (mem_ends hx hp).1 hk
        exact ⟨k, (mem_ends (rex_nd1 hx 6 (by simp)) hp).2 ⟨h1, mt_maybe.2 (.inr h2)⟩, rfl⟩
      · exact ⟨p, (mem_ends (rex_nd1 hx 6 (by simp)) hp).2 ⟨hp, mt_maybe.2 (.inl rfl)⟩, rfl⟩)
/-- The second tree's ends from each of the first's. -/
def thenAll (S : List Nat) (y : Rx) (l : List Nat) : List Int := l.flatMap fun k : Nat => zn (ends S y (k : Int))
theorem both_rise {S : List Nat} {x y : Rx} {p : Nat} (hx : Rx.isRex x = true) (hy : Rx.isRex y = true) (hp : p ≤ S.length) {out : List Int} (h : IsRise (thenAll S y (ends S x (p : Int))) out) : zn (ends S (nd 2 [x, y]) (p : Int)) = out :=
  rise_unique (ends_rise _ _ _) h.1 (fun z => by
    rw [h.2]
    unfold thenAll
    rw [List.mem_flatMap]
    unfold zn
    simp only [List.mem_map]
    constructor
    · rintro ⟨k, hk, rfl⟩
      obtain ⟨h1, h2⟩ := (mem_ends (rex_nd2 hx hy 2 (by simp)) hp).1 hk
      obtain ⟨m, h3, h4⟩ := mt_two.1 h2
      have := mt_le h4
      exact ⟨m, (mem_ends hx hp).2 ⟨by omega, h3⟩, k, (mem_ends hy (by omega)).2 ⟨h1, h4⟩, rfl⟩
    · rintro ⟨m, hm, k, hk, rfl⟩
      obtain ⟨h1, h2⟩ := (mem_ends hx hp).1 hm
      obtain ⟨h3, h4⟩ := (mem_ends hy h1).1 hk
      exact ⟨k, (mem_ends (rex_nd2 hx hy 2 (by simp)) hp).2 ⟨h3, mt_two.2 ⟨m, h2, h4⟩⟩, rfl⟩)
theorem thenAll_app (S : List Nat) (y : Rx) (l : List Nat) (k : Nat) : thenAll S y (l ++ [k]) = thenAll S y l ++ zn (ends S y (k : Int)) := by simp [thenAll]
theorem rise_nil {out : List Int} (h : IsRise [] out) : out = [] := by
  cases out with
  | nil => rfl
  | cons x r => have := (h.2 x).1 (by simp); cases this
end Go.Proofs.Yteifjiadgbgkbaa
