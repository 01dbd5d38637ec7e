/-
  What sordinekeep.Labels does: it draws a label set, whatever the numbers. Conditions: none but the length's.
  The order of matchers; a matcher put into a list where it belongs; '==' of matchers; slices of matchers cut. No conditions.
-/
import Derived.Test.YtlfcjjlgkcfkdaaGreatDoorProg
import Derived.Test.YtlfcjjlgkcfkdaaGreatDoorZ01
import Derived.Test.YtlfcjjlgkcfkdaaGreatDoorZ03
import Derived.Test.YtlfcjjlgkcfkdaaGreatDoorZ04
import Derived.Test.YtlfcjjlgkcfkdaaGreatDoorZ16
import Derived.Test.YtlfcjjlgkcfkdaaGreatDoorZ19
import Derived.Test.YtlfcjjlgkcfkdaaGreatDoorZ20
import Derived.Test.YtlfcjjlgkcfkdaaGreatDoorZ21
import Derived.Test.YtlfcjjlgkcfkdaaGreatDoorZ23
import Derived.Test.YtlfcjjlgkcfkdaaGreatDoorZ24
import Derived.Test.YtlfcjjlgkcfkdaaGreatDoorZ02
import Derived.Test.YtlfcjjlgkcfkdaaGreatDoorZ05
import Derived.Test.YtlfcjjlgkcfkdaaGreatDoorZ07
import Derived.Test.YtlfcjjlgkcfkdaaGreatDoorZ06
import Derived.Test.YtlfcjjlgkcfkdaaGreatDoorZ08
import Derived.Test.YtlfcjjlgkcfkdaaGreatDoorZ09
import Derived.Test.YtlfcjjlgkcfkdaaGreatDoorZ10
import Derived.Test.YtlfcjjlgkcfkdaaGreatDoorZ11
import Derived.Test.YtlfcjjlgkcfkdaaGreatDoorZ13
import Derived.Test.YtlfcjjlgkcfkdaaGreatDoorZ14
import Derived.Test.YtlfcjjlgkcfkdaaGreatDoorZ15
import Derived.Test.YtlfcjjlgkcfkdaaGreatDoorZ17
import Derived.Below
import Derived.WalkKit
import Derived.WalkSpells
import Derived.WalkLawsBesides
import Derived.Lib.Hide
import Derived.Lib.AppendStr
import Derived.Laws.BytesArg
import Derived.Laws.AppendOwnNone
import Derived.KernelRfl
import Derived.Lib.Bytealg
import Derived.Deep.RegionHeld3
import Derived.Laws.AppendOwn
import Derived.BigQuiet
import Derived.Laws.StructEq
import Derived.Laws.OwnMore
import Derived.Lib.QuietBelow
import Derived.Laws.Externs
import Derived.Lib.LazyBuf
import Derived.Laws.ResultCell
import Derived.Deep.Slices
import Derived.Deep.SlicePairs
import Derived.OpenShut
import Derived.Laws.MakeOwn
import Derived.OwnWalk
import Derived.Laws.CopyOwn
import Derived.Deep.QuietTactic
import Derived.Maps.AppendAt
import Derived.StillTailTactics
import Derived.Deep.LoopGhost
import Derived.Deep.MidRow
import Derived.Deep.Upon
import Derived.Deep.Cut
import Derived.Lib.TrailingZeros
import Derived.Laws.Bits64b
import Derived.Deep.CutRange
namespace Go.Proofs.YtlfcjjlgkcfkdaaGreatDoor
open Go.RowKit La

/-- Labels that may stand in one set. -/
structure Apart (acc : List Lab) : Prop where
  ok : ∀ x ∈ acc, name x.1 = true ∧ value x.2 = true
  di : acc.Pairwise fun x y => x.1 ≠ y.1
theorem value_size {s : ByteArray} (h : value s = true) : 1 ≤ s.size ∧ s.size ≤ 24 := by simpa [value] using h
theorem name_size {s : ByteArray} (h : name s = true) : 1 ≤ s.size ∧ s.size ≤ 12 := by
  simp only [name, decide_eq_true_eq] at h
  exact ⟨h.1, h.2.1⟩
theorem getL_empty {acc : List Lab} (h : ∀ x ∈ acc, value x.2 = true) {n : ByteArray} (he : (getL acc n).toList = []) : ∀ x ∈ acc, x.1 ≠ n := by
  induction acc with
  | nil => intro x hx; cases hx
  | cons y r ih =>
    rw [getL] at he
    split at he
    · have h1 := value_size (h y (by simp))
      rw [ByteArray.toList_eq] at he
      have h2 : y.2.data.size = 0 := by have := congrArg List.length he; simpa using this
      have h3 : y.2.size = y.2.data.size := rfl
      omega
    · rename_i hne
      intro x hx
      rcases List.mem_cons.1 hx with rfl | hx
      · intro e; exact hne (beq_iff.2 e)
      · exact ih (fun z hz => h z (by simp [hz])) he x hx
theorem Apart.snoc {acc : List Lab} (h : Apart acc) {x y : ByteArray} (hx : name x = true) (hy : value y = true) (he : (getL acc x).toList = []) : Apart (acc ++ [(x, y)]) := by
  refine ⟨fun z hz => ?_, ?_⟩
  · rcases List.mem_append.1 hz with hz | hz
    · exact h.ok z hz
    · simp at hz; subst hz; exact ⟨hx, hy⟩
  · rw [List.pairwise_append]
    refine ⟨h.di, List.pairwise_singleton _ _, fun a ha b hb => ?_⟩
    simp at hb; subst hb
    exact getL_empty (fun z hz => (h.ok z hz).2) he a ha
theorem Apart.sorted {acc : List Lab} (h : Apart acc) (h1 : 1 ≤ acc.length) (h6 : acc.length ≤ 6) : ∃ r : List Lab, r.Perm acc ∧ isSet r = true := by
  let le : Lab → Lab → Bool := fun a b => !lt b.1 a.1
  have tr : ∀ a b c, le a b = true → le b c = true → le a c = true := by
    intro a b c x y
    simp only [le, Bool.not_eq_true'] at x y ⊢
    cases e : lt c.1 a.1 with
    | false => rfl
    | true =>
      cases e2 : lt b.1 c.1 with
      | true => have := lt_trans e2 e; rw [x] at this; cases this
      | false => have := lt_total e2 y; rw [← this, x] at e; cases e
  have tot : ∀ a b, (le a b || le b a) = true := by
    intro a b
    simp only [le]
    cases e : lt b.1 a.1 with
    | false => rfl
    | true => rw [lt_asymm e]; rfl
  have hp := List.mergeSort_perm acc le
  have hs := List.pairwise_mergeSort tr tot acc
  refine ⟨acc.mergeSort le, hp, isSet_iff.2 ⟨by rw [hp.length_eq]; exact h1, by rw [hp.length_eq]; exact h6, fun k hk => ?_⟩⟩
  have hd : (acc.mergeSort le).Pairwise fun x y => x.1 ≠ y.1 := hp.symm.pairwise h.di (fun {x y} e => Ne.symm e)
  have ok := h.ok _ (hp.mem_iff.1 (nth_mem hk))
  rw [okAt, ok.1, ok.2]
  by_cases hk0 : k = 0
  · simp [hk0]
  · have hk1 : k - 1 < (acc.mergeSort le).length := by omega
    have g1 := List.pairwise_iff_getElem.1 hs (k - 1) k hk1 hk (by omega)
    have g2 := List.pairwise_iff_getElem.1 hd (k - 1) k hk1 hk (by omega)
    rw [nth_eq hk, nth_eq hk1]
    simp only [le, Bool.not_eq_true'] at g1
    cases e : lt ((acc.mergeSort le)[k - 1]).1 ((acc.mergeSort le)[k]).1 with
    | true => simp
    | false => exact absurd (lt_total e g1) g2
theorem Apart.made {acc : List Lab} (h : Apart acc) (h1 : 1 ≤ acc.length) (h6 : acc.length ≤ 6) {o : Option (List Lab)} (ho : IsMk acc o) : ∃ l, o = some l ∧ isSet l = true := by
  cases o with
  | none =>
    obtain ⟨r, hp, hs⟩ := h.sorted h1 h6
    have := ho r hp
    rw [hs] at this; cases this
  | some l => exact ⟨l, rfl, ho.2⟩
theorem Apart.small {acc : List Lab} (h : Apart acc) : Small acc := fun x hx => by
  have a := name_size (h.ok x hx).1
  have b := value_size (h.ok x hx).2
  omega
end Go.Proofs.YtlfcjjlgkcfkdaaGreatDoor
namespace Go.Proofs.YtlfcjjlgkcfkdaaGreatDoor
open Go.RowKit Go.Sort

theorem Mat.ext {a b : Mat} (h1 : a.k = b.k) (h2 : a.n = b.n) (h3 : a.v = b.v) : a = b := by
  obtain ⟨_, _, _⟩ := a
  obtain ⟨_, _, _⟩ := b
  simp only at h1 h2 h3
  subst h1 h2 h3; rfl
instance : DecidableEq Mat := fun a b =>
  if h : a.k = b.k ∧ a.n = b.n ∧ a.v = b.v then isTrue (Mat.ext h.1 h.2.1 h.2.2) else isFalse fun e => h ⟨by rw [e], by rw [e], by rw [e]⟩
theorem Mat.bf_iff {a b : Mat} : Mat.bf a b = true ↔ (La.lt a.n b.n = true ∨ (a.n = b.n ∧ (a.k < b.k ∨ (a.k = b.k ∧ La.lt a.v b.v = true)))) := by
  unfold Mat.bf
  by_cases h1 : a.n = b.n
  · rw [if_pos (La.beq_iff.2 h1)]
    have hirr : ¬ La.lt a.n b.n = true := by rw [h1, La.lt_irrefl]; simp
    by_cases h2 : a.k = b.k
    · rw [if_pos h2]
      constructor
      · intro h; exact .inr ⟨h1, .inr ⟨h2, h⟩⟩
      · rintro (h | ⟨_, h | ⟨_, h⟩⟩)
        · exact absurd h hirr
        · omega
        · exact h
    · rw [if_neg h2, decide_eq_true_eq]
      constructor
      · intro h; exact .inr ⟨h1, .inl h⟩
      · rintro (h | ⟨_, h | ⟨h, _⟩⟩)
        · exact absurd h hirr
        · exact h
        · exact absurd h h2
  · rw [if_neg (fun h => h1 (La.beq_iff.1 h))]
    constructor
    · intro h; exact .inl h
    · rintro (h | ⟨h, _⟩)
      · exact h
      · exact absurd h h1
theorem Mat.bf_trans {a b c : Mat} (h1 : Mat.bf a b = true) (h2 : Mat.bf b c = true) : Mat.bf a c = true := by
  rw [Mat.bf_iff] at h1 h2 ⊢
  rcases h1 with h1 | ⟨e1, h1⟩
  · rcases h2 with h2 | ⟨e2, _⟩
    · exact .inl (La.lt_trans h1 h2)
    · exact .inl (by rw [← e2]; exact h1)
  · rcases h2 with h2 | ⟨e2, h2⟩
    · exact .inl (by rw [e1]; exact h2)
    · refine .inr ⟨e1.trans e2, ?_⟩
      rcases h1 with h1 | ⟨k1, h1⟩
      · rcases h2 with h2 | ⟨k2, _⟩
        · exact .inl (by omega)
        · exact .inl (by omega)
      · rcases h2 with h2 | ⟨k2, h2⟩
        · exact .inl (by omega)
        · exact .inr ⟨by omega, La.lt_trans h1 h2⟩
theorem Mat.bf_total {a b : Mat} (h1 : Mat.bf a b = false) (h2 : Mat.bf b a = false) : a = b := by
  have n1 : ¬ Mat.bf a b = true := by rw [h1]; simp
  have n2 : ¬ Mat.bf b a = true := by rw [h2]; simp
  rw [Mat.bf_iff] at n1 n2
  have en : a.n = b.n := La.lt_total (by cases h : La.lt a.n b.n <;> simp_all) (by cases h : La.lt b.n a.n <;> simp_all)
  have ek : a.k = b.k := by
    rcases Int.lt_trichotomy a.k b.k with h | h | h
    · exact absurd (.inr ⟨en, .inl h⟩) n1
    · exact h
    · exact absurd (.inr ⟨en.symm, .inl h⟩) n2
  refine Mat.ext ek en (La.lt_total ?_ ?_)
  · cases h : La.lt a.v b.v
    · rfl
    · exact absurd (.inr ⟨en, .inr ⟨ek, h⟩⟩) n1
  · cases h : La.lt b.v a.v
    · rfl
    · exact absurd (.inr ⟨en.symm, .inr ⟨ek.symm, h⟩⟩) n2
/-- Matchers that may stand in one list, in their order. -/
structure GoodM (acc : List Mat) : Prop where
  ok : ∀ m ∈ acc, m.ok = true ∧ (m.k = 1 ∨ m.k = 2 ∨ m.k = 3 ∨ m.k = 4) ∧ m.n.size ≤ 12 ∧ m.v.size ≤ 40
  pw : acc.Pairwise fun a b => Mat.bf a b = true
theorem GoodM.nil : GoodM [] := ⟨fun m hm => by (cases hm), List.Pairwise.nil⟩
theorem GoodM.small {acc : List Mat} (h : GoodM acc) : SmallM acc := fun m hm => by have := h.ok m hm; omega
theorem GoodM.put {acc : List Mat} {x : Mat} {m : Nat} (h : GoodM acc) (hx : x.ok = true ∧ (x.k = 1 ∨ x.k = 2 ∨ x.k = 3 ∨ x.k = 4) ∧ x.n.size ≤ 12 ∧ x.v.size ≤ 40) (hm : m ≤ acc.length)
    (h1 : ∀ j, m ≤ j → j < acc.length → Mat.bf x (Mat.nth acc j) = true) (h2 : 0 < m → Mat.bf x (Mat.nth acc (m - 1)) = false ∧ Mat.nth acc (m - 1) ≠ x) : GoodM (acc.take m ++ x :: acc.drop m) := by
  constructor
  · intro y hy
    rcases List.mem_append.1 hy with hy | hy
    · exact h.ok y (List.mem_of_mem_take hy)
    · rcases List.mem_cons.1 hy with rfl | hy
      · exact hx
      · exact h.ok y (List.mem_of_mem_drop hy)
  · have hs' := h.pw
    rw [← List.take_append_drop m acc, List.pairwise_append] at hs'
    obtain ⟨s1, s2, s3⟩ := hs'
    rw [List.pairwise_append]
    refine ⟨s1, ?_, ?_⟩
    · rw [List.pairwise_cons]
      refine ⟨fun y hy => ?_, s2⟩
      obtain ⟨j, hj, rfl⟩ := List.getElem_of_mem hy
      have hj' : m + j < acc.length := by simp at hj; omega
      have := h1 (m + j) (by omega) hj'
      rw [Mat.nth_eq hj'] at this
      rw [List.getElem_drop]
      exact this
    · intro y hy z hz
      rcases List.mem_cons.1 hz with rfl | hz
      · obtain ⟨j, hj, rfl⟩ := List.getElem_of_mem hy
        have hj' : j < m ∧ j < acc.length := by simp at hj; omega
        rw [List.getElem_take]
        obtain ⟨g1, g2⟩ := h2 (by omega)
        have hm1 : m - 1 < acc.length := by omega
        rw [Mat.nth_eq hm1] at g1 g2
        have g3 : Mat.bf (acc[m - 1]) z = true := by
          cases g : Mat.bf (acc[m - 1]) z
          · exact absurd (Mat.bf_total g g1) g2
          · rfl
        by_cases ej : j = m - 1
        · subst ej; exact g3
        · exact Mat.bf_trans (List.pairwise_iff_getElem.1 h.pw j (m - 1) hj'.2 hm1 (by omega)) g3
      · exact s3 y hy z hz
/-- Where a slice of matchers begins that is cut at m. -/
def cutM (A : Option Addr) (c m : Nat) : Option Addr := A.map fun ad => if c = m then ad else ⟨ad.block, m * 3, none⟩
/-- A slice that one owns: none, or a row's beginning. -/
def AtRow (A : Option Addr) (k c : Nat) : Prop := (A = none ∧ k = 0 ∧ c = 0) ∨ ∃ g, A = some ⟨g, 0, none⟩
theorem AtRow.nil {A : Option Addr} {k c : Nat} (h : AtRow A k c) : A = none → c = 0 := fun e => by
  rcases h with ⟨_, _, h⟩ | ⟨g, h⟩
  · exact h
  · rw [e] at h; cases h
theorem AtRow.drop {A : Option Addr} {k c : Nat} {w : World} {l : List Mat} (h : AtRow A k c) (hi : IsMats w A l) (m : Nat) (hl : l.length = k) (hc : k ≤ c) : IsMats w (cutM A c m) (l.drop m) := by
  rcases h with ⟨rfl, rfl, rfl⟩ | ⟨g, rfl⟩
  · have : l = [] := List.eq_nil_of_length_eq_zero hl
    subst this; simp only [List.drop_nil]; exact IsMats.nil _ _
  · exact mats_drop hi m (by omega)
end Go.Proofs.YtlfcjjlgkcfkdaaGreatDoor

