/-
  Maths of ascending lists, each number once. Conditions: none.
-/
import Derived.Test.YtaklabggojfijaaProg
import Derived.Test.YtaklabggojfijaaEa
import Derived.Test.YtaklabggojfijaaEd
import Derived.Test.YtaklabggojfijaaEm
import Derived.Test.YtaklabggojfijaaEn
import Derived.Test.YtaklabggojfijaaEf
import Derived.Test.YtaklabggojfijaaIa
import Derived.Test.YtaklabggojfijaaIb
import Derived.Deep.RegionHeld3
import Derived.WalkKit
import Derived.WalkSpells
import Derived.WalkLawsBesides
import Derived.Lib.Hide
import Derived.Below
import Derived.BigQuiet
import Derived.Lib.QuietBelow
import Derived.Laws.StructEq
import Derived.KernelRfl
import Derived.Laws.MakeOwn
import Derived.Laws.OwnMore
import Derived.OwnWalk
import Derived.Laws.CopyOwn
import Derived.Laws.AppendOwn
import Derived.Deep.QuietTactic
import Derived.IntWalk
namespace Go.Proofs.Ytaklabggojfijaa
open Go.RowKit

/-- An ascending list has no number twice. -/
theorem asc_count {a : List Int} (h : a.Pairwise (· < ·)) (y : Int) : a.count y = if y ∈ a then 1 else 0 := by
  have hn : a.Nodup := h.imp fun hxy => by intro e; omega
  by_cases hy : y ∈ a
  · have := List.nodup_iff_count.1 hn y
    have := List.count_pos_iff.2 hy
    rw [if_pos hy]; omega
  · rw [if_neg hy, List.count_eq_zero.2 hy]
/-- Ascending lists that part an ascending list are as many as it. -/
theorem asc_parts {all x l r : List Int} (ha : all.Pairwise (· < ·)) (hx : x.Pairwise (· < ·)) (hl : l.Pairwise (· < ·)) (hr : r.Pairwise (· < ·)) (hm : ∀ y, y ∈ all ↔ (y ∈ l ∨ y ∈ r ∨ y ∈ x)) (h1 : ∀ y, y ∈ l → ¬ y ∈ r ∧ ¬ y ∈ x) (h2 : ∀ y, y ∈ r → ¬ y ∈ x) :
    all.length = x.length + l.length + r.length := by
  have hp : all.Perm (x ++ (l ++ r)) := by
    rw [List.perm_iff_count]
    intro y
    rw [List.count_append, List.count_append, asc_count ha, asc_count hx, asc_count hl, asc_count hr]
    have h1 := h1 y
    have h2 := h2 y
    simp only [hm y]
    by_cases p : y ∈ l <;> by_cases q : y ∈ r <;> by_cases s : y ∈ x <;> simp_all
  rw [hp.length_eq, List.length_append, List.length_append]; omega
/-- The members of what rises are those of the row. -/
theorem IsRise.nil_of {l out : List Int} (h : IsRise l out) (hn : ∀ y, ¬ y ∈ l) : out = [] := by
  cases out with
  | nil => rfl
  | cons y r => exact absurd ((h.2 y).1 (by simp)) (hn y)
theorem IsRise.congr {l m out : List Int} (h : IsRise l out) (e : ∀ y, y ∈ l ↔ y ∈ m) : IsRise m out := ⟨h.1, fun y => (h.2 y).trans (e y)⟩
theorem IsRise.eq {l m a b : List Int} (h1 : IsRise l a) (h2 : IsRise m b) (e : ∀ y, y ∈ l ↔ y ∈ m) : a = b := rise_unique h1.1 h2.1 fun y => (h1.2 y).trans ((e y).trans (h2.2 y).symm)
theorem IsRise.self {l : List Int} (h : l.Pairwise (· < ·)) : IsRise l l := ⟨h, fun _ => Iff.rfl⟩
/-- A row rises just if it is what rises from it. -/
theorem IsRise.is_iff {l out : List Int} (h : IsRise l out) : l = out ↔ l.Pairwise (· < ·) := ⟨fun e => e ▸ h.1, fun p => (IsRise.self p).eq h fun _ => Iff.rfl⟩
/-- Ascending, told of neighbours. -/
theorem asc_iff {l : List Int} : l.Pairwise (· < ·) ↔ ∀ k, k + 1 < l.length → l.getD k 0 < l.getD (k + 1) 0 := by
  constructor
  · intro h k hk
    have := List.pairwise_iff_getElem.1 h k (k + 1) (by omega) hk (by omega)
    simpa [List.getD, List.getElem?_eq_getElem hk, List.getElem?_eq_getElem (show k < l.length by omega)] using this
  · intro h
    rw [List.pairwise_iff_getElem]
    intro i j hi hj hij
    obtain ⟨d, rfl⟩ : ∃ d, j = i + 1 + d := ⟨j - i - 1, by omega⟩
    have key : ∀ d (hd : i + 1 + d < l.length), l[i] < l[i + 1 + d] := by
      intro d
      induction d with
      | zero =>
        intro hd
        have := h i (by omega)
        simpa [List.getD, List.getElem?_eq_getElem hi, List.getElem?_eq_getElem (show i + 1 < l.length by omega)] using this
      | succ d ih =>
        intro hd
        have a := ih (by omega)
        have b := h (i + 1 + d) (by omega)
        have b' : l[i + 1 + d]'(by omega) < l[i + 1 + d + 1]'(by omega) := by
          simpa [List.getD, List.getElem?_eq_getElem (show i + 1 + d < l.length by omega), List.getElem?_eq_getElem (show i + 1 + d + 1 < l.length by omega)] using b
        exact Int.lt_trans a b'
    exact key d hj
/-- One number more, one less, of an ascending row: cut in two at where it stands. -/
theorem asc_put {a b : List Int} {n : Int} (h : (a ++ b).Pairwise (· < ·)) (h1 : ∀ y ∈ a, y < n) (h2 : ∀ y ∈ b, n < y) : IsRise ((a ++ b) ++ [n]) (a ++ n :: b) := by
  rw [List.pairwise_append] at h
  obtain ⟨p, q, r⟩ := h
  refine ⟨?_, fun y => by simp; constructor <;> (rintro (h | h | h) <;> simp [h])⟩
  rw [List.pairwise_append]
  refine ⟨p, List.pairwise_cons.2 ⟨h2, q⟩, fun x hx y hy => ?_⟩
  rcases List.mem_cons.1 hy with rfl | hy
  · exact h1 x hx
  · exact r x hx y hy
theorem asc_filter {l : List Int} (p : Int → Bool) (h : l.Pairwise (· < ·)) : (l.filter p).Pairwise (· < ·) := List.Pairwise.filter p h

end Go.Proofs.Ytaklabggojfijaa
