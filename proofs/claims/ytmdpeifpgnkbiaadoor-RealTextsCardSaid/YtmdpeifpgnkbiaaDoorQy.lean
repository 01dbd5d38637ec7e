/-
  A row of ints that one owns, as the sort sees it (SortW), and the order of Rank. Conditions: words have 64 bits; no more than 60 values.
-/
import Derived.Test.YtmdpeifpgnkbiaaDoorQw
import Derived.Test.YtmdpeifpgnkbiaaDoorQx
namespace Go.Proofs.YtmdpeifpgnkbiaaDoor
open Go.RowKit
/-- The row of places that is sorted: one's own; nothing else is written. -/
def RankS (base B n cap L : Nat) (w1 : World) (d : Nat → Nat) (w : World) : Prop :=
  w.ownsRow base 3 1 (.slice (some ⟨B, 0, none⟩) n cap) n (in64 ((List.range n).map d)) ∧ w1.grownBy w (some B) ∧ ∀ k, k < n → d k < L
theorem in64_get (l : List Nat) (j : Nat) : (in64 l)[j]? = (l[j]?).map fun k : Nat => Value.int .i64 (k : Int) := by simp [in64]
theorem range_get (d : Nat → Nat) (n j : Nat) (h : j < n) : ((List.range n).map d)[j]? = some (d j) := by simp [h]
theorem set_sw (d : Nat → Nat) (n i j : Nat) (hi : i < n) (hj : j < n) : ((in64 ((List.range n).map d)).set i (.int .i64 ((d j : Nat) : Int))).set j (.int .i64 ((d i : Nat) : Int)) = in64 ((List.range n).map (So.sw d i j)) := by
  refine List.ext_getElem? fun k => ?_
  by_cases hk : k < n
  · rw [in64_get, range_get _ _ _ hk, List.getElem?_set, List.getElem?_set]
    simp only [List.length_set, in64_len, List.length_map, List.length_range, hi, hj, if_true]
    unfold So.sw
    by_cases c1 : j = k
    · subst c1
      by_cases c2 : j = i
      · subst c2; simp
      · simp [c2]
    · rw [if_neg c1]
      by_cases c2 : i = k
      · subst c2; simp
      · rw [if_neg c2, if_neg (Ne.symm c2), if_neg (Ne.symm c1), in64_get, range_get _ _ _ hk]
  · rw [List.getElem?_eq_none (by simp [in64]; omega), List.getElem?_eq_none (by simp [in64]; omega)]
/-- The order of Rank among numbers. -/
def RK (l : List Nat) (i j : Nat) : Prop := Fm.key (l.getD j 0) < Fm.key (l.getD i 0) ∨ (Fm.key (l.getD j 0) = Fm.key (l.getD i 0) ∧ i < j)
theorem rk_ord (l : List Nat) : So.Ord (RK l) (ltf (rcf l)) where
  trans h1 h2 := by unfold RK at *; omega
  yes {x y} h1 h2 := by
    unfold ltf rcf cmpI at h2
    unfold RK
    have := of_decide_eq_true h2
    split at this
    · left; assumption
    · split at this <;> omega
  no {x y} h1 h2 := by
    unfold ltf rcf cmpI at h2
    unfold RK
    have := of_decide_eq_false h2
    split at this
    · omega
    · omega
theorem rank_sortw (l : List Nat) (base B n cap lcap C : Nat) (w1 : World) (hn : n ≤ 60) (hw : ∀ x ∈ l, Fm.W x)
    (hl : 0 < n → ∀ w, w1.grownBy w (some B) → ∃ b off, (∀ k, k < l.length → w.cell? ⟨b, off + k, none⟩ = some (.float .f64 (l.getD k 0))) ∧ w.cell? ⟨C, 0, none⟩ = some (.slice (some ⟨b, off, none⟩) l.length lcap)) :
    SortW B n 42 #[.pointer (some ⟨C, 0, none⟩)] (rcf l) (RankS base B n cap l.length w1) where
  len := hn
  cell {d w} h j hj := by rw [h.1.cellAt j (by omega), in64_get, range_get _ _ _ hj]; rfl
  free {d w} h j hj := h.1.frozenAt j
  drew {d w} h q := ⟨h.1, ⟨h.2.1.os, h.2.1.tape, h.2.1.output, h.2.1.size, h.2.1.block⟩, h.2.2⟩
  put {d w} h i j hi hj := by
    obtain ⟨s1, g1⟩ := h.1.stored i (.int .i64 ((d j : Nat) : Int))
    obtain ⟨s2, g2⟩ := s1.stored j (.int .i64 ((d i : Nat) : Int))
    rw [set_sw d n i j hi hj] at s2
    refine ⟨s2, (h.2.1.trans g1).trans g2, fun k hk => ?_⟩
    unfold So.sw
    split
    · exact h.2.2 _ hj
    · split
      · exact h.2.2 _ hi
      · exact h.2.2 _ hk
  enters := enters_of Tryd.func42 (by kernel_rfl) rfl
  cmp {d w} h i j hi hj := by
    obtain ⟨b, off, c1, c2⟩ := hl (by omega) w h.2.1
    exact rank1_any l l.length lcap b off C (d i) (d j) w rfl hw c1 c2 (h.2.2 i hi) (h.2.2 j hj)
end Go.Proofs.YtmdpeifpgnkbiaaDoor
