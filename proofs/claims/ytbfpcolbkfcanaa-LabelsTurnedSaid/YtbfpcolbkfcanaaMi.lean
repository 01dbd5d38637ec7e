/-
  What slices.insertionSortCmpFunc does to a row of labels with Make's comparison: it sorts it by names. Conditions: no more than 6 labels.
-/
import Derived.Test.YtbfpcolbkfcanaaMm
namespace Go.Proofs.Ytbfpcolbkfcanaa
open Go.RowKit La Go.Sort

/-- The labels in the order that d tells. -/
def rowL (ls : List Lab) (n : Nat) (d : Nat → Nat) : List Lab := (List.range n).map fun j => nth ls (d j)
theorem rowL_len (ls : List Lab) (n : Nat) (d : Nat → Nat) : (rowL ls n d).length = n := by simp [rowL]
theorem rowL_nth {ls : List Lab} {n j : Nat} {d : Nat → Nat} (h : j < n) : nth (rowL ls n d) j = nth ls (d j) := by simp [rowL, nth, h]
/-- The row that is sorted: one's own; nothing else is written. -/
structure LabS (base B n cap : Nat) (ls : List Lab) (w0 : World) (d : Nat → Nat) (w : World) : Prop where
  own : w.ownsRow base 23 2 (.slice (some ⟨B, 0, none⟩) n cap) n (lc (rowL ls n d))
  bel : Below base w0 w
  siz : base ≤ w.heap.size
section
variable {base B n cap : Nat} {ls : List Lab} {w0 w : World} {d : Nat → Nat}
theorem LabS.cell (h : LabS base B n cap ls w0 d w) (j : Nat) (hj : j < n) : w.cell? ⟨B, j * 2, none⟩ = some (.string (nth ls (d j)).1) ∧ w.cell? ⟨B, j * 2 + 1, none⟩ = some (.string (nth ls (d j)).2) := by
  have := isLabs_at (own_labs h.own).1 (j := j) (by rw [rowL_len]; exact hj)
  rwa [Nat.zero_add, rowL_nth hj] at this
theorem LabS.free (h : LabS base B n cap ls w0 d w) (j : Nat) : w.frozen? ⟨B, j, none⟩ = false := h.own.frozenAt j
theorem LabS.grow {w' : World} (h : LabS base B n cap ls w0 d w) (hb : Below w.heap.size w w') : LabS base B n cap ls w0 d w' :=
  ⟨own_keepL h.own hb, h.bel.trans (hb.mono h.siz), Nat.le_trans h.siz hb.size⟩
theorem lc_set (l : List Lab) (i : Nat) (x : Lab) : ((lc l).set (i * 2) (.string x.1)).set (i * 2 + 1) (.string x.2) = lc (l.set i x) := by
  induction l generalizing i with
  | nil => rfl
  | cons y r ih =>
    cases i with
    | zero => simp [lc]
    | succ i =>
      have e1 : (i + 1) * 2 = i * 2 + 1 + 1 := by omega
      have e2 : ∀ (z : Lab) (m : List Lab), lc (z :: m) = .string z.1 :: .string z.2 :: lc m := fun _ _ => rfl
      rw [e1, e2, List.set_cons_succ, List.set_cons_succ, List.set_cons_succ, List.set_cons_succ, ih, List.set_cons_succ, e2]
theorem rowL_sw (ls : List Lab) (n : Nat) (d : Nat → Nat) (i j : Nat) (hi : i < n) (hj : j < n) : ((rowL ls n d).set i (nth ls (d j))).set j (nth ls (d i)) = rowL ls n (So.sw d i j) := by
  refine ext_nth (by simp [rowL]) fun k hk => ?_
  have hk' : k < n := by simpa [rowL] using hk
  rw [rowL_nth hk']
  unfold So.sw
  have hl : ∀ {a : List Lab} {x : Lab} {p : Nat}, p < a.length → nth (a.set p x) k = if p = k then x else nth a k := by
    intro a x p hp
    by_cases e : p = k
    · subst e; simp [nth, hp]
    · simp [nth, e]
  rw [hl (by rw [List.length_set, rowL_len]; exact hj), hl (by rw [rowL_len]; exact hi), rowL_nth hk']
  by_cases c1 : j = k
  · subst c1
    by_cases c2 : j = i
    · subst c2; simp
    · simp [c2]
  · rw [if_neg c1]
    by_cases c2 : i = k
    · subst c2; simp
    · rw [if_neg c2, if_neg (Ne.symm c2), if_neg (Ne.symm c1)]
theorem LabS.put (h : LabS base B n cap ls w0 d w) (i j : Nat) (hi : i < n) (hj : j < n) :
    LabS base B n cap ls w0 (So.sw d i j) ((((w.setCell ⟨B, i * 2, none⟩ (.string (nth ls (d j)).1)).setCell ⟨B, i * 2 + 1, none⟩ (.string (nth ls (d j)).2)).setCell ⟨B, j * 2, none⟩ (.string (nth ls (d i)).1)).setCell ⟨B, j * 2 + 1, none⟩ (.string (nth ls (d i)).2)) := by
  obtain ⟨s1, g1⟩ := h.own.stored (i * 2) (.string (nth ls (d j)).1)
  obtain ⟨s2, g2⟩ := s1.stored (i * 2 + 1) (.string (nth ls (d j)).2)
  obtain ⟨s3, g3⟩ := s2.stored (j * 2) (.string (nth ls (d i)).1)
  obtain ⟨s4, g4⟩ := s3.stored (j * 2 + 1) (.string (nth ls (d i)).2)
  rw [lc_set, lc_set, rowL_sw ls n d i j hi hj] at s4
  have g := ((g1.trans g2).trans g3).trans g4
  refine ⟨s4, h.bel.grown g h.siz (fun q hq => ?_), by have := g.size; have := h.siz; omega⟩
  have := own_geL h.own q hq
  exact this
theorem LabS.drew1 (h : LabS base B n cap ls w0 d w) : LabS base B n cap ls w0 d w.drew := ⟨h.own, h.bel.drew, h.siz⟩
end
/-- The order of the places: by names, then as they stood. -/
def ltP (ls : List Lab) (i j : Nat) : Bool := lt (nth ls i).1 (nth ls j).1
def RP (ls : List Lab) (i j : Nat) : Prop := ltP ls j i = false
theorem rp_ord (ls : List Lab) : So.Ord (RP ls) (ltP ls) where
  trans {x y z} h1 h2 := by
    unfold RP ltP at *
    cases h : lt (nth ls z).1 (nth ls x).1 with
    | false => rfl
    | true =>
      cases h3 : lt (nth ls x).1 (nth ls y).1 with
      | true => have := lt_trans h h3; rw [h2] at this; cases this
      | false => have := lt_total h3 h1; rw [this, h2] at h; cases h
  yes {x y} h1 h2 := by unfold RP ltP at *; exact lt_asymm h2
  no {x y} h1 h2 := by unfold RP ltP at *; exact h2
end Go.Proofs.Ytbfpcolbkfcanaa
