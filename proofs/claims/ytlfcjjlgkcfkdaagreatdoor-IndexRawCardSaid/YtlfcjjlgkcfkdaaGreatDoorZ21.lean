/-
  What the reference's MakeSet does: the set of any labels, or that there is none (La.IsMk). Conditions: lengths fit.
  What slices.insertionSortCmpFunc does to a row of labels with Make's comparison: it sorts it by names. Conditions: no more than 6 labels.
-/
import Derived.Test.YtlfcjjlgkcfkdaaGreatDoorProg
import Derived.Test.YtlfcjjlgkcfkdaaGreatDoorZ01
import Derived.Test.YtlfcjjlgkcfkdaaGreatDoorZ03
import Derived.Test.YtlfcjjlgkcfkdaaGreatDoorZ04
import Derived.Test.YtlfcjjlgkcfkdaaGreatDoorZ16
import Derived.Test.YtlfcjjlgkcfkdaaGreatDoorZ19
import Derived.Test.YtlfcjjlgkcfkdaaGreatDoorZ20
import Derived.Below
import Derived.WalkKit
import Derived.WalkSpells
import Derived.WalkLawsBesides
import Derived.Lib.Hide
import Derived.Lib.AppendStr
import Derived.Laws.BytesArg
import Derived.Laws.AppendOwnNone
import Derived.KernelRfl
import Derived.Lib.Bytealg
import Derived.Deep.RegionHeld3
import Derived.Laws.AppendOwn
import Derived.BigQuiet
import Derived.Laws.StructEq
import Derived.Laws.OwnMore
import Derived.Lib.QuietBelow
import Derived.Laws.Externs
namespace Go.Proofs.YtlfcjjlgkcfkdaaGreatDoor
open Go.RowKit La

theorem isLabs_at {w : World} {b off : Nat} {l : List Lab} (h : IsLabs w (some ⟨b, off, none⟩) l) {j : Nat} (hj : j < l.length) : w.cell? ⟨b, off + j * 2, none⟩ = some (.string (nth l j).1) ∧ w.cell? ⟨b, off + j * 2 + 1, none⟩ = some (.string (nth l j).2) := by
  obtain ⟨b', off', e, hc⟩ := h (by omega)
  injection e with e; injection e with e1 e2
  subst e1 e2
  exact hc j hj
end Go.Proofs.YtlfcjjlgkcfkdaaGreatDoor
namespace Go.Proofs.YtlfcjjlgkcfkdaaGreatDoor
open Go.RowKit La Go.Sort

/-- The labels in the order that d tells. -/
def rowL (ls : List Lab) (n : Nat) (d : Nat → Nat) : List Lab := (List.range n).map fun j => nth ls (d j)
theorem rowL_len (ls : List Lab) (n : Nat) (d : Nat → Nat) : (rowL ls n d).length = n := by simp [rowL]
theorem rowL_nth {ls : List Lab} {n j : Nat} {d : Nat → Nat} (h : j < n) : nth (rowL ls n d) j = nth ls (d j) := by simp [rowL, nth, h]
/-- The row that is sorted: one's own; nothing else is written. -/
structure LabS (base B n cap : Nat) (ls : List Lab) (w0 : World) (d : Nat → Nat) (w : World) : Prop where
  own : w.ownsRow base 26 2 (.slice (some ⟨B, 0, none⟩) n cap) n (lc (rowL ls n d))
  bel : Below base w0 w
  siz : base ≤ w.heap.size
section
variable {base B n cap : Nat} {ls : List Lab} {w0 w : World} {d : Nat → Nat}
theorem LabS.cell (h : LabS base B n cap ls w0 d w) (j : Nat) (hj : j < n) : w.cell? ⟨B, j * 2, none⟩ = some (.string (nth ls (d j)).1) ∧ w.cell? ⟨B, j * 2 + 1, none⟩ = some (.string (nth ls (d j)).2) := by
  have := isLabs_at (own_labs h.own).1 (j := j) (by rw [rowL_len]; exact hj)
  rwa [Nat.zero_add, rowL_nth hj] at this
theorem LabS.free (h : LabS base B n cap ls w0 d w) (j : Nat) : w.frozen? ⟨B, j, none⟩ = false := h.own.frozenAt j
theorem LabS.grow {w' : World} (h : LabS base B n cap ls w0 d w) (hb : Below w.heap.size w w') : LabS base B n cap ls w0 d w' :=
  ⟨own_keepL h.own hb, h.bel.trans (hb.mono h.siz), Nat.le_trans h.siz hb.size⟩
theorem lc_set (l : List Lab) (i : Nat) (x : Lab) : ((lc l).set (i * 2) (.string x.1)).set (i * 2 + 1) (.string x.2) = lc (l.set i x) := by
  induction l generalizing i with
  | nil => rfl
  | cons y r ih =>
    cases i with
    | zero => simp [lc]
    | succ i =>
      have e1 : (i + 1) * 2 = i * 2 + 1 + 1 := by omega
      have e2 : ∀ (z : Lab) (m : List Lab), lc (z :: m) = .string z.1 :: .string z.2 :: lc m := fun _ _ => rfl
      rw [e1, e2, List.set_cons_succ, List.set_cons_succ, List.set_cons_succ, List.set_cons_succ, ih, List.set_cons_succ, e2]
theorem rowL_sw (ls : List Lab) (n : Nat) (d : Nat → Nat) (i j : Nat) (hi : i < n) (hj : j < n) : ((rowL ls n d).set i (nth ls (d j))).set j (nth ls (d i)) = rowL ls n (So.sw d i j) := by
  refine ext_nth (by simp [rowL]) fun k hk => ?_
  have hk' : k < n := by simpa [rowL] using hk
  rw [rowL_nth hk']
  unfold So.sw
  have hl : ∀ {a : List Lab} {x : Lab} {p : Nat}, p < a.length → nth (a.set p x) k = if p = k then x else nth a k := by
    intro a x p hp
    by_cases e : p = k
    · subst e; simp [nth, hp]
    · simp [nth, e]
  rw [hl (by rw [List.length_set, rowL_len]; exact hj), hl (by rw [rowL_len]; exact hi), rowL_nth hk']
  by_cases c1 : j = k
  · subst c1
    by_cases c2 : j = i
    · subst c2; simp
    · simp [c2]
  · rw [if_neg c1]
    by_cases c2 : i = k
    · subst c2; simp
    · rw [if_neg c2, if_neg (Ne.symm c2), if_neg (Ne.symm c1)]
theorem LabS.put (h : LabS base B n cap ls w0 d w) (i j : Nat) (hi : i < n) (hj : j < n) :
    LabS base B n cap ls w0 (So.sw d i j) ((((w.setCell ⟨B, i * 2, none⟩ (.string (nth ls (d j)).1)).setCell ⟨B, i * 2 + 1, none⟩ (.string (nth ls (d j)).2)).setCell ⟨B, j * 2, none⟩ (.string (nth ls (d i)).1)).setCell ⟨B, j * 2 + 1, none⟩ (.string (nth ls (d i)).2)) := by
  obtain ⟨s1, g1⟩ := h.own.stored (i * 2) (.string (nth ls (d j)).1)
  obtain ⟨s2, g2⟩ := s1.stored (i * 2 + 1) (.string (nth ls (d j)).2)
  obtain ⟨s3, g3⟩ := s2.stored (j * 2) (.string (nth ls (d i)).1)
  obtain ⟨s4, g4⟩ := s3.stored (j * 2 + 1) (.string (nth ls (d i)).2)
  rw [lc_set, lc_set, rowL_sw ls n d i j hi hj] at s4
  have g := ((g1.trans g2).trans g3).trans g4
  refine ⟨s4, h.bel.grown g h.siz (fun q hq => ?_), by have := g.size; have := h.siz; omega⟩
  have := own_geL h.own q hq
  exact this
end
/-- The order of the places: by names, then as they stood. -/
def ltP (ls : List Lab) (i j : Nat) : Bool := lt (nth ls i).1 (nth ls j).1
def RP (ls : List Lab) (i j : Nat) : Prop := ltP ls j i = false
end Go.Proofs.YtlfcjjlgkcfkdaaGreatDoor

