/-
  What the reference's Both does: numbers of both rows, or of the first alone, in order, each once. Conditions: lengths fit.
  Maths of ascending lists, each number once. Conditions: none.
-/
import Derived.Test.YtlfcjjlgkcfkdaaGreatDoorProg
import Derived.Test.YtlfcjjlgkcfkdaaGreatDoorZ03
import Derived.Test.YtlfcjjlgkcfkdaaGreatDoorZ11
import Derived.Test.YtlfcjjlgkcfkdaaGreatDoorZ29
import Derived.Test.YtlfcjjlgkcfkdaaGreatDoorZ01
import Derived.Test.YtlfcjjlgkcfkdaaGreatDoorZ02
import Derived.Deep.RegionHeld3
import Derived.WalkKit
import Derived.WalkSpells
import Derived.WalkLawsBesides
import Derived.Lib.Hide
import Derived.Below
import Derived.BigQuiet
import Derived.Lib.QuietBelow
import Derived.Laws.StructEq
import Derived.KernelRfl
import Derived.Laws.MakeOwn
import Derived.Laws.OwnMore
import Derived.OwnWalk
import Derived.Laws.CopyOwn
import Derived.Laws.AppendOwn
import Derived.Deep.QuietTactic
import Derived.IntWalk
namespace Go.Proofs.YtlfcjjlgkcfkdaaGreatDoor
open Go.RowKit

/-- Those of the first that are (are not) in the second. -/
def pickZ (ys : List Int) (inn : Bool) (xs : List Int) : List Int := xs.filter fun x => decide (x ∈ ys) == inn
end Go.Proofs.YtlfcjjlgkcfkdaaGreatDoor
namespace Go.Proofs.YtlfcjjlgkcfkdaaGreatDoor
open Go.RowKit

/-- The members of what rises are those of the row. -/
theorem IsRise.nil_of {l out : List Int} (h : IsRise l out) (hn : ∀ y, ¬ y ∈ l) : out = [] := by
  cases out with
  | nil => rfl
  | cons y r => exact absurd ((h.2 y).1 (by simp)) (hn y)
theorem IsRise.congr {l m out : List Int} (h : IsRise l out) (e : ∀ y, y ∈ l ↔ y ∈ m) : IsRise m out := ⟨h.1, fun y => (h.2 y).trans (e y)⟩
theorem IsRise.eq {l m a b : List Int} (h1 : IsRise l a) (h2 : IsRise m b) (e : ∀ y, y ∈ l ↔ y ∈ m) : a = b := rise_unique h1.1 h2.1 fun y => (h1.2 y).trans ((e y).trans (h2.2 y).symm)
theorem IsRise.self {l : List Int} (h : l.Pairwise (· < ·)) : IsRise l l := ⟨h, fun _ => Iff.rfl⟩
end Go.Proofs.YtlfcjjlgkcfkdaaGreatDoor

