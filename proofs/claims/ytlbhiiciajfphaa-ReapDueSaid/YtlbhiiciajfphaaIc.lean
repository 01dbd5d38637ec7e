/-
  What the reference's Both does: numbers of both rows, or of the first alone, in order, each once. Conditions: lengths fit.
-/
import Derived.Test.YtlbhiiciajfphaaProg
import Derived.Test.YtlbhiiciajfphaaEf
import Derived.Test.YtlbhiiciajfphaaIa
import Derived.Test.YtlbhiiciajfphaaIb
import Derived.Deep.RegionHeld3
import Derived.WalkKit
import Derived.WalkSpells
import Derived.WalkLawsBesides
import Derived.Lib.Hide
import Derived.Below
import Derived.BigQuiet
import Derived.Lib.QuietBelow
import Derived.Laws.StructEq
import Derived.KernelRfl
import Derived.Laws.MakeOwn
import Derived.Laws.OwnMore
import Derived.OwnWalk
import Derived.Laws.CopyOwn
import Derived.Laws.AppendOwn
import Derived.Deep.QuietTactic
import Derived.IntWalk
namespace Go.Proofs.Ytlbhiiciajfphaa
open Go.RowKit

/-- Those of the first that are (are not) in the second. -/
def pickZ (ys : List Int) (inn : Bool) (xs : List Int) : List Int := xs.filter fun x => decide (x ∈ ys) == inn
theorem pick_yes {xs ys : List Int} {inn : Bool} {k : Nat} (h : k < xs.length) (e : (decide (nz xs k ∈ ys) == inn) = true) : pickZ ys inn (xs.take (k + 1)) = pickZ ys inn (xs.take k) ++ [nz xs k] := by
  rw [List.take_succ_eq_append_getElem h, ← nz_eq h]; simp [pickZ, List.filter_append, e]
theorem pick_no {xs ys : List Int} {inn : Bool} {k : Nat} (h : k < xs.length) (e : (decide (nz xs k ∈ ys) == inn) = false) : pickZ ys inn (xs.take (k + 1)) = pickZ ys inn (xs.take k) := by
  rw [List.take_succ_eq_append_getElem h, ← nz_eq h]; simp [pickZ, List.filter_append, e]
theorem pick_len (xs ys : List Int) (inn : Bool) (k : Nat) : (pickZ ys inn (xs.take k)).length ≤ k := Nat.le_trans (List.length_filter_le _ _) (by simp; omega)
theorem own_grow {w1 w2 : World} {base e s n : Nat} {v : Value} {xs : List Value} (h : w1.ownsRow base e s v n xs) (hb : Below w1.heap.size w1 w2) : w2.ownsRow base e s v n xs := by
  refine ⟨h.1, ?_⟩
  rcases h.2 with hn | ⟨g, cap, cur, rfl, hbg, hg, rest⟩
  · exact .inl hn
  · exact .inr ⟨g, cap, cur, rfl, hbg, (hb.block g (Array.getElem?_eq_some_iff.1 hg).1).trans hg, rest⟩
/-- What Both's loop keeps. -/
structure BoI (w : World) (ys : List Int) (inn : Bool) (xs : List Int) (k : Nat) (v : Value) (wr : World) : Prop where
  ko : wr.ownsRow w.heap.size 3 1 v (pickZ ys inn (xs.take k)).length (zs (pickZ ys inn (xs.take k)))
  kb : Below w.heap.size w wr
end Go.Proofs.Ytlbhiiciajfphaa
