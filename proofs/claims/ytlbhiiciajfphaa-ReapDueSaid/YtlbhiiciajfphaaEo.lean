/-
  What the reference's Ends does: the places at which a match of a tree may end, in order; none of what may not be. Conditions: at most 1000 nodes, 100 places; words have 64 bits.
-/
import Derived.Test.YtlbhiiciajfphaaProg
import Derived.Test.YtlbhiiciajfphaaEa
import Derived.Test.YtlbhiiciajfphaaEd
import Derived.Test.YtlbhiiciajfphaaEm
import Derived.Deep.RegionHeld3
import Derived.WalkKit
import Derived.WalkSpells
import Derived.WalkLawsBesides
import Derived.Lib.Hide
import Derived.Below
import Derived.BigQuiet
import Derived.Lib.QuietBelow
import Derived.Laws.StructEq
import Derived.KernelRfl
import Derived.Laws.MakeOwn
import Derived.Laws.OwnMore
import Derived.OwnWalk
import Derived.Laws.CopyOwn
import Derived.Laws.AppendOwn
namespace Go.Proofs.Ytlbhiiciajfphaa
open Go.RowKit Go.Sort

/-- Numbers as cells. -/
def iz (l : List Nat) : List Value := l.map fun k : Nat => Value.int .i64 (k : Int)
theorem iz_app (a b : List Nat) : iz (a ++ b) = iz a ++ iz b := by simp [iz]
theorem iz_len (l : List Nat) : (iz l).length = l.length := by simp [iz]
/-- The places up to k at which a match may end. -/
def endsTo (S : List Nat) (t : Rx) (at_ k : Nat) : List Nat := (List.range k).filter (Rx.aft S t fun j => j == at_)
theorem endsTo_yes {S : List Nat} {t : Rx} {a k : Nat} (h : Rx.aft S t (fun j => j == a) k = true) : endsTo S t a (k + 1) = endsTo S t a k ++ [k] := by
  simp [endsTo, List.range_succ, List.filter_append, h]
theorem endsTo_no {S : List Nat} {t : Rx} {a k : Nat} (h : Rx.aft S t (fun j => j == a) k = false) : endsTo S t a (k + 1) = endsTo S t a k := by
  simp [endsTo, List.range_succ, List.filter_append, h]
theorem endsTo_len (S : List Nat) (t : Rx) (a k : Nat) : (endsTo S t a k).length ≤ k := Nat.le_trans (List.length_filter_le _ _) (by simp)
/-- What Ends is to tell. -/
def ends (S : List Nat) (t : Rx) (z : Int) : List Nat := if Rx.isRex t = true ∧ 0 ≤ z ∧ z ≤ (S.length : Int) then endsTo S t z.toNat (S.length + 1) else []
def MadeInts (w : World) (l : List Nat) (e : Ending) (w' : World) : Prop := ∃ v, e = .returned v ∧ w'.ownsRow w.heap.size 3 1 v l.length (iz l) ∧ Below w.heap.size w w'
theorem Try.infoZ : (Try.prog.info? 3).map (fun i => (i.zero, i.size, i.bytes)) = some (some (.int .i64 0), 1, 8) := by kernel_rfl
theorem one_iz (k : Nat) : ∀ u ∈ [Value.int .i64 (k : Int)], u.oneCell' = true := by
  intro u hu
  simp only [List.mem_singleton] at hu
  subst hu
  rfl

end Go.Proofs.Ytlbhiiciajfphaa
