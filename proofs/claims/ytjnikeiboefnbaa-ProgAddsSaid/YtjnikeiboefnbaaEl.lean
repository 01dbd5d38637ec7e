/-
  What the reference's after does, for every tree that may be: it goes by sets of places as Rx.aft does. Conditions: at most 1000 nodes, 100 places; words have 64 bits.
-/
import Derived.Test.YtjnikeiboefnbaaProg
import Derived.Test.YtjnikeiboefnbaaEa
import Derived.Test.YtjnikeiboefnbaaEe
import Derived.Laws.AppendOwn
import Derived.Laws.CopyOwn
import Derived.Laws.MakeOwn
import Derived.Laws.OwnMore
import Derived.OwnWalk
import Derived.WalkKit
import Derived.WalkSpells
import Derived.WalkLawsBesides
import Derived.Lib.Hide
import Derived.Below
import Derived.BigQuiet
import Derived.Lib.QuietBelow
import Derived.Laws.StructEq
import Derived.KernelRfl
import Derived.Deep.RegionHeld3
namespace Go.Proofs.Ytjnikeiboefnbaa
open Go.RowKit Go.Sort

namespace Rx
mutual
/-- Its sets' words have 64 bits. -/
def fit : Rx → Prop
  | .mk _ a b c d ks => Fit4 a b c d ∧ fitL ks
def fitL : List Rx → Prop
  | [] => True
  | k :: r => fit k ∧ fitL r
end
theorem fit_nth : ∀ {ks : List Rx} {j : Nat}, fitL ks → j < ks.length → fit (nth ks j)
  | k :: r, 0, h, _ => by simpa [nth] using h.1
  | k :: r, j + 1, h, hj => by
    have := fit_nth (ks := r) (j := j) h.2 (by simpa using hj)
    simpa [nth] using this
theorem all_nth : ∀ {ks : List Rx} {j : Nat}, isAll ks = true → j < ks.length → isRex (nth ks j) = true
  | k :: r, 0, h, _ => by
    rw [isAll, Bool.and_eq_true] at h
    simpa [nth] using h.1
  | k :: r, j + 1, h, hj => by
    rw [isAll, Bool.and_eq_true] at h
    have := all_nth (ks := r) (j := j) h.2 (by simpa using hj)
    simpa [nth] using this
end Rx

end Go.Proofs.Ytjnikeiboefnbaa
