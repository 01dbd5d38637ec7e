/-
  What the reference's after does at a node 'once or more', where its kid's calls do as they should. Conditions: no more than 100 places.
  What the reference's after does at a node of factors, where its kids' calls do as they should. Conditions: no more than 100 places.
  What the reference's after does, for every tree that may be: it goes by sets of places as Rx.aft does. Conditions: at most 1000 nodes, 100 places; words have 64 bits.
  What the program's readEach does to a part: each kid reads the byte. Conditions: at most 1000 parts.
-/
import Derived.Test.YtlfcjjlgkcfkdaaGreatDoorProg
import Derived.Test.YtlfcjjlgkcfkdaaGreatDoorZ01
import Derived.Test.YtlfcjjlgkcfkdaaGreatDoorZ03
import Derived.Test.YtlfcjjlgkcfkdaaGreatDoorZ02
import Derived.Test.YtlfcjjlgkcfkdaaGreatDoorZ04
import Derived.Test.YtlfcjjlgkcfkdaaGreatDoorZ05
import Derived.Deep.RegionHeld3
import Derived.WalkKit
import Derived.WalkSpells
import Derived.WalkLawsBesides
import Derived.Lib.Hide
import Derived.Below
import Derived.BigQuiet
import Derived.Lib.QuietBelow
import Derived.Laws.StructEq
import Derived.KernelRfl
import Derived.Laws.MakeOwn
import Derived.Laws.OwnMore
import Derived.OwnWalk
import Derived.Laws.CopyOwn
import Derived.Laws.AppendOwn
namespace Go.Proofs.YtlfcjjlgkcfkdaaGreatDoor
open Go.RowKit Go.Sort

namespace Rx
mutual
/-- Its sets' words have 64 bits. -/
def fit : Rx → Prop
  | .mk _ a b c d ks => Fit4 a b c d ∧ fitL ks
def fitL : List Rx → Prop
  | [] => True
  | k :: r => fit k ∧ fitL r
end
end Rx

end Go.Proofs.YtlfcjjlgkcfkdaaGreatDoor
namespace Go.Proofs.YtlfcjjlgkcfkdaaGreatDoor
open Go.RowKit Go.Sort

namespace Pt
theorem set_mid {a b : List Pt} {k : Nat} {y z : Pt} (h : a.length = k) : (a ++ y :: b).set k z = a ++ z :: b := by
  rw [List.set_append_right _ _ (by omega), h, Nat.sub_self]; rfl
theorem Tch.of {g o : Nat} {Bs Cs : List Nat} {w w' : World} (h : Tch g o Bs w w') (e : Bs = Cs) : Tch g o Cs w w' := e ▸ h
end Pt
open Pt

end Go.Proofs.YtlfcjjlgkcfkdaaGreatDoor

