/-
  What the program's Ends does: the places at which a match of a tree may end, in order; none of what may not be. Conditions: at most 1000 nodes, 100 places; words have 64 bits.
-/
import Derived.Test.YtjnikeiboefnbaaProg
import Derived.Test.YtjnikeiboefnbaaEa
import Derived.Test.YtjnikeiboefnbaaEd
import Derived.Test.YtjnikeiboefnbaaEf
import Derived.Test.YtjnikeiboefnbaaHa
import Derived.Test.YtjnikeiboefnbaaHd
import Derived.Laws.AppendOwn
import Derived.Deep.QuietTactic
import Derived.BigQuiet
import Derived.Laws.CopyOwn
import Derived.Laws.MakeOwn
import Derived.Laws.OwnMore
import Derived.OwnWalk
import Derived.WalkKit
import Derived.WalkSpells
import Derived.WalkLawsBesides
import Derived.Lib.Hide
import Derived.Below
import Derived.Lib.QuietBelow
import Derived.Laws.StructEq
import Derived.KernelRfl
import Derived.Deep.RegionHeld3
import Derived.StillTailTactics
import Derived.Deep.MidRow
import Derived.Deep.Upon
namespace Go.Proofs.Ytjnikeiboefnbaa
open Go.RowKit Go.Sort
open Pt

mutual
theorem count_sh : ∀ t : Pt, Rx.count (sh t) = count t
  | .mk _ _ _ _ _ _ _ _ _ ks => by rw [sh, Rx.count, count, countL_sh ks]
theorem countL_sh : ∀ ks : List Pt, Rx.countL (shL ks) = countL ks
  | [] => by rw [shL, Rx.countL, countL]
  | k :: r => by rw [shL, Rx.countL, countL, count_sh k, countL_sh r]
end
theorem Tch.below {g o B : Nat} {Bs : List Nat} {w0 w w' : World} (T : Tch g o Bs w w') (h : Below B w0 w) (hg : B ≤ g) (hb : ∀ k, k ∈ Bs → B ≤ k) (hs : B ≤ w.heap.size) : Below B w0 w' :=
  h.trans ⟨T.os, T.tape, T.output, T.size, fun k hk => T.block k (by omega) (by omega) (fun hm => by have := hb k hm; omega)⟩
theorem own_tch {g o : Nat} {Bs : List Nat} {w w' : World} {base : Nat} {e : TypeId} {size : Nat} {v : Value} {n : Nat} {xs : List Value} (T : Tch g o Bs w w') (h : w.ownsRow base e size v n xs) (hg : g < base) (hb : ∀ k, k ∈ Bs → k < base) : w'.ownsRow base e size v n xs := by
  refine ⟨h.1, ?_⟩
  rcases h.2 with hn | ⟨g', cap, cur, e1, hbg, hg', rest⟩
  · exact .inl hn
  · exact .inr ⟨g', cap, cur, e1, hbg, (T.block g' (Array.getElem?_eq_some_iff.1 hg').1 (by omega) (fun hm => by have := hb g' hm; omega)).trans hg', rest⟩

end Go.Proofs.Ytjnikeiboefnbaa
