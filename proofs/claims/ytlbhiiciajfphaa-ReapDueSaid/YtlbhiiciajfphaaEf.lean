/-
  What the reference's after does at a node 'maybe' and at a node of ways, where its kids' calls do as they should. Conditions: no more than 100 places.
-/
import Derived.Test.YtlbhiiciajfphaaProg
import Derived.Test.YtlbhiiciajfphaaEa
import Derived.Test.YtlbhiiciajfphaaEd
import Derived.Test.YtlbhiiciajfphaaEm
import Derived.Test.YtlbhiiciajfphaaEn
import Derived.Deep.RegionHeld3
import Derived.WalkKit
import Derived.WalkSpells
import Derived.WalkLawsBesides
import Derived.Lib.Hide
import Derived.Below
import Derived.BigQuiet
import Derived.Lib.QuietBelow
import Derived.Laws.StructEq
import Derived.KernelRfl
import Derived.Laws.MakeOwn
import Derived.Laws.OwnMore
import Derived.OwnWalk
namespace Go.Proofs.Ytlbhiiciajfphaa
open Go.RowKit Go.Sort

/-- What after is to do. -/
def AftDone (w : World) (S : List Nat) (L : Nat) (t : Rx) (f : Nat → Bool) (e : Ending) (w' : World) : Prop :=
  (∃ q, e = .returned (.slice (some ⟨q, 0, none⟩) (L + 1) (L + 1)) ∧ OwnB w' w.heap.size q (L + 1) (Rx.aft S t f)) ∧ Below w.heap.size w w'
theorem OwnB.base {w : World} {b1 b2 g n : Nat} {f : Nat → Bool} (h : OwnB w b2 g n f) (hb : b1 ≤ b2) : OwnB w b1 g n f := by
  refine ⟨h.1, ?_⟩
  rcases h.2 with hn | ⟨g, cap, cur, e, hg, rest⟩
  · exact .inl hn
  · exact .inr ⟨g, cap, cur, e, by omega, rest⟩
theorem OwnB.congr {w : World} {b g n : Nat} {f f' : Nat → Bool} (h : OwnB w b g n f) (he : ∀ i, i < n → f i = f' i) : OwnB w b g n f' := by
  unfold OwnB at h ⊢
  rw [← bof_congr he]; exact h
theorem aft_maybe_eq {S : List Nat} {a b c d : Nat} {ks : List Rx} {f : Nat → Bool} (h : ks.length = 1) : Rx.aft S (.mk 6 a b c d ks) f = fun i => f i || Rx.aft S (Rx.nth ks 0) f i := by
  match ks, h with
  | [k], _ => rfl

end Go.Proofs.Ytlbhiiciajfphaa
