/-
  Bools copied into a row of one's own; what the reference's after does at a node 'any number of times', where its kid's calls do as they should. Conditions: no more than 100 places.
-/
import Derived.Test.YtaklabggojfijaaProg
import Derived.Test.YtaklabggojfijaaEa
import Derived.Test.YtaklabggojfijaaEd
import Derived.Test.YtaklabggojfijaaEm
import Derived.Test.YtaklabggojfijaaEf
import Derived.Laws.CopyOwn
import Derived.Deep.RegionHeld3
import Derived.WalkKit
import Derived.WalkSpells
import Derived.WalkLawsBesides
import Derived.Lib.Hide
import Derived.Below
import Derived.BigQuiet
import Derived.Lib.QuietBelow
import Derived.Laws.StructEq
import Derived.KernelRfl
import Derived.Laws.MakeOwn
import Derived.Laws.OwnMore
import Derived.OwnWalk
namespace Go.Proofs.Ytaklabggojfijaa
open Go.RowKit Go.Sort

theorem OwnB.heap {w : World} {base g n : Nat} {f : Nat → Bool} (h : OwnB w base g n f) : w.heap[g]? = some (.cells (bof n f).toArray 4 (0, 0)) ∧ base ≤ g := by
  rcases h.2 with ⟨e, _⟩ | ⟨g', cap, cur, e, hb, hg, _, _, hs, ht⟩
  · cases e
  · injection e with e1 e2 e3
    injection e1 with e1
    injection e1 with e1
    subst e1 e3
    refine ⟨?_, hb⟩
    rw [hg]
    have : cur.toList = bof n f := by rw [← ht, List.take_of_length_le (by rw [Array.length_toList]; omega)]
    rw [← this]
theorem OwnB.of_heap {w : World} {base g n : Nat} {f : Nat → Bool} (h : w.heap[g]? = some (.cells (bof n f).toArray 4 (0, 0))) (hb : base ≤ g) (hn : n ≤ 1000) : OwnB w base g n f :=
  ⟨by rw [bof_len]; omega, .inr ⟨g, n, _, rfl, hb, h, Nat.le_refl _, by unfold maxLen; omega, by simp [bof_len], by simp [bof_len, List.take_of_length_le]⟩⟩
theorem bof_one (n : Nat) (f : Nat → Bool) : ∀ u ∈ bof n f, u.oneCell' = true := by
  intro u hu
  simp only [bof, List.mem_map] at hu
  obtain ⟨_, _, rfl⟩ := hu
  rfl
theorem aft_star_eq {S : List Nat} {a b c d : Nat} {ks : List Rx} {f : Nat → Bool} (h : ks.length = 1) : Rx.aft S (.mk 4 a b c d ks) f = Rx.star (Rx.aft S (Rx.nth ks 0)) (S.length + 1) f := by
  match ks, h with
  | [k], _ => rfl

end Go.Proofs.Ytaklabggojfijaa
