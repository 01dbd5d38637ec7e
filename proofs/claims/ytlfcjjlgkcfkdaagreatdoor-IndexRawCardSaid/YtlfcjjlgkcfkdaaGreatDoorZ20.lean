/-
  MatchRuns, MatchAsk and MatchLists as contracts: chapter 8's runs; of any matcher and any labels whether it may be, is too large, holds; of any matchers whether they are a list, one is too large, all hold. Conditions: the library's table lies in its variable (DTab).
  Slices of labels appended to and cut. Conditions: lengths fit.
  What strings.Compare, Make's comparison and math/bits.Len (of a small number) do. Conditions: the number is below 7.
  What compare, before and ahead tell of two matchers; what cmp.Or and cmp.Compare do. No conditions beside a row's length.
-/
import Derived.Test.YtlfcjjlgkcfkdaaGreatDoorProg
import Derived.Test.YtlfcjjlgkcfkdaaGreatDoorZ01
import Derived.Test.YtlfcjjlgkcfkdaaGreatDoorZ02
import Derived.Test.YtlfcjjlgkcfkdaaGreatDoorZ05
import Derived.Test.YtlfcjjlgkcfkdaaGreatDoorZ08
import Derived.Test.YtlfcjjlgkcfkdaaGreatDoorZ09
import Derived.Test.YtlfcjjlgkcfkdaaGreatDoorZ10
import Derived.Test.YtlfcjjlgkcfkdaaGreatDoorZ11
import Derived.Test.YtlfcjjlgkcfkdaaGreatDoorZ12
import Derived.Test.YtlfcjjlgkcfkdaaGreatDoorZ14
import Derived.Test.YtlfcjjlgkcfkdaaGreatDoorZ15
import Derived.Test.YtlfcjjlgkcfkdaaGreatDoorZ16
import Derived.Test.YtlfcjjlgkcfkdaaGreatDoorZ19
import Derived.Test.YtlfcjjlgkcfkdaaGreatDoorZ07
import Derived.Test.YtlfcjjlgkcfkdaaGreatDoorZ06
import Derived.Test.YtlfcjjlgkcfkdaaGreatDoorZ13
import Derived.Below
import Derived.WalkKit
import Derived.WalkSpells
import Derived.WalkLawsBesides
import Derived.Lib.Hide
import Derived.Lib.AppendStr
import Derived.Laws.BytesArg
import Derived.Laws.AppendOwnNone
import Derived.KernelRfl
import Derived.Lib.Bytealg
import Derived.Deep.RegionHeld3
import Derived.BigQuiet
import Derived.Lib.QuietBelow
import Derived.Laws.StructEq
import Derived.Laws.MakeOwn
import Derived.Laws.OwnMore
import Derived.OwnWalk
import Derived.Laws.CopyOwn
import Derived.Laws.AppendOwn
import Derived.Deep.QuietTactic
import Derived.Laws.Externs
import Derived.Maps.AppendAt
import Derived.StillTailTactics
import Derived.Laws.ResultCell
import Derived.Deep.LoopGhost
import Derived.Deep.MidRow
import Derived.Deep.Upon
import Derived.Deep.Cut
import Derived.Lib.TrailingZeros
import Derived.Laws.Bits64b
import Derived.Deep.CutRange
namespace Go.Proofs.YtlfcjjlgkcfkdaaGreatDoor
open Go.RowKit Go.Sort

/-- Few matchers with short texts. -/
def FewM (l : List Mat) : Prop := l.length ≤ 300 ∧ ∀ x ∈ l, x.n.size ≤ 300 ∧ x.v.size ≤ 300
theorem FewM.small {l : List Mat} (h : FewM l) : SmallM l := fun x hx => by have := h.2 x hx; omega

theorem isLabs_nil (w : World) (a : Option Addr) : IsLabs w a [] := fun h => absurd h (by simp)

end Go.Proofs.YtlfcjjlgkcfkdaaGreatDoor
namespace Go.Proofs.YtlfcjjlgkcfkdaaGreatDoor
open Go.RowKit La

theorem Tryz.infoL : (Tryz.prog.info? 26).map (fun i => (i.zero, i.size, i.bytes)) = some (some (.agg #[.string ⟨#[]⟩, .string ⟨#[]⟩]), 2, 32) := by kernel_rfl
theorem lc_one (l : List Lab) : ∀ u ∈ lc l, u.oneCell' = true := by
  intro u hu
  simp only [lc, List.mem_flatMap] at hu
  obtain ⟨x, _, hx⟩ := hu
  simp at hx
  rcases hx with rfl | rfl <;> rfl
theorem labs_cells {w : World} {ad : Addr} {l : List Lab} (hr : IsLabs w (some ad) l) : ∀ j u, (lc l)[j]? = some u → w.cell? (ad.add j) = some u := by
  intro j u hu
  have hj : j < (lc l).length := by
    rcases Nat.lt_or_ge j (lc l).length with h1 | h1
    · exact h1
    · rw [List.getElem?_eq_none h1] at hu; cases hu
  rw [lc_len] at hj
  obtain ⟨b, off, e, hc⟩ := hr (by omega)
  injection e with e
  subst e
  have e2 : (⟨b, off, none⟩ : Addr).add j = ⟨b, off + j, none⟩ := by unfold Addr.add; split <;> simp_all
  rw [e2]
  obtain ⟨c1, c2⟩ := hc (j / 2) (by omega)
  obtain ⟨g1, g2⟩ := lc_get l (j / 2) (by omega)
  by_cases hp : j % 2 = 0
  · have ej : j / 2 * 2 = j := by omega
    rw [ej] at c1 g1
    rw [c1, ← g1, hu]
  · have ej : j / 2 * 2 + 1 = j := by omega
    rw [ej] at g2
    rw [Nat.add_assoc, ej] at c2
    rw [c2, ← g2, hu]
theorem nth_drop (l : List Lab) (m j : Nat) : nth (l.drop m) j = nth l (m + j) := by simp [nth, List.getD, List.getElem?_drop]
theorem own_geL {w : World} {base e s n : Nat} {v : Value} {xs : List Value} (h : w.ownsRow base e s v n xs) : ∀ g, v.ownBlock = some g → base ≤ g := fun g hg => (h.lt g hg).1
theorem own_keepL {w1 w2 : World} {base e s n : Nat} {v : Value} {xs : List Value} (h : w1.ownsRow base e s v n xs) (hb : Below w1.heap.size w1 w2) : w2.ownsRow base e s v n xs := by
  refine ⟨h.1, ?_⟩
  rcases h.2 with hn | ⟨g, cap, cur, rfl, hbg, hg, rest⟩
  · exact .inl hn
  · exact .inr ⟨g, cap, cur, rfl, hbg, (hb.block g (Array.getElem?_eq_some_iff.1 hg).1).trans hg, rest⟩
theorem lit_lab (w : World) (x : Lab) : IsLabs (w.alloc (.cells #[.string x.1, .string x.2] 26)) (some ⟨w.heap.size, 0, none⟩) [x] := fun _ => ⟨w.heap.size, 0, rfl, fun j hj => by
  obtain rfl : j = 0 := by simpa using hj
  rw [cell_of_row _ w.heap.size _ _ 26 (0, 0) (heap_alloc_new w _), cell_of_row _ w.heap.size _ _ 26 (0, 0) (heap_alloc_new w _)]
  simp [nth]⟩
theorem own_formL {w : World} {base n : Nat} {v : Value} {l : List Lab} (h : w.ownsRow base 26 2 v n (lc l)) : ∃ A c, v = .slice A n c ∧ n ≤ c ∧ (A = none → c = 0) ∧ IsLabs w A l ∧ l.length = n := by
  rcases h.2 with ⟨rfl, rfl⟩ | ⟨g, cap, cur, rfl, _, _, hc, _⟩
  · obtain ⟨h1, h2⟩ := own_labs h
    exact ⟨_, _, rfl, Nat.le_refl _, fun _ => rfl, h1, h2⟩
  · obtain ⟨h1, h2⟩ := own_labs h
    exact ⟨_, _, rfl, hc, (fun e => by cases e), h1, h2⟩

end Go.Proofs.YtlfcjjlgkcfkdaaGreatDoor
