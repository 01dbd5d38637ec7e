/-
  Slices of ints that one owns, worked on in place (sorted, made compact, cut down); an argument of ints opened. Conditions: none.
-/
import Derived.Test.YtaklabggojfijaaProg
import Derived.Test.YtaklabggojfijaaEa
import Derived.Test.YtaklabggojfijaaEd
import Derived.Test.YtaklabggojfijaaEn
import Derived.Test.YtaklabggojfijaaEf
import Derived.Test.YtaklabggojfijaaIa
import Derived.Test.YtaklabggojfijaaIb
import Derived.Test.YtaklabggojfijaaZa
import Derived.Sort.OwnSortedInts
import Derived.Deep.Slices
import Derived.OpenShut
import Derived.Test.YtaklabggojfijaaSf
import Derived.Deep.RegionHeld3
import Derived.WalkKit
import Derived.WalkSpells
import Derived.WalkLawsBesides
import Derived.Lib.Hide
import Derived.Below
import Derived.BigQuiet
import Derived.Lib.QuietBelow
import Derived.Laws.StructEq
import Derived.KernelRfl
import Derived.Laws.MakeOwn
import Derived.Laws.OwnMore
import Derived.OwnWalk
import Derived.Laws.CopyOwn
import Derived.Laws.AppendOwn
import Derived.Deep.QuietTactic
import Derived.IntWalk
namespace Go.Proofs.Ytaklabggojfijaa
open Go.RowKit Go.Sort

section
open Go.ChangeShapes Go.WideShapes
variable {H : Type} {enc : TypeId × Value → H} {W : World} {base : Nat} {v : Value} {d : DataW H} {p : List MemPlace}
theorem addr_addNZ (b off j : Nat) : (⟨b, off, none⟩ : Addr).add j = ⟨b, off + j, none⟩ := by
  unfold Addr.add
  split <;> simp_all
def intZ : Value → Int
  | .int _ z => z
  | _ => 0
set_option maxRecDepth 100000 in
theorem open_z (hv : Value.okWide Try.prog W .any base 30 v) (h : DataW.Trod enc Try.prog W 0 (fun _ => true) true 30 v d p) :
    ∃ (a : Option Addr) (cap : Nat) (l : List Int), v = .slice a l.length cap ∧ l.length ≤ cap ∧ (a = none → cap = 0) ∧ IsZ W a l := by
  obtain ⟨a, len, cap, rfl⟩ := okWide_slice Try.underlying30 hv
  obtain ⟨fuel, hf⟩ := h
  rcases Go.Deep.open_slice1 Try.underlying30 (by kernel_rfl) hf with ⟨hcs, _⟩ | ⟨x, n, c, m, k, V, D, Pl, hcs, _, hl, hm, hmm, _, hx⟩
  · simp [Value.cells] at hcs
    obtain ⟨rfl, rfl, rfl⟩ := hcs
    exact ⟨none, 0, [], rfl, Nat.le_refl _, fun _ => rfl, fun hp => absurd hp (by simp)⟩
  · simp [Value.cells] at hcs
    obtain ⟨rfl, rfl, rfl⟩ := hcs
    obtain rfl : m = cap := by simpa using hmm
    have each : ∀ i, i < len → V i = .int .i64 (intZ (V i)) := fun i hi => by
      obtain ⟨s0, e0, _⟩ := DataW.trod_int Try.underlying3 (hx i (by omega)).2
      simp only [List.cons.injEq, and_true] at e0
      rw [e0]
      rfl
    have hlen : ((List.range len).map fun i => intZ (V i)).length = len := by simp
    refine ⟨some x, m, (List.range len).map fun i => intZ (V i), by rw [hlen], by omega, (fun e => by cases e), fun hp => ?_⟩
    rw [hlen] at hp
    have hc := (hx 0 (by omega)).1
    obtain ⟨b, off, spot⟩ := x
    have hspot : spot = none := by simpa [Addr.add] using World.cell?_spot hc
    subst hspot
    refine ⟨b, off, rfl, fun j hj => ?_⟩
    have hj' : j < len := by rw [hlen] at hj; exact hj
    have hcj := (hx j (by omega)).1
    rw [addr_addNZ, each j hj'] at hcj
    rw [hcj]
    simp [hj']
end

/-- What is made compact out of a sorted row: in order, each once. -/
theorem rise_sorted_compact {l m : List Int} (hs : m.Pairwise (· ≤ ·)) (hp : m.Perm l) : IsRise l (Lib.compact m) := by
  have hget : ∀ j, j < m.length → m.toArray[j]! = m.getD j 0 := fun j hj => by
    rw [getElem!_pos _ j (by simpa using hj)]
    simp [List.getD, List.getElem?_eq_getElem hj]
  have hmono : ∀ i j, i ≤ j → j < m.length → m.getD i 0 ≤ m.getD j 0 := fun i j hij hj => by
    by_cases e : i = j
    · subst e; exact Int.le_refl _
    · have := List.pairwise_iff_getElem.1 hs i j (by omega) hj (by omega)
      simpa [List.getD, List.getElem?_eq_getElem hj, List.getElem?_eq_getElem (show i < m.length by omega)] using this
  have hk : ∀ j, Lib.keeps m.toArray j = true ↔ (j = 0 ∨ m.toArray[j - 1]! ≠ m.toArray[j]!) := fun j => by
    cases j with
    | zero => simp [Lib.keeps]
    | succ j => simp [Lib.keeps]; exact ⟨fun h e => h e.symm, fun h e => h e.symm⟩
  refine ⟨?_, fun y => ?_⟩
  · unfold Lib.compact Lib.compactUpTo
    rw [List.pairwise_map]
    have hr : ((List.range m.length).filter (Lib.keeps m.toArray)).Pairwise (· < ·) := List.Pairwise.filter _ List.pairwise_lt_range
    refine (List.pairwise_iff_forall_sublist.2 fun {a b} hab => ?_)
    have hlt := List.pairwise_iff_forall_sublist.1 hr hab
    have hb : b ∈ (List.range m.length).filter (Lib.keeps m.toArray) := hab.subset (by simp)
    rw [List.mem_filter, List.mem_range] at hb
    have h1 := (hk b).1 hb.2
    rw [hget a (by omega), hget b hb.1]
    rcases h1 with h1 | h1
    · omega
    · rw [hget (b - 1) (by omega), hget b hb.1] at h1
      have := hmono a (b - 1) (by omega) (by omega)
      have := hmono (b - 1) b (by omega) hb.1
      omega
  · rw [← hp.mem_iff]
    unfold Lib.compact Lib.compactUpTo
    simp only [List.mem_map, List.mem_filter, List.mem_range]
    constructor
    · rintro ⟨j, ⟨hj, _⟩, rfl⟩
      rw [hget j hj]
      simp [List.getD, List.getElem?_eq_getElem hj]
    · intro hy
      obtain ⟨i, hi, rfl⟩ := List.getElem_of_mem hy
      have key : ∀ i (hi : i < m.length), ∃ j, (j < m.length ∧ Lib.keeps m.toArray j = true) ∧ m.toArray[j]! = m[i] := by
        intro i
        induction i with
        | zero =>
          intro hi
          exact ⟨0, ⟨hi, (hk 0).2 (.inl rfl)⟩, by rw [hget 0 hi]; simp [List.getD, List.getElem?_eq_getElem hi]⟩
        | succ i ih =>
          intro hi
          by_cases e : m.toArray[i]! = m.toArray[i + 1]!
          · obtain ⟨j, hj, hje⟩ := ih (by omega)
            refine ⟨j, hj, ?_⟩
            rw [hje]
            rw [hget i (by omega), hget (i + 1) hi] at e
            simpa [List.getD, List.getElem?_eq_getElem hi, List.getElem?_eq_getElem (show i < m.length by omega)] using e
          · exact ⟨i + 1, ⟨hi, (hk (i + 1)).2 (.inr (by simpa using e))⟩, by rw [hget (i + 1) hi]; simp [List.getD, List.getElem?_eq_getElem hi]⟩
      exact key i hi
theorem rise_sort (l : List Int) : IsRise l (Lib.compact (l.mergeSort fun x y => decide (x ≤ y))) := by
  refine rise_sorted_compact ?_ (List.mergeSort_perm _ _)
  have h := List.pairwise_mergeSort (le := fun x y : Int => decide (x ≤ y)) (fun a b c => by simp; omega) (fun a b => by simp; omega) l
  exact h.imp fun h => by simpa using h
theorem compact_len (l : List Int) : (Lib.compact l).length ≤ l.length := by
  unfold Lib.compact Lib.compactUpTo
  rw [List.length_map]
  exact Nat.le_trans (List.length_filter_le _ _) (by simp)

/-- A row that one owns, written anew in place, and cut. -/
theorem own_put {w : World} {base n g cap q m : Nat} {os : Array Obj} {l d r : List Int} (h : w.ownsRow base 3 1 (.slice (some ⟨g, 0, none⟩) n cap) n (zs l)) (hd : d.length = l.length) (hr : d.take m = r) (hm : r.length = m) :
    (grow (putRow (Value.int .i64) (Sort.ahead w q) g 0 d.toArray) os).ownsRow base 3 1 (.slice (some ⟨g, 0, none⟩) m cap) m (zs r) := by
  have hl : l.length = n := by have := h.1; rw [zs_len] at this; omega
  rcases h.2 with ⟨e, _⟩ | ⟨g', cap', cur, e, hbase, hb, h1, h2, h3, h4⟩
  · cases e
  cases e
  have h5 := ownsRow_sortedI (n := q) (os := os) (ss := l) (ts := d) hd hbase hb (by omega) h2 h3
  have hmn : m ≤ d.length := by have := List.length_take_le' m d; have : (d.take m).length = m := by rw [hr]; exact hm
                                simp at this; omega
  rcases h5.2 with ⟨e, _⟩ | ⟨g2, cap2, cur2, e, k0, k1, k2, k3, k4, k5⟩
  · cases e
  cases e
  refine ⟨by rw [zs_len, hm]; omega, .inr ⟨_, _, cur2, rfl, k0, k1, by omega, k3, k4, ?_⟩⟩
  have e1 : cur2.toList.take (m * 1) = (cur2.toList.take (l.length * 1)).take m := by rw [List.take_take]; congr 1; omega
  rw [e1, k5, ← List.map_take, hr]
  rfl
theorem below_put {b0 : Nat} {w0 w : World} {g q : Nat} {os : Array Obj} (h : Below b0 w0 w) (hb : b0 ≤ w.heap.size) (hg : b0 ≤ g) (d : Array Int) : Below b0 w0 (grow (putRow (Value.int .i64) (Sort.ahead w q) g 0 d) os) :=
  h.grown (grownBy_sortedI d) hb fun k hk => by cases hk; exact hg
/-- A row that one owns is nil, or lies whole in a block of its own. -/
theorem own_split {w : World} {base n : Nat} {v : Value} {l : List Int} (h : w.ownsRow base 3 1 v n (zs l)) :
    (v = .slice none 0 0 ∧ n = 0 ∧ l = []) ∨ ∃ g cap, v = .slice (some ⟨g, 0, none⟩) n cap ∧ base ≤ g ∧ g < w.heap.size ∧ n ≤ cap ∧ cap ≤ maxLen ∧ l.length = n ∧ Holds (Value.int .i64) w g 0 l.toArray := by
  have hl : l.length = n := by have := h.1; rw [zs_len] at this; omega
  rcases h.2 with ⟨rfl, h0⟩ | ⟨g, cap, cur, rfl, hbase, hb, h1, h2, h3, h4⟩
  · exact .inl ⟨rfl, h0, List.length_eq_zero_iff.1 (by omega)⟩
  · refine .inr ⟨g, cap, rfl, hbase, (Array.getElem?_eq_some_iff.1 hb).1, h1, h2, hl, holds_of_blockI hb ?_⟩
    rw [hl]
    simpa [zs] using h4

end Go.Proofs.Ytaklabggojfijaa
