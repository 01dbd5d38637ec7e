/-
  Slices of ints that one owns, worked on in place (sorted, made compact, cut down); an argument of ints opened. Conditions: none.
  What the program's found does, its two closures (And's, Not's), and slices.DeleteFunc of a row that one owns. Conditions: lengths fit.
  What slices.Grow of nil and slices.Concat of two rows of ints do. Conditions: lengths fit.
  What the program's Or, Make, Put, And, Not, Cut do. Conditions: lengths fit.
  What the program's And, Not, Cut do. Conditions: lengths fit.
  Stage 9's calls told of slices of ints in memory (SlZ); RowsRuns as a contract. Conditions: lengths fit.
  Maps in memory told by what stands at each key (an element as the value that it is): looked up, written, cut, counted, ranged over. Conditions: room for one entry more.
  What turns while maps are written (Turns); ids with labels as lists; an index in memory (IdxAt): ids with their label sets, and the ids of each label. Conditions: none.
  What the index's New, Len, Posting, IDs do. Conditions: a label's name and value are no longer than may be.
-/
import Derived.Test.YtlfcjjlgkcfkdaaGreatDoorProg
import Derived.Test.YtlfcjjlgkcfkdaaGreatDoorZ01
import Derived.Test.YtlfcjjlgkcfkdaaGreatDoorZ02
import Derived.Test.YtlfcjjlgkcfkdaaGreatDoorZ03
import Derived.Test.YtlfcjjlgkcfkdaaGreatDoorZ11
import Derived.Test.YtlfcjjlgkcfkdaaGreatDoorZ29
import Derived.Test.YtlfcjjlgkcfkdaaGreatDoorZ30
import Derived.Test.YtlfcjjlgkcfkdaaGreatDoorSf
import Derived.Test.YtlfcjjlgkcfkdaaGreatDoorZ04
import Derived.Test.YtlfcjjlgkcfkdaaGreatDoorZ09
import Derived.Test.YtlfcjjlgkcfkdaaGreatDoorZ20
import Derived.Test.YtlfcjjlgkcfkdaaGreatDoorZ16
import Derived.Sort.OwnSortedInts
import Derived.Deep.Slices
import Derived.OpenShut
import Derived.Deep.RegionHeld3
import Derived.WalkKit
import Derived.WalkSpells
import Derived.WalkLawsBesides
import Derived.Lib.Hide
import Derived.Below
import Derived.BigQuiet
import Derived.Lib.QuietBelow
import Derived.Laws.StructEq
import Derived.KernelRfl
import Derived.Laws.MakeOwn
import Derived.Laws.OwnMore
import Derived.OwnWalk
import Derived.Laws.CopyOwn
import Derived.Laws.AppendOwn
import Derived.Deep.QuietTactic
import Derived.IntWalk
import Derived.Deep.Cut
import Derived.Maps.RangeWalk
import Derived.Maps.Ext
import Derived.Sort.KeysCollected
import Derived.DeepKeys4
import Derived.RangeFuncGives
namespace Go.Proofs.YtlfcjjlgkcfkdaaGreatDoor
open Go.RowKit Go.Sort

section
open Go.ChangeShapes Go.WideShapes
variable {H : Type} {enc : TypeId × Value → H} {W : World} {base : Nat} {v : Value} {d : DataW H} {p : List MemPlace}
theorem addr_addNZ (b off j : Nat) : (⟨b, off, none⟩ : Addr).add j = ⟨b, off + j, none⟩ := by
  unfold Addr.add
  split <;> simp_all
end

/-- What is made compact out of a sorted row: in order, each once. -/
theorem rise_sorted_compact {l m : List Int} (hs : m.Pairwise (· ≤ ·)) (hp : m.Perm l) : IsRise l (Lib.compact m) := by
  have hget : ∀ j, j < m.length → m.toArray[j]! = m.getD j 0 := fun j hj => by
    rw [getElem!_pos _ j (by simpa using hj)]
    simp [List.getD, List.getElem?_eq_getElem hj]
  have hmono : ∀ i j, i ≤ j → j < m.length → m.getD i 0 ≤ m.getD j 0 := fun i j hij hj => by
    by_cases e : i = j
    · subst e; exact Int.le_refl _
    · have := List.pairwise_iff_getElem.1 hs i j (by omega) hj (by omega)
      simpa [List.getD, List.getElem?_eq_getElem hj, List.getElem?_eq_getElem (show i < m.length by omega)] using this
  have hk : ∀ j, Lib.keeps m.toArray j = true ↔ (j = 0 ∨ m.toArray[j - 1]! ≠ m.toArray[j]!) := fun j => by
    cases j with
    | zero => simp [Lib.keeps]
    | succ j => simp [Lib.keeps]; exact ⟨fun h e => h e.symm, fun h e => h e.symm⟩
  refine ⟨?_, fun y => ?_⟩
  · unfold Lib.compact Lib.compactUpTo
    rw [List.pairwise_map]
    have hr : ((List.range m.length).filter (Lib.keeps m.toArray)).Pairwise (· < ·) := List.Pairwise.filter _ List.pairwise_lt_range
    refine (List.pairwise_iff_forall_sublist.2 fun {a b} hab => ?_)
    have hlt := List.pairwise_iff_forall_sublist.1 hr hab
    have hb : b ∈ (List.range m.length).filter (Lib.keeps m.toArray) := hab.subset (by simp)
    rw [List.mem_filter, List.mem_range] at hb
    have h1 := (hk b).1 hb.2
    rw [hget a (by omega), hget b hb.1]
    rcases h1 with h1 | h1
    · omega
    · rw [hget (b - 1) (by omega), hget b hb.1] at h1
      have := hmono a (b - 1) (by omega) (by omega)
      have := hmono (b - 1) b (by omega) hb.1
      omega
  · rw [← hp.mem_iff]
    unfold Lib.compact Lib.compactUpTo
    simp only [List.mem_map, List.mem_filter, List.mem_range]
    constructor
    · rintro ⟨j, ⟨hj, _⟩, rfl⟩
      rw [hget j hj]
      simp [List.getD, List.getElem?_eq_getElem hj]
    · intro hy
      obtain ⟨i, hi, rfl⟩ := List.getElem_of_mem hy
      have key : ∀ i (hi : i < m.length), ∃ j, (j < m.length ∧ Lib.keeps m.toArray j = true) ∧ m.toArray[j]! = m[i] := by
        intro i
        induction i with
        | zero =>
          intro hi
          exact ⟨0, ⟨hi, (hk 0).2 (.inl rfl)⟩, by rw [hget 0 hi]; simp [List.getD, List.getElem?_eq_getElem hi]⟩
        | succ i ih =>
          intro hi
          by_cases e : m.toArray[i]! = m.toArray[i + 1]!
          · obtain ⟨j, hj, hje⟩ := ih (by omega)
            refine ⟨j, hj, ?_⟩
            rw [hje]
            rw [hget i (by omega), hget (i + 1) hi] at e
            simpa [List.getD, List.getElem?_eq_getElem hi, List.getElem?_eq_getElem (show i < m.length by omega)] using e
          · exact ⟨i + 1, ⟨hi, (hk (i + 1)).2 (.inr (by simpa using e))⟩, by rw [hget (i + 1) hi]; simp [List.getD, List.getElem?_eq_getElem hi]⟩
      exact key i hi
theorem rise_sort (l : List Int) : IsRise l (Lib.compact (l.mergeSort fun x y => decide (x ≤ y))) := by
  refine rise_sorted_compact ?_ (List.mergeSort_perm _ _)
  have h := List.pairwise_mergeSort (le := fun x y : Int => decide (x ≤ y)) (fun a b c => by simp; omega) (fun a b => by simp; omega) l
  exact h.imp fun h => by simpa using h
theorem compact_len (l : List Int) : (Lib.compact l).length ≤ l.length := by
  unfold Lib.compact Lib.compactUpTo
  rw [List.length_map]
  exact Nat.le_trans (List.length_filter_le _ _) (by simp)

/-- A row that one owns, written anew in place, and cut. -/
theorem own_put {w : World} {base n g cap q m : Nat} {os : Array Obj} {l d r : List Int} (h : w.ownsRow base 3 1 (.slice (some ⟨g, 0, none⟩) n cap) n (zs l)) (hd : d.length = l.length) (hr : d.take m = r) (hm : r.length = m) :
    (grow (putRow (Value.int .i64) (Sort.ahead w q) g 0 d.toArray) os).ownsRow base 3 1 (.slice (some ⟨g, 0, none⟩) m cap) m (zs r) := by
  have hl : l.length = n := by have := h.1; rw [zs_len] at this; omega
  rcases h.2 with ⟨e, _⟩ | ⟨g', cap', cur, e, hbase, hb, h1, h2, h3, h4⟩
  · cases e
  cases e
  have h5 := ownsRow_sortedI (n := q) (os := os) (ss := l) (ts := d) hd hbase hb (by omega) h2 h3
  have hmn : m ≤ d.length := by have := List.length_take_le' m d; have : (d.take m).length = m := by rw [hr]; exact hm
                                simp at this; omega
  rcases h5.2 with ⟨e, _⟩ | ⟨g2, cap2, cur2, e, k0, k1, k2, k3, k4, k5⟩
  · cases e
  cases e
  refine ⟨by rw [zs_len, hm]; omega, .inr ⟨_, _, cur2, rfl, k0, k1, by omega, k3, k4, ?_⟩⟩
  have e1 : cur2.toList.take (m * 1) = (cur2.toList.take (l.length * 1)).take m := by rw [List.take_take]; congr 1; omega
  rw [e1, k5, ← List.map_take, hr]
  rfl
theorem below_put {b0 : Nat} {w0 w : World} {g q : Nat} {os : Array Obj} (h : Below b0 w0 w) (hb : b0 ≤ w.heap.size) (hg : b0 ≤ g) (d : Array Int) : Below b0 w0 (grow (putRow (Value.int .i64) (Sort.ahead w q) g 0 d) os) :=
  h.grown (grownBy_sortedI d) hb fun k hk => by cases hk; exact hg
/-- A row that one owns is nil, or lies whole in a block of its own. -/
theorem own_split {w : World} {base n : Nat} {v : Value} {l : List Int} (h : w.ownsRow base 3 1 v n (zs l)) :
    (v = .slice none 0 0 ∧ n = 0 ∧ l = []) ∨ ∃ g cap, v = .slice (some ⟨g, 0, none⟩) n cap ∧ base ≤ g ∧ g < w.heap.size ∧ n ≤ cap ∧ cap ≤ maxLen ∧ l.length = n ∧ Holds (Value.int .i64) w g 0 l.toArray := by
  have hl : l.length = n := by have := h.1; rw [zs_len] at this; omega
  rcases h.2 with ⟨rfl, h0⟩ | ⟨g, cap, cur, rfl, hbase, hb, h1, h2, h3, h4⟩
  · exact .inl ⟨rfl, h0, List.length_eq_zero_iff.1 (by omega)⟩
  · refine .inr ⟨g, cap, rfl, hbase, (Array.getElem?_eq_some_iff.1 hb).1, h1, h2, hl, holds_of_blockI hb ?_⟩
    rw [hl]
    simpa [zs] using h4

end Go.Proofs.YtlfcjjlgkcfkdaaGreatDoor
namespace Go.Proofs.YtlfcjjlgkcfkdaaGreatDoor
open Go.RowKit Go.Sort

/-- A binary search tells whether the number is there. -/
theorem search_any (xs : List Int) (x : Int) (A : Option Addr) (nx ca : Nat) (w : World) (ex : xs.length = nx) (hx : nx ≤ 1099511627776) (ha : IsZ w A xs) (hs : xs.Pairwise (· ≤ ·)) :
    Calls Tryz.prog 68 #[.slice A nx ca, .int .i64 x] w fun e w' => (∃ k : Nat, e = .returned (.tuple #[.int .i64 (k : Int), .bool (decide (x ∈ xs))])) ∧ ∃ q, w' = w.drewN q := by
  by_cases h0 : nx = 0
  · subst h0
    obtain rfl : xs = [] := List.length_eq_zero_iff.1 ex
    exact (Tryz.slices_BinarySearch_int_empty A ca x w).mono fun e w' ⟨h1, h2⟩ => ⟨⟨0, by rw [h1]; simp⟩, 0, h2⟩
  · obtain ⟨b, off, rfl, hc⟩ := ha (by omega)
    have ht : xs.take nx = xs := List.take_of_length_le (by omega)
    have hcon : xs.contains x = decide (x ∈ xs) := by simp
    have K := Tryz.slices_BinarySearch_int b off nx ca xs x w (by omega) (by omega) hc (by rw [ht]; exact hs)
    rw [ht, hcon] at K
    exact K.mono fun e w' ⟨h1, h2⟩ => ⟨⟨_, h1⟩, h2⟩
set_option maxRecDepth 100000 in
theorem found_any (xs : List Int) (x : Int) (A : Option Addr) (nx ca : Nat) (w : World) (ex : xs.length = nx) (hx : nx ≤ 1099511627776) (ha : IsZ w A xs) (hs : xs.Pairwise (· ≤ ·)) :
    Calls Tryz.prog 47 #[.slice A nx ca, .int .i64 x] w fun e w' => e = .returned (.bool (decide (x ∈ xs))) ∧ ∃ q, w' = w.drewN q := by
  have C := Lib.hid (search_any xs x A nx ca w ex hx ha hs)
  clear ha hs
  generalize decide (x ∈ xs) = b at *
  go_enter Tryz.func47, Tryz.ntmps47
  go_wp2_with fail
  refine C.out.mono ?_
  rintro e w' ⟨⟨k, rfl⟩, q, rfl⟩
  clear C
  go_wp2
  go_ret
  exact ⟨rfl, q, rfl⟩
set_option maxRecDepth 100000 in
theorem and1_any (xs : List Int) (x : Int) (A : Option Addr) (nx ca B : Nat) (w : World) (ex : xs.length = nx) (hx : nx ≤ 1099511627776) (hc : w.cell? ⟨B, 0, none⟩ = some (.slice A nx ca)) (ha : IsZ w A xs) (hs : xs.Pairwise (· ≤ ·)) :
    FnGives Tryz.prog 46 #[.pointer (some ⟨B, 0, none⟩)] #[.int .i64 x] (.bool (!decide (x ∈ xs))) w := by
  show Calls Tryz.prog 46 #[.int .i64 x, .pointer (some ⟨B, 0, none⟩)] w _
  have C := Lib.hid (found_any xs x A nx ca w ex hx ha hs)
  clear ha hs
  generalize decide (x ∈ xs) = b at *
  go_enter Tryz.func46, Tryz.ntmps46
  go_wp2_with fail
  refine C.out.mono ?_
  rintro e w' ⟨rfl, q, rfl⟩
  clear C
  cases b
  all_goals
    go_wp2
    go_ret
    exact ⟨rfl, q, rfl⟩
set_option maxRecDepth 100000 in
theorem not1_any (xs : List Int) (x : Int) (A : Option Addr) (nx ca B : Nat) (w : World) (ex : xs.length = nx) (hx : nx ≤ 1099511627776) (hc : w.cell? ⟨B, 0, none⟩ = some (.slice A nx ca)) (ha : IsZ w A xs) (hs : xs.Pairwise (· ≤ ·)) :
    FnGives Tryz.prog 76 #[.pointer (some ⟨B, 0, none⟩)] #[.int .i64 x] (.bool (decide (x ∈ xs))) w := by
  show Calls Tryz.prog 76 #[.int .i64 x, .pointer (some ⟨B, 0, none⟩)] w _
  have C := Lib.hid (found_any xs x A nx ca w ex hx ha hs)
  clear ha hs
  generalize decide (x ∈ xs) = b at *
  go_enter Tryz.func76, Tryz.ntmps76
  go_wp2_with fail
  refine C.out.mono ?_
  rintro e w' ⟨rfl, q, rfl⟩
  clear C
  go_wp2
  go_ret
  exact ⟨rfl, q, rfl⟩

/-- A function value that tells of a number whether it goes: whatever world its captured variable and its row lie in. -/
def TellsZ (g : Nat) (p : Int → Bool) (B : Nat) (A : Option Addr) (nx ca : Nat) (xs : List Int) : Prop := ∀ (x : Int) (w : World), w.cell? ⟨B, 0, none⟩ = some (.slice A nx ca) → IsZ w A xs → FnGives Tryz.prog g #[.pointer (some ⟨B, 0, none⟩)] #[.int .i64 x] (.bool (p x)) w
set_option maxRecDepth 100000 in
/-- slices.DeleteFunc of a row that one owns. -/
theorem delete_any (g : Nat) (eg : ∀ args w, (callFunc g args).run Tryz.prog w = .ok (.enter g args) w) (p : Int → Bool) (B : Nat) (A : Option Addr) (nx ca : Nat) (xs : List Int) (ht : TellsZ g p B A nx ca xs) (l : List Int) (v : Value) (n base : Nat) (w : World)
    (ho : w.ownsRow base 3 1 v n (zs l)) (hn : n ≤ 1099511627776) (hB : B < w.heap.size) (hBb : B < base) (hbs : base ≤ w.heap.size) (hc : w.cell? ⟨B, 0, none⟩ = some (.slice A nx ca)) (ha : IsZ w A xs) (hA : ∀ b off, A = some ⟨b, off, none⟩ → b < base) :
    Calls Tryz.prog 45 #[v, .func (.func g) #[] #[.pointer (some ⟨B, 0, none⟩)]] w fun e w' => ∃ v', e = .returned v' ∧ w'.ownsRow base 3 1 v' (l.filter fun x => !p x).length (zs (l.filter fun x => !p x)) ∧ Below base w w' := by
  rcases own_split ho with ⟨rfl, rfl, rfl⟩ | ⟨gb, cap, rfl, hbase, hlt, hle, hmax, hl, hH⟩
  · have C := Lib.hid (Tryz.slices_IndexFunc_empty (α := Int) none 0 (.func (.func g) #[] #[.pointer (some ⟨B, 0, none⟩)]) w)
    clear ho hc ha ht eg
    go_enter Tryz.func45, Tryz.ntmps45
    go_wp2_with fail
    refine C.out.mono ?_
    rintro e w' ⟨rfl, rfl⟩
    clear C
    go_wp2
    go_ret
    exact ⟨_, rfl, World.ownsRow_nil _ _ _ _, Below.refl _ _⟩
  · subst hl
    have hp : PredAt Tryz.prog g #[.pointer (some ⟨B, 0, none⟩)] (Value.int .i64) p w := fun W x hb => ht x W ((hb.cell (p := ⟨B, 0, none⟩) hB).trans hc) (ha.below hb)
    have hpo : PredOver Tryz.prog g #[.pointer (some ⟨B, 0, none⟩)] (Value.int .i64) p gb 0 l.toArray.size w := fun m os dk x _ => by
      have hcell : ∀ b off, b < base → b < w.heap.size → (sortWorld (Value.int .i64) w gb 0 m dk os).cell? ⟨b, off, none⟩ = w.cell? ⟨b, off, none⟩ := fun b off h1 h2 => by
        unfold sortWorld
        rw [cell?_grow _ _ _ (by show b < (putRow _ _ _ _ _).heap.size; rw [size_putRow]; exact h2), cell?_putRow_other _ _ gb 0 _ _ (Or.inl (by show b ≠ gb; omega))]
        rfl
      refine ht x _ ((hcell B 0 hBb hB).trans hc) fun hpos => ?_
      obtain ⟨b, off, e, h⟩ := ha hpos
      exact ⟨b, off, e, fun j hj => (hcell b (off + j) (hA b off e) (World.block_lt_of_cell? w _ (h j hj))).trans (h j hj)⟩
    have K := Tryz.slices_DeleteFunc (Value.int .i64) (fun _ => rfl) p g #[.pointer (some ⟨B, 0, none⟩)] eg 0 Tryz.zeroValue3 gb 0 cap l.toArray w hp hpo hH (by simp; omega) (by simpa using hle)
    refine (by simpa using K : Calls Tryz.prog 45 #[.slice (some ⟨gb, 0, none⟩) l.length cap, .func (.func g) #[] #[.pointer (some ⟨B, 0, none⟩)]] w _).mono ?_
    rintro e w' ⟨rfl, q, rfl⟩
    refine ⟨_, rfl, ?_, ?_⟩
    · have h := own_put (q := q) (os := #[]) (d := (l.filter fun x => !p x) ++ List.replicate (l.length - (l.filter fun x => !p x).length) 0) (r := l.filter fun x => !p x) ho (by have := List.length_filter_le (fun x => !p x) l; simp; omega) (by rw [List.take_left']; rfl) rfl
      rw [grow_empty] at h
      simpa using h
    · have h := below_put (q := q) (os := #[]) (g := gb) (Below.refl base w) hbs hbase ((l.filter fun x => !p x) ++ List.replicate (l.length - (l.filter fun x => !p x).length) 0).toArray
      rw [grow_empty] at h
      simpa using h
/-- slices.Sort of a row that one owns. -/
theorem sort_own (l : List Int) (v : Value) (n base : Nat) (w : World) (ho : w.ownsRow base 3 1 v n (zs l)) (hn : n ≤ 1099511627776) (hb : base ≤ w.heap.size) :
    Calls Tryz.prog 40 #[v] w fun e w' => e = .returned (.tuple #[]) ∧ w'.ownsRow base 3 1 v n (zs (l.mergeSort fun x y => decide (x ≤ y))) ∧ Below base w w' := by
  rcases own_split ho with ⟨rfl, rfl, rfl⟩ | ⟨g, cap, rfl, hbase, hlt, hle, hmax, hl, hH⟩
  · exact (Tryz.slices_Sort_int_none none 0 w).mono fun e w' ⟨h1, h2⟩ => ⟨h1, by rw [h2]; simpa using ho, by rw [h2]; exact Below.refl _ _⟩
  · subst hl
    refine (Tryz.slices_Sort_int g 0 cap l w hH hlt (by omega)).mono ?_
    rintro e w' ⟨rfl, m, os, rfl⟩
    have hlen : (l.mergeSort fun x y => decide (x ≤ y)).length = l.length := List.length_mergeSort l
    exact ⟨rfl, own_put ho hlen (by rw [List.take_of_length_le (by rw [hlen]; exact Nat.le_refl _)]) hlen, below_put (Below.refl _ _) hb hbase _⟩
/-- slices.Compact of a row that one owns. -/
theorem compact_own (l : List Int) (v : Value) (n base : Nat) (w : World) (ho : w.ownsRow base 3 1 v n (zs l)) (hn : n ≤ 1099511627776) (hb : base ≤ w.heap.size) :
    Calls Tryz.prog 41 #[v] w fun e w' => ∃ v', e = .returned v' ∧ w'.ownsRow base 3 1 v' (Lib.compact l).length (zs (Lib.compact l)) ∧ Below base w w' := by
  rcases own_split ho with ⟨rfl, rfl, rfl⟩ | ⟨g, cap, rfl, hbase, hlt, hle, hmax, hl, hH⟩
  · exact (Tryz.slices_Compact_int_empty none 0 w).mono fun e w' ⟨h1, h2⟩ => ⟨_, h1, by rw [h2, show Lib.compact ([] : List Int) = [] from rfl]; exact ho, by rw [h2]; exact Below.refl _ _⟩
  · subst hl
    refine (Tryz.slices_Compact_int g 0 cap l w hH (by omega) hle).mono ?_
    rintro e w' ⟨rfl, q, rfl⟩
    have hlen := compact_len l
    refine ⟨_, rfl, ?_, ?_⟩
    · have h := own_put (q := q) (os := #[]) (d := Lib.compact l ++ List.replicate (l.length - (Lib.compact l).length) 0) (r := Lib.compact l) ho (by simp; omega) (by rw [List.take_left']; rfl) rfl
      rwa [grow_empty] at h
    · have h := below_put (q := q) (os := #[]) (g := g) (Below.refl base w) hb hbase (Lib.compact l ++ List.replicate (l.length - (Lib.compact l).length) 0).toArray
      rwa [grow_empty] at h

end Go.Proofs.YtlfcjjlgkcfkdaaGreatDoor
namespace Go.Proofs.YtlfcjjlgkcfkdaaGreatDoor
open Go.RowKit Go.Sort

theorem made_nil (w w1 : World) (G : Nat) (cs : Array Value) (h : w1.heap = w.heap) (hb : Below w.heap.size w w1) (hs : cs.size = G) (hG : G ≤ maxLen) : MadeZ w [] (.returned (.slice (some ⟨w.heap.size, 0, none⟩) 0 G)) (w1.alloc (.cells cs 3)) := by
  refine ⟨_, rfl, ⟨rfl, .inr ⟨w.heap.size, G, cs, rfl, Nat.le_refl _, ?_, Nat.zero_le _, hG, by omega, by simp [zs]⟩⟩, hb.alloc (by rw [h]; exact Nat.le_refl _) _⟩
  show (w1.heap.push _)[w.heap.size]? = _
  rw [← h]
  exact Array.getElem?_push_size
theorem grow_any (n : Nat) (w : World) (hn : n ≤ 1099511627776) :
    Calls Tryz.prog 60 #[.slice none 0 0, .int .i64 (n : Int)] w fun e w' => MadeZ w [] e w' := by
  by_cases h0 : n = 0
  · subst h0
    exact (Any8.slices_Grow_room Tryz.laysGrow none 0 0 0 w (by omega) (by omega) (by omega) (by omega)).mono fun e w' ⟨h1, h2⟩ => ⟨_, h1, by rw [h2]; exact World.ownsRow_nil _ _ _ _, by rw [h2]; exact Below.refl _ _⟩
  · obtain ⟨i0, hi, hz0, hz1, hz2⟩ := info_parts Tryz.infoZ
    refine (Any8.slices_Grow_grow Tryz.laysGrow i0 (.int .i64 0) hi hz0 (by omega) none 0 0 n [] w (by omega) (by omega) (by rw [hz2]; omega) (by omega) (by simp) (fun _ => rfl) (fun a e => by cases e)).mono ?_
    rintro e w' ⟨rfl, rfl⟩
    have hg := grownCap_ge w (0 + n) 0 3
    have hm := grownCap_le_maxLen w (0 + n) 0 3 (by unfold maxLen; omega)
    exact made_nil w w.drew (grownCap w (0 + n) 0 3) _ rfl (Below.refl _ w).drew (by simp only [Array.size_append, size_zeroCells, Value.cells, List.size_toArray, List.length_cons, List.length_nil]; show _ = grownCap w (0 + n) 0 3; change 0 + (0 + n - 0) * 1 + (grownCap w (0 + n) 0 3 - (0 + n)) * 1 = _; omega) hm
set_option maxRecDepth 100000 in
set_option maxHeartbeats 1000000 in
theorem concat_any (xs ys : List Int) (A B : Option Addr) (nx ny ca cb r : Nat) (w : World) (ex : xs.length = nx) (ey : ys.length = ny) (hx : nx ≤ 1048576) (hy : ny ≤ 1048576) (hA : A = none → ca = 0) (hB : B = none → cb = 0) (ha : IsZ w A xs) (hb : IsZ w B ys)
    (c0 : w.cell? ⟨r, 0, none⟩ = some (.slice A nx ca)) (c1 : w.cell? ⟨r, 1, none⟩ = some (.slice B ny cb)) :
    Calls Tryz.prog 39 #[.slice (some ⟨r, 0, none⟩) 2 2] w fun e w' => MadeZ w (xs ++ ys) e w' := by
  have HX := Lib.hid (And.intro ex ha)
  have HY := Lib.hid (And.intro ey hb)
  have HN := Lib.hid (And.intro hA hB)
  have hr : r < w.heap.size := World.block_lt_of_cell? w _ c0
  have CG : Hid (Calls Tryz.prog 60 #[.slice none 0 0, .int .i64 ((nx : Int) + (ny : Int))] w fun e w' => MadeZ w [] e w') := by
    have h := grow_any (nx + ny) w (by omega)
    rwa [show ((nx + ny : Nat) : Int) = (nx : Int) + (ny : Int) by omega] at h
  have D0 := Lib.hid c0
  have D1 := Lib.hid c1
  clear ex ey ha hb hA hB
  go_enter Tryz.func39, Tryz.ntmps39
  go_wp2
  refine wp_loop_rounds 3 ?_
  rw [rounds_succ]
  go_wp2
  rw [rounds_succ]
  go_wp2
  rw [rounds_succ]
  go_wp2_with fail
  refine CG.out.mono ?_
  rintro e w1 ⟨v1, rfl, o1, b1⟩
  have O1 := Lib.hid o1
  have B1 := Lib.hid b1
  have d0 : w1.cell? ⟨r, 0, none⟩ = some (.slice A nx ca) := (b1.cell (p := ⟨r, 0, none⟩) hr).trans D0.out
  have d1 : w1.cell? ⟨r, 1, none⟩ = some (.slice B ny cb) := (b1.cell (p := ⟨r, 1, none⟩) hr).trans D1.out
  have hr1 : r < w1.heap.size := by have := b1.size; omega
  have ZA : Hid (IsZ w1 A xs) := HX.out.2.below b1
  clear o1 b1 c0 c1 CG
  go_wp2
  refine wp_loop_rounds 3 ?_
  rw [rounds_succ]
  go_wp2_with ((refine wpList_appZ rfl (.tmp 31) (.tmp 32) rfl w.heap.size v1 0 [] rfl O1.out A nx ca xs rfl HX.out.1 HN.out.1 ZA.out (by omega) B1.out.size ?_); (intro v2 w2 o2 g2); (have B2 : Hid (Below w.heap.size w w2) := B1.out.grown g2 B1.out.size (fun g hg => own_geZ O1.out g hg)); (have O2 := Lib.hid o2); (have e1 : w2.cell? ⟨r, 1, none⟩ = some (.slice B ny cb) := (B2.out.cell (p := ⟨r, 1, none⟩) hr).trans D1.out); (have hr2 : r < w2.heap.size := by have := B2.out.size; omega); (have ZB : Hid (IsZ w2 B ys) := HY.out.2.below B2.out); (clear o2 g2))
  rw [rounds_succ]
  go_wp2_with ((refine wpList_appZ rfl (.tmp 31) (.tmp 32) rfl w.heap.size v2 (0 + nx) ([] ++ xs) rfl O2.out B ny cb ys rfl HY.out.1 HN.out.2 ZB.out (by omega) B2.out.size ?_); (intro v3 w3 o3 g3); (have B3 : Hid (Below w.heap.size w w3) := B2.out.grown g3 B2.out.size (fun g hg => own_geZ O2.out g hg)); (have O3 := Lib.hid o3); (clear o3 g3))
  rw [rounds_succ]
  go_wp2
  go_ret
  refine ⟨_, rfl, ?_, B3.out⟩
  have h := O3.out
  rw [List.nil_append] at h
  rw [List.length_append, HX.out.1, HY.out.1]
  rwa [Nat.zero_add] at h

end Go.Proofs.YtlfcjjlgkcfkdaaGreatDoor
namespace Go.Proofs.YtlfcjjlgkcfkdaaGreatDoor
open Go.RowKit Go.Sort

set_option maxRecDepth 100000 in
set_option maxHeartbeats 1000000 in
theorem or_any (xs ys : List Int) (A B : Option Addr) (nx ny ca cb : Nat) (w : World) (ex : xs.length = nx) (ey : ys.length = ny) (hx : nx ≤ 1048576) (hy : ny ≤ 1048576) (hA : A = none → ca = 0) (hB : B = none → cb = 0) (ha : IsZ w A xs) (hb : IsZ w B ys) :
    Calls Tryz.prog 22 #[.slice A nx ca, .slice B ny cb] w fun e w' => ∃ out, IsRise (xs ++ ys) out ∧ MadeZ w out e w' := by
  have B0 : Hid (Below w.heap.size w (w.alloc (.cells #[.slice A nx ca, .slice B ny cb] 29))) := (Below.refl _ _).alloc (Nat.le_refl _) _
  have C := Lib.hid (concat_any xs ys A B nx ny ca cb w.heap.size (w.alloc (.cells #[.slice A nx ca, .slice B ny cb] 29)) ex ey hx hy hA hB (ha.below B0.out) (hb.below B0.out) (by simp) (by simp))
  have L := Lib.hid (show (xs ++ ys).length ≤ 2097152 by rw [List.length_append]; omega)
  have R := Lib.hid (rise_sort (xs ++ ys))
  have RL := Lib.hid (List.length_mergeSort (le := fun x y : Int => decide (x ≤ y)) (xs ++ ys))
  clear ex ey ha hb hA hB
  generalize xs ++ ys = l at *
  go_enter Tryz.func22, Tryz.ntmps22
  go_wp2_with fail
  refine C.out.mono ?_
  rintro e w1 ⟨v1, rfl, o1, b1⟩
  have b2 : Below w.heap.size w w1 := B0.out.trans (b1.mono B0.out.size)
  have BB := Lib.hid b2
  have S := Lib.hid (sort_own l v1 l.length w.heap.size w1 (own_baseZ o1 B0.out.size) (by have := L.out; omega) b2.size)
  clear o1 b1 b2 C B0
  go_wp2_with fail
  refine S.out.mono ?_
  rintro e w2 ⟨rfl, o2, b2⟩
  have B2 : Hid (Below w.heap.size w w2) := BB.out.trans b2
  have K := Lib.hid (compact_own _ v1 l.length w.heap.size w2 o2 (by have := L.out; omega) B2.out.size)
  clear o2 b2 S BB
  go_wp2_with fail
  refine K.out.mono ?_
  rintro e w3 ⟨v3, rfl, o3, b3⟩
  have B3 : Hid (Below w.heap.size w w3) := B2.out.trans b3
  have O3 := Lib.hid o3
  clear o3 b3 K B2
  go_wp2
  go_ret
  exact ⟨_, R.out, v3, rfl, O3.out, B3.out⟩
set_option maxRecDepth 100000 in
theorem zmake_any (xs : List Int) (A : Option Addr) (nx ca : Nat) (w : World) (ex : xs.length = nx) (hx : nx ≤ 1048576) (hA : A = none → ca = 0) (ha : IsZ w A xs) :
    Calls Tryz.prog 35 #[.slice A nx ca] w fun e w' => ∃ out, IsRise xs out ∧ MadeZ w out e w' := by
  have C := Lib.hid (or_any xs [] A none nx 0 ca 0 w ex rfl hx (by omega) hA (fun _ => rfl) ha (IsZ.nil _ _))
  rw [List.append_nil] at C
  clear ex ha hA
  go_enter Tryz.func35, Tryz.ntmps35
  go_wp2_with fail
  refine C.out.mono ?_
  rintro e w1 ⟨out, r, v, rfl, o, b⟩
  have Q : Hid (IsRise xs out ∧ World.ownsRow w1 w.heap.size 3 1 v out.length (zs out) ∧ Below w.heap.size w w1) := ⟨r, o, b⟩
  clear r o b C
  go_wp2
  go_ret
  exact ⟨out, Q.out.1, v, rfl, Q.out.2.1, Q.out.2.2⟩
set_option maxRecDepth 100000 in
theorem put_any (xs : List Int) (x : Int) (A : Option Addr) (nx ca : Nat) (w : World) (ex : xs.length = nx) (hx : nx ≤ 1048576) (hA : A = none → ca = 0) (ha : IsZ w A xs) :
    Calls Tryz.prog 32 #[.slice A nx ca, .int .i64 x] w fun e w' => ∃ out, IsRise (xs ++ [x]) out ∧ MadeZ w out e w' := by
  have B0 : Hid (Below w.heap.size w (w.alloc (.cells #[.int .i64 x] 3))) := (Below.refl _ _).alloc (Nat.le_refl _) _
  have C := Lib.hid (or_any xs [x] A (some ⟨w.heap.size, 0, none⟩) nx 1 ca 1 (w.alloc (.cells #[.int .i64 x] 3)) ex rfl hx (by omega) hA (fun e => by cases e) (ha.below B0.out) (lit_z w x))
  clear ex ha hA
  go_enter Tryz.func32, Tryz.ntmps32
  go_wp2_with fail
  refine C.out.mono ?_
  rintro e w1 ⟨out, r, v, rfl, o, b⟩
  have Q : Hid (IsRise (xs ++ [x]) out ∧ World.ownsRow w1 w.heap.size 3 1 v out.length (zs out) ∧ Below w.heap.size w w1) := ⟨r, own_baseZ o B0.out.size, B0.out.trans (b.mono B0.out.size)⟩
  clear r o b C
  go_wp2
  go_ret
  exact ⟨out, Q.out.1, v, rfl, Q.out.2.1, Q.out.2.2⟩

end Go.Proofs.YtlfcjjlgkcfkdaaGreatDoor
namespace Go.Proofs.YtlfcjjlgkcfkdaaGreatDoor
open Go.RowKit Go.Sort

theorem len_subset : ∀ {a b : List Int}, a.Pairwise (· < ·) → (∀ y, y ∈ a → y ∈ b) → a.length ≤ b.length
  | [], _, _, _ => Nat.zero_le _
  | x :: a, b, h, hs => by
    have hx := hs x (by simp)
    have hp := List.pairwise_cons.1 h
    have := len_subset (a := a) (b := b.erase x) hp.2 fun y hy => by
      have hne : y ≠ x := by have := hp.1 y hy; omega
      exact (List.mem_erase_of_ne hne).2 (hs y (by simp [hy]))
    rw [List.length_erase_of_mem hx] at this
    have := List.length_pos_of_mem hx
    simp only [List.length_cons]; omega
theorem IsRise.len {l out : List Int} (h : IsRise l out) : out.length ≤ l.length := len_subset h.1 fun y hy => (h.2 y).1 hy
theorem IsRise.le {l out : List Int} (h : IsRise l out) : out.Pairwise (· ≤ ·) := h.1.imp fun h => by omega
theorem pick_mem {xs ys : List Int} {inn : Bool} {y : Int} : y ∈ pickZ ys inn xs ↔ (y ∈ xs ∧ (decide (y ∈ ys) = inn)) := by simp [pickZ]
theorem pick_rise {xs ys r1 r2 : List Int} (inn : Bool) (p : Int → Bool) (h1 : IsRise ys r1) (h2 : IsRise xs r2) (hp : ∀ x, (!p x) = (decide (x ∈ r1) == inn)) : IsRise (pickZ ys inn xs) (r2.filter fun x => !p x) := by
  refine ⟨List.Pairwise.filter _ h2.1, fun y => ?_⟩
  have e : (decide (y ∈ r1)) = decide (y ∈ ys) := by simp [h1.2 y]
  rw [pick_mem, List.mem_filter, h2.2 y, hp, e]
  simp
theorem own_where {w : World} {base n c : Nat} {A : Option Addr} {l : List Int} (h : w.ownsRow base 3 1 (.slice A n c) n (zs l)) : ∀ b off, A = some ⟨b, off, none⟩ → b < w.heap.size := fun b off e => by
  rcases own_split h with ⟨e2, _⟩ | ⟨g, cap, e2, _, h3, _⟩
  · injection e2 with e3; rw [e3] at e; cases e
  · injection e2 with e3; rw [e3] at e; cases e; exact h3
set_option maxRecDepth 100000 in
set_option maxHeartbeats 1000000 in
theorem and_any (xs ys : List Int) (A B : Option Addr) (nx ny ca cb : Nat) (w : World) (ex : xs.length = nx) (ey : ys.length = ny) (hx : nx ≤ 1048576) (hy : ny ≤ 1048576) (hA : A = none → ca = 0) (hB : B = none → cb = 0) (ha : IsZ w A xs) (hb : IsZ w B ys) :
    Calls Tryz.prog 25 #[.slice A nx ca, .slice B ny cb] w fun e w' => ∃ out, IsRise (pickZ ys true xs) out ∧ MadeZ w out e w' := by
  have C := Lib.hid (zmake_any ys B ny cb w ey hy hB hb)
  have HX := Lib.hid (And.intro ex (And.intro hA ha))
  have EY := Lib.hid ey
  have eg : ∀ args w, (callFunc 46 args).run Tryz.prog w = .ok (.enter 46 args) w := enters_of Tryz.func46 (by kernel_rfl) rfl
  have EG := Lib.hid eg
  clear ex ey ha hb hA hB eg
  go_enter Tryz.func25, Tryz.ntmps25
  go_wp2_with fail
  refine C.out.mono ?_
  rintro e w1 ⟨r1, h1, v1, rfl, o1, b1⟩
  have N1 := Lib.hid (show r1.length ≤ 1048576 by have := h1.len; rw [EY.out] at this; omega)
  have R1 := Lib.hid h1
  have B1 := Lib.hid b1
  obtain ⟨A1, c1, rfl, _, _, z1, _⟩ := own_z o1
  have Z1 := Lib.hid z1
  have W1 := Lib.hid (own_where o1)
  have BA : Hid (Below w.heap.size w (w1.alloc (.cells #[.slice A1 r1.length c1] 29))) := b1.alloc b1.size _
  have C2 := Lib.hid (zmake_any xs A nx ca (w1.alloc (.cells #[.slice A1 r1.length c1] 29)) HX.out.1 hx HX.out.2.1 (HX.out.2.2.below BA.out))
  clear h1 o1 b1 z1 C
  go_wp2_with fail
  refine C2.out.mono ?_
  rintro e w2 ⟨r2, h2, v2, rfl, o2, b2⟩
  have N2 := Lib.hid (show r2.length ≤ 1048576 by have := h2.len; rw [HX.out.1] at this; omega)
  have hs2 : w1.heap.size + 1 ≤ w2.heap.size := by have := b2.size; simpa using this
  have hc2 : w2.cell? ⟨w1.heap.size, 0, none⟩ = some (.slice A1 r1.length c1) := (b2.cell (p := ⟨w1.heap.size, 0, none⟩) (by simp)).trans (by simp)
  have z2 : IsZ w2 A1 r1 := (Z1.out.below ((Below.refl _ _).alloc (Nat.le_refl _) _)).below b2
  have o2' : w2.ownsRow (w1.heap.size + 1) 3 1 v2 r2.length (zs r2) := by simpa using o2
  have D := Lib.hid (delete_any 46 EG.out (fun x => !decide (x ∈ r1)) w1.heap.size A1 r1.length c1 r1 (fun x W hc hz => and1_any r1 x A1 r1.length c1 w1.heap.size W rfl (by have := N1.out; omega) hc hz R1.out.le) r2 v2 r2.length (w1.heap.size + 1) w2 o2' (by have := N2.out; omega) (by omega) (by omega) hs2 hc2 z2 (fun b off e => by have := W1.out b off e; omega))
  have Q : Hid (IsRise (pickZ ys true xs) (r2.filter fun x => !(fun x => !decide (x ∈ r1)) x)) := pick_rise true _ R1.out h2 (fun x => by simp)
  have B2 : Hid (Below w.heap.size w w2) := BA.out.trans (b2.mono BA.out.size)
  have S1 : Hid (w.heap.size ≤ w1.heap.size) := B1.out.size
  clear h2 o2 o2' b2 hc2 z2 C2 R1 Z1 HX EG
  generalize (r2.filter fun x => !(fun x => !decide (x ∈ r1)) x) = out at *
  go_wp2_with fail
  refine D.out.mono ?_
  rintro e w3 ⟨v3, rfl, o3, b3⟩
  have F : Hid (World.ownsRow w3 w.heap.size 3 1 v3 out.length (zs out) ∧ Below w.heap.size w w3) := ⟨own_baseZ o3 (by have := S1.out; omega), B2.out.trans (b3.mono (by have := S1.out; omega))⟩
  clear o3 b3 D
  go_wp2
  go_ret
  exact ⟨out, Q.out, v3, rfl, F.out.1, F.out.2⟩
set_option maxRecDepth 100000 in
set_option maxHeartbeats 1000000 in
theorem not_any (xs ys : List Int) (A B : Option Addr) (nx ny ca cb : Nat) (w : World) (ex : xs.length = nx) (ey : ys.length = ny) (hx : nx ≤ 1048576) (hy : ny ≤ 1048576) (hA : A = none → ca = 0) (hB : B = none → cb = 0) (ha : IsZ w A xs) (hb : IsZ w B ys) :
    Calls Tryz.prog 54 #[.slice A nx ca, .slice B ny cb] w fun e w' => ∃ out, IsRise (pickZ ys false xs) out ∧ MadeZ w out e w' := by
  have C := Lib.hid (zmake_any ys B ny cb w ey hy hB hb)
  have HX := Lib.hid (And.intro ex (And.intro hA ha))
  have EY := Lib.hid ey
  have eg : ∀ args w, (callFunc 76 args).run Tryz.prog w = .ok (.enter 76 args) w := enters_of Tryz.func76 (by kernel_rfl) rfl
  have EG := Lib.hid eg
  clear ex ey ha hb hA hB eg
  go_enter Tryz.func54, Tryz.ntmps54
  go_wp2_with fail
  refine C.out.mono ?_
  rintro e w1 ⟨r1, h1, v1, rfl, o1, b1⟩
  have N1 := Lib.hid (show r1.length ≤ 1048576 by have := h1.len; rw [EY.out] at this; omega)
  have R1 := Lib.hid h1
  have B1 := Lib.hid b1
  obtain ⟨A1, c1, rfl, _, _, z1, _⟩ := own_z o1
  have Z1 := Lib.hid z1
  have W1 := Lib.hid (own_where o1)
  have BA : Hid (Below w.heap.size w (w1.alloc (.cells #[.slice A1 r1.length c1] 29))) := b1.alloc b1.size _
  have C2 := Lib.hid (zmake_any xs A nx ca (w1.alloc (.cells #[.slice A1 r1.length c1] 29)) HX.out.1 hx HX.out.2.1 (HX.out.2.2.below BA.out))
  clear h1 o1 b1 z1 C
  go_wp2_with fail
  refine C2.out.mono ?_
  rintro e w2 ⟨r2, h2, v2, rfl, o2, b2⟩
  have N2 := Lib.hid (show r2.length ≤ 1048576 by have := h2.len; rw [HX.out.1] at this; omega)
  have hs2 : w1.heap.size + 1 ≤ w2.heap.size := by have := b2.size; simpa using this
  have hc2 : w2.cell? ⟨w1.heap.size, 0, none⟩ = some (.slice A1 r1.length c1) := (b2.cell (p := ⟨w1.heap.size, 0, none⟩) (by simp)).trans (by simp)
  have z2 : IsZ w2 A1 r1 := (Z1.out.below ((Below.refl _ _).alloc (Nat.le_refl _) _)).below b2
  have o2' : w2.ownsRow (w1.heap.size + 1) 3 1 v2 r2.length (zs r2) := by simpa using o2
  have D := Lib.hid (delete_any 76 EG.out (fun x => decide (x ∈ r1)) w1.heap.size A1 r1.length c1 r1 (fun x W hc hz => not1_any r1 x A1 r1.length c1 w1.heap.size W rfl (by have := N1.out; omega) hc hz R1.out.le) r2 v2 r2.length (w1.heap.size + 1) w2 o2' (by have := N2.out; omega) (by omega) (by omega) hs2 hc2 z2 (fun b off e => by have := W1.out b off e; omega))
  have Q : Hid (IsRise (pickZ ys false xs) (r2.filter fun x => !(fun x => decide (x ∈ r1)) x)) := pick_rise false _ R1.out h2 (fun x => by cases decide (x ∈ r1) <;> rfl)
  have B2 : Hid (Below w.heap.size w w2) := BA.out.trans (b2.mono BA.out.size)
  have S1 : Hid (w.heap.size ≤ w1.heap.size) := B1.out.size
  clear h2 o2 o2' b2 hc2 z2 C2 R1 Z1 HX EG
  generalize (r2.filter fun x => !(fun x => decide (x ∈ r1)) x) = out at *
  go_wp2_with fail
  refine D.out.mono ?_
  rintro e w3 ⟨v3, rfl, o3, b3⟩
  have F : Hid (World.ownsRow w3 w.heap.size 3 1 v3 out.length (zs out) ∧ Below w.heap.size w w3) := ⟨own_baseZ o3 (by have := S1.out; omega), B2.out.trans (b3.mono (by have := S1.out; omega))⟩
  clear o3 b3 D
  go_wp2
  go_ret
  exact ⟨out, Q.out, v3, rfl, F.out.1, F.out.2⟩
set_option maxRecDepth 100000 in
theorem cut_any (xs : List Int) (x : Int) (A : Option Addr) (nx ca : Nat) (w : World) (ex : xs.length = nx) (hx : nx ≤ 1048576) (hA : A = none → ca = 0) (ha : IsZ w A xs) :
    Calls Tryz.prog 69 #[.slice A nx ca, .int .i64 x] w fun e w' => ∃ out, IsRise (pickZ [x] false xs) out ∧ MadeZ w out e w' := by
  have B0 : Hid (Below w.heap.size w (w.alloc (.cells #[.int .i64 x] 3))) := (Below.refl _ _).alloc (Nat.le_refl _) _
  have C := Lib.hid (not_any xs [x] A (some ⟨w.heap.size, 0, none⟩) nx 1 ca 1 (w.alloc (.cells #[.int .i64 x] 3)) ex rfl hx (by omega) hA (fun e => by cases e) (ha.below B0.out) (lit_z w x))
  clear ex ha hA
  go_enter Tryz.func69, Tryz.ntmps69
  go_wp2_with fail
  refine C.out.mono ?_
  rintro e w1 ⟨out, r, v, rfl, o, b⟩
  have Q : Hid (IsRise (pickZ [x] false xs) out ∧ World.ownsRow w1 w.heap.size 3 1 v out.length (zs out) ∧ Below w.heap.size w w1) := ⟨r, own_baseZ o B0.out.size, B0.out.trans (b.mono B0.out.size)⟩
  clear r o b C
  go_wp2
  go_ret
  exact ⟨out, Q.out.1, v, rfl, Q.out.2.1, Q.out.2.2⟩
end Go.Proofs.YtlfcjjlgkcfkdaaGreatDoor
namespace Go.Proofs.YtlfcjjlgkcfkdaaGreatDoor
open Go.RowKit Go.Sort

/-- A slice of ints in memory: it reads as these, at most K. -/
structure SlZ (w : World) (l : List Int) (A : Option Addr) (n c K : Nat) : Prop where
  len : l.length = n
  nil : A = none → c = 0
  is : IsZ w A l
  small : n ≤ K
  fits : K ≤ 1048576
theorem SlZ.below {w w' : World} {l : List Int} {A : Option Addr} {n c K : Nat} (h : SlZ w l A n c K) (hb : Below w.heap.size w w') : SlZ w' l A n c K := ⟨h.len, h.nil, h.is.below hb, h.small, h.fits⟩
theorem SlZ.le {w : World} {l : List Int} {A : Option Addr} {n c K K' : Nat} (h : SlZ w l A n c K) (hk : K ≤ K') (hf : K' ≤ 1048576) : SlZ w l A n c K' := ⟨h.len, h.nil, h.is, Nat.le_trans h.small hk, hf⟩
theorem SlZ.lit (w : World) (l : List Int) (m g : Nat) (cs : Array Value) (h : cs = (zs l).toArray) (hm : l.length = m) (hg : g = w.heap.size) (hl : m ≤ 1048576) : SlZ (w.alloc (.cells cs 3)) l (some ⟨g, 0, none⟩) m m m := by
  subst h
  subst hm
  subst hg
  refine ⟨rfl, (fun e => by cases e), fun _ => ⟨_, _, rfl, fun j hj => ?_⟩, Nat.le_refl _, hl⟩
  rw [Nat.zero_add]
  have e : (w.alloc (.cells (zs l).toArray 3)).heap[w.heap.size]? = some (.cells (zs l).toArray 3 (0, 0)) := Array.getElem?_push_size
  unfold World.cell?
  simp only [e]
  simp [zs, List.getD, List.getElem?_eq_getElem hj]
/-- A row of ints handed back. -/
def GaveZ (w : World) (P : List Int → Prop) (K : Nat) (e : Ending) (w' : World) : Prop := ∃ (out : List Int) (A : Option Addr) (n c : Nat), e = .returned (.slice A n c) ∧ P out ∧ SlZ w' out A n c K ∧ Below w.heap.size w w'
theorem GaveZ.of {w w' : World} {l : List Int} {e : Ending} {K : Nat} (h : ∃ out, IsRise l out ∧ MadeZ w out e w') (hl : l.length ≤ K) (hK : K ≤ 1048576) : GaveZ w (IsRise l) K e w' := by
  obtain ⟨out, hr, v, rfl, ho, hb⟩ := h
  obtain ⟨A, c, rfl, _, hn, hz, _⟩ := own_z ho
  exact ⟨out, A, out.length, c, rfl, hr, ⟨rfl, hn, hz, Nat.le_trans hr.len hl, hK⟩, hb⟩

theorem GaveZ.of_own {w : World} {w0 : Nat} {v : Value} {n K : Nat} {l : List Int} (h : w.ownsRow w0 3 1 v n (zs l)) (hK : n ≤ K) (hf : K ≤ 1048576) : ∃ A c, v = .slice A n c ∧ SlZ w l A n c K := by
  obtain ⟨A, c, e, _, hn, hz, hl⟩ := own_z h
  exact ⟨A, c, e, ⟨hl, hn, hz, hK, hf⟩⟩

section
variable {w : World} {xs ys : List Int} {A B : Option Addr} {nx ny ca cb K K' : Nat}
theorem make_s (h1 : SlZ w xs A nx ca K) : Calls Tryz.prog 35 #[.slice A nx ca] w fun e w' => GaveZ w (IsRise xs) K e w' :=
  (zmake_any xs A nx ca w h1.len (by have := h1.small; have := h1.fits; omega) h1.nil h1.is).mono fun _ _ h => GaveZ.of h (by rw [h1.len]; exact h1.small) h1.fits
theorem rising_s (h1 : SlZ w xs A nx ca K) : Calls Tryz.prog 18 #[.slice A nx ca] w fun e w' => GaveZ w (IsRise xs) K e w' :=
  (rising_any xs A nx ca w h1.len (by have := h1.small; have := h1.fits; omega) h1.is).mono fun _ _ h => GaveZ.of h (by rw [h1.len]; exact h1.small) h1.fits
theorem pick_le (xs ys : List Int) (inn : Bool) : (pickZ ys inn xs).length ≤ xs.length := List.length_filter_le _ _
theorem and_s (h1 : SlZ w xs A nx ca K) (h2 : SlZ w ys B ny cb K') : Calls Tryz.prog 25 #[.slice A nx ca, .slice B ny cb] w fun e w' => GaveZ w (IsRise (pickZ ys true xs)) K e w' :=
  (and_any xs ys A B nx ny ca cb w h1.len h2.len (by have := h1.small; have := h1.fits; omega) (by have := h2.small; have := h2.fits; omega) h1.nil h2.nil h1.is h2.is).mono fun _ _ h => GaveZ.of h (by have := pick_le xs ys true; rw [h1.len] at this; have := h1.small; omega) h1.fits
theorem not_s (h1 : SlZ w xs A nx ca K) (h2 : SlZ w ys B ny cb K') : Calls Tryz.prog 54 #[.slice A nx ca, .slice B ny cb] w fun e w' => GaveZ w (IsRise (pickZ ys false xs)) K e w' :=
  (not_any xs ys A B nx ny ca cb w h1.len h2.len (by have := h1.small; have := h1.fits; omega) (by have := h2.small; have := h2.fits; omega) h1.nil h2.nil h1.is h2.is).mono fun _ _ h => GaveZ.of h (by have := pick_le xs ys false; rw [h1.len] at this; have := h1.small; omega) h1.fits
theorem same_s (b : Bool) (h1 : SlZ w xs A nx ca K) (h2 : SlZ w ys B ny cb K') (hb : decide (xs = ys) = b) : Calls Tryz.prog 11 #[.slice A nx ca, .slice B ny cb] w fun e w' => e = .returned (.bool b) ∧ Below w.heap.size w w' :=
  (same_any xs ys A B nx ny ca cb w h1.len h2.len (by have := h1.small; have := h1.fits; omega) (by have := h2.small; have := h2.fits; omega) h1.is h2.is).mono fun _ _ ⟨h, q, e⟩ => ⟨by rw [h, hb], by rw [e]; exact below_drewN' (Below.refl _ _) q⟩
end

end Go.Proofs.YtlfcjjlgkcfkdaaGreatDoor
namespace Go.Proofs.YtlfcjjlgkcfkdaaGreatDoor
open Go.RowKit Go.Maps

/-- An element reads as itself. -/
def heldV (v : Value) : Option (DataW Value × List MemPlace) := some (.held v, [])
theorem heldV_inj {v : Value} {d : DataW Value} {p : List MemPlace} (h : heldV v = some (d, p)) : d = .held v := by
  unfold heldV at h
  simp only [Option.some.injEq, Prod.mk.injEq] at h
  exact h.1.symm
/-- The datum tells f. -/
structure Says (D : DataW Value) (f : Lit → Option Value) : Prop where
  at_some : ∀ kl v, f kl = some v → has D kl = true ∧ ∀ z, D.atKey kl z = .held v
  at_none : ∀ kl, f kl = none → has D kl = false
theorem Says.has {D : DataW Value} {f : Lit → Option Value} (h : Says D f) (kl : Lit) : Maps.has D kl = (f kl).isSome := by
  cases e : f kl with
  | none => exact h.at_none kl e
  | some v => exact (h.at_some kl v e).1
theorem Says.at {D : DataW Value} {f : Lit → Option Value} (h : Says D f) (kl : Lit) (z : Value) : D.atKey kl (.held z) = .held ((f kl).getD z) := by
  cases e : f kl with
  | none => exact atKey_of_not_has (h.at_none kl e) _
  | some v => exact (h.at_some kl v e).2 _
open Classical in
noncomputable def setF (f : Lit → Option Value) (kl : Lit) (o : Option Value) : Lit → Option Value := fun x => if x = kl then o else f x
theorem setF_same (f : Lit → Option Value) (kl : Lit) (o : Option Value) : setF f kl o kl = o := by simp [setF]
theorem setF_other {f : Lit → Option Value} {kl x : Lit} {o : Option Value} (h : x ≠ kl) : setF f kl o x = f x := by simp [setF, h]
theorem Says.put {D : DataW Value} {f : Lit → Option Value} (h : Says D f) (hm : IsMap D) {kl : Lit} (hk : WideAt.IsKeyLit kl) (v : Value) : Says (D.put kl (.held v)) (setF f kl (some v)) := by
  refine ⟨fun x u hu => ?_, fun x hx => ?_⟩
  · by_cases e : x = kl
    · subst e
      rw [setF_same] at hu
      cases hu
      exact ⟨has_put_same hm hk _, fun z => atKey_put_same hm hk _ _⟩
    · rw [setF_other e] at hu
      obtain ⟨h1, h2⟩ := h.at_some x u hu
      exact ⟨by rw [has_put_other e]; exact h1, fun z => by rw [atKey_put_other e]; exact h2 z⟩
  · by_cases e : x = kl
    · subst e
      rw [setF_same] at hx
      cases hx
    · rw [setF_other e] at hx
      rw [has_put_other e]
      exact h.at_none x hx
theorem Says.del {D : DataW Value} {f : Lit → Option Value} (h : Says D f) (kl : Lit) : Says (D.del kl) (setF f kl none) := by
  refine ⟨fun x u hu => ?_, fun x hx => ?_⟩
  · by_cases e : x = kl
    · subst e
      rw [setF_same] at hu
      cases hu
    · rw [setF_other e] at hu
      obtain ⟨h1, h2⟩ := h.at_some x u hu
      exact ⟨by rw [has_del_other e]; exact h1, fun z => by rw [atKey_del_other e]; exact h2 z⟩
  · by_cases e : x = kl
    · subst e
      exact has_del_same
    · rw [setF_other e] at hx
      rw [has_del_other e]
      exact h.at_none x hx

/-- Block b is a map, of at most n entries, that tells f. -/
def Keeps (w : World) (k : TypeId) (b n : Nat) (f : Lit → Option Value) : Prop := ∃ D, w.ownsMap Tryz.prog k heldV b n D ∧ Says D f
theorem Keeps.made (w : World) (k : TypeId) : Keeps (w.alloc (.map #[] 0)) k w.heap.size 0 (fun _ => none) :=
  ⟨.map [], World.ownsMap_made _ _ _ _, ⟨(fun _ _ h => by cases h), fun _ _ => rfl⟩⟩
theorem Keeps.mono {w : World} {k : TypeId} {b n n' : Nat} {f : Lit → Option Value} (h : Keeps w k b n f) (hn : n ≤ n') : Keeps w k b n' f := by
  obtain ⟨D, h1, h2⟩ := h
  exact ⟨D, h1.mono hn, h2⟩
theorem Keeps.lt {w : World} {k : TypeId} {b n : Nat} {f : Lit → Option Value} (h : Keeps w k b n f) : b < w.heap.size := by
  obtain ⟨D, h1, h2⟩ := h
  exact h1.lt
theorem Keeps.ofBlock {w w' : World} {k : TypeId} {b n : Nat} {f : Lit → Option Value} (h : Keeps w k b n f) (e : w'.heap[b]? = w.heap[b]?) : Keeps w' k b n f := by
  obtain ⟨D, ⟨es, clock, hb, r⟩, h2⟩ := h
  exact ⟨D, ⟨es, clock, e.trans hb, r⟩, h2⟩
theorem Keeps.below {w w' : World} {k : TypeId} {b n : Nat} {f : Lit → Option Value} (h : Keeps w k b n f) (hb : Below w.heap.size w w') : Keeps w' k b n f := h.ofBlock (hb.block b h.lt)
theorem Keeps.isMap {w : World} {k : TypeId} {b n : Nat} {f : Lit → Option Value} (h : Keeps w k b n f) : ∃ es clock, w.heap[b]? = some (.map es clock) := by
  obtain ⟨D, ⟨es, clock, hb, _⟩, _⟩ := h
  exact ⟨es, clock, hb⟩

section
variable {ops : Array Oper} {rest : List Oper} {o : Oper} {a : Act} {Q : Exit → Act → World → Prop} {w : World} {k e : TypeId} {b n : Nat} {f : Lit → Option Value}
theorem run_lookup_tells {t : TypeId} (c : Bool) (K : Keyed Tryz.prog k) (ht : Tryz.prog.underlying t = some (.map k e)) {z : Value} (hz : (zeroValue e).run Tryz.prog w = .ok z w) (h : Keeps w k b n f) {key : Value} {kl : Lit} (hkey : keyOf Tryz.prog k key = some kl) :
    (Instr.lookup t (.map (some b)) key c).run Tryz.prog w = .ok (if c then .tuple #[(f kl).getD z, .bool (f kl).isSome] else (f kl).getD z) w := by
  obtain ⟨D, h1, h2⟩ := h
  cases c with
  | false =>
    obtain ⟨v, ps, hrun, hv⟩ := h1.lookup K ht hz (zd := .held z) (zp := []) rfl hkey
    have := heldV_inj hv
    rw [h2.at] at this
    simp only [DataW.held.injEq] at this
    rw [hrun, this]
    rfl
  | true =>
    obtain ⟨v, ps, hrun, hv⟩ := h1.look_ok K ht hz (zd := .held z) (zp := []) rfl hkey
    have := heldV_inj hv
    rw [h2.at] at this
    simp only [DataW.held.injEq] at this
    rw [hrun, this, h2.has]
    rfl
theorem Keeps.store {t : TypeId} (h : Keeps w k b n f) (K : Keyed Tryz.prog k) (ht : Tryz.prog.underlying t = some (.map k e)) (hn : n < maxLen) {key : Value} {kl : Lit} (hkey : keyOf Tryz.prog k key = some kl) (v : Value) :
    ∃ w', (Instr.mapUpdate t (.map (some b)) key v).run Tryz.prog w = .ok () w' ∧ Keeps w' k b (n + 1) (setF f kl (some v)) ∧ w.mapTurned w' b := by
  obtain ⟨D, h1, h2⟩ := h
  obtain ⟨w', hrun, h3, h4⟩ := h1.store K ht hn (d := .held v) (ps := []) hkey rfl
  exact ⟨w', hrun, ⟨_, h3, h2.put h1.isMap (K.key hkey) v⟩, h4⟩
theorem Keeps.cut {t : TypeId} (h : Keeps w k b n f) (K : Keyed Tryz.prog k) (ht : Tryz.prog.underlying t = some (.map k e)) {key : Value} {kl : Lit} (hkey : keyOf Tryz.prog k key = some kl) :
    ∃ w', (∀ ty, (Builtin.delete_ #[t, k] ty #[.map (some b), key]).run Tryz.prog w = .ok (.tuple #[]) w') ∧ Keeps w' k b n (setF f kl none) ∧ w.mapTurned w' b := by
  obtain ⟨D, h1, h2⟩ := h
  obtain ⟨w', hrun, h3, h4⟩ := h1.drop K ht hkey t
  have e : ∀ ty, Builtin.delete_ #[t, k] ty #[.map (some b), key] = Builtin.delete_ #[t, k] t #[.map (some b), key] := fun _ => rfl
  exact ⟨w', fun ty => by rw [e ty]; exact hrun, ⟨_, h3, h2.del kl⟩, h4⟩
/-- The keys of a map, as a list. -/
def keysL {H : Type} : DataW H → List Lit
  | .map es => es.map Prod.fst
  | _ => []
theorem Keeps.keys (h : Keeps w k b n f) (K : Keyed Tryz.prog k) : ∃ D : DataW Value, w.ownsMap Tryz.prog k heldV b n D ∧ Says D f ∧ (keysL D).Nodup ∧ Maps.size D = (keysL D).length ∧ (∀ kl, kl ∈ keysL D ↔ (f kl).isSome = true) ∧ (∀ kl ∈ keysL D, KeysOf Tryz.prog k kl) := by
  obtain ⟨D, h1, h2⟩ := h
  obtain ⟨es, e1, hp, hk⟩ := h1.entries K
  obtain ⟨es', e2, hko⟩ := h1.keysOf
  rw [e1] at e2
  injection e2 with e2
  subst e2
  refine ⟨D, h1, h2, ?_, ?_, fun kl => ?_, fun kl hkl => ?_⟩
  · rw [e1]
    exact List.pairwise_map.2 hp
  · rw [e1]
    simp [keysL, Maps.size]
  · rw [← h2.has, e1, has_eq, List.any_eq_true]
    show kl ∈ es.map Prod.fst ↔ _
    rw [List.mem_map]
    constructor
    · rintro ⟨p, hp', rfl⟩
      exact ⟨p, hp', WideAt.sameKey_self (hk p hp')⟩
    · rintro ⟨p, hp', hs⟩
      exact ⟨p, hp', WideAt.sameKey_eq hs⟩
  · rw [e1] at hkl
    obtain ⟨p, hp', rfl⟩ := List.mem_map.1 hkl
    exact hko p hp'
/-- How many keys there are: as many as any list has that names each once. -/
theorem Keeps.size (h : Keeps w k b n f) (K : Keyed Tryz.prog k) {l : List Lit} (hn : l.Nodup) (hl : ∀ kl, kl ∈ l ↔ (f kl).isSome = true) : ∃ D : DataW Value, w.ownsMap Tryz.prog k heldV b n D ∧ Says D f ∧ Maps.size D = l.length := by
  obtain ⟨D, h1, h2, h3, h4, h5, _⟩ := h.keys K
  exact ⟨D, h1, h2, by rw [h4]; exact ((List.perm_ext_iff_of_nodup h3 hn).2 fun kl => (h5 kl).trans (hl kl).symm).length_eq⟩
end
end Go.Proofs.YtlfcjjlgkcfkdaaGreatDoor
namespace Go.Proofs.YtlfcjjlgkcfkdaaGreatDoor
open Go.RowKit Go.Maps Go.Sort La

/-- Nothing that was there has turned but blocks of S. -/
structure Turns (S : Nat → Prop) (w w' : World) : Prop where
  os : w'.os = w.os
  tape : w'.tape = w.tape
  output : w'.output = w.output
  size : w.heap.size ≤ w'.heap.size
  block : ∀ k, k < w.heap.size → ¬ S k → w'.heap[k]? = w.heap[k]?
theorem Turns.refl (S : Nat → Prop) (w : World) : Turns S w w := ⟨rfl, rfl, rfl, Nat.le_refl _, fun _ _ _ => rfl⟩
theorem Turns.trans {S : Nat → Prop} {a b c : World} (h : Turns S a b) (k : Turns S b c) : Turns S a c :=
  ⟨k.os.trans h.os, k.tape.trans h.tape, k.output.trans h.output, Nat.le_trans h.size k.size, fun i hi hS => (k.block i (Nat.lt_of_lt_of_le hi h.size) hS).trans (h.block i hi hS)⟩
theorem Turns.ofBelow {S : Nat → Prop} {w w' : World} (h : Below w.heap.size w w') : Turns S w w' := ⟨h.os, h.tape, h.output, h.size, fun k hk _ => h.block k hk⟩
theorem Turns.ofMap {S : Nat → Prop} {w w' : World} {b : Nat} (h : w.mapTurned w' b) (hb : S b) : Turns S w w' := by
  have g := h.grown
  exact ⟨g.os, g.tape, g.output, g.size, fun k hk hS => g.block k hk (fun e => by injection e with e; subst e; exact hS hb)⟩
theorem Turns.mono {S S' : Nat → Prop} {w w' : World} (h : Turns S w w') (hS : ∀ k, S k → S' k) : Turns S' w w' := ⟨h.os, h.tape, h.output, h.size, fun k hk hn => h.block k hk fun hs => hn (hS k hs)⟩
theorem Turns.below {S : Nat → Prop} {w w' : World} {base : Nat} (h : Turns S w w') (hS : ∀ k, S k → base ≤ k) (hb : base ≤ w.heap.size) : Below base w w' :=
  ⟨h.os, h.tape, h.output, h.size, fun k hk => h.block k (by omega) fun hs => by have := hS k hs; omega⟩
/-- The blocks of S are maps. -/
def AreMaps (S : Nat → Prop) (w : World) : Prop := ∀ k, S k → ∃ es c, w.heap[k]? = some (.map es c)
theorem AreMaps.none {w : World} : AreMaps (fun _ => False) w := fun _ h => h.elim
theorem map_cell {w : World} {a : Addr} {es : Array MapEntry} {c : Nat} (h : w.heap[a.block]? = some (.map es c)) : w.cell? a = none := by
  unfold World.cell?
  rw [h]
theorem Turns.cell {S : Nat → Prop} {w w' : World} (h : Turns S w w') (hm : AreMaps S w) {a : Addr} {v : Value} (hc : w.cell? a = some v) : w'.cell? a = some v := by
  by_cases hs : S a.block
  · obtain ⟨es, c, he⟩ := hm _ hs
    rw [map_cell he] at hc
    cases hc
  · rw [← hc]
    exact World.cell?_of_block (h.block _ (World.block_lt_of_cell? w _ hc) hs)
/-- The blocks of S are none of an index's rows. -/
def Far (S : Nat → Prop) (w : World) : Prop := ∀ k, S k → ∃ o, w.heap[k]? = some o ∧ ∀ cur fr, o ≠ .cells cur 26 fr ∧ o ≠ .cells cur 3 fr ∧ o ≠ .cells cur 66 fr
theorem AreMaps.far {S : Nat → Prop} {w : World} (h : AreMaps S w) : Far S w := fun k hk => by
  obtain ⟨es, c, e⟩ := h k hk
  exact ⟨_, e, fun _ _ => ⟨(fun e => by cases e), (fun e => by cases e), (fun e => by cases e)⟩⟩
theorem own_turns {S : Nat → Prop} {w w' : World} {base e s n : Nat} {v : Value} {xs : List Value} (h : w.ownsRow base e s v n xs) (t : Turns S w w') (hf : ∀ k cur fr, S k → w.heap[k]? ≠ some (.cells cur e fr)) : w'.ownsRow base e s v n xs := by
  refine ⟨h.1, ?_⟩
  rcases h.2 with hn | ⟨g, cap, cur, e1, hbg, hg, rest⟩
  · exact .inl hn
  · exact .inr ⟨g, cap, cur, e1, hbg, (t.block g (Array.getElem?_eq_some_iff.1 hg).1 fun hs => hf g _ _ hs hg).trans hg, rest⟩
theorem Far.lab {S : Nat → Prop} {w : World} (h : Far S w) : ∀ k cur fr, S k → w.heap[k]? ≠ some (.cells cur 26 fr) := fun k cur fr hk e => by
  obtain ⟨o, h1, h2⟩ := h k hk
  rw [h1] at e
  injection e with e
  exact (h2 cur fr).1 e
theorem Far.int {S : Nat → Prop} {w : World} (h : Far S w) : ∀ k cur fr, S k → w.heap[k]? ≠ some (.cells cur 3 fr) := fun k cur fr hk e => by
  obtain ⟨o, h1, h2⟩ := h k hk
  rw [h1] at e
  injection e with e
  exact (h2 cur fr).2.1 e
theorem Far.idx {S : Nat → Prop} {w w' : World} (h : Far S w) (t : Turns S w w') {x : Nat} {cur : Array Value} {fr : Nat × Nat} (hx : w.heap[x]? = some (.cells cur 66 fr)) : w'.heap[x]? = some (.cells cur 66 fr) :=
  (t.block x (Array.getElem?_eq_some_iff.1 hx).1 fun hs => by
    obtain ⟨o, h1, h2⟩ := h x hs
    rw [h1] at hx
    injection hx with hx
    exact (h2 cur fr).2.2 hx).trans hx
theorem Far.none {w : World} : Far (fun _ => False) w := fun _ h => h.elim
theorem IsLabs.turns {S : Nat → Prop} {w w' : World} {a : Option Addr} {ls : List Lab} (h : IsLabs w a ls) (t : Turns S w w') (hm : AreMaps S w) : IsLabs w' a ls := fun hp => by
  obtain ⟨b, off, e, hc⟩ := h hp
  exact ⟨b, off, e, fun j hj => ⟨t.cell hm (hc j hj).1, t.cell hm (hc j hj).2⟩⟩
theorem IsZ.turns {S : Nat → Prop} {w w' : World} {a : Option Addr} {l : List Int} (h : IsZ w a l) (t : Turns S w w') (hm : AreMaps S w) : IsZ w' a l := fun hp => by
  obtain ⟨b, off, e, hc⟩ := h hp
  exact ⟨b, off, e, fun j hj => t.cell hm (hc j hj)⟩
theorem SlZ.turns {S : Nat → Prop} {w w' : World} {l : List Int} {A : Option Addr} {n c K : Nat} (h : SlZ w l A n c K) (t : Turns S w w') (hm : AreMaps S w) : SlZ w' l A n c K := ⟨h.len, h.nil, h.is.turns t hm, h.small, h.fits⟩
theorem Keeps.turns {S : Nat → Prop} {w w' : World} {k : TypeId} {b n : Nat} {f : Lit → Option Value} (h : Keeps w k b n f) (t : Turns S w w') (hb : ¬ S b) : Keeps w' k b n f := h.ofBlock (t.block b h.lt hb)

abbrev Ent := Int × List Lab
open Classical in
/-- The ids of a label. -/
noncomputable def who (T : List Ent) (y : Lab) : List Int := (T.filter fun p => decide (y ∈ p.2)).map Prod.fst
theorem mem_who {T : List Ent} {y : Lab} {z : Int} : z ∈ who T y ↔ ∃ ls, (z, ls) ∈ T ∧ y ∈ ls := by
  unfold who
  rw [List.mem_map]
  constructor
  · rintro ⟨⟨a, ls⟩, h, rfl⟩
    rw [List.mem_filter] at h
    exact ⟨ls, h.1, by simpa using h.2⟩
  · rintro ⟨ls, h1, h2⟩
    exact ⟨(z, ls), List.mem_filter.2 ⟨h1, by simpa using h2⟩, rfl⟩
theorem who_len (T : List Ent) (y : Lab) : (who T y).length ≤ T.length := by
  unfold who
  rw [List.length_map]
  exact List.length_filter_le _ _
theorem who_ne {T : List Ent} {y : Lab} : who T y ≠ [] ↔ ∃ p ∈ T, y ∈ p.2 := by
  rw [List.ne_nil_iff_exists_cons.trans (Iff.rfl : (∃ b L, who T y = b :: L) ↔ _)]
  constructor
  · rintro ⟨z, l, e⟩
    obtain ⟨ls, h1, h2⟩ := mem_who.1 (show z ∈ who T y by rw [e]; simp)
    exact ⟨_, h1, h2⟩
  · rintro ⟨p, h1, h2⟩
    have : p.1 ∈ who T y := mem_who.2 ⟨p.2, h1, h2⟩
    cases e : who T y with
    | nil => rw [e] at this; cases this
    | cons z l => exact ⟨z, l, rfl⟩
def smallL (y : Lab) : Prop := y.1.size ≤ 12 ∧ y.2.size ≤ 24
theorem set_small {ls : List Lab} (h : isSet ls = true) : ∀ y ∈ ls, smallL y := fun y hy => by
  obtain ⟨j, hj, e⟩ := List.getElem_of_mem hy
  have := okAt_size ((isSet_iff.1 h).2.2 j hj)
  rw [nth_eq hj, e] at this
  exact ⟨this.1, this.2.1⟩
theorem set_nodup {ls : List Lab} (h : isSet ls = true) : ls.Nodup := (set_pw h).imp fun {a b} hab e => by
  rw [e, lt_irrefl] at hab
  cases hab

theorem Tryz.laidOut10 : laidOutB Tryz.prog = true := by kernel_rfl
theorem Tryz.rowLab : (26 : TypeId) < Tryz.prog.types.size := of_decide_eq_true (by kernel_rfl)
theorem Tryz.wideLab : (match Tryz.prog.underlying 26 with | some (.array _ _) | some (.struct _) => true | _ => false) = true := by kernel_rfl
theorem Tryz.keyLab : Tryz.prog.keyTypeAt 2 26 = true := by kernel_rfl
set_option maxRecDepth 100000 in
theorem labLaw : Keyed Tryz.prog 26 := Keyed.of_law (deep_law_laid Tryz.laidOut10 (m := 2) (by omega) Tryz.rowLab Tryz.keyLab Tryz.wideLab)
theorem intLaw : Keyed Tryz.prog 3 := int_keyed Tryz.underlying3
def lk (y : Lab) : Lit := .string (keyBytes [.string y.1.data.toList, .string y.2.data.toList])
theorem Tryz.keyTypeLab : Tryz.prog.keyType 26 = true := by kernel_rfl
theorem Tryz.cellsLab : Tryz.prog.cellsOf 26 = 2 := by kernel_rfl
theorem Tryz.cellsStr : Tryz.prog.cellsOf 9 = 1 := by kernel_rfl
theorem Tryz.depthLab : ∃ d, Tryz.prog.types.size + 1 = d + 2 := ⟨_, rfl⟩
set_option maxRecDepth 100000 in
theorem lkey {y : Lab} (h : y.1.size ≤ 1000 ∧ y.2.size ≤ 1000) : keyOf Tryz.prog 26 (.agg #[.string y.1, .string y.2]) = some (lk y) := by
  have h1 : y.1.size ≤ maxLen := by unfold maxLen; omega
  have h2 : y.2.size ≤ maxLen := by unfold maxLen; omega
  obtain ⟨d, hd⟩ := Tryz.depthLab
  have hf : (Value.agg #[.string y.1, .string y.2]).formed Tryz.prog 26 = true := by
    simp [Value.formed, Tryz.underlying26, Tryz.cellsLab]
  have hs : ∀ (u : ByteArray), u.size ≤ maxLen → Tryz.prog.keyLits (d + 1) 9 [.string u] = some [.string u.data.toList] := fun u hu => by
    simp [Program.keyLits, Tryz.underlying9, hu]
  unfold keyOf
  simp only [Tryz.underlying26, Tryz.keyTypeLab, hf, Bool.and_self, if_true, hd, Value.cells]
  have e : Tryz.prog.keyLits (d + 2) 26 [.string y.1, .string y.2] = some [.string y.1.data.toList, .string y.2.data.toList] := by
    have a1 := hs _ h1
    have a2 := hs _ h2
    unfold Program.keyLits
    simp [Tryz.underlying26, Tryz.cellsLab, Tryz.cellsStr, a1, a2, List.mapM_cons, List.mapM_nil]
  rw [e]
  rfl
theorem lk_inj {a b : Lab} (ha : smallL a) (hb : smallL b) (h : lk a = lk b) : a = b := by
  have h1 := lkey (y := a) ⟨by have := ha.1; omega, by have := ha.2; omega⟩
  have h2 := lkey (y := b) ⟨by have := hb.1; omega, by have := hb.2; omega⟩
  rw [h] at h1
  have e := labLaw.inj h1 h2
  simp only [Value.agg.injEq, Array.mk.injEq, List.cons.injEq, Value.string.injEq, and_true] at e
  exact Prod.ext e.1 e.2

/-- Block b is the map of the ids' label sets. -/
def SetsAt (w : World) (b n : Nat) (T : List Ent) : Prop := ∃ f, Keeps w 3 b n f ∧ (∀ kl, (f kl).isSome = true ↔ ∃ p ∈ T, kl = .int .i64 p.1) ∧ ∀ p ∈ T, ∃ A c base, f (.int .i64 p.1) = some (.slice A p.2.length c) ∧ w.ownsRow base 26 2 (.slice A p.2.length c) p.2.length (lc p.2)
/-- Block b is the map of the labels' ids. -/
def PostAt (w : World) (b n : Nat) (g : Lab → List Int) : Prop := ∃ f, Keeps w 26 b n f ∧ (∀ kl, (f kl).isSome = true ↔ ∃ y, g y ≠ [] ∧ kl = lk y) ∧ (∀ y, g y ≠ [] → smallL y) ∧ ∀ y, g y ≠ [] → ∃ A m c base out, f (lk y) = some (.slice A m c) ∧ IsRise (g y) out ∧ w.ownsRow base 3 1 (.slice A m c) m (zs out) ∧ m ≤ 1000
theorem SetsAt.turns {S : Nat → Prop} {w w' : World} {b n : Nat} {T : List Ent} (h : SetsAt w b n T) (t : Turns S w w') (hm : Far S w) (hb : ¬ S b) : SetsAt w' b n T := by
  obtain ⟨f, h1, h2, h3⟩ := h
  exact ⟨f, h1.turns t hb, h2, fun p hp => by obtain ⟨A, c, base, e1, e2⟩ := h3 p hp; exact ⟨A, c, base, e1, own_turns e2 t hm.lab⟩⟩
theorem PostAt.turns {S : Nat → Prop} {w w' : World} {b n : Nat} {g : Lab → List Int} (h : PostAt w b n g) (t : Turns S w w') (hm : Far S w) (hb : ¬ S b) : PostAt w' b n g := by
  obtain ⟨f, h1, h2, h3, h4⟩ := h
  exact ⟨f, h1.turns t hb, h2, h3, fun y hy => by obtain ⟨A, m, c, base, out, e1, e2, e3, e4⟩ := h4 y hy; exact ⟨A, m, c, base, out, e1, e2, own_turns e3 t hm.int, e4⟩⟩
theorem PostAt.congr {w : World} {b n : Nat} {g g' : Lab → List Int} (h : PostAt w b n g) (e : ∀ y z, z ∈ g y ↔ z ∈ g' y) : PostAt w b n g' := by
  have hn : ∀ y, g y ≠ [] ↔ g' y ≠ [] := fun y => by
    have key : ∀ a b : List Int, (∀ z, z ∈ a ↔ z ∈ b) → a ≠ [] → b ≠ [] := fun a b hab ha hb => by
      subst hb
      exact ha (List.eq_nil_iff_forall_not_mem.2 fun z hz => by have := (hab z).1 hz; cases this)
    exact ⟨key _ _ (e y), key _ _ fun z => (e y z).symm⟩
  obtain ⟨f, h1, h2, h3, h4⟩ := h
  refine ⟨f, h1, fun kl => (h2 kl).trans ⟨fun ⟨y, a, b⟩ => ⟨y, (hn y).1 a, b⟩, fun ⟨y, a, b⟩ => ⟨y, (hn y).2 a, b⟩⟩, fun y hy => h3 y ((hn y).2 hy), fun y hy => ?_⟩
  obtain ⟨A, m, c, base, out, e1, e2, e3⟩ := h4 y ((hn y).2 hy)
  exact ⟨A, m, c, base, out, e1, e2.congr (e y), e3⟩
set_option maxRecDepth 100000 in
/-- What a label's look-up gives. -/
theorem PostAt.look {w : World} {b n : Nat} {g : Lab → List Int} (h : PostAt w b n g) (y : Lab) (hy : smallL y) : ∃ A m c out, IsRise (g y) out ∧ SlZ w out A m c 1000 ∧ ∀ (W : World) (t : TypeId), W.heap[b]? = w.heap[b]? → (Tryz.prog.underlying t = some (.map 26 29)) → (Instr.lookup t (.map (some b)) (.agg #[.string y.1, .string y.2]) false).run Tryz.prog W = .ok (.slice A m c) W := by
  obtain ⟨f, h1, h2, h3, h4⟩ := h
  have hk := lkey (y := y) ⟨by have := hy.1; omega, by have := hy.2; omega⟩
  have hz : ∀ W : World, (zeroValue 29).run Tryz.prog W = .ok (.slice none 0 0) W := fun W => by kernel_rfl
  by_cases e : g y = []
  · have hn : f (lk y) = none := by
      cases hf : f (lk y) with
      | none => rfl
      | some v =>
        obtain ⟨y', hy', e'⟩ := (h2 (lk y)).1 (by rw [hf]; rfl)
        rw [lk_inj hy (h3 y' hy') e'] at e
        exact absurd e hy'
    refine ⟨none, 0, 0, [], by rw [e]; exact IsRise.self List.Pairwise.nil, ⟨rfl, fun _ => rfl, IsZ.nil _ _, by omega, by omega⟩, fun W t hW ht => ?_⟩
    rw [run_lookup_tells false labLaw ht (hz W) (h1.ofBlock hW) hk, hn]
    rfl
  · obtain ⟨A, m, c, base, out, e1, e2, e3, e4⟩ := h4 y e
    obtain ⟨A', c', ea, es⟩ := GaveZ.of_own (K := 1000) e3 e4 (by omega)
    injection ea with ea1 ea2 ea3
    subst ea1 ea3
    refine ⟨A, m, c, out, e2, es, fun W t hW ht => ?_⟩
    rw [run_lookup_tells false labLaw ht (hz W) (h1.ofBlock hW) hk, e1]
    rfl
set_option maxRecDepth 100000 in
/-- A label's ids written. -/
theorem PostAt.put {w : World} {b n base : Nat} {g g' : Lab → List Int} {y : Lab} {A : Option Addr} {m c : Nat} {out : List Int} (h : PostAt w b n g) (hy : smallL y) (hn : n < maxLen) {t : TypeId} (ht : Tryz.prog.underlying t = some (.map 26 29))
    (hr : IsRise (g' y) out) (hs : w.ownsRow base 3 1 (.slice A m c) m (zs out)) (hm1 : m ≤ 1000) (hne : g' y ≠ []) (hg : ∀ x, x ≠ y → g' x = g x) :
    ∃ w', (Instr.mapUpdate t (.map (some b)) (.agg #[.string y.1, .string y.2]) (.slice A m c)).run Tryz.prog w = .ok () w' ∧ PostAt w' b (n + 1) g' ∧ w.mapTurned w' b := by
  obtain ⟨f, h1, h2, h3, h4⟩ := h
  have hk := lkey (y := y) ⟨by have := hy.1; omega, by have := hy.2; omega⟩
  obtain ⟨w', hrun, t1, tm⟩ := h1.store labLaw ht hn hk (.slice A m c)
  have tt : Turns (fun k => k = b) w w' := Turns.ofMap tm rfl
  have hm : AreMaps (fun k => k = b) w := fun k e => by subst e; exact h1.isMap
  have other : ∀ {x : Lab}, smallL x → x ≠ y → lk x ≠ lk y := fun hx hne e => hne (lk_inj hx hy e)
  refine ⟨w', hrun, ⟨_, t1, fun kl => ?_, fun x hx => ?_, fun x hx => ?_⟩, tm⟩
  · by_cases e : kl = lk y
    · subst e
      rw [setF_same]
      exact ⟨fun _ => ⟨y, hne, rfl⟩, fun _ => rfl⟩
    · rw [setF_other e, h2]
      constructor
      · rintro ⟨x, hx, rfl⟩
        exact ⟨x, by rw [hg x (fun e' => e (by rw [e']))]; exact hx, rfl⟩
      · rintro ⟨x, hx, rfl⟩
        exact ⟨x, by rw [← hg x (fun e' => e (by rw [e']))]; exact hx, rfl⟩
  · by_cases e : x = y
    · rw [e]; exact hy
    · exact h3 x (by rw [← hg x e]; exact hx)
  · by_cases e : x = y
    · subst e
      exact ⟨A, m, c, base, out, setF_same _ _ _, hr, own_turns hs tt hm.far.int, hm1⟩
    · have hx' : g x ≠ [] := by rw [← hg x e]; exact hx
      obtain ⟨A', m', c', base', out', e1, e2, e3, e4⟩ := h4 x hx'
      exact ⟨A', m', c', base', out', by rw [setF_other (other (h3 x hx') e)]; exact e1, by rw [hg x e]; exact e2, own_turns e3 tt hm.far.int, e4⟩
set_option maxRecDepth 100000 in
/-- A label struck. -/
theorem PostAt.cut {w : World} {b n : Nat} {g g' : Lab → List Int} {y : Lab} (h : PostAt w b n g) (hy : smallL y) {t : TypeId} (ht : Tryz.prog.underlying t = some (.map 26 29))
    (hne : g' y = []) (hg : ∀ x, x ≠ y → g' x = g x) :
    ∃ w', (∀ ty, (Builtin.delete_ #[t, 26] ty #[.map (some b), .agg #[.string y.1, .string y.2]]).run Tryz.prog w = .ok (.tuple #[]) w') ∧ PostAt w' b n g' ∧ w.mapTurned w' b := by
  obtain ⟨f, h1, h2, h3, h4⟩ := h
  have hk := lkey (y := y) ⟨by have := hy.1; omega, by have := hy.2; omega⟩
  obtain ⟨w', hrun, t1, tm⟩ := h1.cut labLaw ht hk
  have tt : Turns (fun k => k = b) w w' := Turns.ofMap tm rfl
  have hm : AreMaps (fun k => k = b) w := fun k e => by subst e; exact h1.isMap
  have ne : ∀ {x : Lab}, g' x ≠ [] → x ≠ y := fun hx e => hx (by rw [e]; exact hne)
  refine ⟨w', hrun, ⟨_, t1, fun kl => ?_, fun x hx => h3 x (by rw [← hg x (ne hx)]; exact hx), fun x hx => ?_⟩, tm⟩
  · by_cases e : kl = lk y
    · subst e
      rw [setF_same]
      constructor
      · intro h'; cases h'
      · rintro ⟨x, hx, e'⟩
        have hx' : g x ≠ [] := by rw [← hg x (ne hx)]; exact hx
        exact absurd (lk_inj (h3 x hx') hy e'.symm) (ne hx)
    · rw [setF_other e, h2]
      constructor
      · rintro ⟨x, hx, rfl⟩
        exact ⟨x, by rw [hg x (fun e' => e (by rw [e']))]; exact hx, rfl⟩
      · rintro ⟨x, hx, rfl⟩
        exact ⟨x, by rw [← hg x (ne hx)]; exact hx, rfl⟩
  · have hx' : g x ≠ [] := by rw [← hg x (ne hx)]; exact hx
    obtain ⟨A', m', c', base', out', e1, e2, e3, e4⟩ := h4 x hx'
    exact ⟨A', m', c', base', out', by rw [setF_other (fun e' => ne hx (lk_inj (h3 x hx') hy e'))]; exact e1, by rw [hg x (ne hx)]; exact e2, own_turns e3 tt hm.far.int, e4⟩
set_option maxRecDepth 100000 in
/-- What an id's look-up gives. -/
theorem SetsAt.look {w : World} {b n : Nat} {T : List Ent} (h : SetsAt w b n T) (id : Int) (hid : (Lit.int .i64 id).wf = true) {t : TypeId} (ht : Tryz.prog.underlying t = some (.map 3 27)) :
    (id ∉ T.map Prod.fst ∧ (Instr.lookup t (.map (some b)) (.int .i64 id) true).run Tryz.prog w = .ok (.tuple #[.slice none 0 0, .bool false]) w) ∨
    ∃ ls A c, (id, ls) ∈ T ∧ (A = none → c = 0) ∧ IsLabs w A ls ∧ (Instr.lookup t (.map (some b)) (.int .i64 id) true).run Tryz.prog w = .ok (.tuple #[.slice A ls.length c, .bool true]) w := by
  obtain ⟨f, h1, h2, h3⟩ := h
  have hk := keyOf_int_mk Tryz.underlying3 hid
  have hz : (zeroValue 27).run Tryz.prog w = .ok (.slice none 0 0) w := by kernel_rfl
  by_cases e : id ∈ T.map Prod.fst
  · obtain ⟨⟨a, ls⟩, hp, rfl⟩ := List.mem_map.1 e
    obtain ⟨A, c, base, e1, e2⟩ := h3 _ hp
    obtain ⟨A', c', ea, _, e3, e4, _⟩ := own_formL e2
    injection ea with ea1 ea2 ea3
    subst ea1 ea3
    refine .inr ⟨ls, A, c, hp, e3, e4, ?_⟩
    rw [run_lookup_tells true intLaw ht hz h1 hk, e1]
    rfl
  · refine .inl ⟨e, ?_⟩
    have hn : f (.int .i64 id) = none := by
      cases hf : f (.int .i64 id) with
      | none => rfl
      | some v =>
        obtain ⟨p, hp, e'⟩ := (h2 (.int .i64 id)).1 (by rw [hf]; rfl)
        injection e' with _ e'
        exact absurd (List.mem_map.2 ⟨p, hp, e'.symm⟩) e
    rw [run_lookup_tells true intLaw ht hz h1 hk, hn]
    rfl
set_option maxRecDepth 100000 in
/-- An id's labels written. -/
theorem SetsAt.put {w : World} {b n base : Nat} {T : List Ent} {id : Int} {ls : List Lab} {A : Option Addr} {c : Nat} (h : SetsAt w b n T) (hid : (Lit.int .i64 id).wf = true) (hnew : id ∉ T.map Prod.fst) (hn : n < maxLen) {t : TypeId} (ht : Tryz.prog.underlying t = some (.map 3 27))
    (hl : w.ownsRow base 26 2 (.slice A ls.length c) ls.length (lc ls)) :
    ∃ w', (Instr.mapUpdate t (.map (some b)) (.int .i64 id) (.slice A ls.length c)).run Tryz.prog w = .ok () w' ∧ SetsAt w' b (n + 1) (T ++ [(id, ls)]) ∧ w.mapTurned w' b := by
  obtain ⟨f, h1, h2, h3⟩ := h
  have hk := keyOf_int_mk Tryz.underlying3 hid
  obtain ⟨w', hrun, t1, tm⟩ := h1.store intLaw ht hn hk (.slice A ls.length c)
  have tt : Turns (fun k => k = b) w w' := Turns.ofMap tm rfl
  have hm : AreMaps (fun k => k = b) w := fun k e => by subst e; exact h1.isMap
  refine ⟨w', hrun, ⟨_, t1, fun kl => ?_, fun p hp => ?_⟩, tm⟩
  · by_cases e : kl = .int .i64 id
    · subst e
      rw [setF_same]
      exact ⟨fun _ => ⟨(id, ls), by simp, rfl⟩, fun _ => rfl⟩
    · rw [setF_other e, h2]
      constructor
      · rintro ⟨p, hp, e'⟩
        exact ⟨p, by simp [hp], e'⟩
      · rintro ⟨p, hp, e'⟩
        rw [List.mem_append] at hp
        rcases hp with hp | hp
        · exact ⟨p, hp, e'⟩
        · obtain rfl : p = (id, ls) := by simpa using hp
          exact absurd e' e
  · rw [List.mem_append] at hp
    rcases hp with hp | hp
    · obtain ⟨A', c', base', e1, e2⟩ := h3 p hp
      refine ⟨A', c', base', ?_, own_turns e2 tt hm.far.lab⟩
      rw [setF_other (fun e' => ?_)]
      · exact e1
      · injection e' with _ e'
        exact hnew (List.mem_map.2 ⟨p, hp, e'⟩)
    · obtain rfl : p = (id, ls) := by simpa using hp
      exact ⟨A, c, base, setF_same _ _ _, own_turns hl tt hm.far.lab⟩
set_option maxRecDepth 100000 in
/-- An id struck. -/
theorem SetsAt.cut {w : World} {b n : Nat} {T : List Ent} {id : Int} (h : SetsAt w b n T) (hid : (Lit.int .i64 id).wf = true) {t : TypeId} (ht : Tryz.prog.underlying t = some (.map 3 27)) :
    ∃ w', (∀ ty, (Builtin.delete_ #[t, 3] ty #[.map (some b), .int .i64 id]).run Tryz.prog w = .ok (.tuple #[]) w') ∧ SetsAt w' b n (T.filter fun p => decide (p.1 ≠ id)) ∧ w.mapTurned w' b := by
  obtain ⟨f, h1, h2, h3⟩ := h
  have hk := keyOf_int_mk Tryz.underlying3 hid
  obtain ⟨w', hrun, t1, tm⟩ := h1.cut intLaw ht hk
  have tt : Turns (fun k => k = b) w w' := Turns.ofMap tm rfl
  have hm : AreMaps (fun k => k = b) w := fun k e => by subst e; exact h1.isMap
  have hi : ∀ {p : Ent}, p.1 ≠ id → Lit.int .i64 p.1 ≠ Lit.int .i64 id := fun hp e => by injection e with _ e; exact hp e
  refine ⟨w', hrun, ⟨_, t1, fun kl => ?_, fun p hp => ?_⟩, tm⟩
  · by_cases e : kl = .int .i64 id
    · subst e
      rw [setF_same]
      constructor
      · intro h'; cases h'
      · rintro ⟨p, hp, e'⟩
        have := (List.mem_filter.1 hp).2
        exact absurd e'.symm (hi (by simpa using this))
    · rw [setF_other e, h2]
      constructor
      · rintro ⟨p, hp, rfl⟩
        exact ⟨p, List.mem_filter.2 ⟨hp, by simpa using fun e' => e (by rw [e'])⟩, rfl⟩
      · rintro ⟨p, hp, e'⟩
        exact ⟨p, (List.mem_filter.1 hp).1, e'⟩
  · obtain ⟨hp1, hp2⟩ := List.mem_filter.1 hp
    obtain ⟨A', c', base', e1, e2⟩ := h3 p hp1
    exact ⟨A', c', base', by rw [setF_other (hi (by simpa using hp2))]; exact e1, own_turns e2 tt hm.far.lab⟩

/-- The index at x tells T. -/
structure IdxAt (w : World) (x b1 b2 N : Nat) (T : List Ent) : Prop where
  hx : w.heap[x]? = some (.cells #[.map (some b1), .map (some b2)] 66 (0, 0))
  ne : b1 ≠ b2
  nd : (T.map Prod.fst).Nodup
  set : ∀ p ∈ T, isSet p.2 = true
  wf : ∀ p ∈ T, (Lit.int .i64 p.1).wf = true
  len : T.length ≤ 900
  room : N ≤ 1000
  sets : SetsAt w b1 N T
  posts : PostAt w b2 N (who T)
theorem row_cell {W : World} {b j : Nat} {cs : Array Value} {ty : TypeId} {fr : Nat × Nat} {v : Value} (h : W.heap[b]? = some (.cells cs ty fr)) (hj : cs[j]? = some v) : W.cell? ⟨b, j, none⟩ = some v := by
  simp [World.cell?, h, hj]
theorem IdxAt.c0 {w : World} {x b1 b2 N : Nat} {T : List Ent} (h : IdxAt w x b1 b2 N T) : w.cell? ⟨x, 0, none⟩ = some (.map (some b1)) := row_cell h.hx rfl
theorem IdxAt.c1 {w : World} {x b1 b2 N : Nat} {T : List Ent} (h : IdxAt w x b1 b2 N T) : w.cell? ⟨x, 1, none⟩ = some (.map (some b2)) := row_cell h.hx rfl
/-- The two maps of an index. -/
def S2 (b1 b2 : Nat) : Nat → Prop := fun k => k = b1 ∨ k = b2
theorem IdxAt.maps {w : World} {x b1 b2 N : Nat} {T : List Ent} (h : IdxAt w x b1 b2 N T) : AreMaps (S2 b1 b2) w := fun k hk => by
  obtain ⟨f, t1, _⟩ := h.sets
  obtain ⟨g, t2, _⟩ := h.posts
  rcases hk with rfl | rfl
  · exact t1.isMap
  · exact t2.isMap
/-- Rows that are none of the index's turn: it stays. -/
theorem IdxAt.turns {S : Nat → Prop} {w w' : World} {x b1 b2 N : Nat} {T : List Ent} (h : IdxAt w x b1 b2 N T) (t : Turns S w w') (hf : Far S w) (h1 : ¬ S b1) (h2 : ¬ S b2) : IdxAt w' x b1 b2 N T :=
  ⟨hf.idx t h.hx, h.ne, h.nd, h.set, h.wf, h.len, h.room, h.sets.turns t hf h1, h.posts.turns t hf h2⟩
theorem IdxAt.below {w w' : World} {x b1 b2 N : Nat} {T : List Ent} (h : IdxAt w x b1 b2 N T) (hb : Below w.heap.size w w') : IdxAt w' x b1 b2 N T := h.turns (S := fun _ => False) (Turns.ofBelow hb) Far.none (fun e => e) (fun e => e)
end Go.Proofs.YtlfcjjlgkcfkdaaGreatDoor
namespace Go.Proofs.YtlfcjjlgkcfkdaaGreatDoor
open Go.RowKit Go.Maps Go.Sort La

theorem setsAt_new {w : World} {b : Nat} {k : TypeId} (h : Keeps w k b 0 (fun _ => none)) (hk : k = 3) : SetsAt w b 0 [] := by
  subst hk
  exact ⟨_, h, fun kl => by simp, fun p hp => by cases hp⟩
theorem postAt_new {w : World} {b : Nat} {k : TypeId} (h : Keeps w k b 0 (fun _ => none)) (hk : k = 26) : PostAt w b 0 (who []) := by
  subst hk
  exact ⟨_, h, fun kl => by simp [who], fun y hy => absurd rfl hy, fun y hy => absurd rfl hy⟩
set_option maxRecDepth 100000 in
theorem inew_any (w : World) : Calls Tryz.prog 9 #[] w fun e w' => ∃ x b1 b2, e = .returned (.pointer (some ⟨x, 0, none⟩)) ∧ IdxAt w' x b1 b2 0 [] ∧ (w.heap.size ≤ x ∧ w.heap.size ≤ b1 ∧ w.heap.size ≤ b2) ∧ Below w.heap.size w w' := by
  have hmm := @run_makeMap Tryz.prog
  have t1 : Keeps (w.alloc (.map #[] 0)) 3 w.heap.size 0 (fun _ => none) := Keeps.made w _
  have t2 : Keeps ((w.alloc (.map #[] 0)).alloc (.map #[] 0)) 26 (w.alloc (.map #[] 0)).heap.size 0 (fun _ => none) := Keeps.made _ _
  have e1 : (w.alloc (.map #[] 0)).heap.size = w.heap.size + 1 := by simp
  rw [e1] at t2
  have b1 : Below w.heap.size w (w.alloc (.map #[] 0)) := (Below.refl _ _).alloc (Nat.le_refl _) _
  have b2 : Below (w.alloc (.map #[] 0)).heap.size (w.alloc (.map #[] 0)) ((w.alloc (.map #[] 0)).alloc (.map #[] 0)) := (Below.refl _ _).alloc (Nat.le_refl _) _
  have b3 : Below ((w.alloc (.map #[] 0)).alloc (.map #[] 0)).heap.size ((w.alloc (.map #[] 0)).alloc (.map #[] 0)) (((w.alloc (.map #[] 0)).alloc (.map #[] 0)).alloc (.cells #[.map (some w.heap.size), .map (some (w.heap.size + 1))] 66)) := (Below.refl _ _).alloc (Nat.le_refl _) _
  have bb : Below w.heap.size w (((w.alloc (.map #[] 0)).alloc (.map #[] 0)).alloc (.cells #[.map (some w.heap.size), .map (some (w.heap.size + 1))] 66)) := b1.trans ((b2.mono b1.size).trans (b3.mono (Nat.le_trans b1.size b2.size)))
  have hx : (((w.alloc (.map #[] 0)).alloc (.map #[] 0)).alloc (.cells #[.map (some w.heap.size), .map (some (w.heap.size + 1))] 66)).heap[w.heap.size + 1 + 1]? = some (.cells #[.map (some w.heap.size), .map (some (w.heap.size + 1))] 66 (0, 0)) := by
    have := World.alloc_heap_new ((w.alloc (.map #[] 0)).alloc (.map #[] 0)) (.cells #[.map (some w.heap.size), .map (some (w.heap.size + 1))] 66)
    simpa using this
  have R : Hid (IdxAt (((w.alloc (.map #[] 0)).alloc (.map #[] 0)).alloc (.cells #[.map (some w.heap.size), .map (some (w.heap.size + 1))] 66)) (w.heap.size + 1 + 1) w.heap.size (w.heap.size + 1) 0 [] ∧ Below w.heap.size w (((w.alloc (.map #[] 0)).alloc (.map #[] 0)).alloc (.cells #[.map (some w.heap.size), .map (some (w.heap.size + 1))] 66))) :=
    ⟨⟨hx, by omega, List.nodup_nil, (fun p hp => by cases hp), (fun p hp => by cases hp), by simp, by omega, setsAt_new ((t1.below b2).below b3) rfl, postAt_new (t2.below b3) rfl⟩, bb⟩
  clear t1 t2 b1 b2 b3 bb hx e1
  go_enter Tryz.func9, Tryz.ntmps9
  go_wp2
  go_ret
  exact ⟨_, _, _, rfl, R.out.1, by omega, R.out.2⟩
set_option maxRecDepth 100000 in
/-- As many labels as there are. -/
theorem ilen_any {w : World} {x b1 b2 N : Nat} {T : List Ent} (h : IdxAt w x b1 b2 N T) (l : List Lab) (hn : l.Nodup) (hl : ∀ y, y ∈ l ↔ who T y ≠ []) :
    Calls Tryz.prog 13 #[.pointer (some ⟨x, 0, none⟩)] w fun e w' => e = .returned (.int .i64 (l.length : Nat)) ∧ w' = w := by
  obtain ⟨f, t1, h2, h3, h4⟩ := h.posts
  have c1 := h.c1
  have hnd : (l.map lk).Nodup := by
    refine List.pairwise_map.2 (hn.imp_of_mem fun {a b} ha hb hne e => hne (lk_inj (h3 a ((hl a).1 ha)) (h3 b ((hl b).1 hb)) e))
  have hm : ∀ kl, kl ∈ l.map lk ↔ (f kl).isSome = true := fun kl => by
    rw [h2, List.mem_map]
    exact ⟨fun ⟨y, a, b⟩ => ⟨y, (hl y).1 a, b.symm⟩, fun ⟨y, a, b⟩ => ⟨y, (hl y).2 a, b.symm⟩⟩
  obtain ⟨D, o1, _, o3⟩ := t1.size labLaw hnd hm
  have hrun := o1.len Tryz.underlying64 3
  rw [o3, List.length_map] at hrun
  generalize l.length = L at *
  clear o1 o3 hm hnd h4 h3 h2 t1 hl hn h
  go_enter Tryz.func13, Tryz.ntmps13
  go_wp2
  go_ret
  exact ⟨rfl, rfl⟩
/-- maps.Keys, and slices.Collect of what it handed back: the keys, each once, in some order. -/
theorem keysz_any (mb : Option Nat) (W : World) : Calls Tryz.prog 37 #[.map mb] W fun e w' => e = .returned (.func (.func 57) #[] #[.pointer (some ⟨W.heap.size, 0, none⟩)]) ∧ w' = W.alloc (.cells #[.map mb] 63) :=
  callsIn_wide.1 (AnyZI.keys_in Tryz.keysZ Fence.wide 5 trivial rfl mb W)
set_option maxHeartbeats 1000000 in
theorem collectz_any {H : Type} (b nn : Nat) (D0 : DataW H) (R : Value → Option (DataW H × List MemPlace)) (w : World) (hown : w.ownsMap Tryz.prog 3 R b nn D0) (hmax : Maps.size D0 ≤ 1000) :
    Calls Tryz.prog 36 #[.func (.func 57) #[] #[.pointer (some ⟨w.heap.size, 0, none⟩)]] (w.alloc (.cells #[.map (some b)] 63)) fun e w' => ∃ (v : Value) (ss : List Int), e = .returned v ∧ ss.Perm (intKeys D0) ∧
      w'.ownsRow (w.alloc (.cells #[.map (some b)] 63)).heap.size 3 1 v ss.length (zs ss) ∧ Below (w.alloc (.cells #[.map (some b)] 63)).heap.size (w.alloc (.cells #[.map (some b)] 63)) w' := by
  have hbl := hown.lt
  have hseq : SeqGives Fence.wide 2 Tryz.prog 57 #[.pointer (some ⟨w.heap.size, 0, none⟩)] encZ (fun ss => ss.Perm (intKeys D0)) (Maps.size D0) (w.alloc (.cells #[.map (some b)] 63)) :=
    AnyZI.keys_gives (ρ := Tryz.keysZ_ren) { Tryz.keysZ with } Fence.wide _ trivial rfl (by omega) w.heap.size b nn D0 _ (by simp) (by simp) (by
      obtain ⟨es, clock, hb, Ft, hs, hD⟩ := hown
      exact ⟨es, clock, (Below.heap_alloc _ _ b hbl).trans hb, Ft, hs, hD⟩)
  refine (callsIn_wide.1 (AnyZI.collect_in Tryz.collectZ Fence.wide 4 trivial trivial rfl (by omega) 57 #[.pointer (some ⟨w.heap.size, 0, none⟩)] trivial (enters_of Tryz.func57 (by kernel_rfl) rfl) _ _ (by unfold maxLen; omega) (by omega) _ hseq)).mono ?_
  rintro e w' ⟨v, ss, h1, h2, h3, _, h5⟩
  exact ⟨v, ss, h1, h2, h3, h5⟩
set_option maxRecDepth 100000 in
theorem iids_any {w : World} {x b1 b2 N : Nat} {T : List Ent} (h : IdxAt w x b1 b2 N T) :
    Calls Tryz.prog 15 #[.pointer (some ⟨x, 0, none⟩)] w (GaveZ w (IsRise (T.map Prod.fst)) 1000) := by
  obtain ⟨f, t1, h2, h3⟩ := h.sets
  obtain ⟨D, o1, o2, o3, o4, o5, o6⟩ := t1.keys intLaw
  have c0 := h.c0
  have hin : ∀ z, z ∈ intKeys D ↔ z ∈ T.map Prod.fst := fun z => by
    obtain ⟨es, rfl, hko⟩ := o1.keysOf
    rw [List.mem_map]
    show z ∈ es.map (fun p => Go.intOf p.1) ↔ _
    rw [List.mem_map]
    constructor
    · rintro ⟨p, hp, rfl⟩
      have hk : p.1 ∈ keysL (DataW.map es) := List.mem_map.2 ⟨p, hp, rfl⟩
      obtain ⟨q, hq, e⟩ := (h2 p.1).1 ((o5 p.1).1 hk)
      exact ⟨q, hq, by rw [e]; rfl⟩
    · rintro ⟨q, hq, rfl⟩
      have hk := (o5 (.int .i64 q.1)).2 ((h2 _).2 ⟨q, hq, rfl⟩)
      obtain ⟨p, hp, e⟩ := List.mem_map.1 hk
      exact ⟨p, hp, by rw [e]; rfl⟩
  have hsz : Maps.size D ≤ 900 := by
    have e1 := (t1.size intLaw (l := T.map fun p => Lit.int .i64 p.1) (List.pairwise_map.2 ((List.pairwise_map.1 h.nd).imp fun {a b} hne e => hne (by injection e))) (fun kl => by
      rw [h2, List.mem_map]
      exact ⟨fun ⟨p, a, b⟩ => ⟨p, a, b.symm⟩, fun ⟨p, a, b⟩ => ⟨p, a, b.symm⟩⟩))
    have hk : (keysL D).length = T.length := by
      have hnd : (T.map fun p => Lit.int .i64 p.1).Nodup := List.pairwise_map.2 ((List.pairwise_map.1 h.nd).imp fun {a b} hne e => hne (by injection e))
      have := ((List.perm_ext_iff_of_nodup o3 hnd).2 fun kl => by
        rw [o5, h2, List.mem_map]
        exact ⟨fun ⟨p, a, b⟩ => ⟨p, a, b.symm⟩, fun ⟨p, a, b⟩ => ⟨p, a, b.symm⟩⟩).length_eq
      rw [this, List.length_map]
    rw [o4, hk]
    exact h.len
  have C1 := Lib.hid (keysz_any (some b1) w)
  have C2 := Lib.hid (collectz_any b1 _ D _ w o1 (by omega))
  have B0 : Hid (Below w.heap.size w (w.alloc (.cells #[.map (some b1)] 63))) := (Below.refl _ _).alloc (Nat.le_refl _) _
  have HIN := Lib.hid hin
  have HLEN : Hid ((intKeys D).length ≤ 900) := by
    have : (intKeys D).length = Maps.size D := by
      obtain ⟨es, rfl, _⟩ := o1.keysOf
      simp [intKeys, Maps.size]
    show _ ≤ _
    omega
  clear hin hsz o1 o2 o3 o4 o5 o6 t1 h2 h3 h
  go_enter Tryz.func15, Tryz.ntmps15
  go_wp2_with fail
  refine C1.out.mono ?_
  rintro e w1 ⟨rfl, rfl⟩
  go_wp2_with fail
  refine C2.out.mono ?_
  rintro e w2 ⟨v, ss, rfl, hp, ho, hb⟩
  have hb2 : Below w.heap.size w w2 := B0.out.trans (hb.mono B0.out.size)
  obtain ⟨A1, n1, rfl, s1⟩ := GaveZ.of_own (K := 1000) (w0 := w.heap.size) (own_baseZ ho B0.out.size) (by have := hp.length_eq; have := HLEN.out; omega) (by omega)
  have C3 := Lib.hid (make_s s1)
  have BB := Lib.hid hb2
  have HP := Lib.hid hp
  clear hp ho hb hb2 s1 C1 C2 B0
  go_wp2_with fail
  refine C3.out.mono ?_
  rintro e w3 ⟨o4, A4, n4, k4, rfl, r4, s4, bb⟩
  have Q : Hid (IsRise (T.map Prod.fst) o4 ∧ SlZ w3 o4 A4 n4 k4 1000 ∧ Below w.heap.size w w3) := ⟨r4.congr fun z => (HP.out.mem_iff).trans (HIN.out z), s4, BB.out.trans (bb.mono BB.out.size)⟩
  clear r4 s4 bb C3 BB
  go_wp2
  go_ret
  exact ⟨o4, A4, n4, k4, rfl, Q.out⟩
end Go.Proofs.YtlfcjjlgkcfkdaaGreatDoor

