/-
  What the program's found does, its two closures (And's, Not's), and slices.DeleteFunc of a row that one owns. Conditions: lengths fit.
-/
import Derived.Test.YtaklabggojfijaaProg
import Derived.Test.YtaklabggojfijaaEd
import Derived.Test.YtaklabggojfijaaEm
import Derived.Test.YtaklabggojfijaaEf
import Derived.Test.YtaklabggojfijaaIa
import Derived.Test.YtaklabggojfijaaZb
import Derived.Deep.QuietTactic
import Derived.Deep.RegionHeld3
import Derived.WalkKit
import Derived.WalkSpells
import Derived.WalkLawsBesides
import Derived.Lib.Hide
import Derived.Below
import Derived.BigQuiet
import Derived.Lib.QuietBelow
import Derived.Laws.StructEq
import Derived.KernelRfl
import Derived.Laws.MakeOwn
import Derived.Laws.OwnMore
import Derived.OwnWalk
import Derived.Laws.CopyOwn
import Derived.Laws.AppendOwn
import Derived.IntWalk
import Derived.Sort.OwnSortedInts
import Derived.Deep.Slices
import Derived.OpenShut
import Derived.Test.YtaklabggojfijaaSf
namespace Go.Proofs.Ytaklabggojfijaa
open Go.RowKit Go.Sort

/-- A binary search tells whether the number is there. -/
theorem search_any (xs : List Int) (x : Int) (A : Option Addr) (nx ca : Nat) (w : World) (ex : xs.length = nx) (hx : nx ≤ 1099511627776) (ha : IsZ w A xs) (hs : xs.Pairwise (· ≤ ·)) :
    Calls Try.prog 33 #[.slice A nx ca, .int .i64 x] w fun e w' => (∃ k : Nat, e = .returned (.tuple #[.int .i64 (k : Int), .bool (decide (x ∈ xs))])) ∧ ∃ q, w' = w.drewN q := by
  by_cases h0 : nx = 0
  · subst h0
    obtain rfl : xs = [] := List.length_eq_zero_iff.1 ex
    exact (Try.slices_BinarySearch_int_empty A ca x w).mono fun e w' ⟨h1, h2⟩ => ⟨⟨0, by rw [h1]; simp⟩, 0, h2⟩
  · obtain ⟨b, off, rfl, hc⟩ := ha (by omega)
    have ht : xs.take nx = xs := List.take_of_length_le (by omega)
    have hcon : xs.contains x = decide (x ∈ xs) := by simp
    have K := Try.slices_BinarySearch_int b off nx ca xs x w (by omega) (by omega) hc (by rw [ht]; exact hs)
    rw [ht, hcon] at K
    exact K.mono fun e w' ⟨h1, h2⟩ => ⟨⟨_, h1⟩, h2⟩
set_option maxRecDepth 100000 in
theorem found_any (xs : List Int) (x : Int) (A : Option Addr) (nx ca : Nat) (w : World) (ex : xs.length = nx) (hx : nx ≤ 1099511627776) (ha : IsZ w A xs) (hs : xs.Pairwise (· ≤ ·)) :
    Calls Try.prog 28 #[.slice A nx ca, .int .i64 x] w fun e w' => e = .returned (.bool (decide (x ∈ xs))) ∧ ∃ q, w' = w.drewN q := by
  have C := Lib.hid (search_any xs x A nx ca w ex hx ha hs)
  clear ha hs
  generalize decide (x ∈ xs) = b at *
  go_enter Try.func28, Try.ntmps28
  go_wp2_with fail
  refine C.out.mono ?_
  rintro e w' ⟨⟨k, rfl⟩, q, rfl⟩
  clear C
  go_wp2
  go_ret
  exact ⟨rfl, q, rfl⟩
set_option maxRecDepth 100000 in
theorem not1_any (xs : List Int) (x : Int) (A : Option Addr) (nx ca B : Nat) (w : World) (ex : xs.length = nx) (hx : nx ≤ 1099511627776) (hc : w.cell? ⟨B, 0, none⟩ = some (.slice A nx ca)) (ha : IsZ w A xs) (hs : xs.Pairwise (· ≤ ·)) :
    FnGives Try.prog 27 #[.pointer (some ⟨B, 0, none⟩)] #[.int .i64 x] (.bool (decide (x ∈ xs))) w := by
  show Calls Try.prog 27 #[.int .i64 x, .pointer (some ⟨B, 0, none⟩)] w _
  have C := Lib.hid (found_any xs x A nx ca w ex hx ha hs)
  clear ha hs
  generalize decide (x ∈ xs) = b at *
  go_enter Try.func27, Try.ntmps27
  go_wp2_with fail
  refine C.out.mono ?_
  rintro e w' ⟨rfl, q, rfl⟩
  clear C
  go_wp2
  go_ret
  exact ⟨rfl, q, rfl⟩

/-- A function value that tells of a number whether it goes: whatever world its captured variable and its row lie in. -/
def TellsZ (g : Nat) (p : Int → Bool) (B : Nat) (A : Option Addr) (nx ca : Nat) (xs : List Int) : Prop := ∀ (x : Int) (w : World), w.cell? ⟨B, 0, none⟩ = some (.slice A nx ca) → IsZ w A xs → FnGives Try.prog g #[.pointer (some ⟨B, 0, none⟩)] #[.int .i64 x] (.bool (p x)) w
set_option maxRecDepth 100000 in
/-- slices.DeleteFunc of a row that one owns. -/
theorem delete_any (g : Nat) (eg : ∀ args w, (callFunc g args).run Try.prog w = .ok (.enter g args) w) (p : Int → Bool) (B : Nat) (A : Option Addr) (nx ca : Nat) (xs : List Int) (ht : TellsZ g p B A nx ca xs) (l : List Int) (v : Value) (n base : Nat) (w : World)
    (ho : w.ownsRow base 3 1 v n (zs l)) (hn : n ≤ 1099511627776) (hB : B < w.heap.size) (hBb : B < base) (hbs : base ≤ w.heap.size) (hc : w.cell? ⟨B, 0, none⟩ = some (.slice A nx ca)) (ha : IsZ w A xs) (hA : ∀ b off, A = some ⟨b, off, none⟩ → b < base) :
    Calls Try.prog 26 #[v, .func (.func g) #[] #[.pointer (some ⟨B, 0, none⟩)]] w fun e w' => ∃ v', e = .returned v' ∧ w'.ownsRow base 3 1 v' (l.filter fun x => !p x).length (zs (l.filter fun x => !p x)) ∧ Below base w w' := by
  rcases own_split ho with ⟨rfl, rfl, rfl⟩ | ⟨gb, cap, rfl, hbase, hlt, hle, hmax, hl, hH⟩
  · have C := Lib.hid (Try.slices_IndexFunc_empty (α := Int) none 0 (.func (.func g) #[] #[.pointer (some ⟨B, 0, none⟩)]) w)
    clear ho hc ha ht eg
    go_enter Try.func26, Try.ntmps26
    go_wp2_with fail
    refine C.out.mono ?_
    rintro e w' ⟨rfl, rfl⟩
    clear C
    go_wp2
    go_ret
    exact ⟨_, rfl, World.ownsRow_nil _ _ _ _, Below.refl _ _⟩
  · subst hl
    have hp : PredAt Try.prog g #[.pointer (some ⟨B, 0, none⟩)] (Value.int .i64) p w := fun W x hb => ht x W ((hb.cell (p := ⟨B, 0, none⟩) hB).trans hc) (ha.below hb)
    have hpo : PredOver Try.prog g #[.pointer (some ⟨B, 0, none⟩)] (Value.int .i64) p gb 0 l.toArray.size w := fun m os dk x _ => by
      have hcell : ∀ b off, b < base → b < w.heap.size → (sortWorld (Value.int .i64) w gb 0 m dk os).cell? ⟨b, off, none⟩ = w.cell? ⟨b, off, none⟩ := fun b off h1 h2 => by
        unfold sortWorld
        rw [cell?_grow _ _ _ (by show b < (putRow _ _ _ _ _).heap.size; rw [size_putRow]; exact h2), cell?_putRow_other _ _ gb 0 _ _ (Or.inl (by show b ≠ gb; omega))]
        rfl
      refine ht x _ ((hcell B 0 hBb hB).trans hc) fun hpos => ?_
      obtain ⟨b, off, e, h⟩ := ha hpos
      exact ⟨b, off, e, fun j hj => (hcell b (off + j) (hA b off e) (World.block_lt_of_cell? w _ (h j hj))).trans (h j hj)⟩
    have K := Try.slices_DeleteFunc (Value.int .i64) (fun _ => rfl) p g #[.pointer (some ⟨B, 0, none⟩)] eg 0 Try.zeroValue3 gb 0 cap l.toArray w hp hpo hH (by simp; omega) (by simpa using hle)
    refine (by simpa using K : Calls Try.prog 26 #[.slice (some ⟨gb, 0, none⟩) l.length cap, .func (.func g) #[] #[.pointer (some ⟨B, 0, none⟩)]] w _).mono ?_
    rintro e w' ⟨rfl, q, rfl⟩
    refine ⟨_, rfl, ?_, ?_⟩
    · have h := own_put (q := q) (os := #[]) (d := (l.filter fun x => !p x) ++ List.replicate (l.length - (l.filter fun x => !p x).length) 0) (r := l.filter fun x => !p x) ho (by have := List.length_filter_le (fun x => !p x) l; simp; omega) (by rw [List.take_left']; rfl) rfl
      rw [grow_empty] at h
      simpa using h
    · have h := below_put (q := q) (os := #[]) (g := gb) (Below.refl base w) hbs hbase ((l.filter fun x => !p x) ++ List.replicate (l.length - (l.filter fun x => !p x).length) 0).toArray
      rw [grow_empty] at h
      simpa using h
/-- slices.Sort of a row that one owns. -/
theorem sort_own (l : List Int) (v : Value) (n base : Nat) (w : World) (ho : w.ownsRow base 3 1 v n (zs l)) (hn : n ≤ 1099511627776) (hb : base ≤ w.heap.size) :
    Calls Try.prog 30 #[v] w fun e w' => e = .returned (.tuple #[]) ∧ w'.ownsRow base 3 1 v n (zs (l.mergeSort fun x y => decide (x ≤ y))) ∧ Below base w w' := by
  rcases own_split ho with ⟨rfl, rfl, rfl⟩ | ⟨g, cap, rfl, hbase, hlt, hle, hmax, hl, hH⟩
  · exact (Try.slices_Sort_int_none none 0 w).mono fun e w' ⟨h1, h2⟩ => ⟨h1, by rw [h2]; simpa using ho, by rw [h2]; exact Below.refl _ _⟩
  · subst hl
    refine (Try.slices_Sort_int g 0 cap l w hH hlt (by omega)).mono ?_
    rintro e w' ⟨rfl, m, os, rfl⟩
    have hlen : (l.mergeSort fun x y => decide (x ≤ y)).length = l.length := List.length_mergeSort l
    exact ⟨rfl, own_put ho hlen (by rw [List.take_of_length_le (by rw [hlen]; exact Nat.le_refl _)]) hlen, below_put (Below.refl _ _) hb hbase _⟩
/-- slices.Compact of a row that one owns. -/
theorem compact_own (l : List Int) (v : Value) (n base : Nat) (w : World) (ho : w.ownsRow base 3 1 v n (zs l)) (hn : n ≤ 1099511627776) (hb : base ≤ w.heap.size) :
    Calls Try.prog 31 #[v] w fun e w' => ∃ v', e = .returned v' ∧ w'.ownsRow base 3 1 v' (Lib.compact l).length (zs (Lib.compact l)) ∧ Below base w w' := by
  rcases own_split ho with ⟨rfl, rfl, rfl⟩ | ⟨g, cap, rfl, hbase, hlt, hle, hmax, hl, hH⟩
  · exact (Try.slices_Compact_int_empty none 0 w).mono fun e w' ⟨h1, h2⟩ => ⟨_, h1, by rw [h2, show Lib.compact ([] : List Int) = [] from rfl]; exact ho, by rw [h2]; exact Below.refl _ _⟩
  · subst hl
    refine (Try.slices_Compact_int g 0 cap l w hH (by omega) hle).mono ?_
    rintro e w' ⟨rfl, q, rfl⟩
    have hlen := compact_len l
    refine ⟨_, rfl, ?_, ?_⟩
    · have h := own_put (q := q) (os := #[]) (d := Lib.compact l ++ List.replicate (l.length - (Lib.compact l).length) 0) (r := Lib.compact l) ho (by simp; omega) (by rw [List.take_left']; rfl) rfl
      rwa [grow_empty] at h
    · have h := below_put (q := q) (os := #[]) (g := g) (Below.refl base w) hb hbase (Lib.compact l ++ List.replicate (l.length - (Lib.compact l).length) 0).toArray
      rwa [grow_empty] at h

end Go.Proofs.Ytaklabggojfijaa
