/-
  A stable sort by blocks and merges, as mathematics: rows as functions of places; exchanges; insertion, rotation and merging by exchanges keep what they hold, and sort it. Conditions: an order that is transitive, and of any two numbers that stand the wrong way round tells which comes first.
  What slices.insertionSortCmpFunc does to a row of labels with Make's comparison: it sorts it by names. Conditions: no more than 6 labels.
  What vint.Put and the reference's Put do, for every number: they return a new slice that holds 'put n', and write nothing that was there.
  What PutText (the program's and the reference's) does, for every text: it returns a new slice with the bytes that the chapter names. Condition at PutText: the text has at most 2^47 - 4096 bytes.
  Plain mathematics of chapter 4: a set's bytes, what bytes are read as, projections. No conditions.
  What Bytes does: a new slice with the set's bytes, none of labels that are no set. Conditions: lengths fit.
  What Project and the reference's Project do. Conditions: values have no more than 24 bytes; no more than 20 names.
-/
import Derived.Test.YtjmojjjgifkkiaaDoorProg
import Derived.Test.YtjmojjjgifkkiaaDoorZ23
import Derived.Test.YtjmojjjgifkkiaaDoorZ26
import Derived.Below
import Derived.Lib.QuietBelow
import Derived.Laws.Externs
import Derived.Laws.AppendOwn
import Derived.Laws.OwnMore
import Derived.BigQuiet
import Derived.Laws.StructEq
import Derived.WalkKit
import Derived.WalkSpells
import Derived.WalkLawsBesides
import Derived.Lib.Hide
import Derived.Lib.AppendStr
import Derived.Laws.BytesArg
import Derived.Shelf.Bytes.SlSmallAll
import Derived.Laws.AppendOwnNone
import Derived.KernelRfl
import Derived.Deep.RegionHeld3
import Derived.Lib.Bytealg
import Derived.Lib.LazyBuf
import Derived.Laws.ResultCell
namespace Go.Proofs.YtjmojjjgifkkiaaDoor
namespace So
/-- The row with two places exchanged. -/
def sw (d : Nat → Nat) (i j k : Nat) : Nat := if k = i then d j else if k = j then d i else d k
/-- d' is made of d by exchanges of places in [a, b). -/
inductive Via (a b : Nat) (d : Nat → Nat) : (Nat → Nat) → Prop where
  | refl : Via a b d d
  | step {d' : Nat → Nat} (i j : Nat) : Via a b d d' → a ≤ i → i < b → a ≤ j → j < b → Via a b d (sw d' i j)
theorem Via.mono {a b a' b' : Nat} {d d' : Nat → Nat} (h : Via a b d d') (ha : a' ≤ a) (hb : b ≤ b') : Via a' b' d d' := by
  induction h with
  | refl => exact .refl
  | step i j _ h1 h2 h3 h4 ih => exact .step i j ih (by omega) (by omega) (by omega) (by omega)
theorem Via.trans {a b : Nat} {d d' d'' : Nat → Nat} (h : Via a b d d') (h' : Via a b d' d'') : Via a b d d'' := by
  induction h' with
  | refl => exact h
  | step i j _ h1 h2 h3 h4 ih => exact .step i j ih h1 h2 h3 h4
theorem Via.out {a b : Nat} {d d' : Nat → Nat} (h : Via a b d d') (k : Nat) (hk : k < a ∨ b ≤ k) : d' k = d k := by
  induction h with
  | refl => rfl
  | step i j _ h1 h2 h3 h4 ih =>
    unfold sw
    rw [if_neg (by omega), if_neg (by omega)]
    exact ih
/-- What holds of all that stands in [a, b) holds behind the exchanges. -/
theorem Via.all {a b : Nat} {d d' : Nat → Nat} (h : Via a b d d') (P : Nat → Prop) (hp : ∀ k, a ≤ k → k < b → P (d k)) : ∀ k, a ≤ k → k < b → P (d' k) := by
  induction h with
  | refl => exact hp
  | step i j _ h1 h2 h3 h4 ih =>
    intro k k1 k2
    unfold sw
    split
    · exact ih j h3 h4
    · split
      · exact ih i h1 h2
      · exact ih k k1 k2
theorem sw_perm (d : Nat → Nat) (n i j : Nat) (hi : i < n) (hj : j < n) : ((List.range n).map (sw d i j)).Perm ((List.range n).map d) := by
  have hi' : i < ((List.range n).map d).toArray.size := by simpa using hi
  have hj' : j < ((List.range n).map d).toArray.size := by simpa using hj
  have h := Array.swap_perm (xs := ((List.range n).map d).toArray) hi' hj'
  rw [Array.perm_iff_toList_perm] at h
  refine List.Perm.trans (List.Perm.of_eq ?_) h
  refine List.ext_getElem (by simp) fun k h1 h2 => ?_
  have e := Array.getElem_swap (xs := ((List.range n).map d).toArray) hi' hj' (k := k) (by simpa using h2)
  rw [← Array.getElem_toList] at e
  rw [e]
  simp only [List.getElem_map, List.getElem_range, List.getElem_toArray, sw]
theorem Via.perm {a b n : Nat} {d d' : Nat → Nat} (h : Via a b d d') (hb : b ≤ n) : ((List.range n).map d').Perm ((List.range n).map d) := by
  induction h with
  | refl => exact .refl _
  | step i j _ h1 h2 h3 h4 ih => exact (sw_perm _ n i j (by omega) (by omega)).trans ih

/-- What the sort is told of the order. -/
structure Ord (R : Nat → Nat → Prop) (lt : Nat → Nat → Bool) : Prop where
  trans : ∀ {x y z}, R x y → R y z → R x z
  yes : ∀ {x y}, y < x → lt x y = true → R x y
  no : ∀ {x y}, y < x → lt x y = false → R y x

variable {R : Nat → Nat → Prop} {lt : Nat → Nat → Bool}
def Sorted (R : Nat → Nat → Prop) (d : Nat → Nat) (a b : Nat) : Prop := ∀ i j, a ≤ i → i < j → j < b → R (d i) (d j)
/-- All of [a, m) are lesser numbers than all of [m, b). -/
def Cross (d : Nat → Nat) (a m b : Nat) : Prop := ∀ i j, a ≤ i → i < m → m ≤ j → j < b → d i < d j
def Asc (d : Nat → Nat) (a b : Nat) : Prop := ∀ i j, a ≤ i → i < j → j < b → d i < d j
theorem Sorted.sub {d : Nat → Nat} {a b a' b' : Nat} (h : Sorted R d a b) (h1 : a ≤ a') (h2 : b' ≤ b) : Sorted R d a' b' := fun i j x y z => h i j (by omega) y (by omega)
theorem Sorted.congr {d d' : Nat → Nat} {a b : Nat} (h : Sorted R d a b) (he : ∀ k, a ≤ k → k < b → d' k = d k) : Sorted R d' a b := fun i j x y z => by
  rw [he i x (by omega), he j (by omega) z]; exact h i j x y z

/-! ### insertion -/
/-- Behind some rounds of the inner loop: the number of place i has come to place j. -/
structure Ins (R : Nat → Nat → Prop) (d0 d : Nat → Nat) (a i j : Nat) : Prop where
  via : Via a (i + 1) d0 d
  rest : ∀ p q, a ≤ p → p < q → q ≤ i → p ≠ j → q ≠ j → R (d p) (d q)
  up : ∀ q, j < q → q ≤ i → R (d j) (d q)
  big : ∀ p, a ≤ p → p ≤ i → p ≠ j → d p < d j
theorem Ins.start {d0 d : Nat → Nat} {a i : Nat} (hv : Via a i d0 d) (hs : Sorted R d a i) (hc : ∀ k, a ≤ k → k < i → d0 k < d0 i) : Ins R d0 d a i i where
  via := hv.mono (Nat.le_refl _) (by omega)
  rest p q h1 h2 h3 h4 h5 := hs p q h1 h2 (by omega)
  up q h1 h2 := by omega
  big p h1 h2 h3 := by
    have e : d i = d0 i := hv.out i (.inr (Nat.le_refl _))
    rw [e]
    exact hv.all (fun x => x < d0 i) hc p h1 (by omega)
theorem Ins.swap {d0 d : Nat → Nat} {a i j : Nat} (H : Ord R lt) (h : Ins R d0 d a i (j + 1)) (ha : a ≤ j) (hj : j + 1 ≤ i) (hl : lt (d (j + 1)) (d j) = true) : Ins R d0 (sw d (j + 1) j) a i j := by
  have r0 : R (d (j + 1)) (d j) := H.yes (h.big j ha (by omega) (by omega)) hl
  have s1 : sw d (j + 1) j j = d (j + 1) := by unfold sw; rw [if_neg (by omega), if_pos rfl]
  have s2 : sw d (j + 1) j (j + 1) = d j := by unfold sw; rw [if_pos rfl]
  have s3 : ∀ k, k ≠ j → k ≠ j + 1 → sw d (j + 1) j k = d k := fun k h1 h2 => by unfold sw; rw [if_neg h2, if_neg h1]
  refine ⟨h.via.step _ _ (by omega) (by omega) ha (by omega), fun p q h1 h2 h3 h4 h5 => ?_, fun q h1 h2 => ?_, fun p h1 h2 h3 => ?_⟩
  · by_cases c1 : p = j + 1
    · rw [c1, s2, s3 q h5 (by omega)]
      exact h.rest j q ha (by omega) h3 (by omega) (by omega)
    · rw [s3 p h4 c1]
      by_cases c2 : q = j + 1
      · rw [c2, s2]
        exact h.rest p j h1 (by omega) (by omega) c1 (by omega)
      · rw [s3 q h5 c2]
        exact h.rest p q h1 h2 h3 c1 c2
  · rw [s1]
    by_cases c : q = j + 1
    · rw [c, s2]; exact r0
    · rw [s3 q (by omega) c]
      exact h.up q (by omega) h2
  · rw [s1]
    by_cases c : p = j + 1
    · rw [c, s2]; exact h.big j ha (by omega) (by omega)
    · rw [s3 p h3 c]
      exact h.big p h1 h2 c
theorem Ins.stop {d0 d : Nat → Nat} {a i j : Nat} (H : Ord R lt) (h : Ins R d0 d a i j) (ha : a ≤ j) (hj : j ≤ i) (hl : j = a ∨ lt (d j) (d (j - 1)) = false) : Sorted R d a (i + 1) := by
  intro p q h1 h2 h3
  by_cases c1 : p = j
  · subst c1; exact h.up q h2 (by omega)
  · by_cases c2 : q = j
    · subst c2
      have hq : q ≠ a := by omega
      have hl' : lt (d q) (d (q - 1)) = false := hl.resolve_left hq
      have r1 : R (d (q - 1)) (d q) := H.no (h.big (q - 1) (by omega) (by omega) (by omega)) hl'
      by_cases c3 : p = q - 1
      · rw [c3]; exact r1
      · exact H.trans (h.rest p (q - 1) h1 (by omega) (by omega) c1 (by omega)) r1
    · exact h.rest p q h1 h2 (by omega) c1 c2

/-! ### two rows of places exchanged, a rotation -/
def swr (d : Nat → Nat) (a b n k : Nat) : Nat := if a ≤ k ∧ k < a + n then d (k - a + b) else if b ≤ k ∧ k < b + n then d (k - b + a) else d k
theorem swr_zero (d : Nat → Nat) (a b : Nat) : swr d a b 0 = d := by
  funext k; unfold swr; rw [if_neg (by omega), if_neg (by omega)]
theorem swr_succ (d : Nat → Nat) (a b n i : Nat) (hi : i < n) (h : a + n ≤ b) : sw (swr d a b i) (a + i) (b + i) = swr d a b (i + 1) := by
  funext k
  unfold sw swr
  repeat' split
  all_goals first | rfl | (congr 1; omega) | (exfalso; omega)
theorem swr_via (d : Nat → Nat) (a b n lo hi : Nat) (h : a + n ≤ b) (h1 : lo ≤ a) (h2 : b + n ≤ hi) : ∀ i, i ≤ n → Via lo hi d (swr d a b i)
  | 0, _ => by rw [swr_zero]; exact .refl
  | i + 1, hi' => by
    rw [← swr_succ d a b n i (by omega) h]
    exact (swr_via d a b n lo hi h h1 h2 i (by omega)).step _ _ (by omega) (by omega) (by omega) (by omega)
def rot (d : Nat → Nat) (a m b k : Nat) : Nat := if a ≤ k ∧ k < a + (b - m) then d (k - a + m) else if a + (b - m) ≤ k ∧ k < b then d (k - (b - m)) else d k
theorem rot_more (d : Nat → Nat) (m i j : Nat) (hi : i ≤ m) (hj : 0 < j) (hij : j < i) : rot (swr d (m - i) m j) (m - (i - j)) m (m + j) = rot d (m - i) m (m + j) := by
  funext k
  unfold rot swr
  repeat' split
  all_goals first | rfl | (congr 1; omega) | (exfalso; omega)
theorem rot_less (d : Nat → Nat) (m i j : Nat) (hi : i ≤ m) (hi0 : 0 < i) (hij : i < j) : rot (swr d (m - i) (m + j - i) i) (m - i) m (m + (j - i)) = rot d (m - i) m (m + j) := by
  funext k
  unfold rot swr
  repeat' split
  all_goals first | rfl | (congr 1; omega) | (exfalso; omega)
theorem rot_same (d : Nat → Nat) (m i : Nat) (hi : i ≤ m) (h0 : 0 < i) : swr d (m - i) m i = rot d (m - i) m (m + i) := by
  funext k
  unfold rot swr
  repeat' split
  all_goals first | rfl | (congr 1; omega) | (exfalso; omega)
end So

end Go.Proofs.YtjmojjjgifkkiaaDoor
namespace Go.Proofs.YtjmojjjgifkkiaaDoor
open Go.RowKit La Go.Sort

/-- The labels in the order that d tells. -/
def rowL (ls : List Lab) (n : Nat) (d : Nat → Nat) : List Lab := (List.range n).map fun j => nth ls (d j)
theorem rowL_len (ls : List Lab) (n : Nat) (d : Nat → Nat) : (rowL ls n d).length = n := by simp [rowL]
theorem rowL_nth {ls : List Lab} {n j : Nat} {d : Nat → Nat} (h : j < n) : nth (rowL ls n d) j = nth ls (d j) := by simp [rowL, nth, h]
/-- The row that is sorted: one's own; nothing else is written. -/
structure LabS (base B n cap : Nat) (ls : List Lab) (w0 : World) (d : Nat → Nat) (w : World) : Prop where
  own : w.ownsRow base 23 2 (.slice (some ⟨B, 0, none⟩) n cap) n (lc (rowL ls n d))
  bel : Below base w0 w
  siz : base ≤ w.heap.size
section
variable {base B n cap : Nat} {ls : List Lab} {w0 w : World} {d : Nat → Nat}
theorem LabS.cell (h : LabS base B n cap ls w0 d w) (j : Nat) (hj : j < n) : w.cell? ⟨B, j * 2, none⟩ = some (.string (nth ls (d j)).1) ∧ w.cell? ⟨B, j * 2 + 1, none⟩ = some (.string (nth ls (d j)).2) := by
  have := isLabs_at (own_labs h.own).1 (j := j) (by rw [rowL_len]; exact hj)
  rwa [Nat.zero_add, rowL_nth hj] at this
theorem LabS.free (h : LabS base B n cap ls w0 d w) (j : Nat) : w.frozen? ⟨B, j, none⟩ = false := h.own.frozenAt j
theorem LabS.grow {w' : World} (h : LabS base B n cap ls w0 d w) (hb : Below w.heap.size w w') : LabS base B n cap ls w0 d w' :=
  ⟨own_keepL h.own hb, h.bel.trans (hb.mono h.siz), Nat.le_trans h.siz hb.size⟩
theorem lc_set (l : List Lab) (i : Nat) (x : Lab) : ((lc l).set (i * 2) (.string x.1)).set (i * 2 + 1) (.string x.2) = lc (l.set i x) := by
  induction l generalizing i with
  | nil => rfl
  | cons y r ih =>
    cases i with
    | zero => simp [lc]
    | succ i =>
      have e1 : (i + 1) * 2 = i * 2 + 1 + 1 := by omega
      have e2 : ∀ (z : Lab) (m : List Lab), lc (z :: m) = .string z.1 :: .string z.2 :: lc m := fun _ _ => rfl
      rw [e1, e2, List.set_cons_succ, List.set_cons_succ, List.set_cons_succ, List.set_cons_succ, ih, List.set_cons_succ, e2]
theorem rowL_sw (ls : List Lab) (n : Nat) (d : Nat → Nat) (i j : Nat) (hi : i < n) (hj : j < n) : ((rowL ls n d).set i (nth ls (d j))).set j (nth ls (d i)) = rowL ls n (So.sw d i j) := by
  refine ext_nth (by simp [rowL]) fun k hk => ?_
  have hk' : k < n := by simpa [rowL] using hk
  rw [rowL_nth hk']
  unfold So.sw
  have hl : ∀ {a : List Lab} {x : Lab} {p : Nat}, p < a.length → nth (a.set p x) k = if p = k then x else nth a k := by
    intro a x p hp
    by_cases e : p = k
    · subst e; simp [nth, hp]
    · simp [nth, e]
  rw [hl (by rw [List.length_set, rowL_len]; exact hj), hl (by rw [rowL_len]; exact hi), rowL_nth hk']
  by_cases c1 : j = k
  · subst c1
    by_cases c2 : j = i
    · subst c2; simp
    · simp [c2]
  · rw [if_neg c1]
    by_cases c2 : i = k
    · subst c2; simp
    · rw [if_neg c2, if_neg (Ne.symm c2), if_neg (Ne.symm c1)]
theorem LabS.put (h : LabS base B n cap ls w0 d w) (i j : Nat) (hi : i < n) (hj : j < n) :
    LabS base B n cap ls w0 (So.sw d i j) ((((w.setCell ⟨B, i * 2, none⟩ (.string (nth ls (d j)).1)).setCell ⟨B, i * 2 + 1, none⟩ (.string (nth ls (d j)).2)).setCell ⟨B, j * 2, none⟩ (.string (nth ls (d i)).1)).setCell ⟨B, j * 2 + 1, none⟩ (.string (nth ls (d i)).2)) := by
  obtain ⟨s1, g1⟩ := h.own.stored (i * 2) (.string (nth ls (d j)).1)
  obtain ⟨s2, g2⟩ := s1.stored (i * 2 + 1) (.string (nth ls (d j)).2)
  obtain ⟨s3, g3⟩ := s2.stored (j * 2) (.string (nth ls (d i)).1)
  obtain ⟨s4, g4⟩ := s3.stored (j * 2 + 1) (.string (nth ls (d i)).2)
  rw [lc_set, lc_set, rowL_sw ls n d i j hi hj] at s4
  have g := ((g1.trans g2).trans g3).trans g4
  refine ⟨s4, h.bel.grown g h.siz (fun q hq => ?_), by have := g.size; have := h.siz; omega⟩
  have := own_geL h.own q hq
  exact this
theorem LabS.drew1 (h : LabS base B n cap ls w0 d w) : LabS base B n cap ls w0 d w.drew := ⟨h.own, h.bel.drew, h.siz⟩
end
/-- The order of the places: by names, then as they stood. -/
def ltP (ls : List Lab) (i j : Nat) : Bool := lt (nth ls i).1 (nth ls j).1
def RP (ls : List Lab) (i j : Nat) : Prop := ltP ls j i = false
theorem rp_ord (ls : List Lab) : So.Ord (RP ls) (ltP ls) where
  trans {x y z} h1 h2 := by
    unfold RP ltP at *
    cases h : lt (nth ls z).1 (nth ls x).1 with
    | false => rfl
    | true =>
      cases h3 : lt (nth ls x).1 (nth ls y).1 with
      | true => have := lt_trans h h3; rw [h2] at this; cases this
      | false => have := lt_total h3 h1; rw [this, h2] at h; cases h
  yes {x y} h1 h2 := by unfold RP ltP at *; exact lt_asymm h2
  no {x y} h1 h2 := by unfold RP ltP at *; exact h2

end Go.Proofs.YtjmojjjgifkkiaaDoor
namespace Go.Proofs.YtjmojjjgifkkiaaDoor
open Go.RowKit

def PutInv (w : World) (n : Nat) (a v : Value) (wr : World) : Prop :=
  ∃ (m : Nat) (acc : List Nat), acc.length ≤ 9 ∧ a = .int .u64 (m : Int) ∧ Vm.PutRel n acc m ∧ wr.ownsRow w.heap.size 5 1 v acc.length (by8 acc) ∧ Below w.heap.size w wr

theorem put_step {w wr w1 : World} {n m : Nat} {acc : List Nat} {v v' : Value} {o : Obj} (hl : acc.length ≤ 9) (hr : Vm.PutRel n acc m) (hm : 128 ≤ m) (hown : wr.ownsRow w.heap.size 5 1 v acc.length (by8 acc)) (hb : Below w.heap.size w wr)
    (hown' : w1.ownsRow w.heap.size 5 1 v' (acc.length + 1) (by8 acc ++ [.int .u8 ((m : Int) % 128 + 128)])) (hg : (wr.alloc o).grownBy w1 v.ownBlock) : PutInv w n (.int .u64 ((m / 128 : Nat) : Int)) v' w1 := by
  obtain ⟨h1, h2⟩ := Vm.putRel_step hl hr hm
  refine ⟨m / 128, acc ++ [m % 128 + 128], h1, rfl, h2, ?_, ?_⟩
  · have e : by8 (acc ++ [m % 128 + 128]) = by8 acc ++ [.int .u8 ((m : Int) % 128 + 128)] := by simp [by8]
    rw [e, List.length_append]; exact hown'
  · exact (hb.alloc hb.size o).grown hg (by have := hb.size; simp; omega) (own_ge hown)

theorem wrapq {m : Nat} (h : Vm.Fits m) : IntKind.u64.wrap ((m : Int) / 128) = ((m / 128 : Nat) : Int) := by
  unfold Vm.Fits at h; rw [IntKind.wrap_u64]; omega
theorem put_done {w wr w1 : World} {n m : Nat} {acc : List Nat} {v v' : Value} {o : Obj} (hr : Vm.PutRel n acc m) (hm : m < 128) (hown : wr.ownsRow w.heap.size 5 1 v acc.length (by8 acc)) (hb : Below w.heap.size w wr)
    (hown' : w1.ownsRow w.heap.size 5 1 v' (acc.length + 1) (by8 acc ++ [.int .u8 (m : Int)])) (hg : (wr.alloc o).grownBy w1 v.ownBlock) : MadeBytes w (Vm.put n) (.returned v') w1 := by
  refine ⟨v', rfl, ?_, (hb.alloc hb.size o).grown hg (by have := hb.size; simp; omega) (own_ge hown)⟩
  rw [← Vm.putRel_end hr hm, List.length_append]
  have e : by8 (acc ++ [m]) = by8 acc ++ [.int .u8 (m : Int)] := by simp [by8]
  rw [e]; exact hown'

set_option maxRecDepth 100000 in
set_option maxHeartbeats 400000 in
theorem put_any (n : Nat) (w : World) (hn : Vm.Fits n) : Calls Tryd.prog 56 #[.int .u64 (n : Int)] w (MadeBytes w (Vm.put n)) := by
  obtain ⟨i0, hi, hz0, hz1, hz2⟩ := info_parts Tryd.info5
  go_enter Tryd.func56, Tryd.ntmps56
  go_wp2
  go_loopw [0, 3] (fun a v wr => PutInv w n a v wr) (fun a _ _ => (intOf a).toNat)
  case atStart => exact ⟨n, [], by simp, rfl, Vm.putRel_start n hn, World.ownsRow_nil _ _ _ _, Below.refl _ _⟩
  case round =>
    obtain ⟨m, acc, hl, rfl, hrel, hown, hb⟩ := hrel
    have HR := Lib.hid hrel
    clear hrel
    by_cases hlt : 128 ≤ m
    · go_wp2_with (at_builtin; (refine wpList_append_own _ rfl _ _ 38 rfl w.heap.size 5 i0 (.int .u8 0) 1 1 Tryd.underlying38 hi hz0 hz1 hz2 rfl (by decide) _ _ _ rfl (hown.alloc _) ⟨wr.heap.size, 0, none⟩ 1 1 [.int .u8 ((m : Int) % 128 + 128)] rfl rfl (cell_one_new _ _ _) (one8 _) (len_ok hl) (by omega) (bel_size hb) ?_))
      intro v' w1 hown' hgrow _
      have R := put_step hl HR.out hlt hown hb hown' hgrow
      clear hown' hgrow hown hb
      go_wp2
      go_roundw
      case rel => exact R
      case measure => simp [intOf]; omega
    · go_wp2_with (at_builtin; (refine wpList_append_own _ rfl _ _ 38 rfl w.heap.size 5 i0 (.int .u8 0) 1 1 Tryd.underlying38 hi hz0 hz1 hz2 rfl (by decide) _ _ _ rfl (hown.alloc _) ⟨wr.heap.size, 0, none⟩ 1 1 [.int .u8 (m : Int)] rfl rfl (cell_one_new _ _ _) (one8 _) (len_ok hl) (by omega) (bel_size hb) ?_))
      intro v' w1 hown' hgrow _
      have R := put_done HR.out (by omega) hown hb hown' hgrow
      clear hown' hgrow hown hb
      go_wp2
      go_ret
      exact R

set_option maxRecDepth 100000 in
set_option maxHeartbeats 400000 in
theorem rput_any (n : Nat) (w : World) (hn : Vm.Fits n) : Calls Tryd.prog 58 #[.int .u64 (n : Int)] w (MadeBytes w (Vm.put n)) := by
  obtain ⟨i0, hi, hz0, hz1, hz2⟩ := info_parts Tryd.info5
  go_enter Tryd.func58, Tryd.ntmps58
  go_wp2
  go_loopw [0, 3] (fun a v wr => PutInv w n a v wr) (fun a _ _ => (intOf a).toNat)
  case atStart => exact ⟨n, [], by simp, rfl, Vm.putRel_start n hn, World.ownsRow_nil _ _ _ _, Below.refl _ _⟩
  case round =>
    obtain ⟨m, acc, hl, rfl, hrel, hown, hb⟩ := hrel
    have HR := Lib.hid hrel
    clear hrel
    by_cases hlt : 128 ≤ m
    · go_wp2_with (at_builtin; (refine wpList_append_own _ rfl _ _ 38 rfl w.heap.size 5 i0 (.int .u8 0) 1 1 Tryd.underlying38 hi hz0 hz1 hz2 rfl (by decide) _ _ _ rfl (hown.alloc _) ⟨wr.heap.size, 0, none⟩ 1 1 [.int .u8 ((m : Int) % 128 + 128)] rfl rfl (cell_one_new _ _ _) (one8 _) (len_ok hl) (by omega) (bel_size hb) ?_))
      intro v' w1 hown' hgrow _
      have R := put_step hl HR.out hlt hown hb hown' hgrow
      clear hown' hgrow hown hb
      go_wp2
      go_roundw
      case rel => rw [wrapq (Vm.fits_of HR.out)]; exact R
      case measure => rw [wrapq (Vm.fits_of HR.out)]; simp [intOf]; omega
    · go_wp2_with (at_builtin; (refine wpList_append_own _ rfl _ _ 38 rfl w.heap.size 5 i0 (.int .u8 0) 1 1 Tryd.underlying38 hi hz0 hz1 hz2 rfl (by decide) _ _ _ rfl (hown.alloc _) ⟨wr.heap.size, 0, none⟩ 1 1 [.int .u8 (m : Int)] rfl rfl (cell_one_new _ _ _) (one8 _) (len_ok hl) (by omega) (bel_size hb) ?_))
      intro v' w1 hown' hgrow _
      have R := put_done HR.out (by omega) hown hb hown' hgrow
      clear hown' hgrow hown hb
      go_wp2
      go_ret
      exact R


end Go.Proofs.YtjmojjjgifkkiaaDoor
namespace Go.Proofs.YtjmojjjgifkkiaaDoor
open Go.RowKit

def putText (s : ByteArray) : List Nat := Vm.put s.size ++ textL s

theorem ptext_done {w w1 w2 : World} {s : ByteArray} {v v' : Value} (ho : w1.ownsRow w.heap.size 5 1 v (Vm.put s.size).length (by8 (Vm.put s.size))) (hb : Below w.heap.size w w1)
    (hown' : w2.ownsRow w.heap.size 5 1 v' ((Vm.put s.size).length + s.size) (by8 (Vm.put s.size) ++ Lib.strCells s)) (hg : w1.grownBy w2 v.ownBlock) : MadeBytes w (putText s) (.returned v') w2 := by
  refine ⟨v', rfl, ?_, hb.grown hg hb.size (own_ge ho)⟩
  rw [putText, by8_app, by8_text, List.length_append, textL_length]
  exact hown'
theorem put_len (n : Nat) : (Vm.put n).length ≤ 10 := Vm.putF_len 9 n
theorem fits_size {s : ByteArray} (h : s.size ≤ 140737488351232) : Vm.Fits s.size := by unfold Vm.Fits; omega

set_option maxRecDepth 100000 in
set_option maxHeartbeats 400000 in
theorem ptext_any (s : ByteArray) (w : World) (hs : s.size ≤ 140737488351232) : Calls Tryd.prog 57 #[.string s] w (MadeBytes w (putText s)) := by
  obtain ⟨i0, hi, hz0, hz1, hz2⟩ := info_parts Tryd.info5
  have hpl := put_len s.size
  go_enter Tryd.func57, Tryd.ntmps57
  go_wp2_with fail
  refine (put_any s.size _ (fits_size hs)).mono ?_
  rintro e w1 ⟨v, rfl, ho, hb⟩
  go_wp2_with (at_builtin; (refine Lib.wpList_append_own_string _ rfl _ _ 38 9 rfl w.heap.size 5 i0 Tryd.underlying38 Tryd.underlying9 hi hz0 hz1 hz2 _ _ _ rfl ho s rfl (by unfold maxLen; omega) (by omega) hb.size ?_))
  intro v' w2 hown' hgrow _
  have R := ptext_done ho hb hown' hgrow
  clear hown' hgrow ho hb
  go_wp2
  go_ret
  exact R

set_option maxRecDepth 100000 in
set_option maxHeartbeats 400000 in
theorem rptext_any (s : ByteArray) (w : World) (hs : s.size ≤ 140737488351232) : Calls Tryd.prog 59 #[.string s] w (MadeBytes w (putText s)) := by
  obtain ⟨i0, hi, hz0, hz1, hz2⟩ := info_parts Tryd.info5
  have hpl := put_len s.size
  go_enter Tryd.func59, Tryd.ntmps59
  go_wp2_with fail
  refine (rput_any s.size _ (fits_size hs)).mono ?_
  rintro e w1 ⟨v, rfl, ho, hb⟩
  go_wp2_with (at_builtin; (refine Lib.wpList_append_own_string _ rfl _ _ 38 9 rfl w.heap.size 5 i0 Tryd.underlying38 Tryd.underlying9 hi hz0 hz1 hz2 _ _ _ rfl ho s rfl (by unfold maxLen; omega) (by omega) hb.size ?_))
  intro v' w2 hown' hgrow _
  have R := ptext_done ho hb hown' hgrow
  clear hown' hgrow ho hb
  go_wp2
  go_ret
  exact R


end Go.Proofs.YtjmojjjgifkkiaaDoor
namespace Go.Proofs.YtjmojjjgifkkiaaDoor
namespace La
/-! ### A set's bytes -/
def lab1 (x : Lab) : List Nat := putText x.1 ++ putText x.2
def setBytes (ls : List Lab) : List Nat := Vm.put ls.length ++ ls.flatMap lab1
def bytesOf (ls : List Lab) : List Nat := if isSet ls then setBytes ls else []
/-- The bytes of the first k labels. -/
def upTo (ls : List Lab) (k : Nat) : List Nat := Vm.put ls.length ++ (ls.take k).flatMap lab1
theorem upTo_zero (ls : List Lab) : upTo ls 0 = Vm.put ls.length := by simp [upTo]
theorem upTo_succ {ls : List Lab} {k : Nat} (h : k < ls.length) : upTo ls (k + 1) = upTo ls k ++ putText (nth ls k).1 ++ putText (nth ls k).2 := by
  show Vm.put ls.length ++ (ls.take (k + 1)).flatMap lab1 = Vm.put ls.length ++ (ls.take k).flatMap lab1 ++ _ ++ _
  rw [List.take_succ_eq_append_getElem h, nth_eq h, List.flatMap_append]
  simp only [List.flatMap_cons, List.flatMap_nil, lab1, List.append_assoc, List.append_nil]
theorem upTo_all (ls : List Lab) : upTo ls ls.length = setBytes ls := by rw [upTo, setBytes, List.take_length]
theorem ptext_len (s : ByteArray) : (putText s).length ≤ 10 + s.size := by
  rw [putText, List.length_append, textL_length]
  have := put_len s.size
  omega
theorem upTo_len {ls : List Lab} {m : Nat} (h : ∀ x ∈ ls, x.1.size ≤ m ∧ x.2.size ≤ m) : ∀ k, k ≤ ls.length → (upTo ls k).length ≤ 10 + k * (20 + 2 * m)
  | 0, _ => by rw [upTo_zero]; have := put_len ls.length; omega
  | k + 1, hk => by
    have ih := upTo_len h k (by omega)
    have h1 := h _ (nth_mem (ls := ls) (j := k) (by omega))
    rw [upTo_succ (by omega), List.length_append, List.length_append]
    have a := ptext_len (nth ls k).1
    have b := ptext_len (nth ls k).2
    rw [Nat.add_mul]
    omega
theorem set_sizes {ls : List Lab} (h : isSet ls = true) : ∀ x ∈ ls, x.1.size ≤ 24 ∧ x.2.size ≤ 24 := by
  intro x hx
  obtain ⟨j, hj, rfl⟩ := List.getElem_of_mem hx
  have := okAt_size ((isSet_iff.1 h).2.2 j hj)
  rw [nth_eq hj] at this
  omega

/-! ### Reading -/
/-- n labels that bytes begin with, and how many bytes they take. -/
def readN : Nat → List Nat → Option (List Lab × Nat)
  | 0, _ => some ([], 0)
  | n + 1, l =>
    match Vm.getText l 12 with
    | none => none
    | some (t, j) =>
      match Vm.getText (l.drop j) 24 with
      | none => none
      | some (u, m) => (readN n (l.drop (j + m))).map fun r => ((strOf t, strOf u) :: r.1, j + m + r.2)
def readSet (l : List Nat) : Option (List Lab × Nat) :=
  match Vm.dec l with
  | none => none
  | some (n, k) =>
    if 6 < n then none else
    match readN n (l.drop k) with
    | none => none
    | some (ls, m) => if isSet ls then some (ls, k + m) else none
/-- What a reading loop keeps: c labels were asked for, those of acc are read, the next one stands at place p. -/
def ReadRel (l : List Nat) (n k : Nat) (acc : List Lab) (p : Nat) : Prop :=
  acc.length ≤ n ∧ k ≤ p ∧ p ≤ l.length ∧ readN n (l.drop k) = (readN (n - acc.length) (l.drop p)).map fun r => (acc ++ r.1, p - k + r.2)
theorem readRel_start {l : List Nat} {n k : Nat} (h : k ≤ l.length) : ReadRel l n k [] k := by
  refine ⟨by simp, Nat.le_refl _, h, ?_⟩
  simp
theorem readRel_none1 {l : List Nat} {n k p : Nat} {acc : List Lab} (h : ReadRel l n k acc p) (hn : acc.length < n) (h1 : Vm.getText (l.drop p) 12 = none) : readN n (l.drop k) = none := by
  obtain ⟨_, _, _, e⟩ := h
  rw [e]
  obtain ⟨m, hm⟩ : ∃ m, n - acc.length = m + 1 := ⟨n - acc.length - 1, by omega⟩
  rw [hm, readN, h1]; rfl
theorem readRel_none2 {l : List Nat} {n k p j : Nat} {t : List Nat} {acc : List Lab} (h : ReadRel l n k acc p) (hn : acc.length < n) (h1 : Vm.getText (l.drop p) 12 = some (t, j)) (h2 : Vm.getText (l.drop (p + j)) 24 = none) : readN n (l.drop k) = none := by
  obtain ⟨_, _, _, e⟩ := h
  rw [e]
  obtain ⟨m, hm⟩ : ∃ m, n - acc.length = m + 1 := ⟨n - acc.length - 1, by omega⟩
  rw [hm, readN, h1]
  simp only [List.drop_drop, h2]; rfl
theorem getText_le {l t : List Nat} {most : Int} {j : Nat} (h : Vm.getText l most = some (t, j)) (hb : ∀ j, l.getD j 0 < 256) : j ≤ l.length ∧ 1 ≤ j ∧ (t.length : Int) ≤ most ∧ ∀ x ∈ t, x < 256 := by
  unfold Vm.getText at h
  cases hd : Vm.dec l with
  | none => rw [hd] at h; cases h
  | some q =>
    obtain ⟨n, k⟩ := q
    rw [hd] at h
    simp only at h
    have ok := Vm.dec_ok hd hb
    split at h
    · cases h
    · injection h with h
      injection h with h1 h2
      subst h1 h2
      refine ⟨by omega, by omega, by simp; omega, fun x hx => mem_of_getD hb x (List.mem_of_mem_drop (List.mem_of_mem_take hx))⟩
theorem drop_byte {l : List Nat} (hb : ∀ j, l.getD j 0 < 256) (p : Nat) : ∀ j, (l.drop p).getD j 0 < 256 := fun j => by
  have := hb (p + j)
  simpa [List.getD, List.getElem?_drop] using this
theorem readRel_step {l : List Nat} {n k p j m : Nat} {t u : List Nat} {acc : List Lab} (hb : ∀ j, l.getD j 0 < 256) (h : ReadRel l n k acc p) (hn : acc.length < n) (h1 : Vm.getText (l.drop p) 12 = some (t, j)) (h2 : Vm.getText (l.drop (p + j)) 24 = some (u, m)) :
    ReadRel l n k (acc ++ [(strOf t, strOf u)]) (p + j + m) := by
  obtain ⟨e0, e1, e2, e⟩ := h
  have g1 := getText_le h1 (drop_byte hb p)
  have g2 := getText_le h2 (drop_byte hb (p + j))
  rw [List.length_drop] at g1 g2
  refine ⟨by simp; omega, by omega, by omega, ?_⟩
  rw [e]
  obtain ⟨q, hq⟩ : ∃ q, n - acc.length = q + 1 := ⟨n - acc.length - 1, by omega⟩
  have hq2 : n - (acc ++ [(strOf t, strOf u)]).length = q := by simp; omega
  rw [hq, hq2, readN, h1]
  simp only [List.drop_drop, h2]
  have ep : p + (j + m) = p + j + m := by omega
  rw [ep]
  cases readN q (l.drop (p + j + m)) with
  | none => rfl
  | some r =>
    simp only [Option.map_some]
    congr 1
    simp
    omega
theorem readRel_end {l : List Nat} {n k p : Nat} {acc : List Lab} (h : ReadRel l n k acc p) (hn : acc.length = n) : readN n (l.drop k) = some (acc, p - k) := by
  obtain ⟨_, _, _, e⟩ := h
  rw [e, hn, Nat.sub_self, readN]
  simp

/-! ### Projections -/
def project (ls : List Lab) (ns : List ByteArray) : List Nat := ns.flatMap fun n => putText (getL ls n)
end La

end Go.Proofs.YtjmojjjgifkkiaaDoor
namespace Go.Proofs.YtjmojjjgifkkiaaDoor
open Go.RowKit La

/-- What the loop keeps. -/
structure ByI (w : World) (ls : List Lab) (k : Nat) (v : Value) (wr : World) : Prop where
  own : wr.ownsRow w.heap.size 5 1 v (upTo ls k).length (by8 (upTo ls k))
  bel : Below w.heap.size w wr
theorem made_form {w : World} {l : List Nat} {e : Ending} {w' : World} (h : MadeBytes w l e w') (hb : ∀ x ∈ l, x < 256) : ∃ A c, e = .returned (.slice A l.length c) ∧ (A = none → c = 0) ∧ IsBytes w' A l ∧ Below w.heap.size w w' := by
  obtain ⟨v, rfl, ho, b⟩ := h
  rcases ho.2 with ⟨rfl, h0⟩ | ⟨g, cap, cur, rfl, _⟩
  · rw [h0] at ho ⊢
    exact ⟨none, 0, rfl, fun _ => rfl, own_is ho hb, b⟩
  · exact ⟨_, _, rfl, (fun e => by cases e), own_is ho hb, b⟩
theorem ptext_byte {s : ByteArray} (h : s.size ≤ 140737488351232) : ∀ x ∈ putText s, x < 256 := by
  intro x hx
  rw [putText, List.mem_append] at hx
  rcases hx with hx | hx
  · exact Vm.put_byte (fits_size h) x hx
  · simp only [textL, List.mem_map] at hx
    obtain ⟨y, _, rfl⟩ := hx
    exact UInt8.toNat_lt y
theorem ptext_is (s : ByteArray) (w : World) (h : s.size ≤ 24) : Calls Tryd.prog 57 #[.string s] w fun e w' => ∃ A c, e = .returned (.slice A (putText s).length c) ∧ (A = none → c = 0) ∧ IsBytes w' A (putText s) ∧ Below w.heap.size w w' :=
  (ptext_any s w (by omega)).mono fun _ _ h2 => made_form h2 (ptext_byte (by omega))
theorem rptext_is (s : ByteArray) (w : World) (h : s.size ≤ 24) : Calls Tryd.prog 59 #[.string s] w fun e w' => ∃ A c, e = .returned (.slice A (putText s).length c) ∧ (A = none → c = 0) ∧ IsBytes w' A (putText s) ∧ Below w.heap.size w w' :=
  (rptext_any s w (by omega)).mono fun _ _ h2 => made_form h2 (ptext_byte (by omega))

end Go.Proofs.YtjmojjjgifkkiaaDoor
namespace Go.Proofs.YtjmojjjgifkkiaaDoor
open Go.RowKit La

def snth (ns : List ByteArray) (j : Nat) : ByteArray := ns.getD j ⟨#[]⟩
/-- The slice at address a reads as these strings. -/
def IsStrs (w : World) (a : Option Addr) (ns : List ByteArray) : Prop :=
  0 < ns.length → ∃ b off, a = some ⟨b, off, none⟩ ∧ ∀ j, j < ns.length → w.cell? ⟨b, off + j, none⟩ = some (.string (snth ns j))
theorem IsStrs.below {w w' : World} {a : Option Addr} {ns : List ByteArray} (h : IsStrs w a ns) (hb : Below w.heap.size w w') : IsStrs w' a ns := by
  intro hp
  obtain ⟨b, off, e, hc⟩ := h hp
  exact ⟨b, off, e, fun j hj => (hb.cell (World.block_lt_of_cell? w _ (hc j hj))).trans (hc j hj)⟩
/-- The projection on the first k names. -/
def proj (ls : List Lab) (ns : List ByteArray) (k : Nat) : List Nat := project ls (ns.take k)
theorem proj_zero (ls : List Lab) (ns : List ByteArray) : proj ls ns 0 = [] := by simp [proj, project]
theorem proj_succ {ls : List Lab} {ns : List ByteArray} {k : Nat} (h : k < ns.length) : proj ls ns (k + 1) = proj ls ns k ++ putText (getL ls (snth ns k)) := by
  show project ls (ns.take (k + 1)) = project ls (ns.take k) ++ _
  have e : snth ns k = ns[k] := by simp [snth, List.getD, List.getElem?_eq_getElem h]
  rw [List.take_succ_eq_append_getElem h, project, List.flatMap_append, e]
  simp [project]
theorem proj_all (ls : List Lab) (ns : List ByteArray) : proj ls ns ns.length = project ls ns := by rw [proj, List.take_length]
theorem proj_len {ls : List Lab} {ns : List ByteArray} (h : ∀ x ∈ ls, x.2.size ≤ 24) : ∀ k, k ≤ ns.length → (proj ls ns k).length ≤ k * 34
  | 0, _ => by rw [proj_zero]; simp
  | k + 1, hk => by
    have ih := proj_len (ns := ns) h k (by omega)
    have a := ptext_len (getL ls (snth ns k))
    have b := getL_size (n := snth ns k) h
    rw [proj_succ (show k < ns.length by omega), List.length_append]
    omega
theorem proj_byte {ls : List Lab} {ns : List ByteArray} (h : ∀ x ∈ ls, x.2.size ≤ 24) (k : Nat) : ∀ x ∈ proj ls ns k, x < 256 := by
  intro x hx
  simp only [proj, project, List.mem_flatMap] at hx
  obtain ⟨n, _, hx⟩ := hx
  exact ptext_byte (by have := getL_size (n := n) h; omega) x hx
theorem strOf_app (a b : List Nat) : strOf (a ++ b) = strOf a ++ strOf b := by
  refine WideShapes.bytes_inj ?_
  rw [ByteArray.data_append, Array.toList_append]
  simp only [strOf, strOfNums_data, List.map_append]
theorem strOf_nil : strOf [] = ⟨#[]⟩ := rfl
structure PjI (w : World) (ls : List Lab) (ns : List ByteArray) (k : Nat) (v : Value) (wr : World) : Prop where
  own : wr.ownsRow w.heap.size 5 1 v (proj ls ns k).length (by8 (proj ls ns k))
  bel : Below w.heap.size w wr

end Go.Proofs.YtjmojjjgifkkiaaDoor
