/-
  Parts in memory: where a part and all below it lie; what a store into it, or into one of its kids, leaves of the rest. No conditions.
-/
import Derived.Test.YtjnikeiboefnbaaProg
import Derived.Test.YtjnikeiboefnbaaEa
import Derived.Test.YtjnikeiboefnbaaEd
import Derived.Test.YtjnikeiboefnbaaEi
import Derived.Test.YtjnikeiboefnbaaHa
import Derived.Laws.AppendOwn
import Derived.Laws.CopyOwn
import Derived.Laws.MakeOwn
import Derived.Laws.OwnMore
import Derived.OwnWalk
import Derived.WalkKit
import Derived.WalkSpells
import Derived.WalkLawsBesides
import Derived.Lib.Hide
import Derived.Below
import Derived.BigQuiet
import Derived.Lib.QuietBelow
import Derived.Laws.StructEq
import Derived.KernelRfl
import Derived.Deep.RegionHeld3
namespace Go.Proofs.Ytjnikeiboefnbaa
open Go.RowKit Go.Sort
namespace Pt
/-- The nine cells of a part. -/
def cell : Pt → Nat → Value
  | .mk op a b c d blk em lv la ks, i => match i with
    | 0 => .int .i64 op
    | 1 => .int .u64 (a : Int)
    | 2 => .int .u64 (b : Int)
    | 3 => .int .u64 (c : Int)
    | 4 => .int .u64 (d : Int)
    | 5 => .slice (some ⟨blk, 0, none⟩) ks.length ks.length
    | 6 => .bool em
    | 7 => .bool lv
    | _ => .bool la
def setLv : Pt → Bool → Pt | .mk op a b c d blk em _ la ks, x => .mk op a b c d blk em x la ks
def setLa : Pt → Bool → Pt | .mk op a b c d blk em lv _ ks, x => .mk op a b c d blk em lv x ks
def setEm : Pt → Bool → Pt | .mk op a b c d blk _ lv la ks, x => .mk op a b c d blk x lv la ks
def setKid : Pt → Nat → Pt → Pt | .mk op a b c d blk em lv la ks, j, k => .mk op a b c d blk em lv la (ks.set j k)
/-- The part t lies at place o of block g, its kids in the blocks that it names. -/
inductive Lay (w : World) : Nat → Nat → Pt → Prop where
  | mk {g o : Nat} {t : Pt} (hc : ∀ i, i < 9 → w.cell? ⟨g, o + i, none⟩ = some (t.cell i)) (hf : ∀ i, w.frozen? ⟨g, i, none⟩ = false) (hb : t.blk < w.heap.size) (hk : ∀ j, j < t.kids.length → Lay w t.blk (j * 9) (nth t.kids j)) : Lay w g o t
theorem Lay.cells {w : World} {g o : Nat} {t : Pt} (h : Lay w g o t) : ∀ i, i < 9 → w.cell? ⟨g, o + i, none⟩ = some (t.cell i) := by cases h; assumption
theorem Lay.free {w : World} {g o : Nat} {t : Pt} (h : Lay w g o t) : ∀ i, w.frozen? ⟨g, i, none⟩ = false := by cases h; assumption
theorem Lay.bnd {w : World} {g o : Nat} {t : Pt} (h : Lay w g o t) : t.blk < w.heap.size := by cases h; assumption
theorem Lay.kid {w : World} {g o : Nat} {t : Pt} (h : Lay w g o t) : ∀ j, j < t.kids.length → Lay w t.blk (j * 9) (nth t.kids j) := by cases h; assumption
theorem bl_eq (t : Pt) : bl t = t.blk :: blL t.kids := by cases t; rw [bl]; rfl
theorem mem_blL : ∀ {ks : List Pt} {k : Pt} {x : Nat}, k ∈ ks → x ∈ bl k → x ∈ blL ks
  | _ :: _, k, x, h, hx => by
    rw [blL, List.mem_append]
    rcases List.mem_cons.1 h with rfl | h
    · exact .inl hx
    · exact .inr (mem_blL h hx)
theorem nth_blL {ks : List Pt} {j x : Nat} (h : j < ks.length) (hx : x ∈ bl (nth ks j)) : x ∈ blL ks := by
  rw [nth_eq h] at hx
  exact mem_blL (List.getElem_mem h) hx
theorem Lay.lt {w : World} {g o : Nat} {t : Pt} (h : Lay w g o t) : ∀ k, k ∈ bl t → k < w.heap.size := by
  induction h with
  | @mk g o t hc hf hb hk ih =>
    intro k hm
    rw [bl_eq, List.mem_cons] at hm
    rcases hm with rfl | hm
    · exact hb
    · obtain ⟨j, hj, hx⟩ : ∃ j, j < t.kids.length ∧ k ∈ bl (nth t.kids j) := by
        clear ih hk
        generalize t.kids = ks at *
        induction ks with
        | nil => rw [blL] at hm; cases hm
        | cons a r ihr =>
          rw [blL, List.mem_append] at hm
          rcases hm with hm | hm
          · exact ⟨0, by simp, hm⟩
          · obtain ⟨j, hj, hx⟩ := ihr hm
            exact ⟨j + 1, by simpa using hj, hx⟩
      exact ih j hj k hx
theorem Lay.frame {w w' : World} {g o : Nat} {t : Pt} (h : Lay w g o t) (hs : w.heap.size ≤ w'.heap.size) : (∀ i, i < 9 → w'.cell? ⟨g, o + i, none⟩ = w.cell? ⟨g, o + i, none⟩) → (∀ i, w'.frozen? ⟨g, i, none⟩ = w.frozen? ⟨g, i, none⟩) →
    (∀ k, k ∈ bl t → w'.heap[k]? = w.heap[k]?) → Lay w' g o t := by
  induction h with
  | @mk g o t hc hf hb hk ih =>
    intro h1 h2 h3
    refine .mk (fun i hi => (h1 i hi).trans (hc i hi)) (fun i => (h2 i).trans (hf i)) (by omega) fun j hj => ?_
    have hblk := h3 t.blk (by rw [bl_eq]; simp)
    exact ih j hj (fun i _ => World.cell?_of_block (w := w) hblk) (fun i => World.frozen?_of_block (w := w) hblk) (fun k hm => h3 k (by rw [bl_eq]; exact List.mem_cons_of_mem _ (nth_blL hj hm)))
/-- Nothing but the nine cells at place o of block g, and the blocks Bs, was written. -/
structure Tch (g o : Nat) (Bs : List Nat) (w w' : World) : Prop where
  os : w'.os = w.os
  tape : w'.tape = w.tape
  output : w'.output = w.output
  size : w.heap.size ≤ w'.heap.size
  block : ∀ k, k < w.heap.size → k ≠ g → k ∉ Bs → w'.heap[k]? = w.heap[k]?
  cell : ∀ i, (i < o ∨ o + 9 ≤ i) → w'.cell? ⟨g, i, none⟩ = w.cell? ⟨g, i, none⟩
  frozen : ∀ i, w'.frozen? ⟨g, i, none⟩ = w.frozen? ⟨g, i, none⟩
theorem Tch.refl (g o : Nat) (Bs : List Nat) (w : World) : Tch g o Bs w w := ⟨rfl, rfl, rfl, Nat.le_refl _, fun _ _ _ _ => rfl, fun _ _ => rfl, fun _ => rfl⟩
theorem Tch.trans {g o : Nat} {Bs : List Nat} {w w1 w2 : World} (a : Tch g o Bs w w1) (b : Tch g o Bs w1 w2) : Tch g o Bs w w2 :=
  ⟨b.os.trans a.os, b.tape.trans a.tape, b.output.trans a.output, Nat.le_trans a.size b.size, fun k h1 h2 h3 => (b.block k (by have := a.size; omega) h2 h3).trans (a.block k h1 h2 h3), fun i hi => (b.cell i hi).trans (a.cell i hi), fun i => (b.frozen i).trans (a.frozen i)⟩
/-- What only grew. -/
theorem Tch.grown {g o : Nat} {Bs : List Nat} {w w' : World} (hg : g < w.heap.size) (h : Below w.heap.size w w') : Tch g o Bs w w' :=
  ⟨h.os, h.tape, h.output, h.size, fun k hk _ _ => h.block k hk, fun _ _ => h.cell hg, fun _ => h.frozen hg⟩
theorem Tch.drew {g o : Nat} {Bs : List Nat} {w w' : World} (a : Tch g o Bs w w') (q : Nat) : Tch g o Bs w (w'.drewN q) := ⟨a.os, a.tape, a.output, a.size, a.block, a.cell, a.frozen⟩
theorem Lay.drew {g o : Nat} {w : World} {t : Pt} (h : Lay w g o t) (q : Nat) : Lay (w.drewN q) g o t := h.frame (Nat.le_refl _) (fun _ _ => rfl) (fun _ => rfl) (fun _ _ => rfl)
theorem Lay.grown {g o : Nat} {w w' : World} {t : Pt} (h : Lay w g o t) (hb : Below w.heap.size w w') : Lay w' g o t := by
  have hg : g < w.heap.size := World.block_lt_of_cell? w _ (h.cells 0 (by omega))
  exact h.frame hb.size (fun _ _ => hb.cell hg) (fun _ => hb.frozen hg) (fun k hk => hb.block k (h.lt k hk))
theorem frozen_setCell (w : World) (a : Addr) (v : Value) (p : Addr) : (w.setCell a v).frozen? p = w.frozen? p := by simp
/-- A store into one of the nine cells. -/
theorem Lay.put {w : World} {g o : Nat} {t t' : Pt} (h : Lay w g o t) (i : Nat) (hi : i < 9) (v : Value) (hn : g ∉ bl t) (hv : t'.cell i = v) (ho : ∀ j, j < 9 → j ≠ i → t'.cell j = t.cell j) (hblk : t'.blk = t.blk) (hkids : t'.kids = t.kids) :
    Lay (w.setCell ⟨g, o + i, none⟩ v) g o t' ∧ Tch g o (bl t) w (w.setCell ⟨g, o + i, none⟩ v) := by
  have hT : Tch g o (bl t) w (w.setCell ⟨g, o + i, none⟩ v) := ⟨rfl, rfl, rfl, by simp, fun k _ h2 _ => Below.heap_setCell _ _ _ k h2, fun j hj => World.cell?_setCell_other _ _ _ _ (by intro e; simp only [Addr.mk.injEq] at e; omega), fun j => frozen_setCell _ _ _ _⟩
  refine ⟨.mk (fun j hj => ?_) (fun j => (frozen_setCell _ _ _ _).trans (h.free j)) (by rw [hblk]; simpa using h.bnd) fun j hj => ?_, hT⟩
  · by_cases e : j = i
    · subst e
      rw [hv]
      exact World.cell?_setCell_same _ _ _ (h.cells j hj)
    · rw [ho j hj e]
      exact (World.cell?_setCell_other _ _ _ _ (by intro e'; simp only [Addr.mk.injEq] at e'; omega)).trans (h.cells j hj)
  · rw [hkids] at hj ⊢
    rw [hblk]
    have hne : ∀ k, k ∈ bl t → (w.setCell ⟨g, o + i, none⟩ v).heap[k]? = w.heap[k]? := fun k hk => Below.heap_setCell _ _ _ k (fun e => hn (by rw [← show k = g from e]; exact hk))
    have hb := hne t.blk (by rw [bl_eq]; simp)
    exact (h.kid j hj).frame (by simp) (fun _ _ => World.cell?_of_block (w := w) hb) (fun _ => World.frozen?_of_block (w := w) hb) (fun k hm => hne k (by rw [bl_eq]; exact List.mem_cons_of_mem _ (nth_blL hj hm)))
theorem Lay.setLv {w : World} {g o : Nat} {t : Pt} (h : Lay w g o t) (hn : g ∉ bl t) (x : Bool) : Lay (w.setCell ⟨g, o + 7, none⟩ (.bool x)) g o (t.setLv x) ∧ Tch g o (bl t) w (w.setCell ⟨g, o + 7, none⟩ (.bool x)) := by
  refine h.put 7 (by omega) _ hn ?_ ?_ ?_ ?_
  · cases t; rfl
  · intro j hj hne
    cases t
    match j, hj, hne with
    | 0, _, _ => rfl | 1, _, _ => rfl | 2, _, _ => rfl | 3, _, _ => rfl | 4, _, _ => rfl | 5, _, _ => rfl | 6, _, _ => rfl | 8, _, _ => rfl
  · cases t; rfl
  · cases t; rfl
theorem Lay.setLa {w : World} {g o : Nat} {t : Pt} (h : Lay w g o t) (hn : g ∉ bl t) (x : Bool) : Lay (w.setCell ⟨g, o + 8, none⟩ (.bool x)) g o (t.setLa x) ∧ Tch g o (bl t) w (w.setCell ⟨g, o + 8, none⟩ (.bool x)) := by
  refine h.put 8 (by omega) _ hn ?_ ?_ ?_ ?_
  · cases t; rfl
  · intro j hj hne
    cases t
    match j, hj, hne with
    | 0, _, _ => rfl | 1, _, _ => rfl | 2, _, _ => rfl | 3, _, _ => rfl | 4, _, _ => rfl | 5, _, _ => rfl | 6, _, _ => rfl | 7, _, _ => rfl | n + 8, h1, h2 => exact absurd (show n + 8 = 8 by omega) h2
  · cases t; rfl
  · cases t; rfl
/-- No block twice. -/
def Apart (g : Nat) (t : Pt) : Prop := (g :: bl t).Nodup
theorem Apart.out {g : Nat} {t : Pt} (h : Apart g t) : g ∉ bl t := (List.nodup_cons.1 h).1
theorem nodup_kid : ∀ {ks : List Pt} {j : Nat}, (blL ks).Nodup → j < ks.length → (bl (nth ks j)).Nodup
  | _ :: _, 0, h, _ => by
    rw [blL, List.nodup_append] at h
    exact h.1
  | _ :: r, j + 1, h, hj => by
    rw [blL, List.nodup_append] at h
    exact nodup_kid (ks := r) h.2.1 (by simpa using hj)
theorem nodup_two : ∀ {ks : List Pt} {i j x : Nat}, (blL ks).Nodup → i < ks.length → j < ks.length → i ≠ j → x ∈ bl (nth ks i) → x ∉ bl (nth ks j)
  | _ :: _, 0, 0, x, _, _, _, hne, _ => absurd rfl hne
  | _ :: r, 0, j + 1, x, h, _, hj, _, hx => by
    rw [blL, List.nodup_append] at h
    intro hx2
    exact h.2.2 x hx x (nth_blL (ks := r) (by simpa using hj) hx2) rfl
  | _ :: r, i + 1, 0, x, h, hi, _, _, hx => by
    rw [blL, List.nodup_append] at h
    intro hx2
    exact h.2.2 x hx2 x (nth_blL (ks := r) (by simpa using hi) hx) rfl
  | _ :: r, i + 1, j + 1, x, h, hi, hj, hne, hx => by
    rw [blL, List.nodup_append] at h
    exact nodup_two (ks := r) h.2.1 (by simpa using hi) (by simpa using hj) (by omega) hx
theorem Apart.kid {g : Nat} {t : Pt} (h : Apart g t) {j : Nat} (hj : j < t.kids.length) : Apart t.blk (nth t.kids j) := by
  unfold Apart at h ⊢
  rw [bl_eq, List.nodup_cons, List.nodup_cons] at h
  rw [List.nodup_cons]
  exact ⟨fun hm => h.2.1 (nth_blL hj hm), nodup_kid h.2.2 hj⟩
theorem blL_set : ∀ {ks : List Pt} {j : Nat} {k : Pt}, j < ks.length → bl k = bl (nth ks j) → blL (ks.set j k) = blL ks
  | _ :: _, 0, k, _, e => by rw [List.set_cons_zero, blL, blL, e]; rfl
  | _ :: r, j + 1, k, hj, e => by rw [List.set_cons_succ, blL, blL, blL_set (ks := r) (by simpa using hj) e]
theorem bl_setKid {t : Pt} {j : Nat} {k : Pt} (hj : j < t.kids.length) (e : bl k = bl (nth t.kids j)) : bl (t.setKid j k) = bl t := by
  cases t
  simp only [Pt.setKid, bl, Pt.kids] at hj e ⊢
  rw [blL_set hj e]
theorem nth_set {ks : List Pt} {i j : Nat} {k : Pt} (hj : j < ks.length) : nth (ks.set j k) i = if i = j then k else nth ks i := by
  unfold nth
  rw [List.getD_eq_getElem?_getD, List.getD_eq_getElem?_getD, List.getElem?_set]
  by_cases e : i = j
  · subst e; simp [hj]
  · rw [if_neg (Ne.symm e), if_neg e]
/-- A kid that was written. -/
theorem Lay.kidOf {w w' : World} {g o : Nat} {t k : Pt} {j : Nat} (h : Lay w g o t) (ha : Apart g t) (hj : j < t.kids.length) (e : bl k = bl (nth t.kids j)) (T : Tch t.blk (j * 9) (bl (nth t.kids j)) w w') (hk : Lay w' t.blk (j * 9) k) :
    Lay w' g o (t.setKid j k) ∧ Tch g o (bl t) w w' := by
  unfold Apart at ha
  rw [bl_eq, List.nodup_cons, List.nodup_cons] at ha
  obtain ⟨h1, h2, h3⟩ := ha
  rw [List.mem_cons, not_or] at h1
  have hg : g < w.heap.size := World.block_lt_of_cell? w _ (h.cells 0 (by omega))
  have bg := T.block g hg h1.1 (fun hm => h1.2 (nth_blL hj hm))
  refine ⟨.mk (fun i hi => ?_) (fun i => (World.frozen?_of_block (w := w) bg).trans (h.free i)) ?_ fun i hi => ?_, ⟨T.os, T.tape, T.output, T.size, fun x hx hne hm => ?_, fun i _ => World.cell?_of_block (w := w) bg, fun i => World.frozen?_of_block (w := w) bg⟩⟩
  · rw [World.cell?_of_block (w := w) bg, h.cells i hi]
    cases t
    simp only [Pt.setKid, Pt.cell, List.length_set]
  · have := h.bnd
    have := T.size
    have e2 : (t.setKid j k).blk = t.blk := by cases t; rfl
    rw [e2]; omega
  · have e1 : (t.setKid j k).kids = t.kids.set j k := by cases t; rfl
    have e2 : (t.setKid j k).blk = t.blk := by cases t; rfl
    rw [e1, List.length_set] at hi
    rw [e1, e2, nth_set hj]
    split
    · rename_i e3; subst e3; exact hk
    · rename_i e3
      refine (h.kid i hi).frame T.size (fun x hx => T.cell _ ?_) T.frozen (fun x hx => T.block x ((h.kid i hi).lt x hx) (fun q => h2 ?_) (nodup_two h3 hi hj e3 hx))
      · rcases Nat.lt_or_ge i j with q | q
        · left; omega
        · right; omega
      · rw [← q]; exact nth_blL hi hx
  · rw [bl_eq, List.mem_cons, not_or] at hm
    exact T.block x hx hm.1 (fun q => hm.2 (nth_blL hj q))
end Pt

end Go.Proofs.Ytjnikeiboefnbaa
