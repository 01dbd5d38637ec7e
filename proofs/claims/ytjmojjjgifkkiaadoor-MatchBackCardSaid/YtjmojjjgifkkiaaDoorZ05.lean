/-
  Plain mathematics of the program's way through a text: a tree whose parts say whether the last byte was read in them and whether a match ends there; what reading a byte makes of it; that it says where matches end. No conditions.
  Parts in memory: where a part and all below it lie; what a store into it, or into one of its kids, leaves of the rest. No conditions.
  What the reference's after does at a node of ways, where its kids' calls do as they should. Conditions: no more than 100 places.
  What the reference's after does at a node 'once or more', where its kid's calls do as they should. Conditions: no more than 100 places.
-/
import Derived.Test.YtjmojjjgifkkiaaDoorProg
import Derived.Test.YtjmojjjgifkkiaaDoorZ01
import Derived.Test.YtjmojjjgifkkiaaDoorZ02
import Derived.Test.YtjmojjjgifkkiaaDoorZ03
import Derived.Laws.MakeOwn
import Derived.Laws.OwnMore
import Derived.OwnWalk
import Derived.Deep.RegionHeld3
import Derived.WalkKit
import Derived.WalkSpells
import Derived.WalkLawsBesides
import Derived.Lib.Hide
import Derived.Below
import Derived.BigQuiet
import Derived.Lib.QuietBelow
import Derived.Laws.StructEq
import Derived.KernelRfl
import Derived.Laws.CopyOwn
import Derived.Laws.AppendOwn
namespace Go.Proofs.YtjmojjjgifkkiaaDoor
/-- A part, with the block in which its kids lie. -/
inductive Pt where
  | mk (op : Int) (a b c d blk : Nat) (em lv la : Bool) (kids : List Pt) : Pt
namespace Pt
def op : Pt → Int | .mk o _ _ _ _ _ _ _ _ _ => o
def blk : Pt → Nat | .mk _ _ _ _ _ b _ _ _ _ => b
def em : Pt → Bool | .mk _ _ _ _ _ _ e _ _ _ => e
def lv : Pt → Bool | .mk _ _ _ _ _ _ _ l _ _ => l
def la : Pt → Bool | .mk _ _ _ _ _ _ _ _ l _ => l
def kids : Pt → List Pt | .mk _ _ _ _ _ _ _ _ _ k => k
def nil : Pt := .mk 0 0 0 0 0 0 false false false []
def nth (ks : List Pt) (j : Nat) : Pt := ks.getD j nil
theorem nth_eq {ks : List Pt} {j : Nat} (h : j < ks.length) : nth ks j = ks[j] := by simp [nth, List.getD, List.getElem?_eq_getElem h]
theorem drop_nth {ks : List Pt} {k : Nat} (h : k < ks.length) : ks.drop k = nth ks k :: ks.drop (k + 1) := by rw [List.drop_eq_getElem_cons h, nth_eq h]
theorem take_nth {ks : List Pt} {k : Nat} (h : k < ks.length) : ks.take (k + 1) = ks.take k ++ [nth ks k] := by rw [List.take_succ_eq_append_getElem h, nth_eq h]
mutual
def count : Pt → Nat
  | .mk _ _ _ _ _ _ _ _ _ ks => 1 + countL ks
def countL : List Pt → Nat
  | [] => 0
  | k :: r => count k + countL r
end
theorem count_pos : ∀ t : Pt, 1 ≤ count t
  | .mk _ _ _ _ _ _ _ _ _ _ => by rw [count]; omega
theorem len_count : ∀ ks : List Pt, ks.length ≤ countL ks
  | [] => Nat.le_refl _
  | k :: r => by have := len_count r; have := count_pos k; rw [countL, List.length_cons]; omega
theorem mem_count : ∀ {ks : List Pt} {t : Pt}, t ∈ ks → count t ≤ countL ks
  | k :: r, t, h => by
    rw [countL]
    rcases List.mem_cons.1 h with rfl | h
    · omega
    · have := mem_count h; omega
theorem nth_count {ks : List Pt} {j : Nat} (h : j < ks.length) : count (nth ks j) ≤ countL ks := by rw [nth_eq h]; exact mem_count (List.getElem_mem h)
mutual
/-- The blocks in which parts below it lie. -/
def bl : Pt → List Nat
  | .mk _ _ _ _ _ b _ _ _ ks => b :: blL ks
def blL : List Pt → List Nat
  | [] => []
  | k :: r => bl k ++ blL r
end
mutual
/-- The tree without what is known of the text. -/
def sh : Pt → Rx
  | .mk op a b c d _ _ _ _ ks => .mk op a b c d (shL ks)
def shL : List Pt → List Rx
  | [] => []
  | k :: r => sh k :: shL r
end
/-- The last of them that ends, or is empty behind one that does. -/
def lastSeq : Bool → List Pt → Bool
  | p, [] => p
  | p, k :: r => lastSeq (k.la || (p && k.em)) r
mutual
/-- What reading a byte makes of a part; bg: may a match begin with it? -/
def rd (x : Nat) : Pt → Bool → Pt
  | .mk op a b c d blk em _ la ks, bg =>
    if op = 1 then .mk op a b c d blk em (bg && hasB a b c d x) (bg && hasB a b c d x) ks
    else if op = 2 then .mk op a b c d blk em ((rdSeq x ks bg).any lv) (lastSeq false (rdSeq x ks bg)) (rdSeq x ks bg)
    else if op = 4 ∨ op = 5 then .mk op a b c d blk em ((rdAll x ks (bg || la)).any lv) ((rdAll x ks (bg || la)).any Pt.la) (rdAll x ks (bg || la))
    else .mk op a b c d blk em ((rdAll x ks bg).any lv) ((rdAll x ks bg).any Pt.la) (rdAll x ks bg)
def rdAll (x : Nat) : List Pt → Bool → List Pt
  | [], _ => []
  | k :: r, bg => rd x k bg :: rdAll x r bg
def rdSeq (x : Nat) : List Pt → Bool → List Pt
  | [], _ => []
  | k :: r, bg => rd x k bg :: rdSeq x r (k.la || (bg && k.em))
end
theorem rdAll_map (x : Nat) (bg : Bool) : ∀ ks : List Pt, rdAll x ks bg = ks.map fun k => rd x k bg
  | [] => by rw [rdAll]; rfl
  | k :: r => by rw [rdAll, rdAll_map x bg r]; rfl
/-- May the next one begin? -/
def bgAt : List Pt → Bool → Bool
  | [], bg => bg
  | k :: r, bg => bgAt r (k.la || (bg && k.em))
theorem bgAt_snoc (k : Pt) : ∀ (l : List Pt) (bg : Bool), bgAt (l ++ [k]) bg = (k.la || (bgAt l bg && k.em))
  | [], bg => rfl
  | j :: r, bg => by rw [List.cons_append, bgAt, bgAt_snoc k r]; rfl
theorem rdSeq_snoc (x : Nat) (k : Pt) : ∀ (l : List Pt) (bg : Bool), rdSeq x (l ++ [k]) bg = rdSeq x l bg ++ [rd x k (bgAt l bg)]
  | [], bg => by simp [rdSeq, bgAt]
  | j :: r, bg => by rw [List.cons_append, rdSeq, rdSeq, rdSeq_snoc x k r]; rfl
theorem lastSeq_snoc (k : Pt) : ∀ (l : List Pt) (p : Bool), lastSeq p (l ++ [k]) = (k.la || (lastSeq p l && k.em))
  | [], p => rfl
  | j :: r, p => by rw [List.cons_append, lastSeq, lastSeq_snoc k r]; rfl
theorem rdSeq_len (x : Nat) : ∀ (l : List Pt) (bg : Bool), (rdSeq x l bg).length = l.length
  | [], bg => by rw [rdSeq]
  | j :: r, bg => by rw [rdSeq, List.length_cons, rdSeq_len x r, List.length_cons]
theorem rdAll_len (x : Nat) (l : List Pt) (bg : Bool) : (rdAll x l bg).length = l.length := by rw [rdAll_map]; simp
mutual
theorem bl_rd (x : Nat) : ∀ (t : Pt) (bg : Bool), bl (rd x t bg) = bl t
  | .mk op a b c d blk em l la ks, bg => by
    rw [rd]
    split
    · rfl
    · split
      · rw [bl, bl, bl_rdSeq x ks]
      · split
        · rw [bl, bl, bl_rdAll x ks]
        · rw [bl, bl, bl_rdAll x ks]
theorem bl_rdAll (x : Nat) : ∀ (l : List Pt) (bg : Bool), blL (rdAll x l bg) = blL l
  | [], _ => by rw [rdAll]
  | k :: r, bg => by rw [rdAll, blL, blL, bl_rd x k, bl_rdAll x r]
theorem bl_rdSeq (x : Nat) : ∀ (l : List Pt) (bg : Bool), blL (rdSeq x l bg) = blL l
  | [], _ => by rw [rdSeq]
  | k :: r, bg => by rw [rdSeq, blL, blL, bl_rd x k, bl_rdSeq x r]
end
mutual
theorem count_rd (x : Nat) : ∀ (t : Pt) (bg : Bool), count (rd x t bg) = count t
  | .mk op a b c d blk em l la ks, bg => by
    rw [rd]
    split
    · rfl
    · split
      · rw [count, count, count_rdSeq x ks]
      · split
        · rw [count, count, count_rdAll x ks]
        · rw [count, count, count_rdAll x ks]
theorem count_rdAll (x : Nat) : ∀ (l : List Pt) (bg : Bool), countL (rdAll x l bg) = countL l
  | [], _ => by rw [rdAll]
  | k :: r, bg => by rw [rdAll, countL, countL, count_rd x k, count_rdAll x r]
theorem count_rdSeq (x : Nat) : ∀ (l : List Pt) (bg : Bool), countL (rdSeq x l bg) = countL l
  | [], _ => by rw [rdSeq]
  | k :: r, bg => by rw [rdSeq, countL, countL, count_rd x k, count_rdSeq x r]
end
mutual
theorem sh_rd (x : Nat) : ∀ (t : Pt) (bg : Bool), sh (rd x t bg) = sh t
  | .mk op a b c d blk em l la ks, bg => by
    rw [rd]
    split
    · rfl
    · split
      · rw [sh, sh, sh_rdSeq x ks]
      · split
        · rw [sh, sh, sh_rdAll x ks]
        · rw [sh, sh, sh_rdAll x ks]
theorem sh_rdAll (x : Nat) : ∀ (l : List Pt) (bg : Bool), shL (rdAll x l bg) = shL l
  | [], _ => by rw [rdAll]
  | k :: r, bg => by rw [rdAll, shL, shL, sh_rd x k, sh_rdAll x r]
theorem sh_rdSeq (x : Nat) : ∀ (l : List Pt) (bg : Bool), shL (rdSeq x l bg) = shL l
  | [], _ => by rw [rdSeq]
  | k :: r, bg => by rw [rdSeq, shL, shL, sh_rd x k, sh_rdSeq x r]
end
theorem em_rd (x : Nat) : ∀ (t : Pt) (bg : Bool), (rd x t bg).em = t.em
  | .mk op a b c d blk em l la ks, bg => by
    rw [rd]
    split
    · rfl
    · split
      · rfl
      · split <;> rfl
mutual
/-- Nothing was read in it. -/
def dead : Pt → Prop
  | .mk _ _ _ _ _ _ _ lv la ks => lv = false ∧ la = false ∧ deadL ks
def deadL : List Pt → Prop
  | [] => True
  | k :: r => dead k ∧ deadL r
end
mutual
/-- A part of bytes has no kids; one in which nothing was read is so to the bottom. -/
def wf : Pt → Prop
  | .mk op _ _ _ _ _ _ lv la ks => (op = 1 → ks = []) ∧ (lv = false → la = false ∧ deadL ks) ∧ wfL ks
def wfL : List Pt → Prop
  | [] => True
  | k :: r => wf k ∧ wfL r
end
theorem wf_dead : ∀ {t : Pt}, wf t → t.lv = false → dead t
  | .mk op a b c d blk em lv la ks, h, e => by
    rw [wf] at h
    rw [dead]
    exact ⟨e, h.2.1 e⟩
theorem dead_lv : ∀ {t : Pt}, dead t → t.lv = false
  | .mk _ _ _ _ _ _ _ _ _ _, h => by rw [dead] at h; exact h.1
theorem dead_la : ∀ {t : Pt}, dead t → t.la = false
  | .mk _ _ _ _ _ _ _ _ _ _, h => by rw [dead] at h; exact h.2.1
theorem deadL_of : ∀ {ks : List Pt}, wfL ks → ks.any lv = false → deadL ks
  | [], _, _ => by rw [deadL]; trivial
  | k :: r, h, e => by
    rw [wfL] at h
    rw [List.any_cons, Bool.or_eq_false_iff] at e
    rw [deadL]
    exact ⟨wf_dead h.1 e.1, deadL_of h.2 e.2⟩
theorem deadL_lv : ∀ {ks : List Pt}, deadL ks → ks.any lv = false
  | [], _ => rfl
  | k :: r, h => by
    rw [deadL] at h
    rw [List.any_cons, dead_lv h.1, deadL_lv h.2]; rfl
theorem deadL_la : ∀ {ks : List Pt}, deadL ks → ks.any Pt.la = false
  | [], _ => rfl
  | k :: r, h => by
    rw [deadL] at h
    rw [List.any_cons, dead_la h.1, deadL_la h.2]; rfl
theorem deadL_last : ∀ {ks : List Pt}, deadL ks → lastSeq false ks = false
  | [], _ => rfl
  | k :: r, h => by
    rw [deadL] at h
    rw [lastSeq, dead_la h.1]
    exact deadL_last h.2
mutual
theorem wf_rd (x : Nat) : ∀ (t : Pt) (bg : Bool), wf t → wf (rd x t bg)
  | .mk op a b c d blk em l la ks, bg, h => by
    rw [wf] at h
    have h1 := fun bg => wf_rdAll x ks bg h.2.2
    have h2 := wf_rdSeq x ks bg h.2.2
    rw [rd]
    split
    · rename_i o
      have e := h.1 o
      subst e
      rw [wf]
      exact ⟨fun _ => rfl, fun q => ⟨q, by rw [deadL]; trivial⟩, by rw [wfL]; trivial⟩
    · rename_i o
      split
      · rw [wf]
        exact ⟨fun q => absurd q o, fun q => ⟨deadL_last (deadL_of h2 q), deadL_of h2 q⟩, h2⟩
      · split
        · rw [wf]
          exact ⟨fun q => absurd q o, fun q => ⟨deadL_la (deadL_of (h1 _) q), deadL_of (h1 _) q⟩, h1 _⟩
        · rw [wf]
          exact ⟨fun q => absurd q o, fun q => ⟨deadL_la (deadL_of (h1 _) q), deadL_of (h1 _) q⟩, h1 _⟩
theorem wf_rdAll (x : Nat) : ∀ (l : List Pt) (bg : Bool), wfL l → wfL (rdAll x l bg)
  | [], _, h => by rw [rdAll]; exact h
  | k :: r, bg, h => by
    rw [wfL] at h
    rw [rdAll, wfL]
    exact ⟨wf_rd x k bg h.1, wf_rdAll x r bg h.2⟩
theorem wf_rdSeq (x : Nat) : ∀ (l : List Pt) (bg : Bool), wfL l → wfL (rdSeq x l bg)
  | [], _, h => by rw [rdSeq]; exact h
  | k :: r, bg, h => by
    rw [wfL] at h
    rw [rdSeq, wfL]
    exact ⟨wf_rd x k bg h.1, wf_rdSeq x r _ h.2⟩
end
mutual
theorem dead_rd (x : Nat) : ∀ (t : Pt), wf t → dead t → rd x t false = t
  | .mk op a b c d blk em l la ks, hw, h => by
    rw [dead] at h
    rw [wf] at hw
    obtain ⟨rfl, rfl, h3⟩ := h
    have h1 := dead_rdAll x ks hw.2.2 h3
    have h2 := dead_rdSeq x ks hw.2.2 h3
    rw [rd]
    split
    · rfl
    · split
      · rw [h2, deadL_lv h3, deadL_last h3]
      · split
        · rw [Bool.or_false, h1, deadL_lv h3, deadL_la h3]
        · rw [h1, deadL_lv h3, deadL_la h3]
theorem dead_rdAll (x : Nat) : ∀ (l : List Pt), wfL l → deadL l → rdAll x l false = l
  | [], _, _ => by rw [rdAll]
  | k :: r, hw, h => by
    rw [deadL] at h
    rw [wfL] at hw
    rw [rdAll, dead_rd x k hw.1 h.1, dead_rdAll x r hw.2 h.2]
theorem dead_rdSeq (x : Nat) : ∀ (l : List Pt), wfL l → deadL l → rdSeq x l false = l
  | [], _, _ => by rw [rdSeq]
  | k :: r, hw, h => by
    rw [deadL] at h
    rw [wfL] at hw
    rw [rdSeq, dead_rd x k hw.1 h.1, dead_la h.1, Bool.false_and, Bool.or_false, dead_rdSeq x r hw.2 h.2]
end
end Pt

end Go.Proofs.YtjmojjjgifkkiaaDoor
namespace Go.Proofs.YtjmojjjgifkkiaaDoor
open Go.RowKit Go.Sort
namespace Pt
/-- The nine cells of a part. -/
def cell : Pt → Nat → Value
  | .mk op a b c d blk em lv la ks, i => match i with
    | 0 => .int .i64 op
    | 1 => .int .u64 (a : Int)
    | 2 => .int .u64 (b : Int)
    | 3 => .int .u64 (c : Int)
    | 4 => .int .u64 (d : Int)
    | 5 => .slice (some ⟨blk, 0, none⟩) ks.length ks.length
    | 6 => .bool em
    | 7 => .bool lv
    | _ => .bool la
def setLv : Pt → Bool → Pt | .mk op a b c d blk em _ la ks, x => .mk op a b c d blk em x la ks
def setLa : Pt → Bool → Pt | .mk op a b c d blk em lv _ ks, x => .mk op a b c d blk em lv x ks
def setEm : Pt → Bool → Pt | .mk op a b c d blk _ lv la ks, x => .mk op a b c d blk x lv la ks
def setKid : Pt → Nat → Pt → Pt | .mk op a b c d blk em lv la ks, j, k => .mk op a b c d blk em lv la (ks.set j k)
/-- The part t lies at place o of block g, its kids in the blocks that it names. -/
inductive Lay (w : World) : Nat → Nat → Pt → Prop where
  | mk {g o : Nat} {t : Pt} (hc : ∀ i, i < 9 → w.cell? ⟨g, o + i, none⟩ = some (t.cell i)) (hf : ∀ i, w.frozen? ⟨g, i, none⟩ = false) (hb : t.blk < w.heap.size) (hk : ∀ j, j < t.kids.length → Lay w t.blk (j * 9) (nth t.kids j)) : Lay w g o t
theorem Lay.cells {w : World} {g o : Nat} {t : Pt} (h : Lay w g o t) : ∀ i, i < 9 → w.cell? ⟨g, o + i, none⟩ = some (t.cell i) := by cases h; assumption
theorem Lay.free {w : World} {g o : Nat} {t : Pt} (h : Lay w g o t) : ∀ i, w.frozen? ⟨g, i, none⟩ = false := by cases h; assumption
theorem Lay.bnd {w : World} {g o : Nat} {t : Pt} (h : Lay w g o t) : t.blk < w.heap.size := by cases h; assumption
theorem Lay.kid {w : World} {g o : Nat} {t : Pt} (h : Lay w g o t) : ∀ j, j < t.kids.length → Lay w t.blk (j * 9) (nth t.kids j) := by cases h; assumption
theorem bl_eq (t : Pt) : bl t = t.blk :: blL t.kids := by cases t; rw [bl]; rfl
theorem mem_blL : ∀ {ks : List Pt} {k : Pt} {x : Nat}, k ∈ ks → x ∈ bl k → x ∈ blL ks
  | _ :: _, k, x, h, hx => by
    rw [blL, List.mem_append]
    rcases List.mem_cons.1 h with rfl | h
    · exact .inl hx
    · exact .inr (mem_blL h hx)
theorem nth_blL {ks : List Pt} {j x : Nat} (h : j < ks.length) (hx : x ∈ bl (nth ks j)) : x ∈ blL ks := by
  rw [nth_eq h] at hx
  exact mem_blL (List.getElem_mem h) hx
theorem Lay.lt {w : World} {g o : Nat} {t : Pt} (h : Lay w g o t) : ∀ k, k ∈ bl t → k < w.heap.size := by
  induction h with
  | @mk g o t hc hf hb hk ih =>
    intro k hm
    rw [bl_eq, List.mem_cons] at hm
    rcases hm with rfl | hm
    · exact hb
    · obtain ⟨j, hj, hx⟩ : ∃ j, j < t.kids.length ∧ k ∈ bl (nth t.kids j) := by
        clear ih hk
        generalize t.kids = ks at *
        induction ks with
        | nil => rw [blL] at hm; cases hm
        | cons a r ihr =>
          rw [blL, List.mem_append] at hm
          rcases hm with hm | hm
          · exact ⟨0, by simp, hm⟩
          · obtain ⟨j, hj, hx⟩ := ihr hm
            exact ⟨j + 1, by simpa using hj, hx⟩
      exact ih j hj k hx
theorem Lay.frame {w w' : World} {g o : Nat} {t : Pt} (h : Lay w g o t) (hs : w.heap.size ≤ w'.heap.size) : (∀ i, i < 9 → w'.cell? ⟨g, o + i, none⟩ = w.cell? ⟨g, o + i, none⟩) → (∀ i, w'.frozen? ⟨g, i, none⟩ = w.frozen? ⟨g, i, none⟩) →
    (∀ k, k ∈ bl t → w'.heap[k]? = w.heap[k]?) → Lay w' g o t := by
  induction h with
  | @mk g o t hc hf hb hk ih =>
    intro h1 h2 h3
    refine .mk (fun i hi => (h1 i hi).trans (hc i hi)) (fun i => (h2 i).trans (hf i)) (by omega) fun j hj => ?_
    have hblk := h3 t.blk (by rw [bl_eq]; simp)
    exact ih j hj (fun i _ => World.cell?_of_block (w := w) hblk) (fun i => World.frozen?_of_block (w := w) hblk) (fun k hm => h3 k (by rw [bl_eq]; exact List.mem_cons_of_mem _ (nth_blL hj hm)))
/-- Nothing but the nine cells at place o of block g, and the blocks Bs, was written. -/
structure Tch (g o : Nat) (Bs : List Nat) (w w' : World) : Prop where
  os : w'.os = w.os
  tape : w'.tape = w.tape
  output : w'.output = w.output
  size : w.heap.size ≤ w'.heap.size
  block : ∀ k, k < w.heap.size → k ≠ g → k ∉ Bs → w'.heap[k]? = w.heap[k]?
  cell : ∀ i, (i < o ∨ o + 9 ≤ i) → w'.cell? ⟨g, i, none⟩ = w.cell? ⟨g, i, none⟩
  frozen : ∀ i, w'.frozen? ⟨g, i, none⟩ = w.frozen? ⟨g, i, none⟩
theorem Tch.refl (g o : Nat) (Bs : List Nat) (w : World) : Tch g o Bs w w := ⟨rfl, rfl, rfl, Nat.le_refl _, fun _ _ _ _ => rfl, fun _ _ => rfl, fun _ => rfl⟩
theorem Tch.trans {g o : Nat} {Bs : List Nat} {w w1 w2 : World} (a : Tch g o Bs w w1) (b : Tch g o Bs w1 w2) : Tch g o Bs w w2 :=
  ⟨b.os.trans a.os, b.tape.trans a.tape, b.output.trans a.output, Nat.le_trans a.size b.size, fun k h1 h2 h3 => (b.block k (by have := a.size; omega) h2 h3).trans (a.block k h1 h2 h3), fun i hi => (b.cell i hi).trans (a.cell i hi), fun i => (b.frozen i).trans (a.frozen i)⟩
/-- What only grew. -/
theorem Tch.grown {g o : Nat} {Bs : List Nat} {w w' : World} (hg : g < w.heap.size) (h : Below w.heap.size w w') : Tch g o Bs w w' :=
  ⟨h.os, h.tape, h.output, h.size, fun k hk _ _ => h.block k hk, fun _ _ => h.cell hg, fun _ => h.frozen hg⟩
theorem Tch.drew {g o : Nat} {Bs : List Nat} {w w' : World} (a : Tch g o Bs w w') (q : Nat) : Tch g o Bs w (w'.drewN q) := ⟨a.os, a.tape, a.output, a.size, a.block, a.cell, a.frozen⟩
theorem Lay.drew {g o : Nat} {w : World} {t : Pt} (h : Lay w g o t) (q : Nat) : Lay (w.drewN q) g o t := h.frame (Nat.le_refl _) (fun _ _ => rfl) (fun _ => rfl) (fun _ _ => rfl)
theorem Lay.grown {g o : Nat} {w w' : World} {t : Pt} (h : Lay w g o t) (hb : Below w.heap.size w w') : Lay w' g o t := by
  have hg : g < w.heap.size := World.block_lt_of_cell? w _ (h.cells 0 (by omega))
  exact h.frame hb.size (fun _ _ => hb.cell hg) (fun _ => hb.frozen hg) (fun k hk => hb.block k (h.lt k hk))
theorem frozen_setCell (w : World) (a : Addr) (v : Value) (p : Addr) : (w.setCell a v).frozen? p = w.frozen? p := by simp
/-- A store into one of the nine cells. -/
theorem Lay.put {w : World} {g o : Nat} {t t' : Pt} (h : Lay w g o t) (i : Nat) (hi : i < 9) (v : Value) (hn : g ∉ bl t) (hv : t'.cell i = v) (ho : ∀ j, j < 9 → j ≠ i → t'.cell j = t.cell j) (hblk : t'.blk = t.blk) (hkids : t'.kids = t.kids) :
    Lay (w.setCell ⟨g, o + i, none⟩ v) g o t' ∧ Tch g o (bl t) w (w.setCell ⟨g, o + i, none⟩ v) := by
  have hT : Tch g o (bl t) w (w.setCell ⟨g, o + i, none⟩ v) := ⟨rfl, rfl, rfl, by simp, fun k _ h2 _ => Below.heap_setCell _ _ _ k h2, fun j hj => World.cell?_setCell_other _ _ _ _ (by intro e; simp only [Addr.mk.injEq] at e; omega), fun j => frozen_setCell _ _ _ _⟩
  refine ⟨.mk (fun j hj => ?_) (fun j => (frozen_setCell _ _ _ _).trans (h.free j)) (by rw [hblk]; simpa using h.bnd) fun j hj => ?_, hT⟩
  · by_cases e : j = i
    · subst e
      rw [hv]
      exact World.cell?_setCell_same _ _ _ (h.cells j hj)
    · rw [ho j hj e]
      exact (World.cell?_setCell_other _ _ _ _ (by intro e'; simp only [Addr.mk.injEq] at e'; omega)).trans (h.cells j hj)
  · rw [hkids] at hj ⊢
    rw [hblk]
    have hne : ∀ k, k ∈ bl t → (w.setCell ⟨g, o + i, none⟩ v).heap[k]? = w.heap[k]? := fun k hk => Below.heap_setCell _ _ _ k (fun e => hn (by rw [← show k = g from e]; exact hk))
    have hb := hne t.blk (by rw [bl_eq]; simp)
    exact (h.kid j hj).frame (by simp) (fun _ _ => World.cell?_of_block (w := w) hb) (fun _ => World.frozen?_of_block (w := w) hb) (fun k hm => hne k (by rw [bl_eq]; exact List.mem_cons_of_mem _ (nth_blL hj hm)))
theorem Lay.setLv {w : World} {g o : Nat} {t : Pt} (h : Lay w g o t) (hn : g ∉ bl t) (x : Bool) : Lay (w.setCell ⟨g, o + 7, none⟩ (.bool x)) g o (t.setLv x) ∧ Tch g o (bl t) w (w.setCell ⟨g, o + 7, none⟩ (.bool x)) := by
  refine h.put 7 (by omega) _ hn ?_ ?_ ?_ ?_
  · cases t; rfl
  · intro j hj hne
    cases t
    match j, hj, hne with
    | 0, _, _ => rfl | 1, _, _ => rfl | 2, _, _ => rfl | 3, _, _ => rfl | 4, _, _ => rfl | 5, _, _ => rfl | 6, _, _ => rfl | 8, _, _ => rfl
  · cases t; rfl
  · cases t; rfl
theorem Lay.setLa {w : World} {g o : Nat} {t : Pt} (h : Lay w g o t) (hn : g ∉ bl t) (x : Bool) : Lay (w.setCell ⟨g, o + 8, none⟩ (.bool x)) g o (t.setLa x) ∧ Tch g o (bl t) w (w.setCell ⟨g, o + 8, none⟩ (.bool x)) := by
  refine h.put 8 (by omega) _ hn ?_ ?_ ?_ ?_
  · cases t; rfl
  · intro j hj hne
    cases t
    match j, hj, hne with
    | 0, _, _ => rfl | 1, _, _ => rfl | 2, _, _ => rfl | 3, _, _ => rfl | 4, _, _ => rfl | 5, _, _ => rfl | 6, _, _ => rfl | 7, _, _ => rfl | n + 8, h1, h2 => exact absurd (show n + 8 = 8 by omega) h2
  · cases t; rfl
  · cases t; rfl
/-- No block twice. -/
def Apart (g : Nat) (t : Pt) : Prop := (g :: bl t).Nodup
theorem Apart.out {g : Nat} {t : Pt} (h : Apart g t) : g ∉ bl t := (List.nodup_cons.1 h).1
theorem nodup_kid : ∀ {ks : List Pt} {j : Nat}, (blL ks).Nodup → j < ks.length → (bl (nth ks j)).Nodup
  | _ :: _, 0, h, _ => by
    rw [blL, List.nodup_append] at h
    exact h.1
  | _ :: r, j + 1, h, hj => by
    rw [blL, List.nodup_append] at h
    exact nodup_kid (ks := r) h.2.1 (by simpa using hj)
theorem nodup_two : ∀ {ks : List Pt} {i j x : Nat}, (blL ks).Nodup → i < ks.length → j < ks.length → i ≠ j → x ∈ bl (nth ks i) → x ∉ bl (nth ks j)
  | _ :: _, 0, 0, x, _, _, _, hne, _ => absurd rfl hne
  | _ :: r, 0, j + 1, x, h, _, hj, _, hx => by
    rw [blL, List.nodup_append] at h
    intro hx2
    exact h.2.2 x hx x (nth_blL (ks := r) (by simpa using hj) hx2) rfl
  | _ :: r, i + 1, 0, x, h, hi, _, _, hx => by
    rw [blL, List.nodup_append] at h
    intro hx2
    exact h.2.2 x hx2 x (nth_blL (ks := r) (by simpa using hi) hx) rfl
  | _ :: r, i + 1, j + 1, x, h, hi, hj, hne, hx => by
    rw [blL, List.nodup_append] at h
    exact nodup_two (ks := r) h.2.1 (by simpa using hi) (by simpa using hj) (by omega) hx
theorem Apart.kid {g : Nat} {t : Pt} (h : Apart g t) {j : Nat} (hj : j < t.kids.length) : Apart t.blk (nth t.kids j) := by
  unfold Apart at h ⊢
  rw [bl_eq, List.nodup_cons, List.nodup_cons] at h
  rw [List.nodup_cons]
  exact ⟨fun hm => h.2.1 (nth_blL hj hm), nodup_kid h.2.2 hj⟩
theorem blL_set : ∀ {ks : List Pt} {j : Nat} {k : Pt}, j < ks.length → bl k = bl (nth ks j) → blL (ks.set j k) = blL ks
  | _ :: _, 0, k, _, e => by rw [List.set_cons_zero, blL, blL, e]; rfl
  | _ :: r, j + 1, k, hj, e => by rw [List.set_cons_succ, blL, blL, blL_set (ks := r) (by simpa using hj) e]
theorem bl_setKid {t : Pt} {j : Nat} {k : Pt} (hj : j < t.kids.length) (e : bl k = bl (nth t.kids j)) : bl (t.setKid j k) = bl t := by
  cases t
  simp only [Pt.setKid, bl, Pt.kids] at hj e ⊢
  rw [blL_set hj e]
theorem nth_set {ks : List Pt} {i j : Nat} {k : Pt} (hj : j < ks.length) : nth (ks.set j k) i = if i = j then k else nth ks i := by
  unfold nth
  rw [List.getD_eq_getElem?_getD, List.getD_eq_getElem?_getD, List.getElem?_set]
  by_cases e : i = j
  · subst e; simp [hj]
  · rw [if_neg (Ne.symm e), if_neg e]
/-- A kid that was written. -/
theorem Lay.kidOf {w w' : World} {g o : Nat} {t k : Pt} {j : Nat} (h : Lay w g o t) (ha : Apart g t) (hj : j < t.kids.length) (e : bl k = bl (nth t.kids j)) (T : Tch t.blk (j * 9) (bl (nth t.kids j)) w w') (hk : Lay w' t.blk (j * 9) k) :
    Lay w' g o (t.setKid j k) ∧ Tch g o (bl t) w w' := by
  unfold Apart at ha
  rw [bl_eq, List.nodup_cons, List.nodup_cons] at ha
  obtain ⟨h1, h2, h3⟩ := ha
  rw [List.mem_cons, not_or] at h1
  have hg : g < w.heap.size := World.block_lt_of_cell? w _ (h.cells 0 (by omega))
  have bg := T.block g hg h1.1 (fun hm => h1.2 (nth_blL hj hm))
  refine ⟨.mk (fun i hi => ?_) (fun i => (World.frozen?_of_block (w := w) bg).trans (h.free i)) ?_ fun i hi => ?_, ⟨T.os, T.tape, T.output, T.size, fun x hx hne hm => ?_, fun i _ => World.cell?_of_block (w := w) bg, fun i => World.frozen?_of_block (w := w) bg⟩⟩
  · rw [World.cell?_of_block (w := w) bg, h.cells i hi]
    cases t
    simp only [Pt.setKid, Pt.cell, List.length_set]
  · have := h.bnd
    have := T.size
    have e2 : (t.setKid j k).blk = t.blk := by cases t; rfl
    rw [e2]; omega
  · have e1 : (t.setKid j k).kids = t.kids.set j k := by cases t; rfl
    have e2 : (t.setKid j k).blk = t.blk := by cases t; rfl
    rw [e1, List.length_set] at hi
    rw [e1, e2, nth_set hj]
    split
    · rename_i e3; subst e3; exact hk
    · rename_i e3
      refine (h.kid i hi).frame T.size (fun x hx => T.cell _ ?_) T.frozen (fun x hx => T.block x ((h.kid i hi).lt x hx) (fun q => h2 ?_) (nodup_two h3 hi hj e3 hx))
      · rcases Nat.lt_or_ge i j with q | q
        · left; omega
        · right; omega
      · rw [← q]; exact nth_blL hi hx
  · rw [bl_eq, List.mem_cons, not_or] at hm
    exact T.block x hx hm.1 (fun q => hm.2 (nth_blL hj q))
end Pt

end Go.Proofs.YtjmojjjgifkkiaaDoor
namespace Go.Proofs.YtjmojjjgifkkiaaDoor
open Go.RowKit Go.Sort

theorem aft_alt_eq {S : List Nat} {a b c d : Nat} {ks : List Rx} {f : Nat → Bool} : Rx.aft S (.mk 3 a b c d ks) f = Rx.aftAlt S ks f := rfl

set_option maxRecDepth 100000 in
set_option maxHeartbeats 2000000 in
theorem after_alt {w : World} {s : ByteArray} {S : List Nat} {L : Nat} {ks : List Rx} {N : Nat} {A : Option Addr} {blk off : Nat} {V : Nat → Nat → Value} (T : AftH w s S L ks N A blk off V) (a b c d cap : Nat) (F : Option Addr) (cf : Nat) (f : Nat → Bool) (hf : IsBo w F (L + 1) f) :
    Calls Tryd.prog 91 #[.agg #[.int .i64 3, .int .u64 (a : Int), .int .u64 (b : Int), .int .u64 (c : Int), .int .u64 (d : Int), .slice A N cap], .string s, .slice F (L + 1) cf] w (AftDone w S L (.mk 3 a b c d ks) f) := by
  have HT := Lib.hid T
  have HF := Lib.hid hf
  have hL := T.few
  have hs := T.size
  have hNN := T.lenN
  have E := Lib.hid (aft_alt_eq (S := S) (a := a) (b := b) (c := c) (d := d) (ks := ks) (f := f))
  have AT := Lib.hid (fun k => Rx.alt_take S (ks := ks) (k := k))
  have AE : Hid (Rx.aftAlt S (ks.take N) f = Rx.aftAlt S ks f) := by show _ = _; rw [← T.len, List.take_length]
  rw [T.len] at AT
  have MK := fun W => make_bools (L + 1) (by omega) W
  have BX := Lib.hid (fun W => box6 (w := w) (v0 := .int .i64 3) (v1 := .int .u64 (a : Int)) (v2 := .int .u64 (b : Int)) (v3 := .int .u64 (c : Int)) (v4 := .int .u64 (d : Int)) (v5 := .slice A N cap) (ty := 60) (W := W))
  obtain ⟨w0, hw0⟩ : ∃ w0, w.alloc (.cells #[.int .i64 3, .int .u64 (a : Int), .int .u64 (b : Int), .int .u64 (c : Int), .int .u64 (d : Int), .slice A N cap] 60) = w0 := ⟨_, rfl⟩
  obtain ⟨w1, hw1⟩ : ∃ w1, w0.alloc (.cells (bof (L + 1) fun _ => false).toArray 4) = w1 := ⟨_, rfl⟩
  have MK1 := MK w0
  have wl : IntKind.i64.wrap ((L : Int) + 1) = (L : Int) + 1 := by rw [IntKind.wrap_i64]; omega
  have el : ((L + 1 : Nat) : Int) = (L : Int) + 1 := by simp
  rw [hw1, el] at MK1
  rw [hw0] at BX
  have e0 : w0.heap.size = w.heap.size + 1 := by rw [← hw0]; simp
  have B01 : Below (w.heap.size + 1) w0 w1 := by
    rw [← hw1, ← e0]
    exact (Below.refl _ _).alloc (Nat.le_refl _) _
  have O1 : OwnB w1 w0.heap.size w0.heap.size (L + 1) (fun _ => false) := by rw [← hw1]; exact own_made (L + 1) (by omega) w0
  obtain ⟨⟨q0, _, _, _, _, _⟩, BW⟩ := BX.out w1 B01
  have I0 : Hid (OwnB w1 w.heap.size w0.heap.size (L + 1) (Rx.aftAlt S (ks.take 0) f) ∧ Below (w.heap.size + 1) w0 w1 ∧ w.heap.size + 1 ≤ w1.heap.size) := ⟨by
    have h := O1.base (b1 := w.heap.size) (by omega)
    simpa [Rx.aftAlt] using h, B01, by have := B01.size; omega⟩
  clear T MK B01 BW hf O1 hw1
  generalize hg : w0.heap.size = g0 at *
  go_enter Tryd.func91, Tryd.ntmps91
  go_wp2
  clear MK1 q0 hw0
  go_loopw [7, 11] (fun vo i wr => ∃ k q : Nat, k ≤ N ∧ i = .int .i64 (k : Int) ∧ vo = .slice (some ⟨q, 0, none⟩) (L + 1) (L + 1) ∧ Hid (OwnB wr w.heap.size q (L + 1) (Rx.aftAlt S (ks.take k) f) ∧ Below (w.heap.size + 1) w0 wr ∧ w.heap.size + 1 ≤ wr.heap.size)) (fun _ i _ => N - (intOf i).toNat)
  case atStart => exact ⟨0, g0, by omega, rfl, by rw [e0], I0⟩
  case round =>
    clear I0
    obtain ⟨k, q, hk, rfl, rfl, HI⟩ := hrel
    obtain ⟨⟨_, _, _, _, _, q5⟩, BW⟩ := BX.out wr HI.out.2.1
    have BWH := Lib.hid BW
    clear BW
    by_cases hkn : k < N
    · have hkz : (k : Int) < (N : Int) := by omega
      have hAe := HT.out.ptr (by omega)
      subst hAe
      have c0 := HT.out.cells wr BWH.out k 0 hkn (by omega)
      have c1 := HT.out.cells wr BWH.out k 1 hkn (by omega)
      have c2 := HT.out.cells wr BWH.out k 2 hkn (by omega)
      have c3 := HT.out.cells wr BWH.out k 3 hkn (by omega)
      have c4 := HT.out.cells wr BWH.out k 4 hkn (by omega)
      have c5 := HT.out.cells wr BWH.out k 5 hkn (by omega)
      simp only [Nat.add_zero] at c0
      have CK := Lib.hid (HT.out.call k wr F cf f hkn BWH.out (HF.out.below BWH.out))
      have ATK := Lib.hid (AT.out k hkn f)
      have OW := Lib.hid HI.out.1
      have B0W := Lib.hid HI.out.2.1
      have SZW := HI.out.2.2
      have JN := Lib.hid (fun q' W (hW : Below wr.heap.size wr W) (ho : OwnB W wr.heap.size q' (L + 1) (Rx.aft S (Rx.nth ks k) f)) => rjoin_any (L + 1) (Rx.aftAlt S (ks.take k) f) (Rx.aft S (Rx.nth ks k) f) (some ⟨q, 0, none⟩) (some ⟨q', 0, none⟩) (L + 1) (L + 1) W (by omega) (HI.out.1.keep hW).is ho.is)
      unfold val6 at CK
      clear HI
      generalize V k 0 = v0 at *
      generalize V k 1 = v1 at *
      generalize V k 2 = v2 at *
      generalize V k 3 = v3 at *
      generalize V k 4 = v4 at *
      generalize V k 5 = v5 at *
      go_wp2_with fail
      refine CK.out.mono ?_
      rintro e w2 ⟨⟨q2, rfl, o2⟩, b2⟩
      have d2 := B0W.out.trans (b2.mono SZW)
      have z2 := b2.size
      have CJ := Lib.hid (JN.out q2 w2 b2 o2)
      clear CK JN b2 o2 c0 c1 c2 c3 c4 c5 q5
      go_wp2_with fail
      refine CJ.out.mono ?_
      rintro e w3 ⟨⟨q3, rfl, o3⟩, b3⟩
      have I3 : Hid (OwnB w3 w.heap.size q3 (L + 1) (Rx.aftAlt S (ks.take (k + 1)) f) ∧ Below (w.heap.size + 1) w0 w3 ∧ w.heap.size + 1 ≤ w3.heap.size) := ⟨(o3.base (by omega)).congr (fun i _ => (ATK.out i).symm), d2.trans (b3.mono (by omega)), by have := b3.size; omega⟩
      clear CJ o3 b3 d2
      go_wp2
      go_roundw
      case rel => exact ⟨k + 1, q3, by omega, by go_num, rfl, I3⟩
      case measure => simp [intOf]; omega
    · obtain rfl : k = N := by omega
      have hkz : ¬ (k : Int) < (k : Int) := by omega
      have R : Hid (AftDone w S L (.mk 3 a b c d ks) f (.returned (.slice (some ⟨q, 0, none⟩) (L + 1) (L + 1))) wr) := ⟨⟨q, rfl, by rw [E.out, ← AE.out]; exact HI.out.1⟩, BWH.out⟩
      clear HI HT
      go_wp2
      go_ret
      exact R.out

end Go.Proofs.YtjmojjjgifkkiaaDoor
namespace Go.Proofs.YtjmojjjgifkkiaaDoor
open Go.RowKit Go.Sort

theorem aft_plus_eq {S : List Nat} {a b c d : Nat} {ks : List Rx} {f : Nat → Bool} (h : ks.length = 1) : Rx.aft S (.mk 5 a b c d ks) f = Rx.star (Rx.aft S (Rx.nth ks 0)) (S.length + 1) (Rx.aft S (Rx.nth ks 0) f) := by
  match ks, h with
  | [k], _ => rfl

set_option maxRecDepth 100000 in
set_option maxHeartbeats 2000000 in
theorem after_plus {w : World} {s : ByteArray} {S : List Nat} {L : Nat} {ks : List Rx} {N : Nat} {A : Option Addr} {blk off : Nat} {V : Nat → Nat → Value} (T : AftH w s S L ks N A blk off V) (a b c d cap : Nat) (hN : N = 1) (F : Option Addr) (cf : Nat) (f : Nat → Bool) (hf : IsBo w F (L + 1) f) :
    Calls Tryd.prog 91 #[.agg #[.int .i64 5, .int .u64 (a : Int), .int .u64 (b : Int), .int .u64 (c : Int), .int .u64 (d : Int), .slice A N cap], .string s, .slice F (L + 1) cf] w (AftDone w S L (.mk 5 a b c d ks) f) := by
  have HT := Lib.hid T
  have hL := T.few
  have hs := T.size
  have E := Lib.hid (aft_plus_eq (S := S) (a := a) (b := b) (c := c) (d := d) (f := f) (T.len.trans hN))
  rw [T.text] at E
  have hA := T.ptr (by omega)
  subst hN hA
  have MK := fun W => make_bools (L + 1) (by omega) W
  have BX := Lib.hid (fun W => box6 (w := w) (v0 := .int .i64 5) (v1 := .int .u64 (a : Int)) (v2 := .int .u64 (b : Int)) (v3 := .int .u64 (c : Int)) (v4 := .int .u64 (d : Int)) (v5 := .slice (some ⟨blk, off, none⟩) 1 cap) (ty := 60) (W := W))
  obtain ⟨w0, hw0⟩ : ∃ w0, w.alloc (.cells #[.int .i64 5, .int .u64 (a : Int), .int .u64 (b : Int), .int .u64 (c : Int), .int .u64 (d : Int), .slice (some ⟨blk, off, none⟩) 1 cap] 60) = w0 := ⟨_, rfl⟩
  obtain ⟨w1, hw1⟩ : ∃ w1, w0.alloc (.cells (bof (L + 1) fun _ => false).toArray 4) = w1 := ⟨_, rfl⟩
  have MK1 := MK w0
  have wl : IntKind.i64.wrap ((L : Int) + 1) = (L : Int) + 1 := by rw [IntKind.wrap_i64]; omega
  have el : ((L + 1 : Nat) : Int) = (L : Int) + 1 := by simp
  rw [hw1, el] at MK1
  rw [hw0] at BX
  have B01 : Below (w.heap.size + 1) w0 w1 := by
    rw [← hw1]
    have e : w0.heap.size = w.heap.size + 1 := by rw [← hw0]; simp
    rw [← e]
    exact (Below.refl _ _).alloc (Nat.le_refl _) _
  obtain ⟨⟨q0, q1, q2, q3, q4, q5⟩, BW⟩ := BX.out w1 B01
  have BWH := Lib.hid BW
  have c0 := T.cells w1 BW 0 0 (by omega) (by omega)
  have c1 := T.cells w1 BW 0 1 (by omega) (by omega)
  have c2 := T.cells w1 BW 0 2 (by omega) (by omega)
  have c3 := T.cells w1 BW 0 3 (by omega) (by omega)
  have c4 := T.cells w1 BW 0 4 (by omega) (by omega)
  have c5 := T.cells w1 BW 0 5 (by omega) (by omega)
  simp only [Nat.zero_mul, Nat.add_zero] at c0 c1 c2 c3 c4 c5
  have CK := Lib.hid (T.call 0 w1 F cf f (by omega) BW (hf.below BW))
  unfold val6 at CK
  have SY := Lib.hid (Rx.aft_says S (Rx.nth ks 0))
  rw [T.text] at SY
  have B0H := Lib.hid B01
  have S01 := B01.size
  have SZ1 : w.heap.size + 1 ≤ w1.heap.size := by have e : w0.heap.size = w.heap.size + 1 := by (rw [← hw0]; simp)
                                                  omega
  clear T MK B01 BW hf q1 q2 q3 q4 hw1
  obtain ⟨g, hg⟩ : ∃ g, Rx.aft S (Rx.nth ks 0) = g := ⟨_, rfl⟩
  rw [hg] at CK E SY
  go_enter Tryd.func91, Tryd.ntmps91
  go_wp2_with fail
  refine CK.out.mono ?_
  rintro e w2 ⟨⟨q, rfl, o2⟩, b2⟩
  have I0 : Hid (OwnB w2 w.heap.size q (L + 1) (g f) ∧ Below (w.heap.size + 1) w0 w2 ∧ w.heap.size + 1 ≤ w2.heap.size) := ⟨o2.base (by omega), B0H.out.trans (b2.mono SZ1), by have := b2.size; omega⟩
  clear CK b2 o2 c0 c1 c2 c3 c4 c5 q0 q5 MK1 hw0
  go_wp2
  go_loopw [7, 12] (fun vo i wr => ∃ k q : Nat, k ≤ L + 1 ∧ i = .int .i64 (k : Int) ∧ vo = .slice (some ⟨q, 0, none⟩) (L + 1) (L + 1) ∧ Hid (∃ h, OwnB wr w.heap.size q (L + 1) h ∧ Below (w.heap.size + 1) w0 wr ∧ w.heap.size + 1 ≤ wr.heap.size ∧ ∀ j, j ≤ L → Rx.star g (L + 1 - k) h j = Rx.star g (L + 1) (g f) j)) (fun _ i _ => L + 1 - (intOf i).toNat)
  case atStart => exact ⟨0, q, by omega, rfl, rfl, _, I0.out.1, I0.out.2.1, I0.out.2.2, fun j _ => rfl⟩
  case round =>
    clear I0
    obtain ⟨k, qo, hk, rfl, rfl, HI⟩ := hrel
    obtain ⟨h, OH, BH, SH, ST⟩ := HI.out
    have HO := Lib.hid OH
    have HBH := Lib.hid BH
    have HST := Lib.hid ST
    clear HI OH ST BH
    obtain ⟨⟨_, _, _, _, _, q5⟩, BW⟩ := BX.out wr HBH.out
    have BWR := Lib.hid BW
    clear BW
    by_cases hkL : k ≤ L
    · have hkz : (k : Int) ≤ (L : Int) := by omega
      have c0 := HT.out.cells wr BWR.out 0 0 (by omega) (by omega)
      have c1 := HT.out.cells wr BWR.out 0 1 (by omega) (by omega)
      have c2 := HT.out.cells wr BWR.out 0 2 (by omega) (by omega)
      have c3 := HT.out.cells wr BWR.out 0 3 (by omega) (by omega)
      have c4 := HT.out.cells wr BWR.out 0 4 (by omega) (by omega)
      have c5 := HT.out.cells wr BWR.out 0 5 (by omega) (by omega)
      simp only [Nat.zero_mul, Nat.add_zero] at c0 c1 c2 c3 c4 c5
      have CK := Lib.hid (HT.out.call 0 wr (some ⟨qo, 0, none⟩) (L + 1) h (by omega) BWR.out HO.out.is)
      rw [hg] at CK
      unfold val6 at CK
      generalize V 0 0 = v0 at *
      generalize V 0 1 = v1 at *
      generalize V 0 2 = v2 at *
      generalize V 0 3 = v3 at *
      generalize V 0 4 = v4 at *
      generalize V 0 5 = v5 at *
      go_wp2_with fail
      refine CK.out.mono ?_
      rintro e w3 ⟨⟨q3, rfl, o3⟩, b3⟩
      have d3 := HBH.out.trans (b3.mono SH)
      have z3 := b3.size
      have CJ := Lib.hid (rjoin_any (L + 1) h (g h) (some ⟨qo, 0, none⟩) (some ⟨q3, 0, none⟩) (L + 1) (L + 1) w3 (by omega) (HO.out.keep b3).is o3.is)
      have K3 := Lib.hid (HO.out.keep b3)
      clear CK b3 o3 c0 c1 c2 c3 c4 c5 q5
      go_wp2_with fail
      refine CJ.out.mono ?_
      rintro e w4 ⟨⟨q4, rfl, o4⟩, b4⟩
      have d4 := d3.trans (b4.mono (by omega))
      have z4 := b4.size
      have K4 := Lib.hid (K3.out.keep b4)
      have O4 := Lib.hid (o4.base (b1 := w.heap.size) (by omega))
      have CS := Lib.hid (rsame_any (L + 1) (fun i => h i || g h i) h (some ⟨q4, 0, none⟩) (some ⟨qo, 0, none⟩) (L + 1) (L + 1) w4 (by omega) o4.is K4.out.is)
      clear CJ o4 b4 d3 K3
      cases hsm : sameB (L + 1) (fun i => h i || g h i) h
      · rw [hsm] at CS
        clear hsm
        go_wp2_with fail
        refine CS.out.mono ?_
        rintro e w5 ⟨rfl, b5⟩
        have I5 : Hid (OwnB w5 w.heap.size q4 (L + 1) (fun i => h i || g h i) ∧ Below (w.heap.size + 1) w0 w5 ∧ w.heap.size + 1 ≤ w5.heap.size ∧ ∀ j, j ≤ L → Rx.star g (L + 1 - (k + 1)) (fun i => h i || g h i) j = Rx.star g (L + 1) (g f) j) := ⟨O4.out.keep b5, d4.trans (b5.mono (by omega)), by have := b5.size; omega, fun j hj => by
          rw [← HST.out j hj]
          obtain ⟨m, hm⟩ : ∃ m, L + 1 - k = m + 1 := ⟨L - k, by omega⟩
          have hm2 : L + 1 - (k + 1) = m := by omega
          rw [hm, hm2]; rfl⟩
        clear CS b5 d4 K4 O4
        go_wp2
        go_roundw
        case rel => exact ⟨k + 1, q4, by omega, by go_num, rfl, _, I5.out⟩
        case measure => simp [intOf]; omega
      · have SS : ∀ i, i ≤ L → (h i || g h i) = h i := fun i hi => (of_decide_eq_true hsm) i (by omega)
        have FIX : Hid (∀ j, j ≤ L → h j = Rx.star g (L + 1) (g f) j) := fun j hj => by
          rw [← HST.out j hj]
          exact (Rx.star_stop SY.out SS _ hj).symm
        rw [hsm] at CS
        clear hsm SS
        go_wp2_with fail
        refine CS.out.mono ?_
        rintro e w5 ⟨rfl, b5⟩
        have R : Hid (AftDone w S L (.mk 5 a b c d ks) f (.returned (.slice (some ⟨qo, 0, none⟩) (L + 1) (L + 1))) w5) := by
          refine ⟨⟨qo, rfl, ?_⟩, ?_⟩
          · rw [E.out]
            exact (K4.out.keep b5).congr fun i hi => FIX.out i (by omega)
          · exact (BX.out w5 (d4.trans (b5.mono (by omega)))).2
        clear CS b5 d4 K4 O4
        go_wp2
        go_ret
        exact R.out
    · have hkz : ¬ (k : Int) ≤ (L : Int) := by omega
      have R : Hid (AftDone w S L (.mk 5 a b c d ks) f (.returned (.slice (some ⟨qo, 0, none⟩) (L + 1) (L + 1))) wr) := by
        refine ⟨⟨qo, rfl, ?_⟩, BWR.out⟩
        rw [E.out]
        refine HO.out.congr fun i hi => ?_
        rw [← HST.out i (by omega), show L + 1 - k = 0 by omega]; rfl
      clear HT
      go_wp2
      go_ret
      exact R.out

end Go.Proofs.YtjmojjjgifkkiaaDoor
