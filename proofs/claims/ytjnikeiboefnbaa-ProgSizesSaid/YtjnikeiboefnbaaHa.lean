/-
  Plain mathematics of the program's way through a text: a tree whose parts say whether the last byte was read in them and whether a match ends there; what reading a byte makes of it; that it says where matches end. No conditions.
-/
import Derived.Test.YtjnikeiboefnbaaProg
import Derived.Test.YtjnikeiboefnbaaEa
import Derived.Test.YtjnikeiboefnbaaEd
import Derived.Test.YtjnikeiboefnbaaEe
import Derived.Laws.MakeOwn
import Derived.Laws.OwnMore
import Derived.OwnWalk
import Derived.WalkKit
import Derived.WalkSpells
import Derived.WalkLawsBesides
import Derived.Lib.Hide
import Derived.Below
import Derived.BigQuiet
import Derived.Lib.QuietBelow
import Derived.Laws.StructEq
import Derived.KernelRfl
import Derived.Deep.RegionHeld3
namespace Go.Proofs.Ytjnikeiboefnbaa
/-- A part, with the block in which its kids lie. -/
inductive Pt where
  | mk (op : Int) (a b c d blk : Nat) (em lv la : Bool) (kids : List Pt) : Pt
namespace Pt
def op : Pt → Int | .mk o _ _ _ _ _ _ _ _ _ => o
def blk : Pt → Nat | .mk _ _ _ _ _ b _ _ _ _ => b
def em : Pt → Bool | .mk _ _ _ _ _ _ e _ _ _ => e
def lv : Pt → Bool | .mk _ _ _ _ _ _ _ l _ _ => l
def la : Pt → Bool | .mk _ _ _ _ _ _ _ _ l _ => l
def kids : Pt → List Pt | .mk _ _ _ _ _ _ _ _ _ k => k
def nil : Pt := .mk 0 0 0 0 0 0 false false false []
def nth (ks : List Pt) (j : Nat) : Pt := ks.getD j nil
theorem nth_eq {ks : List Pt} {j : Nat} (h : j < ks.length) : nth ks j = ks[j] := by simp [nth, List.getD, List.getElem?_eq_getElem h]
theorem drop_nth {ks : List Pt} {k : Nat} (h : k < ks.length) : ks.drop k = nth ks k :: ks.drop (k + 1) := by rw [List.drop_eq_getElem_cons h, nth_eq h]
theorem take_nth {ks : List Pt} {k : Nat} (h : k < ks.length) : ks.take (k + 1) = ks.take k ++ [nth ks k] := by rw [List.take_succ_eq_append_getElem h, nth_eq h]
mutual
def count : Pt → Nat
  | .mk _ _ _ _ _ _ _ _ _ ks => 1 + countL ks
def countL : List Pt → Nat
  | [] => 0
  | k :: r => count k + countL r
end
theorem count_pos : ∀ t : Pt, 1 ≤ count t
  | .mk _ _ _ _ _ _ _ _ _ _ => by rw [count]; omega
theorem len_count : ∀ ks : List Pt, ks.length ≤ countL ks
  | [] => Nat.le_refl _
  | k :: r => by have := len_count r; have := count_pos k; rw [countL, List.length_cons]; omega
theorem mem_count : ∀ {ks : List Pt} {t : Pt}, t ∈ ks → count t ≤ countL ks
  | k :: r, t, h => by
    rw [countL]
    rcases List.mem_cons.1 h with rfl | h
    · omega
    · have := mem_count h; omega
theorem nth_count {ks : List Pt} {j : Nat} (h : j < ks.length) : count (nth ks j) ≤ countL ks := by rw [nth_eq h]; exact mem_count (List.getElem_mem h)
mutual
/-- The blocks in which parts below it lie. -/
def bl : Pt → List Nat
  | .mk _ _ _ _ _ b _ _ _ ks => b :: blL ks
def blL : List Pt → List Nat
  | [] => []
  | k :: r => bl k ++ blL r
end
mutual
/-- The tree without what is known of the text. -/
def sh : Pt → Rx
  | .mk op a b c d _ _ _ _ ks => .mk op a b c d (shL ks)
def shL : List Pt → List Rx
  | [] => []
  | k :: r => sh k :: shL r
end
/-- The last of them that ends, or is empty behind one that does. -/
def lastSeq : Bool → List Pt → Bool
  | p, [] => p
  | p, k :: r => lastSeq (k.la || (p && k.em)) r
mutual
/-- What reading a byte makes of a part; bg: may a match begin with it? -/
def rd (x : Nat) : Pt → Bool → Pt
  | .mk op a b c d blk em _ la ks, bg =>
    if op = 1 then .mk op a b c d blk em (bg && hasB a b c d x) (bg && hasB a b c d x) ks
    else if op = 2 then .mk op a b c d blk em ((rdSeq x ks bg).any lv) (lastSeq false (rdSeq x ks bg)) (rdSeq x ks bg)
    else if op = 4 ∨ op = 5 then .mk op a b c d blk em ((rdAll x ks (bg || la)).any lv) ((rdAll x ks (bg || la)).any Pt.la) (rdAll x ks (bg || la))
    else .mk op a b c d blk em ((rdAll x ks bg).any lv) ((rdAll x ks bg).any Pt.la) (rdAll x ks bg)
def rdAll (x : Nat) : List Pt → Bool → List Pt
  | [], _ => []
  | k :: r, bg => rd x k bg :: rdAll x r bg
def rdSeq (x : Nat) : List Pt → Bool → List Pt
  | [], _ => []
  | k :: r, bg => rd x k bg :: rdSeq x r (k.la || (bg && k.em))
end
theorem rdAll_map (x : Nat) (bg : Bool) : ∀ ks : List Pt, rdAll x ks bg = ks.map fun k => rd x k bg
  | [] => by rw [rdAll]; rfl
  | k :: r => by rw [rdAll, rdAll_map x bg r]; rfl
/-- May the next one begin? -/
def bgAt : List Pt → Bool → Bool
  | [], bg => bg
  | k :: r, bg => bgAt r (k.la || (bg && k.em))
theorem bgAt_snoc (k : Pt) : ∀ (l : List Pt) (bg : Bool), bgAt (l ++ [k]) bg = (k.la || (bgAt l bg && k.em))
  | [], bg => rfl
  | j :: r, bg => by rw [List.cons_append, bgAt, bgAt_snoc k r]; rfl
theorem rdSeq_snoc (x : Nat) (k : Pt) : ∀ (l : List Pt) (bg : Bool), rdSeq x (l ++ [k]) bg = rdSeq x l bg ++ [rd x k (bgAt l bg)]
  | [], bg => by simp [rdSeq, bgAt]
  | j :: r, bg => by rw [List.cons_append, rdSeq, rdSeq, rdSeq_snoc x k r]; rfl
theorem lastSeq_snoc (k : Pt) : ∀ (l : List Pt) (p : Bool), lastSeq p (l ++ [k]) = (k.la || (lastSeq p l && k.em))
  | [], p => rfl
  | j :: r, p => by rw [List.cons_append, lastSeq, lastSeq_snoc k r]; rfl
theorem rdSeq_len (x : Nat) : ∀ (l : List Pt) (bg : Bool), (rdSeq x l bg).length = l.length
  | [], bg => by rw [rdSeq]
  | j :: r, bg => by rw [rdSeq, List.length_cons, rdSeq_len x r, List.length_cons]
theorem rdAll_len (x : Nat) (l : List Pt) (bg : Bool) : (rdAll x l bg).length = l.length := by rw [rdAll_map]; simp
mutual
theorem bl_rd (x : Nat) : ∀ (t : Pt) (bg : Bool), bl (rd x t bg) = bl t
  | .mk op a b c d blk em l la ks, bg => by
    rw [rd]
    split
    · rfl
    · split
      · rw [bl, bl, bl_rdSeq x ks]
      · split
        · rw [bl, bl, bl_rdAll x ks]
        · rw [bl, bl, bl_rdAll x ks]
theorem bl_rdAll (x : Nat) : ∀ (l : List Pt) (bg : Bool), blL (rdAll x l bg) = blL l
  | [], _ => by rw [rdAll]
  | k :: r, bg => by rw [rdAll, blL, blL, bl_rd x k, bl_rdAll x r]
theorem bl_rdSeq (x : Nat) : ∀ (l : List Pt) (bg : Bool), blL (rdSeq x l bg) = blL l
  | [], _ => by rw [rdSeq]
  | k :: r, bg => by rw [rdSeq, blL, blL, bl_rd x k, bl_rdSeq x r]
end
mutual
theorem count_rd (x : Nat) : ∀ (t : Pt) (bg : Bool), count (rd x t bg) = count t
  | .mk op a b c d blk em l la ks, bg => by
    rw [rd]
    split
    · rfl
    · split
      · rw [count, count, count_rdSeq x ks]
      · split
        · rw [count, count, count_rdAll x ks]
        · rw [count, count, count_rdAll x ks]
theorem count_rdAll (x : Nat) : ∀ (l : List Pt) (bg : Bool), countL (rdAll x l bg) = countL l
  | [], _ => by rw [rdAll]
  | k :: r, bg => by rw [rdAll, countL, countL, count_rd x k, count_rdAll x r]
theorem count_rdSeq (x : Nat) : ∀ (l : List Pt) (bg : Bool), countL (rdSeq x l bg) = countL l
  | [], _ => by rw [rdSeq]
  | k :: r, bg => by rw [rdSeq, countL, countL, count_rd x k, count_rdSeq x r]
end
mutual
theorem sh_rd (x : Nat) : ∀ (t : Pt) (bg : Bool), sh (rd x t bg) = sh t
  | .mk op a b c d blk em l la ks, bg => by
    rw [rd]
    split
    · rfl
    · split
      · rw [sh, sh, sh_rdSeq x ks]
      · split
        · rw [sh, sh, sh_rdAll x ks]
        · rw [sh, sh, sh_rdAll x ks]
theorem sh_rdAll (x : Nat) : ∀ (l : List Pt) (bg : Bool), shL (rdAll x l bg) = shL l
  | [], _ => by rw [rdAll]
  | k :: r, bg => by rw [rdAll, shL, shL, sh_rd x k, sh_rdAll x r]
theorem sh_rdSeq (x : Nat) : ∀ (l : List Pt) (bg : Bool), shL (rdSeq x l bg) = shL l
  | [], _ => by rw [rdSeq]
  | k :: r, bg => by rw [rdSeq, shL, shL, sh_rd x k, sh_rdSeq x r]
end
theorem em_rd (x : Nat) : ∀ (t : Pt) (bg : Bool), (rd x t bg).em = t.em
  | .mk op a b c d blk em l la ks, bg => by
    rw [rd]
    split
    · rfl
    · split
      · rfl
      · split <;> rfl
mutual
/-- Nothing was read in it. -/
def dead : Pt → Prop
  | .mk _ _ _ _ _ _ _ lv la ks => lv = false ∧ la = false ∧ deadL ks
def deadL : List Pt → Prop
  | [] => True
  | k :: r => dead k ∧ deadL r
end
mutual
/-- A part of bytes has no kids; one in which nothing was read is so to the bottom. -/
def wf : Pt → Prop
  | .mk op _ _ _ _ _ _ lv la ks => (op = 1 → ks = []) ∧ (lv = false → la = false ∧ deadL ks) ∧ wfL ks
def wfL : List Pt → Prop
  | [] => True
  | k :: r => wf k ∧ wfL r
end
theorem wf_dead : ∀ {t : Pt}, wf t → t.lv = false → dead t
  | .mk op a b c d blk em lv la ks, h, e => by
    rw [wf] at h
    rw [dead]
    exact ⟨e, h.2.1 e⟩
theorem dead_lv : ∀ {t : Pt}, dead t → t.lv = false
  | .mk _ _ _ _ _ _ _ _ _ _, h => by rw [dead] at h; exact h.1
theorem dead_la : ∀ {t : Pt}, dead t → t.la = false
  | .mk _ _ _ _ _ _ _ _ _ _, h => by rw [dead] at h; exact h.2.1
theorem deadL_of : ∀ {ks : List Pt}, wfL ks → ks.any lv = false → deadL ks
  | [], _, _ => by rw [deadL]; trivial
  | k :: r, h, e => by
    rw [wfL] at h
    rw [List.any_cons, Bool.or_eq_false_iff] at e
    rw [deadL]
    exact ⟨wf_dead h.1 e.1, deadL_of h.2 e.2⟩
theorem deadL_lv : ∀ {ks : List Pt}, deadL ks → ks.any lv = false
  | [], _ => rfl
  | k :: r, h => by
    rw [deadL] at h
    rw [List.any_cons, dead_lv h.1, deadL_lv h.2]; rfl
theorem deadL_la : ∀ {ks : List Pt}, deadL ks → ks.any Pt.la = false
  | [], _ => rfl
  | k :: r, h => by
    rw [deadL] at h
    rw [List.any_cons, dead_la h.1, deadL_la h.2]; rfl
theorem deadL_last : ∀ {ks : List Pt}, deadL ks → lastSeq false ks = false
  | [], _ => rfl
  | k :: r, h => by
    rw [deadL] at h
    rw [lastSeq, dead_la h.1]
    exact deadL_last h.2
mutual
theorem wf_rd (x : Nat) : ∀ (t : Pt) (bg : Bool), wf t → wf (rd x t bg)
  | .mk op a b c d blk em l la ks, bg, h => by
    rw [wf] at h
    have h1 := fun bg => wf_rdAll x ks bg h.2.2
    have h2 := wf_rdSeq x ks bg h.2.2
    rw [rd]
    split
    · rename_i o
      have e := h.1 o
      subst e
      rw [wf]
      exact ⟨fun _ => rfl, fun q => ⟨q, by rw [deadL]; trivial⟩, by rw [wfL]; trivial⟩
    · rename_i o
      split
      · rw [wf]
        exact ⟨fun q => absurd q o, fun q => ⟨deadL_last (deadL_of h2 q), deadL_of h2 q⟩, h2⟩
      · split
        · rw [wf]
          exact ⟨fun q => absurd q o, fun q => ⟨deadL_la (deadL_of (h1 _) q), deadL_of (h1 _) q⟩, h1 _⟩
        · rw [wf]
          exact ⟨fun q => absurd q o, fun q => ⟨deadL_la (deadL_of (h1 _) q), deadL_of (h1 _) q⟩, h1 _⟩
theorem wf_rdAll (x : Nat) : ∀ (l : List Pt) (bg : Bool), wfL l → wfL (rdAll x l bg)
  | [], _, h => by rw [rdAll]; exact h
  | k :: r, bg, h => by
    rw [wfL] at h
    rw [rdAll, wfL]
    exact ⟨wf_rd x k bg h.1, wf_rdAll x r bg h.2⟩
theorem wf_rdSeq (x : Nat) : ∀ (l : List Pt) (bg : Bool), wfL l → wfL (rdSeq x l bg)
  | [], _, h => by rw [rdSeq]; exact h
  | k :: r, bg, h => by
    rw [wfL] at h
    rw [rdSeq, wfL]
    exact ⟨wf_rd x k bg h.1, wf_rdSeq x r _ h.2⟩
end
mutual
theorem dead_rd (x : Nat) : ∀ (t : Pt), wf t → dead t → rd x t false = t
  | .mk op a b c d blk em l la ks, hw, h => by
    rw [dead] at h
    rw [wf] at hw
    obtain ⟨rfl, rfl, h3⟩ := h
    have h1 := dead_rdAll x ks hw.2.2 h3
    have h2 := dead_rdSeq x ks hw.2.2 h3
    rw [rd]
    split
    · rfl
    · split
      · rw [h2, deadL_lv h3, deadL_last h3]
      · split
        · rw [Bool.or_false, h1, deadL_lv h3, deadL_la h3]
        · rw [h1, deadL_lv h3, deadL_la h3]
theorem dead_rdAll (x : Nat) : ∀ (l : List Pt), wfL l → deadL l → rdAll x l false = l
  | [], _, _ => by rw [rdAll]
  | k :: r, hw, h => by
    rw [deadL] at h
    rw [wfL] at hw
    rw [rdAll, dead_rd x k hw.1 h.1, dead_rdAll x r hw.2 h.2]
theorem dead_rdSeq (x : Nat) : ∀ (l : List Pt), wfL l → deadL l → rdSeq x l false = l
  | [], _, _ => by rw [rdSeq]
  | k :: r, hw, h => by
    rw [deadL] at h
    rw [wfL] at hw
    rw [rdSeq, dead_rd x k hw.1 h.1, dead_la h.1, Bool.false_and, Bool.or_false, dead_rdSeq x r hw.2 h.2]
end
end Pt

end Go.Proofs.Ytjnikeiboefnbaa
