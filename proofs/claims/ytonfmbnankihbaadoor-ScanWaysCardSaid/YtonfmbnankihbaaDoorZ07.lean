/-
  Plain mathematics of the program's way through a text: a tree whose parts say whether the last byte was read in them and whether a match ends there; what reading a byte makes of it; that it says where matches end. No conditions.
  Plain mathematics of the program's way through a text: a part that was read up to a place says where matches end; another byte keeps that true. No conditions.
  Parts in memory: where a part and all below it lie; what a store into it, or into one of its kids, leaves of the rest. No conditions.
  What the program's readEach does to a part: each kid reads the byte. Conditions: at most 1000 parts.
-/
import Derived.Test.YtonfmbnankihbaaDoorProg
import Derived.Test.YtonfmbnankihbaaDoorZ01
import Derived.Test.YtonfmbnankihbaaDoorZ02
import Derived.Test.YtonfmbnankihbaaDoorZ03
import Derived.Test.YtonfmbnankihbaaDoorZ04
import Derived.Laws.MakeOwn
import Derived.Laws.OwnMore
import Derived.OwnWalk
import Derived.WalkKit
import Derived.WalkSpells
import Derived.WalkLawsBesides
import Derived.Lib.Hide
import Derived.Below
import Derived.BigQuiet
import Derived.Lib.QuietBelow
import Derived.Laws.StructEq
import Derived.KernelRfl
import Derived.Deep.RegionHeld3
import Derived.Laws.AppendOwn
import Derived.Laws.CopyOwn
namespace Go.Proofs.YtonfmbnankihbaaDoor
/-- A part, with the block in which its kids lie. -/
inductive Pt where
  | mk (op : Int) (a b c d blk : Nat) (em lv la : Bool) (kids : List Pt) : Pt
namespace Pt
def op : Pt → Int | .mk o _ _ _ _ _ _ _ _ _ => o
def blk : Pt → Nat | .mk _ _ _ _ _ b _ _ _ _ => b
def em : Pt → Bool | .mk _ _ _ _ _ _ e _ _ _ => e
def lv : Pt → Bool | .mk _ _ _ _ _ _ _ l _ _ => l
def la : Pt → Bool | .mk _ _ _ _ _ _ _ _ l _ => l
def kids : Pt → List Pt | .mk _ _ _ _ _ _ _ _ _ k => k
def nil : Pt := .mk 0 0 0 0 0 0 false false false []
def nth (ks : List Pt) (j : Nat) : Pt := ks.getD j nil
theorem nth_eq {ks : List Pt} {j : Nat} (h : j < ks.length) : nth ks j = ks[j] := by simp [nth, List.getD, List.getElem?_eq_getElem h]
theorem drop_nth {ks : List Pt} {k : Nat} (h : k < ks.length) : ks.drop k = nth ks k :: ks.drop (k + 1) := by rw [List.drop_eq_getElem_cons h, nth_eq h]
theorem take_nth {ks : List Pt} {k : Nat} (h : k < ks.length) : ks.take (k + 1) = ks.take k ++ [nth ks k] := by rw [List.take_succ_eq_append_getElem h, nth_eq h]
mutual
def count : Pt → Nat
  | .mk _ _ _ _ _ _ _ _ _ ks => 1 + countL ks
def countL : List Pt → Nat
  | [] => 0
  | k :: r => count k + countL r
end
theorem count_pos : ∀ t : Pt, 1 ≤ count t
  | .mk _ _ _ _ _ _ _ _ _ _ => by rw [count]; omega
theorem len_count : ∀ ks : List Pt, ks.length ≤ countL ks
  | [] => Nat.le_refl _
  | k :: r => by have := len_count r; have := count_pos k; rw [countL, List.length_cons]; omega
theorem mem_count : ∀ {ks : List Pt} {t : Pt}, t ∈ ks → count t ≤ countL ks
  | k :: r, t, h => by
    rw [countL]
    rcases List.mem_cons.1 h with rfl | h
    · omega
    · have := mem_count h; omega
theorem nth_count {ks : List Pt} {j : Nat} (h : j < ks.length) : count (nth ks j) ≤ countL ks := by rw [nth_eq h]; exact mem_count (List.getElem_mem h)
mutual
/-- The blocks in which parts below it lie. -/
def bl : Pt → List Nat
  | .mk _ _ _ _ _ b _ _ _ ks => b :: blL ks
def blL : List Pt → List Nat
  | [] => []
  | k :: r => bl k ++ blL r
end
mutual
/-- The tree without what is known of the text. -/
def sh : Pt → Rx
  | .mk op a b c d _ _ _ _ ks => .mk op a b c d (shL ks)
def shL : List Pt → List Rx
  | [] => []
  | k :: r => sh k :: shL r
end
/-- The last of them that ends, or is empty behind one that does. -/
def lastSeq : Bool → List Pt → Bool
  | p, [] => p
  | p, k :: r => lastSeq (k.la || (p && k.em)) r
mutual
/-- What reading a byte makes of a part; bg: may a match begin with it? -/
def rd (x : Nat) : Pt → Bool → Pt
  | .mk op a b c d blk em _ la ks, bg =>
    if op = 1 then .mk op a b c d blk em (bg && hasB a b c d x) (bg && hasB a b c d x) ks
    else if op = 2 then .mk op a b c d blk em ((rdSeq x ks bg).any lv) (lastSeq false (rdSeq x ks bg)) (rdSeq x ks bg)
    else if op = 4 ∨ op = 5 then .mk op a b c d blk em ((rdAll x ks (bg || la)).any lv) ((rdAll x ks (bg || la)).any Pt.la) (rdAll x ks (bg || la))
    else .mk op a b c d blk em ((rdAll x ks bg).any lv) ((rdAll x ks bg).any Pt.la) (rdAll x ks bg)
def rdAll (x : Nat) : List Pt → Bool → List Pt
  | [], _ => []
  | k :: r, bg => rd x k bg :: rdAll x r bg
def rdSeq (x : Nat) : List Pt → Bool → List Pt
  | [], _ => []
  | k :: r, bg => rd x k bg :: rdSeq x r (k.la || (bg && k.em))
end
theorem rdAll_map (x : Nat) (bg : Bool) : ∀ ks : List Pt, rdAll x ks bg = ks.map fun k => rd x k bg
  | [] => by rw [rdAll]; rfl
  | k :: r => by rw [rdAll, rdAll_map x bg r]; rfl
/-- May the next one begin? -/
def bgAt : List Pt → Bool → Bool
  | [], bg => bg
  | k :: r, bg => bgAt r (k.la || (bg && k.em))
theorem bgAt_snoc (k : Pt) : ∀ (l : List Pt) (bg : Bool), bgAt (l ++ [k]) bg = (k.la || (bgAt l bg && k.em))
  | [], bg => rfl
  | j :: r, bg => by rw [List.cons_append, bgAt, bgAt_snoc k r]; rfl
theorem rdSeq_snoc (x : Nat) (k : Pt) : ∀ (l : List Pt) (bg : Bool), rdSeq x (l ++ [k]) bg = rdSeq x l bg ++ [rd x k (bgAt l bg)]
  | [], bg => by simp [rdSeq, bgAt]
  | j :: r, bg => by rw [List.cons_append, rdSeq, rdSeq, rdSeq_snoc x k r]; rfl
theorem lastSeq_snoc (k : Pt) : ∀ (l : List Pt) (p : Bool), lastSeq p (l ++ [k]) = (k.la || (lastSeq p l && k.em))
  | [], p => rfl
  | j :: r, p => by rw [List.cons_append, lastSeq, lastSeq_snoc k r]; rfl
theorem rdSeq_len (x : Nat) : ∀ (l : List Pt) (bg : Bool), (rdSeq x l bg).length = l.length
  | [], bg => by rw [rdSeq]
  | j :: r, bg => by rw [rdSeq, List.length_cons, rdSeq_len x r, List.length_cons]
theorem rdAll_len (x : Nat) (l : List Pt) (bg : Bool) : (rdAll x l bg).length = l.length := by rw [rdAll_map]; simp
mutual
theorem bl_rd (x : Nat) : ∀ (t : Pt) (bg : Bool), bl (rd x t bg) = bl t
  | .mk op a b c d blk em l la ks, bg => by
    rw [rd]
    split
    · rfl
    · split
      · rw [bl, bl, bl_rdSeq x ks]
      · split
        · rw [bl, bl, bl_rdAll x ks]
        · rw [bl, bl, bl_rdAll x ks]
theorem bl_rdAll (x : Nat) : ∀ (l : List Pt) (bg : Bool), blL (rdAll x l bg) = blL l
  | [], _ => by rw [rdAll]
  | k :: r, bg => by rw [rdAll, blL, blL, bl_rd x k, bl_rdAll x r]
theorem bl_rdSeq (x : Nat) : ∀ (l : List Pt) (bg : Bool), blL (rdSeq x l bg) = blL l
  | [], _ => by rw [rdSeq]
  | k :: r, bg => by rw [rdSeq, blL, blL, bl_rd x k, bl_rdSeq x r]
end
mutual
theorem count_rd (x : Nat) : ∀ (t : Pt) (bg : Bool), count (rd x t bg) = count t
  | .mk op a b c d blk em l la ks, bg => by
    rw [rd]
    split
    · rfl
    · split
      · rw [count, count, count_rdSeq x ks]
      · split
        · rw [count, count, count_rdAll x ks]
        · rw [count, count, count_rdAll x ks]
theorem count_rdAll (x : Nat) : ∀ (l : List Pt) (bg : Bool), countL (rdAll x l bg) = countL l
  | [], _ => by rw [rdAll]
  | k :: r, bg => by rw [rdAll, countL, countL, count_rd x k, count_rdAll x r]
theorem count_rdSeq (x : Nat) : ∀ (l : List Pt) (bg : Bool), countL (rdSeq x l bg) = countL l
  | [], _ => by rw [rdSeq]
  | k :: r, bg => by rw [rdSeq, countL, countL, count_rd x k, count_rdSeq x r]
end
mutual
theorem sh_rd (x : Nat) : ∀ (t : Pt) (bg : Bool), sh (rd x t bg) = sh t
  | .mk op a b c d blk em l la ks, bg => by
    rw [rd]
    split
    · rfl
    · split
      · rw [sh, sh, sh_rdSeq x ks]
      · split
        · rw [sh, sh, sh_rdAll x ks]
        · rw [sh, sh, sh_rdAll x ks]
theorem sh_rdAll (x : Nat) : ∀ (l : List Pt) (bg : Bool), shL (rdAll x l bg) = shL l
  | [], _ => by rw [rdAll]
  | k :: r, bg => by rw [rdAll, shL, shL, sh_rd x k, sh_rdAll x r]
theorem sh_rdSeq (x : Nat) : ∀ (l : List Pt) (bg : Bool), shL (rdSeq x l bg) = shL l
  | [], _ => by rw [rdSeq]
  | k :: r, bg => by rw [rdSeq, shL, shL, sh_rd x k, sh_rdSeq x r]
end
theorem em_rd (x : Nat) : ∀ (t : Pt) (bg : Bool), (rd x t bg).em = t.em
  | .mk op a b c d blk em l la ks, bg => by
    rw [rd]
    split
    · rfl
    · split
      · rfl
      · split <;> rfl
mutual
/-- Nothing was read in it. -/
def dead : Pt → Prop
  | .mk _ _ _ _ _ _ _ lv la ks => lv = false ∧ la = false ∧ deadL ks
def deadL : List Pt → Prop
  | [] => True
  | k :: r => dead k ∧ deadL r
end
mutual
/-- A part of bytes has no kids; one in which nothing was read is so to the bottom. -/
def wf : Pt → Prop
  | .mk op _ _ _ _ _ _ lv la ks => (op = 1 → ks = []) ∧ (lv = false → la = false ∧ deadL ks) ∧ wfL ks
def wfL : List Pt → Prop
  | [] => True
  | k :: r => wf k ∧ wfL r
end
theorem wf_dead : ∀ {t : Pt}, wf t → t.lv = false → dead t
  | .mk op a b c d blk em lv la ks, h, e => by
    rw [wf] at h
    rw [dead]
    exact ⟨e, h.2.1 e⟩
theorem dead_lv : ∀ {t : Pt}, dead t → t.lv = false
  | .mk _ _ _ _ _ _ _ _ _ _, h => by rw [dead] at h; exact h.1
theorem dead_la : ∀ {t : Pt}, dead t → t.la = false
  | .mk _ _ _ _ _ _ _ _ _ _, h => by rw [dead] at h; exact h.2.1
theorem deadL_of : ∀ {ks : List Pt}, wfL ks → ks.any lv = false → deadL ks
  | [], _, _ => by rw [deadL]; trivial
  | k :: r, h, e => by
    rw [wfL] at h
    rw [List.any_cons, Bool.or_eq_false_iff] at e
    rw [deadL]
    exact ⟨wf_dead h.1 e.1, deadL_of h.2 e.2⟩
theorem deadL_lv : ∀ {ks : List Pt}, deadL ks → ks.any lv = false
  | [], _ => rfl
  | k :: r, h => by
    rw [deadL] at h
    rw [List.any_cons, dead_lv h.1, deadL_lv h.2]; rfl
theorem deadL_la : ∀ {ks : List Pt}, deadL ks → ks.any Pt.la = false
  | [], _ => rfl
  | k :: r, h => by
    rw [deadL] at h
    rw [List.any_cons, dead_la h.1, deadL_la h.2]; rfl
theorem deadL_last : ∀ {ks : List Pt}, deadL ks → lastSeq false ks = false
  | [], _ => rfl
  | k :: r, h => by
    rw [deadL] at h
    rw [lastSeq, dead_la h.1]
    exact deadL_last h.2
mutual
theorem wf_rd (x : Nat) : ∀ (t : Pt) (bg : Bool), wf t → wf (rd x t bg)
  | .mk op a b c d blk em l la ks, bg, h => by
    rw [wf] at h
    have h1 := fun bg => wf_rdAll x ks bg h.2.2
    have h2 := wf_rdSeq x ks bg h.2.2
    rw [rd]
    split
    · rename_i o
      have e := h.1 o
      subst e
      rw [wf]
      exact ⟨fun _ => rfl, fun q => ⟨q, by rw [deadL]; trivial⟩, by rw [wfL]; trivial⟩
    · rename_i o
      split
      · rw [wf]
        exact ⟨fun q => absurd q o, fun q => ⟨deadL_last (deadL_of h2 q), deadL_of h2 q⟩, h2⟩
      · split
        · rw [wf]
          exact ⟨fun q => absurd q o, fun q => ⟨deadL_la (deadL_of (h1 _) q), deadL_of (h1 _) q⟩, h1 _⟩
        · rw [wf]
          exact ⟨fun q => absurd q o, fun q => ⟨deadL_la (deadL_of (h1 _) q), deadL_of (h1 _) q⟩, h1 _⟩
theorem wf_rdAll (x : Nat) : ∀ (l : List Pt) (bg : Bool), wfL l → wfL (rdAll x l bg)
  | [], _, h => by rw [rdAll]; exact h
  | k :: r, bg, h => by
    rw [wfL] at h
    rw [rdAll, wfL]
    exact ⟨wf_rd x k bg h.1, wf_rdAll x r bg h.2⟩
theorem wf_rdSeq (x : Nat) : ∀ (l : List Pt) (bg : Bool), wfL l → wfL (rdSeq x l bg)
  | [], _, h => by rw [rdSeq]; exact h
  | k :: r, bg, h => by
    rw [wfL] at h
    rw [rdSeq, wfL]
    exact ⟨wf_rd x k bg h.1, wf_rdSeq x r _ h.2⟩
end
mutual
theorem dead_rd (x : Nat) : ∀ (t : Pt), wf t → dead t → rd x t false = t
  | .mk op a b c d blk em l la ks, hw, h => by
    rw [dead] at h
    rw [wf] at hw
    obtain ⟨rfl, rfl, h3⟩ := h
    have h1 := dead_rdAll x ks hw.2.2 h3
    have h2 := dead_rdSeq x ks hw.2.2 h3
    rw [rd]
    split
    · rfl
    · split
      · rw [h2, deadL_lv h3, deadL_last h3]
      · split
        · rw [Bool.or_false, h1, deadL_lv h3, deadL_la h3]
        · rw [h1, deadL_lv h3, deadL_la h3]
theorem dead_rdAll (x : Nat) : ∀ (l : List Pt), wfL l → deadL l → rdAll x l false = l
  | [], _, _ => by rw [rdAll]
  | k :: r, hw, h => by
    rw [deadL] at h
    rw [wfL] at hw
    rw [rdAll, dead_rd x k hw.1 h.1, dead_rdAll x r hw.2 h.2]
theorem dead_rdSeq (x : Nat) : ∀ (l : List Pt), wfL l → deadL l → rdSeq x l false = l
  | [], _, _ => by rw [rdSeq]
  | k :: r, hw, h => by
    rw [deadL] at h
    rw [wfL] at hw
    rw [rdSeq, dead_rd x k hw.1 h.1, dead_la h.1, Bool.false_and, Bool.or_false, dead_rdSeq x r hw.2 h.2]
end
end Pt

end Go.Proofs.YtonfmbnankihbaaDoor
namespace Go.Proofs.YtonfmbnankihbaaDoor
open Rx
namespace Pt
variable (S : List Nat)
mutual
/-- Begun at the places B and read up to place i, it says what is so. -/
def good : Pt → (Nat → Prop) → Nat → Prop
  | .mk op a b c d _ em _ la ks, B, i =>
    (∀ j, em = true ↔ mt S (.mk op a b c d (shL ks)) j j) ∧ (la = true ↔ ∃ b', b' < i ∧ B b' ∧ mt S (.mk op a b c d (shL ks)) b' i) ∧
    (if op = 1 then True else if op = 2 then goodSeq ks B i else if op = 4 ∨ op = 5 then goodAll ks (fun j => ∃ b', b' ≤ j ∧ B b' ∧ Star (mtHd S (shL ks)) b' j) i else goodAll ks B i)
def goodAll : List Pt → (Nat → Prop) → Nat → Prop
  | [], _, _ => True
  | k :: r, B, i => good k B i ∧ goodAll r B i
def goodSeq : List Pt → (Nat → Prop) → Nat → Prop
  | [], _, _ => True
  | k :: r, B, i => good k B i ∧ goodSeq r (fun j => ∃ b', b' ≤ j ∧ B b' ∧ mt S (sh k) b' j) i
end
variable {S}
theorem good_em : ∀ {t : Pt} {B : Nat → Prop} {i : Nat}, good S t B i → ∀ j, t.em = true ↔ mt S (sh t) j j
  | .mk _ _ _ _ _ _ _ _ _ _, _, _, h => by rw [good] at h; rw [sh]; exact h.1
theorem good_la : ∀ {t : Pt} {B : Nat → Prop} {i : Nat}, good S t B i → (t.la = true ↔ ∃ b, b < i ∧ B b ∧ mt S (sh t) b i)
  | .mk _ _ _ _ _ _ _ _ _ _, _, _, h => by rw [good] at h; rw [sh]; exact h.2.1
theorem mt_le (t : Rx) {i j : Nat} (h : mt S t i j) : i ≤ j := ((aft_says S t).1 i j h).1
theorem seq_le (l : List Rx) {i j : Nat} (h : mtSeq S l i j) : i ≤ j := ((seq_says S l).1 i j h).1
theorem last_says : ∀ (l : List Pt) (B : Nat → Prop) (n : Nat) (p : Bool), goodSeq S l B n → (lastSeq p l = true ↔ (∃ b, b < n ∧ B b ∧ mtSeq S (shL l) b n) ∨ (p = true ∧ mtSeq S (shL l) n n))
  | [], B, n, p, _ => by
    rw [lastSeq, shL]
    constructor
    · intro h; exact .inr ⟨h, rfl⟩
    · rintro (⟨b, h1, _, h2⟩ | ⟨h, _⟩)
      · have e : b = n := h2
        omega
      · exact h
  | k :: r, B, n, p, h => by
    rw [goodSeq] at h
    rw [lastSeq, shL, last_says r _ n _ h.2]
    have h1 := good_la h.1
    have h2 := good_em h.1
    constructor
    · rintro (⟨m, hm, ⟨b, hb, hB, q⟩, q2⟩ | ⟨hp, q⟩)
      · exact .inl ⟨b, by omega, hB, m, q, q2⟩
      · rcases Bool.or_eq_true_iff.1 hp with hp | hp
        · obtain ⟨b, hb, hB, q1⟩ := h1.1 hp
          exact .inl ⟨b, hb, hB, n, q1, q⟩
        · rw [Bool.and_eq_true] at hp
          exact .inr ⟨hp.1, n, (h2 n).1 hp.2, q⟩
    · rintro (⟨b, hb, hB, m, q1, q2⟩ | ⟨hp, m, q1, q2⟩)
      · have a1 := mt_le _ q1
        have a2 := seq_le _ q2
        by_cases e : m = n
        · subst e
          exact .inr ⟨by rw [h1.2 ⟨b, hb, hB, q1⟩]; rfl, q2⟩
        · exact .inl ⟨m, by omega, ⟨b, a1, hB, q1⟩, q2⟩
      · have a1 := mt_le _ q1
        have a2 := seq_le _ q2
        obtain rfl : m = n := by omega
        exact .inr ⟨by rw [hp, (h2 m).2 q1]; simp, q2⟩
theorem any_says : ∀ (l : List Pt) (B : Nat → Prop) (n : Nat), goodAll S l B n → (l.any Pt.la = true ↔ ∃ b, b < n ∧ B b ∧ mtAlt S (shL l) b n)
  | [], B, n, _ => by
    simp only [List.any_nil, shL, mtAlt]
    constructor
    · intro h; cases h
    · rintro ⟨_, _, _, h⟩; exact h.elim
  | k :: r, B, n, h => by
    rw [goodAll] at h
    rw [List.any_cons, shL, Bool.or_eq_true, good_la h.1, any_says r B n h.2]
    constructor
    · rintro (⟨b, h1, h2, h3⟩ | ⟨b, h1, h2, h3⟩)
      · exact ⟨b, h1, h2, .inl h3⟩
      · exact ⟨b, h1, h2, .inr h3⟩
    · rintro ⟨b, h1, h2, h3 | h3⟩
      · exact .inl ⟨b, h1, h2, h3⟩
      · exact .inr ⟨b, h1, h2, h3⟩
theorem star_last {R : Nat → Nat → Prop} (hR : ∀ i j, R i j → i ≤ j) {i j : Nat} (h : Star R i j) (hl : i < j) : ∃ m, m < j ∧ i ≤ m ∧ Star R i m ∧ R m j := by
  induction h with
  | refl => omega
  | tail h1 r ih =>
    rename_i a b
    by_cases e : a = b
    · subst e; exact ih hl
    · have := hR _ _ r
      exact ⟨a, by omega, (Star.few hR h1).1, h1, r⟩
theorem star_first {R : Nat → Nat → Prop} {i j : Nat} (h : Star R i j) (hl : i ≠ j) : ∃ m, R i m ∧ Star R m j := by
  induction h with
  | refl => exact absurd rfl hl
  | tail h1 r ih =>
    rename_i a b
    by_cases e : i = a
    · subst e; exact ⟨b, r, .refl b⟩
    · obtain ⟨m, r1, s1⟩ := ih e
      exact ⟨m, r1, s1.tail r⟩
theorem star_cons {R : Nat → Nat → Prop} {i m j : Nat} (r : R i m) (h : Star R m j) : Star R i j := by
  induction h with
  | refl => exact (Star.refl i).tail r
  | tail _ r2 ih => exact ih.tail r2
theorem hd_one (k : Rx) : mtHd S [k] = mt S k := by funext i j; rw [mtHd]
mutual
theorem good_rd (i : Nat) (hi : i < S.length) : ∀ (t : Pt) (B : Nat → Prop) (bg : Bool), isRex (sh t) = true → (bg = true ↔ B i) → good S t B i → good S (rd (S.getD i 0) t bg) B (i + 1)
  | .mk op a b c d blk em l la ks, B, bg, hr, hb, h => by
    rw [sh, isRex] at hr
    rw [good] at h
    obtain ⟨h1, h2, h3⟩ := h
    have RA := fun B bg => goodAll_rd i hi ks B bg
    have RS := goodSeq_rd i hi ks B bg
    rw [rd]
    by_cases o1 : op = 1
    · rw [if_pos o1, good]
      refine ⟨h1, ?_, by rw [if_pos o1]; trivial⟩
      simp only [Rx.mt, o1, if_true]
      rw [Bool.and_eq_true, hb]
      constructor
      · rintro ⟨q1, q2⟩; exact ⟨i, by omega, q1, hi, rfl, q2⟩
      · rintro ⟨b', q1, q2, q3, q4, q5⟩
        obtain rfl : b' = i := by omega
        exact ⟨q2, q5⟩
    rw [if_neg o1] at hr h3
    rw [if_neg o1]
    simp only [Bool.and_eq_true] at hr
    obtain ⟨⟨hm, ha⟩, _⟩ := hr
    by_cases o2 : op = 2
    · rw [if_pos o2] at h3
      have q := RS ha hb h3
      rw [if_pos o2, good, if_neg o1, if_pos o2, sh_rdSeq]
      refine ⟨h1, ?_, q⟩
      have e2 : mt S (.mk op a b c d (shL ks)) = mtSeq S (shL ks) := by funext i j; rw [Rx.mt, if_neg o1, if_pos o2]
      rw [e2, last_says _ B (i + 1) false q, sh_rdSeq]
      simp
    rw [if_neg o2] at h3
    rw [if_neg o2]
    by_cases o45 : op = 4 ∨ op = 5
    · have hl : (shL ks).length = 1 := by
        unfold may at hm
        rcases o45 with o | o <;> (subst o; simpa using hm)
      obtain ⟨k, rfl⟩ : ∃ k, ks = [k] := by
        match ks, hl with
        | [k], _ => exact ⟨k, rfl⟩
        | [], hl => simp [shL] at hl
        | _ :: _ :: _, hl => simp [shL] at hl
      have es : shL [k] = [sh k] := by rw [shL, shL]
      rw [if_pos o45] at h3
      rw [if_pos o45, good, if_neg o1, if_neg o2, if_pos o45, sh_rdAll]
      rw [es, hd_one] at h3
      have hR := fun i j => mt_le (S := S) (sh k) (i := i) (j := j)
      have LA : la = true ↔ ∃ b', b' < i ∧ B b' ∧ Star (mt S (sh k)) b' i := by
        rw [h2]
        rcases o45 with o | o
        · subst o
          have e2 : mt S (.mk 4 a b c d (shL [k])) = Star (mt S (sh k)) := by funext i j; rw [Rx.mt, es, hd_one]; simp
          rw [e2]
        · subst o
          have e2 : mt S (.mk 5 a b c d (shL [k])) = fun i j => ∃ m, mt S (sh k) i m ∧ Star (mt S (sh k)) m j := by funext i j; rw [Rx.mt, es, hd_one]; simp
          rw [e2]
          constructor
          · rintro ⟨b', q1, q2, m, q3, q4⟩; exact ⟨b', q1, q2, star_cons q3 q4⟩
          · rintro ⟨b', q1, q2, q3⟩; exact ⟨b', q1, q2, star_first q3 (by omega)⟩
      have hbg : (bg || la) = true ↔ ∃ b', b' ≤ i ∧ B b' ∧ Star (mt S (sh k)) b' i := by
        rw [Bool.or_eq_true, hb, LA]
        constructor
        · rintro (q | ⟨b', q1, q2, q3⟩)
          · exact ⟨i, Nat.le_refl _, q, .refl i⟩
          · exact ⟨b', by omega, q2, q3⟩
        · rintro ⟨b', q1, q2, q3⟩
          by_cases e : b' = i
          · subst e; exact .inl q2
          · exact .inr ⟨b', by omega, q2, q3⟩
      have q := RA _ _ ha hbg h3
      rw [es, hd_one]
      refine ⟨by rw [es] at h1; exact h1, ?_, q⟩
      rw [any_says _ _ _ q, sh_rdAll, es]
      have key : (∃ b', b' < i + 1 ∧ (∃ b, b ≤ b' ∧ B b ∧ Star (mt S (sh k)) b b') ∧ mtAlt S [sh k] b' (i + 1)) ↔ ∃ b', b' < i + 1 ∧ B b' ∧ Star (mt S (sh k)) b' (i + 1) := by
        simp only [mtAlt, or_false]
        constructor
        · rintro ⟨b', q1, ⟨b, q2, q3, q4⟩, q5⟩; exact ⟨b, by omega, q3, q4.tail q5⟩
        · rintro ⟨b, q1, q2, q3⟩
          obtain ⟨m, m1, m2, m3, m4⟩ := star_last hR q3 q1
          exact ⟨m, m1, ⟨b, m2, q2, m3⟩, m4⟩
      rw [key]
      rcases o45 with o | o
      · subst o
        have e2 : mt S (.mk 4 a b c d [sh k]) = Star (mt S (sh k)) := by funext i j; rw [Rx.mt, hd_one]; simp
        rw [e2]
      · subst o
        have e2 : mt S (.mk 5 a b c d [sh k]) = fun i j => ∃ m, mt S (sh k) i m ∧ Star (mt S (sh k)) m j := by funext i j; rw [Rx.mt, hd_one]; simp
        rw [e2]
        constructor
        · rintro ⟨b', q1, q2, q3⟩; exact ⟨b', q1, q2, star_first q3 (by omega)⟩
        · rintro ⟨b', q1, q2, m, q3, q4⟩; exact ⟨b', q1, q2, star_cons q3 q4⟩
    · rw [if_neg o45] at h3
      have q := RA _ _ ha hb h3
      rw [if_neg o45, good, if_neg o1, if_neg o2, if_neg o45, sh_rdAll]
      refine ⟨h1, ?_, q⟩
      rw [any_says _ _ _ q, sh_rdAll]
      by_cases o3 : op = 3
      · have e2 : mt S (.mk op a b c d (shL ks)) = mtAlt S (shL ks) := by funext i j; rw [Rx.mt, if_neg o1, if_neg o2, if_pos o3]
        rw [e2]
      · have o6 : op = 6 := by
          unfold may at hm
          rw [not_or] at o45
          simp [o2, o3, o45.1, o45.2] at hm
          exact hm.1
        have hl : (shL ks).length = 1 := by
          unfold may at hm
          subst o6; simpa using hm
        obtain ⟨k, rfl⟩ : ∃ k, ks = [k] := by
          match ks, hl with
          | [k], _ => exact ⟨k, rfl⟩
          | [], hl => simp [shL] at hl
          | _ :: _ :: _, hl => simp [shL] at hl
        have es : shL [k] = [sh k] := by rw [shL, shL]
        have e2 : mt S (.mk op a b c d (shL [k])) = fun i j => i = j ∨ mt S (sh k) i j := by funext i j; rw [Rx.mt, if_neg o1, if_neg o2, if_neg o3, if_pos o6, es, hd_one]
        rw [e2, es]
        simp only [mtAlt, or_false]
        constructor
        · rintro ⟨b', q1, q2, q3⟩; exact ⟨b', q1, q2, .inr q3⟩
        · rintro ⟨b', q1, q2, q3 | q3⟩
          · omega
          · exact ⟨b', q1, q2, q3⟩
theorem goodAll_rd (i : Nat) (hi : i < S.length) : ∀ (l : List Pt) (B : Nat → Prop) (bg : Bool), isAll (shL l) = true → (bg = true ↔ B i) → goodAll S l B i → goodAll S (rdAll (S.getD i 0) l bg) B (i + 1)
  | [], _, _, _, _, h => by rw [rdAll]; rw [goodAll]; trivial
  | k :: r, B, bg, hr, hb, h => by
    rw [shL, isAll, Bool.and_eq_true] at hr
    rw [goodAll] at h
    rw [rdAll, goodAll]
    exact ⟨good_rd i hi k B bg hr.1 hb h.1, goodAll_rd i hi r B bg hr.2 hb h.2⟩
theorem goodSeq_rd (i : Nat) (hi : i < S.length) : ∀ (l : List Pt) (B : Nat → Prop) (bg : Bool), isAll (shL l) = true → (bg = true ↔ B i) → goodSeq S l B i → goodSeq S (rdSeq (S.getD i 0) l bg) B (i + 1)
  | [], _, _, _, _, h => by rw [rdSeq]; rw [goodSeq]; trivial
  | k :: r, B, bg, hr, hb, h => by
    rw [shL, isAll, Bool.and_eq_true] at hr
    rw [goodSeq] at h
    rw [rdSeq, goodSeq, sh_rd]
    refine ⟨good_rd i hi k B bg hr.1 hb h.1, goodSeq_rd i hi r _ _ hr.2 ?_ h.2⟩
    have h1 := good_la h.1
    have h2 := good_em h.1
    rw [Bool.or_eq_true, Bool.and_eq_true, h1, hb, h2 i]
    constructor
    · rintro (⟨b', q1, q2, q3⟩ | ⟨q1, q2⟩)
      · exact ⟨b', by omega, q2, q3⟩
      · exact ⟨i, Nat.le_refl _, q1, q2⟩
    · rintro ⟨b', q1, q2, q3⟩
      by_cases e : b' = i
      · subst e; exact .inr ⟨q2, q3⟩
      · exact .inl ⟨b', by omega, q2, q3⟩
end
end Pt

end Go.Proofs.YtonfmbnankihbaaDoor
namespace Go.Proofs.YtonfmbnankihbaaDoor
open Go.RowKit Go.Sort
namespace Pt
/-- The nine cells of a part. -/
def cell : Pt → Nat → Value
  | .mk op a b c d blk em lv la ks, i => match i with
    | 0 => .int .i64 op
    | 1 => .int .u64 (a : Int)
    | 2 => .int .u64 (b : Int)
    | 3 => .int .u64 (c : Int)
    | 4 => .int .u64 (d : Int)
    | 5 => .slice (some ⟨blk, 0, none⟩) ks.length ks.length
    | 6 => .bool em
    | 7 => .bool lv
    | _ => .bool la
def setLv : Pt → Bool → Pt | .mk op a b c d blk em _ la ks, x => .mk op a b c d blk em x la ks
def setLa : Pt → Bool → Pt | .mk op a b c d blk em lv _ ks, x => .mk op a b c d blk em lv x ks
def setEm : Pt → Bool → Pt | .mk op a b c d blk _ lv la ks, x => .mk op a b c d blk x lv la ks
def setKid : Pt → Nat → Pt → Pt | .mk op a b c d blk em lv la ks, j, k => .mk op a b c d blk em lv la (ks.set j k)
/-- The part t lies at place o of block g, its kids in the blocks that it names. -/
inductive Lay (w : World) : Nat → Nat → Pt → Prop where
  | mk {g o : Nat} {t : Pt} (hc : ∀ i, i < 9 → w.cell? ⟨g, o + i, none⟩ = some (t.cell i)) (hf : ∀ i, w.frozen? ⟨g, i, none⟩ = false) (hb : t.blk < w.heap.size) (hk : ∀ j, j < t.kids.length → Lay w t.blk (j * 9) (nth t.kids j)) : Lay w g o t
theorem Lay.cells {w : World} {g o : Nat} {t : Pt} (h : Lay w g o t) : ∀ i, i < 9 → w.cell? ⟨g, o + i, none⟩ = some (t.cell i) := by cases h; assumption
theorem Lay.free {w : World} {g o : Nat} {t : Pt} (h : Lay w g o t) : ∀ i, w.frozen? ⟨g, i, none⟩ = false := by cases h; assumption
theorem Lay.bnd {w : World} {g o : Nat} {t : Pt} (h : Lay w g o t) : t.blk < w.heap.size := by cases h; assumption
theorem Lay.kid {w : World} {g o : Nat} {t : Pt} (h : Lay w g o t) : ∀ j, j < t.kids.length → Lay w t.blk (j * 9) (nth t.kids j) := by cases h; assumption
theorem bl_eq (t : Pt) : bl t = t.blk :: blL t.kids := by cases t; rw [bl]; rfl
theorem mem_blL : ∀ {ks : List Pt} {k : Pt} {x : Nat}, k ∈ ks → x ∈ bl k → x ∈ blL ks
  | _ :: _, k, x, h, hx => by
    rw [blL, List.mem_append]
    rcases List.mem_cons.1 h with rfl | h
    · exact .inl hx
    · exact .inr (mem_blL h hx)
theorem nth_blL {ks : List Pt} {j x : Nat} (h : j < ks.length) (hx : x ∈ bl (nth ks j)) : x ∈ blL ks := by
  rw [nth_eq h] at hx
  exact mem_blL (List.getElem_mem h) hx
theorem Lay.lt {w : World} {g o : Nat} {t : Pt} (h : Lay w g o t) : ∀ k, k ∈ bl t → k < w.heap.size := by
  induction h with
  | @mk g o t hc hf hb hk ih =>
    intro k hm
    rw [bl_eq, List.mem_cons] at hm
    rcases hm with rfl | hm
    · exact hb
    · obtain ⟨j, hj, hx⟩ : ∃ j, j < t.kids.length ∧ k ∈ bl (nth t.kids j) := by
        clear ih hk
        generalize t.kids = ks at *
        induction ks with
        | nil => rw [blL] at hm; cases hm
        | cons a r ihr =>
          rw [blL, List.mem_append] at hm
          rcases hm with hm | hm
          · exact ⟨0, by simp, hm⟩
          · obtain ⟨j, hj, hx⟩ := ihr hm
            exact ⟨j + 1, by simpa using hj, hx⟩
      exact ih j hj k hx
theorem Lay.frame {w w' : World} {g o : Nat} {t : Pt} (h : Lay w g o t) (hs : w.heap.size ≤ w'.heap.size) : (∀ i, i < 9 → w'.cell? ⟨g, o + i, none⟩ = w.cell? ⟨g, o + i, none⟩) → (∀ i, w'.frozen? ⟨g, i, none⟩ = w.frozen? ⟨g, i, none⟩) →
    (∀ k, k ∈ bl t → w'.heap[k]? = w.heap[k]?) → Lay w' g o t := by
  induction h with
  | @mk g o t hc hf hb hk ih =>
    intro h1 h2 h3
    refine .mk (fun i hi => (h1 i hi).trans (hc i hi)) (fun i => (h2 i).trans (hf i)) (by omega) fun j hj => ?_
    have hblk := h3 t.blk (by rw [bl_eq]; simp)
    exact ih j hj (fun i _ => World.cell?_of_block (w := w) hblk) (fun i => World.frozen?_of_block (w := w) hblk) (fun k hm => h3 k (by rw [bl_eq]; exact List.mem_cons_of_mem _ (nth_blL hj hm)))
/-- Nothing but the nine cells at place o of block g, and the blocks Bs, was written. -/
structure Tch (g o : Nat) (Bs : List Nat) (w w' : World) : Prop where
  os : w'.os = w.os
  tape : w'.tape = w.tape
  output : w'.output = w.output
  size : w.heap.size ≤ w'.heap.size
  block : ∀ k, k < w.heap.size → k ≠ g → k ∉ Bs → w'.heap[k]? = w.heap[k]?
  cell : ∀ i, (i < o ∨ o + 9 ≤ i) → w'.cell? ⟨g, i, none⟩ = w.cell? ⟨g, i, none⟩
  frozen : ∀ i, w'.frozen? ⟨g, i, none⟩ = w.frozen? ⟨g, i, none⟩
theorem Tch.refl (g o : Nat) (Bs : List Nat) (w : World) : Tch g o Bs w w := ⟨rfl, rfl, rfl, Nat.le_refl _, fun _ _ _ _ => rfl, fun _ _ => rfl, fun _ => rfl⟩
theorem Tch.trans {g o : Nat} {Bs : List Nat} {w w1 w2 : World} (a : Tch g o Bs w w1) (b : Tch g o Bs w1 w2) : Tch g o Bs w w2 :=
  ⟨b.os.trans a.os, b.tape.trans a.tape, b.output.trans a.output, Nat.le_trans a.size b.size, fun k h1 h2 h3 => (b.block k (by have := a.size; omega) h2 h3).trans (a.block k h1 h2 h3), fun i hi => (b.cell i hi).trans (a.cell i hi), fun i => (b.frozen i).trans (a.frozen i)⟩
/-- What only grew. -/
theorem Tch.grown {g o : Nat} {Bs : List Nat} {w w' : World} (hg : g < w.heap.size) (h : Below w.heap.size w w') : Tch g o Bs w w' :=
  ⟨h.os, h.tape, h.output, h.size, fun k hk _ _ => h.block k hk, fun _ _ => h.cell hg, fun _ => h.frozen hg⟩
theorem Tch.drew {g o : Nat} {Bs : List Nat} {w w' : World} (a : Tch g o Bs w w') (q : Nat) : Tch g o Bs w (w'.drewN q) := ⟨a.os, a.tape, a.output, a.size, a.block, a.cell, a.frozen⟩
theorem Lay.drew {g o : Nat} {w : World} {t : Pt} (h : Lay w g o t) (q : Nat) : Lay (w.drewN q) g o t := h.frame (Nat.le_refl _) (fun _ _ => rfl) (fun _ => rfl) (fun _ _ => rfl)
theorem Lay.grown {g o : Nat} {w w' : World} {t : Pt} (h : Lay w g o t) (hb : Below w.heap.size w w') : Lay w' g o t := by
  have hg : g < w.heap.size := World.block_lt_of_cell? w _ (h.cells 0 (by omega))
  exact h.frame hb.size (fun _ _ => hb.cell hg) (fun _ => hb.frozen hg) (fun k hk => hb.block k (h.lt k hk))
theorem frozen_setCell (w : World) (a : Addr) (v : Value) (p : Addr) : (w.setCell a v).frozen? p = w.frozen? p := by simp
/-- A store into one of the nine cells. -/
theorem Lay.put {w : World} {g o : Nat} {t t' : Pt} (h : Lay w g o t) (i : Nat) (hi : i < 9) (v : Value) (hn : g ∉ bl t) (hv : t'.cell i = v) (ho : ∀ j, j < 9 → j ≠ i → t'.cell j = t.cell j) (hblk : t'.blk = t.blk) (hkids : t'.kids = t.kids) :
    Lay (w.setCell ⟨g, o + i, none⟩ v) g o t' ∧ Tch g o (bl t) w (w.setCell ⟨g, o + i, none⟩ v) := by
  have hT : Tch g o (bl t) w (w.setCell ⟨g, o + i, none⟩ v) := ⟨rfl, rfl, rfl, by simp, fun k _ h2 _ => Below.heap_setCell _ _ _ k h2, fun j hj => World.cell?_setCell_other _ _ _ _ (by intro e; simp only [Addr.mk.injEq] at e; omega), fun j => frozen_setCell _ _ _ _⟩
  refine ⟨.mk (fun j hj => ?_) (fun j => (frozen_setCell _ _ _ _).trans (h.free j)) (by rw [hblk]; simpa using h.bnd) fun j hj => ?_, hT⟩
  · by_cases e : j = i
    · subst e
      rw [hv]
      exact World.cell?_setCell_same _ _ _ (h.cells j hj)
    · rw [ho j hj e]
      exact (World.cell?_setCell_other _ _ _ _ (by intro e'; simp only [Addr.mk.injEq] at e'; omega)).trans (h.cells j hj)
  · rw [hkids] at hj ⊢
    rw [hblk]
    have hne : ∀ k, k ∈ bl t → (w.setCell ⟨g, o + i, none⟩ v).heap[k]? = w.heap[k]? := fun k hk => Below.heap_setCell _ _ _ k (fun e => hn (by rw [← show k = g from e]; exact hk))
    have hb := hne t.blk (by rw [bl_eq]; simp)
    exact (h.kid j hj).frame (by simp) (fun _ _ => World.cell?_of_block (w := w) hb) (fun _ => World.frozen?_of_block (w := w) hb) (fun k hm => hne k (by rw [bl_eq]; exact List.mem_cons_of_mem _ (nth_blL hj hm)))
theorem Lay.setLv {w : World} {g o : Nat} {t : Pt} (h : Lay w g o t) (hn : g ∉ bl t) (x : Bool) : Lay (w.setCell ⟨g, o + 7, none⟩ (.bool x)) g o (t.setLv x) ∧ Tch g o (bl t) w (w.setCell ⟨g, o + 7, none⟩ (.bool x)) := by
  refine h.put 7 (by omega) _ hn ?_ ?_ ?_ ?_
  · cases t; rfl
  · intro j hj hne
    cases t
    match j, hj, hne with
    | 0, _, _ => rfl | 1, _, _ => rfl | 2, _, _ => rfl | 3, _, _ => rfl | 4, _, _ => rfl | 5, _, _ => rfl | 6, _, _ => rfl | 8, _, _ => rfl
  · cases t; rfl
  · cases t; rfl
theorem Lay.setLa {w : World} {g o : Nat} {t : Pt} (h : Lay w g o t) (hn : g ∉ bl t) (x : Bool) : Lay (w.setCell ⟨g, o + 8, none⟩ (.bool x)) g o (t.setLa x) ∧ Tch g o (bl t) w (w.setCell ⟨g, o + 8, none⟩ (.bool x)) := by
  refine h.put 8 (by omega) _ hn ?_ ?_ ?_ ?_
  · cases t; rfl
  · intro j hj hne
    cases t
    match j, hj, hne with
    | 0, _, _ => rfl | 1, _, _ => rfl | 2, _, _ => rfl | 3, _, _ => rfl | 4, _, _ => rfl | 5, _, _ => rfl | 6, _, _ => rfl | 7, _, _ => rfl | n + 8, h1, h2 => exact absurd (show n + 8 = 8 by omega) h2
  · cases t; rfl
  · cases t; rfl
/-- No block twice. -/
def Apart (g : Nat) (t : Pt) : Prop := (g :: bl t).Nodup
theorem Apart.out {g : Nat} {t : Pt} (h : Apart g t) : g ∉ bl t := (List.nodup_cons.1 h).1
theorem nodup_kid : ∀ {ks : List Pt} {j : Nat}, (blL ks).Nodup → j < ks.length → (bl (nth ks j)).Nodup
  | _ :: _, 0, h, _ => by
    rw [blL, List.nodup_append] at h
    exact h.1
  | _ :: r, j + 1, h, hj => by
    rw [blL, List.nodup_append] at h
    exact nodup_kid (ks := r) h.2.1 (by simpa using hj)
theorem nodup_two : ∀ {ks : List Pt} {i j x : Nat}, (blL ks).Nodup → i < ks.length → j < ks.length → i ≠ j → x ∈ bl (nth ks i) → x ∉ bl (nth ks j)
  | _ :: _, 0, 0, x, _, _, _, hne, _ => absurd rfl hne
  | _ :: r, 0, j + 1, x, h, _, hj, _, hx => by
    rw [blL, List.nodup_append] at h
    intro hx2
    exact h.2.2 x hx x (nth_blL (ks := r) (by simpa using hj) hx2) rfl
  | _ :: r, i + 1, 0, x, h, hi, _, _, hx => by
    rw [blL, List.nodup_append] at h
    intro hx2
    exact h.2.2 x hx2 x (nth_blL (ks := r) (by simpa using hi) hx) rfl
  | _ :: r, i + 1, j + 1, x, h, hi, hj, hne, hx => by
    rw [blL, List.nodup_append] at h
    exact nodup_two (ks := r) h.2.1 (by simpa using hi) (by simpa using hj) (by omega) hx
theorem Apart.kid {g : Nat} {t : Pt} (h : Apart g t) {j : Nat} (hj : j < t.kids.length) : Apart t.blk (nth t.kids j) := by
  unfold Apart at h ⊢
  rw [bl_eq, List.nodup_cons, List.nodup_cons] at h
  rw [List.nodup_cons]
  exact ⟨fun hm => h.2.1 (nth_blL hj hm), nodup_kid h.2.2 hj⟩
theorem blL_set : ∀ {ks : List Pt} {j : Nat} {k : Pt}, j < ks.length → bl k = bl (nth ks j) → blL (ks.set j k) = blL ks
  | _ :: _, 0, k, _, e => by rw [List.set_cons_zero, blL, blL, e]; rfl
  | _ :: r, j + 1, k, hj, e => by rw [List.set_cons_succ, blL, blL, blL_set (ks := r) (by simpa using hj) e]
theorem bl_setKid {t : Pt} {j : Nat} {k : Pt} (hj : j < t.kids.length) (e : bl k = bl (nth t.kids j)) : bl (t.setKid j k) = bl t := by
  cases t
  simp only [Pt.setKid, bl, Pt.kids] at hj e ⊢
  rw [blL_set hj e]
theorem nth_set {ks : List Pt} {i j : Nat} {k : Pt} (hj : j < ks.length) : nth (ks.set j k) i = if i = j then k else nth ks i := by
  unfold nth
  rw [List.getD_eq_getElem?_getD, List.getD_eq_getElem?_getD, List.getElem?_set]
  by_cases e : i = j
  · subst e; simp [hj]
  · rw [if_neg (Ne.symm e), if_neg e]
/-- A kid that was written. -/
theorem Lay.kidOf {w w' : World} {g o : Nat} {t k : Pt} {j : Nat} (h : Lay w g o t) (ha : Apart g t) (hj : j < t.kids.length) (e : bl k = bl (nth t.kids j)) (T : Tch t.blk (j * 9) (bl (nth t.kids j)) w w') (hk : Lay w' t.blk (j * 9) k) :
    Lay w' g o (t.setKid j k) ∧ Tch g o (bl t) w w' := by
  unfold Apart at ha
  rw [bl_eq, List.nodup_cons, List.nodup_cons] at ha
  obtain ⟨h1, h2, h3⟩ := ha
  rw [List.mem_cons, not_or] at h1
  have hg : g < w.heap.size := World.block_lt_of_cell? w _ (h.cells 0 (by omega))
  have bg := T.block g hg h1.1 (fun hm => h1.2 (nth_blL hj hm))
  refine ⟨.mk (fun i hi => ?_) (fun i => (World.frozen?_of_block (w := w) bg).trans (h.free i)) ?_ fun i hi => ?_, ⟨T.os, T.tape, T.output, T.size, fun x hx hne hm => ?_, fun i _ => World.cell?_of_block (w := w) bg, fun i => World.frozen?_of_block (w := w) bg⟩⟩
  · rw [World.cell?_of_block (w := w) bg, h.cells i hi]
    cases t
    simp only [Pt.setKid, Pt.cell, List.length_set]
  · have := h.bnd
    have := T.size
    have e2 : (t.setKid j k).blk = t.blk := by cases t; rfl
    rw [e2]; omega
  · have e1 : (t.setKid j k).kids = t.kids.set j k := by cases t; rfl
    have e2 : (t.setKid j k).blk = t.blk := by cases t; rfl
    rw [e1, List.length_set] at hi
    rw [e1, e2, nth_set hj]
    split
    · rename_i e3; subst e3; exact hk
    · rename_i e3
      refine (h.kid i hi).frame T.size (fun x hx => T.cell _ ?_) T.frozen (fun x hx => T.block x ((h.kid i hi).lt x hx) (fun q => h2 ?_) (nodup_two h3 hi hj e3 hx))
      · rcases Nat.lt_or_ge i j with q | q
        · left; omega
        · right; omega
      · rw [← q]; exact nth_blL hi hx
  · rw [bl_eq, List.mem_cons, not_or] at hm
    exact T.block x hx hm.1 (fun q => hm.2 (nth_blL hj q))
end Pt

end Go.Proofs.YtonfmbnankihbaaDoor
namespace Go.Proofs.YtonfmbnankihbaaDoor
open Go.RowKit Go.Sort

namespace Pt
/-- Behind the first k kids. -/
def eachTo (x : Nat) (t : Pt) (bg : Bool) (k : Nat) : Pt := match t with
  | .mk op a b c d blk em _ _ ks => .mk op a b c d blk em ((rdAll x (ks.take k) bg).any lv) ((rdAll x (ks.take k) bg).any Pt.la) (rdAll x (ks.take k) bg ++ ks.drop k)
theorem eachTo_zero (x : Nat) (t : Pt) (bg : Bool) : eachTo x t bg 0 = (t.setLv false).setLa false := by
  cases t; simp [eachTo, rdAll, Pt.setLv, Pt.setLa]
theorem rdAll_app (x : Nat) (bg : Bool) (a b : List Pt) : rdAll x (a ++ b) bg = rdAll x a bg ++ rdAll x b bg := by simp [rdAll_map]
theorem nth_mid {a b : List Pt} {k : Nat} (h : a.length = k) : nth (a ++ b) k = nth b 0 := by
  unfold nth
  rw [List.getD_eq_getElem?_getD, List.getD_eq_getElem?_getD, List.getElem?_append_right (by omega), h, Nat.sub_self]
theorem set_mid {a b : List Pt} {k : Nat} {y z : Pt} (h : a.length = k) : (a ++ y :: b).set k z = a ++ z :: b := by
  rw [List.set_append_right _ _ (by omega), h, Nat.sub_self]; rfl
theorem eachTo_len (x : Nat) (t : Pt) (bg : Bool) (k : Nat) (hk : k ≤ t.kids.length) : (eachTo x t bg k).kids.length = t.kids.length := by
  cases t
  simp only [eachTo, Pt.kids] at hk ⊢
  rw [List.length_append, rdAll_len, List.length_take, List.length_drop]; omega
theorem eachTo_kid (x : Nat) (t : Pt) (bg : Bool) (k : Nat) (hk : k < t.kids.length) : nth (eachTo x t bg k).kids k = nth t.kids k := by
  cases t
  simp only [eachTo, Pt.kids] at hk ⊢
  rw [nth_mid (by rw [rdAll_len, List.length_take]; omega), drop_nth hk]; rfl
theorem eachTo_set (x : Nat) (t : Pt) (bg : Bool) (k : Nat) (hk : k < t.kids.length) :
    eachTo x t bg (k + 1) = ((((eachTo x t bg k).setKid k (rd x (nth t.kids k) bg)).setLv ((eachTo x t bg k).lv || (rd x (nth t.kids k) bg).lv))).setLa ((eachTo x t bg k).la || (rd x (nth t.kids k) bg).la) := by
  cases t
  simp only [eachTo, Pt.kids, Pt.setKid, Pt.setLv, Pt.setLa, Pt.lv, Pt.la] at hk ⊢
  rw [take_nth hk, rdAll_app, drop_nth hk, set_mid (by rw [rdAll_len, List.length_take]; omega)]
  simp [rdAll]
  exact ⟨rfl, rfl⟩
theorem bl_eachTo (x : Nat) (t : Pt) (bg : Bool) (k : Nat) : bl (eachTo x t bg k) = bl t := by
  cases t
  rename_i ks
  simp only [eachTo, bl]
  have app : ∀ a b : List Pt, blL (a ++ b) = blL a ++ blL b := by
    intro a b
    induction a with
    | nil => rw [List.nil_append, blL]; rfl
    | cons y r ih => rw [List.cons_append, blL, blL, ih, List.append_assoc]
  rw [app, bl_rdAll, ← app, List.take_append_drop]
/-- Behind all kids. -/
def eachOf (x : Nat) (t : Pt) (bg : Bool) : Pt := match t with
  | .mk op a b c d blk em _ _ ks => .mk op a b c d blk em ((rdAll x ks bg).any lv) ((rdAll x ks bg).any Pt.la) (rdAll x ks bg)
theorem eachTo_all (x : Nat) (t : Pt) (bg : Bool) : eachTo x t bg t.kids.length = eachOf x t bg := by
  cases t; simp [eachTo, eachOf, Pt.kids]
theorem blk_setLv (t : Pt) (x : Bool) : (t.setLv x).blk = t.blk := by cases t; rfl
theorem blk_eachTo (x : Nat) (t : Pt) (bg : Bool) (k : Nat) : (eachTo x t bg k).blk = t.blk := by cases t; rfl
theorem kids_setLv (t : Pt) (x : Bool) : (t.setLv x).kids = t.kids := by cases t; rfl
theorem bl_setLv (t : Pt) (x : Bool) : bl (t.setLv x) = bl t := by cases t; rfl
theorem bl_setLa (t : Pt) (x : Bool) : bl (t.setLa x) = bl t := by cases t; rfl
theorem cell5 (t : Pt) : t.cell 5 = .slice (some ⟨t.blk, 0, none⟩) t.kids.length t.kids.length := by cases t; rfl
theorem cell0 (t : Pt) : t.cell 0 = .int .i64 t.op := by cases t; rfl
theorem cell6 (t : Pt) : t.cell 6 = .bool t.em := by cases t; rfl
theorem cell7 (t : Pt) : t.cell 7 = .bool t.lv := by cases t; rfl
theorem cell8 (t : Pt) : t.cell 8 = .bool t.la := by cases t; rfl
theorem Tch.of {g o : Nat} {Bs Cs : List Nat} {w w' : World} (h : Tch g o Bs w w') (e : Bs = Cs) : Tch g o Cs w w' := e ▸ h
/-- What reading a byte is to do. -/
def Reads (x : Nat) (t : Pt) (g o : Nat) (bg : Bool) (t' : Pt) (f : FuncId) (w : World) : Prop :=
  Calls Tryd.prog f #[.pointer (some ⟨g, o, none⟩), .int .u8 (x : Int), .bool bg] w fun e w' => e = .returned (.tuple #[]) ∧ Lay w' g o t' ∧ Tch g o (bl t) w w'
end Pt
open Pt

set_option maxRecDepth 100000 in
set_option maxHeartbeats 4000000 in
theorem readEach_any (t : Pt) (g o x : Nat) (bg : Bool) (w : World) (hcnt : count t ≤ 1000) (ha : Apart g t) (hl : Lay w g o t)
    (K : ∀ j, j < t.kids.length → ∀ W, Lay W t.blk (j * 9) (nth t.kids j) → Reads x (nth t.kids j) t.blk (j * 9) bg (rd x (nth t.kids j) bg) 36 W) :
    Reads x t g o bg (eachOf x t bg) 54 w := by
  have KH := Lib.hid K
  have hn : t.kids.length ≤ 1000 := by
    have h1 := len_count t.kids
    have h2 : count t = 1 + countL t.kids := by cases t; rw [count]; rfl
    omega
  have HA := Lib.hid ha
  have hgb : g ≠ t.blk := by
    have := ha.out
    rw [bl_eq] at this
    intro e; exact this (by rw [e]; simp)
  obtain ⟨l1, t1⟩ := hl.setLv ha.out false
  obtain ⟨l2, t2⟩ := l1.setLa (by rw [bl_setLv]; exact ha.out) false
  rw [← eachTo_zero] at l2
  have I0 : Hid (Lay ((w.setCell ⟨g, o + 7, none⟩ (.bool false)).setCell ⟨g, o + 8, none⟩ (.bool false)) g o (eachTo x t bg 0) ∧ Tch g o (bl t) w ((w.setCell ⟨g, o + 7, none⟩ (.bool false)).setCell ⟨g, o + 8, none⟩ (.bool false))) := ⟨l2, t1.trans (t2.of (bl_setLv _ _))⟩
  have c7 := hl.cells 7 (by omega)
  have f7 := hl.free (o + 7)
  have c8 := l1.cells 8 (by omega)
  have f8 := l1.free (o + 8)
  have c5 := l2.cells 5 (by omega)
  rw [cell5, blk_eachTo, eachTo_len x t bg 0 (by omega)] at c5
  generalize t.cell 7 = u7 at c7
  generalize (t.setLv false).cell 8 = u8 at c8
  obtain ⟨N, hN⟩ : ∃ N, t.kids.length = N := ⟨_, rfl⟩
  have SET := Lib.hid (fun k => eachTo_set x t bg k)
  have LEN := Lib.hid (fun k => eachTo_len x t bg k)
  have KID := Lib.hid (fun k => eachTo_kid x t bg k)
  have ALL := Lib.hid (eachTo_all x t bg)
  rw [hN] at hn c5 KH SET LEN KID ALL
  clear hl K hcnt l1 t1 l2 t2 ha
  unfold Reads
  go_enter Tryd.func54, Tryd.ntmps54
  go_wp2
  clear c7 f7 c8 f8 c5
  generalize (w.setCell ⟨g, o + 7, none⟩ (.bool false)).setCell ⟨g, o + 8, none⟩ (.bool false) = w2 at *
  go_loopw [19] (fun i wr => ∃ k : Nat, k ≤ N ∧ i = .int .i64 (k : Int) ∧ Hid (Lay wr g o (eachTo x t bg k) ∧ Tch g o (bl t) w wr)) (fun i _ => N - (intOf i).toNat)
  case atStart => exact ⟨0, by omega, rfl, I0⟩
  case round =>
    clear I0
    obtain ⟨k, hk, rfl, HI⟩ := hrel
    by_cases hkn : k < N
    · have hkz : (k : Int) < (N : Int) := by omega
      have c5 := HI.out.1.cells 5 (by omega)
      rw [cell5, blk_eachTo, LEN.out k hk] at c5
      have LK := HI.out.1.kid k (by rw [LEN.out k hk]; exact hkn)
      rw [blk_eachTo, KID.out k hkn] at LK
      have CK := Lib.hid (KH.out k hkn wr LK)
      clear LK
      unfold Reads at CK
      go_wp2_with fail
      refine CK.out.mono ?_
      rintro e w3 ⟨rfl, l3, t3⟩
      have ap : Apart g (eachTo x t bg k) := by unfold Apart; rw [bl_eachTo]; exact HA.out
      obtain ⟨L3, T3⟩ := HI.out.1.kidOf ap (by rw [LEN.out k hk]; exact hkn) (k := rd x (nth t.kids k) bg) (by rw [KID.out k hkn, bl_rd]) (by rw [blk_eachTo, KID.out k hkn]; exact t3) (by rw [blk_eachTo]; exact l3)
      have nb : g ∉ bl ((eachTo x t bg k).setKid k (rd x (nth t.kids k) bg)) := by rw [bl_setKid (by rw [LEN.out k hk]; exact hkn) (by rw [KID.out k hkn, bl_rd]), bl_eachTo]; exact HA.out.out
      have bk : bl ((eachTo x t bg k).setKid k (rd x (nth t.kids k) bg)) = bl t := by rw [bl_setKid (by rw [LEN.out k hk]; exact hkn) (by rw [KID.out k hkn, bl_rd]), bl_eachTo]
      have elv : ((eachTo x t bg k).setKid k (rd x (nth t.kids k) bg)).lv = (eachTo x t bg k).lv := by cases t; rfl
      have ela : ∀ y, (((eachTo x t bg k).setKid k (rd x (nth t.kids k) bg)).setLv y).la = (eachTo x t bg k).la := by intro y; cases t; rfl
      have c7 := L3.cells 7 (by omega)
      have f7 := L3.free (o + 7)
      rw [cell7, elv] at c7
      have k7 := l3.cells 7 (by omega)
      rw [cell7] at k7
      obtain ⟨L4, T4⟩ := L3.setLv nb ((eachTo x t bg k).lv || (rd x (nth t.kids k) bg).lv)
      have c8 := L4.cells 8 (by omega)
      rw [cell8, ela] at c8
      have f8 := L4.free (o + 8)
      have k8 := l3.cells 8 (by omega)
      rw [cell8] at k8
      obtain ⟨L5, T5⟩ := L4.setLa (by rw [bl_setLv]; exact nb) ((eachTo x t bg k).la || (rd x (nth t.kids k) bg).la)
      rw [← SET.out k hkn] at L5
      have T6 := HI.out.2.trans ((T3.of (bl_eachTo _ _ _ _)).trans ((T4.of bk).trans (T5.of (by rw [bl_setLv, bk]))))
      have I5 := Lib.hid (And.intro L5 T6)
      have k8' : ∀ y, (w3.setCell ⟨g, o + 7, none⟩ (.bool y)).cell? ⟨t.blk, k * 9 + 8, none⟩ = some (.bool (rd x (nth t.kids k) bg).la) := fun y => (World.cell?_setCell_other _ _ _ _ (by intro e; simp only [Addr.mk.injEq] at e; exact hgb e.1)).trans k8
      clear L3 T3 L4 T4 L5 T5 T6 l3 t3 ap nb bk elv ela CK c5 HI k8
      generalize (eachTo x t bg k).lv = p at *
      generalize (rd x (nth t.kids k) bg).lv = q at *
      generalize (eachTo x t bg k).la = r at *
      generalize (rd x (nth t.kids k) bg).la = s at *
      have k8 := k8' (p || q)
      clear k8' KH SET LEN KID ALL
      cases p <;> cases r <;> simp only [Bool.true_or, Bool.false_or] at c8 f8 k8 I5
      case false.false =>
        go_wp2
        generalize (w3.setCell ⟨g, o + 7, none⟩ (.bool q)).setCell ⟨g, o + 8, none⟩ (.bool s) = w5 at *
        clear c7 f7 k7 c8 f8 k8
        go_roundw
        case rel => exact ⟨k + 1, by omega, by go_num, I5⟩
        case measure => simp [intOf]; omega
      case false.true =>
        go_wp2
        generalize (w3.setCell ⟨g, o + 7, none⟩ (.bool q)).setCell ⟨g, o + 8, none⟩ (.bool true) = w5 at *
        clear c7 f7 k7 c8 f8 k8
        go_roundw
        case rel => exact ⟨k + 1, by omega, by go_num, I5⟩
        case measure => simp [intOf]; omega
      case true.false =>
        go_wp2
        generalize (w3.setCell ⟨g, o + 7, none⟩ (.bool true)).setCell ⟨g, o + 8, none⟩ (.bool s) = w5 at *
        clear c7 f7 k7 c8 f8 k8
        go_roundw
        case rel => exact ⟨k + 1, by omega, by go_num, I5⟩
        case measure => simp [intOf]; omega
      case true.true =>
        go_wp2
        generalize (w3.setCell ⟨g, o + 7, none⟩ (.bool true)).setCell ⟨g, o + 8, none⟩ (.bool true) = w5 at *
        clear c7 f7 k7 c8 f8 k8
        go_roundw
        case rel => exact ⟨k + 1, by omega, by go_num, I5⟩
        case measure => simp [intOf]; omega
    · obtain rfl : k = N := by omega
      have hkz : ¬ (k : Int) < (k : Int) := by omega
      have R : Hid (Lay wr g o (eachOf x t bg) ∧ Tch g o (bl t) w wr) := by
        have h := HI.out
        rw [ALL.out] at h
        exact h
      clear HI KH SET LEN KID ALL
      go_wp2
      go_end0
      exact ⟨rfl, R.out.1, R.out.2⟩

end Go.Proofs.YtonfmbnankihbaaDoor
