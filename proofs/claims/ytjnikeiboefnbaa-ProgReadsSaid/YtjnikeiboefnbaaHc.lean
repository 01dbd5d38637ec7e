/-
  Plain mathematics of the program's way through a text: a new part says what is so ahead of any byte; read byte by byte it tells where matches end. No conditions.
-/
import Derived.Test.YtjnikeiboefnbaaProg
import Derived.Test.YtjnikeiboefnbaaEa
import Derived.Test.YtjnikeiboefnbaaEm
import Derived.Test.YtjnikeiboefnbaaHa
import Derived.Test.YtjnikeiboefnbaaHb
import Derived.Test.YtjnikeiboefnbaaEo
import Derived.Laws.AppendOwn
import Derived.Laws.CopyOwn
import Derived.Laws.MakeOwn
import Derived.Laws.OwnMore
import Derived.OwnWalk
import Derived.WalkKit
import Derived.WalkSpells
import Derived.WalkLawsBesides
import Derived.Lib.Hide
import Derived.Below
import Derived.BigQuiet
import Derived.Lib.QuietBelow
import Derived.Laws.StructEq
import Derived.KernelRfl
import Derived.Deep.RegionHeld3
namespace Go.Proofs.Ytjnikeiboefnbaa
open Rx
namespace Pt
/-- May it be empty, by its kids? -/
def emOf (op : Int) (ks : List Pt) : Bool := if op = 4 ∨ op = 6 then true else if op = 2 then ks.countP em == ks.length else decide (0 < ks.countP em)
mutual
def emOk : Pt → Prop
  | .mk op _ _ _ _ _ em _ _ ks => em = emOf op ks ∧ emOkL ks
def emOkL : List Pt → Prop
  | [] => True
  | k :: r => emOk k ∧ emOkL r
end
variable {S : List Nat}
theorem emOk_em : ∀ {t : Pt}, emOk t → t.em = emOf t.op t.kids
  | .mk _ _ _ _ _ _ _ _ _ _, h => by rw [emOk] at h; exact h.1
mutual
theorem em_says : ∀ (t : Pt) (j : Nat), emOk t → isRex (sh t) = true → (t.em = true ↔ mt S (sh t) j j)
  | .mk op a b c d blk em l la ks, j, h, hr => by
    rw [sh, isRex] at hr
    rw [emOk] at h
    obtain ⟨h1, h2⟩ := h
    show em = true ↔ _
    rw [h1, emOf, sh]
    have QS := em_seq ks j h2
    have QA := em_alt ks j h2
    by_cases o1 : op = 1
    · subst o1
      rw [Rx.mt]
      simp only [if_true] at hr
      have e : ks = [] := by
        match ks, hr with
        | [], _ => rfl
        | _ :: _, hr => simp [shL] at hr
      subst e
      simp
    rw [if_neg o1] at hr
    simp only [Bool.and_eq_true] at hr
    obtain ⟨⟨hm, ha⟩, _⟩ := hr
    have QS := QS ha
    have QA := QA ha
    by_cases o4 : op = 4
    · subst o4
      have e2 : mt S (.mk 4 a b c d (shL ks)) = Star (mtHd S (shL ks)) := by funext i j; rw [Rx.mt]; simp
      rw [e2]
      simp [Star.refl j]
    by_cases o6 : op = 6
    · subst o6
      rw [Rx.mt]
      simp
    rw [if_neg (fun h => h.elim o4 o6)]
    by_cases o2 : op = 2
    · subst o2
      have e2 : mt S (.mk 2 a b c d (shL ks)) = mtSeq S (shL ks) := by funext i j; rw [Rx.mt]; simp
      rw [e2, if_pos rfl, ← QS]
      simp
    rw [if_neg o2]
    by_cases o3 : op = 3
    · subst o3
      have e2 : mt S (.mk 3 a b c d (shL ks)) = mtAlt S (shL ks) := by funext i j; rw [Rx.mt]; simp
      rw [e2, ← QA]
      simp
    · have o5 : op = 5 := by
        unfold may at hm
        simp [o2, o3, o4, o6] at hm
        exact hm.1
      subst o5
      have hl : (shL ks).length = 1 := by unfold may at hm; simpa using hm
      obtain ⟨k, rfl⟩ : ∃ k, ks = [k] := by
        match ks, hl with
        | [k], _ => exact ⟨k, rfl⟩
        | [], hl => simp [shL] at hl
        | _ :: _ :: _, hl => simp [shL] at hl
      have es : shL [k] = [sh k] := by rw [shL, shL]
      have e2 : mt S (.mk 5 a b c d (shL [k])) = fun i j => ∃ m, mt S (sh k) i m ∧ Star (mt S (sh k)) m j := by funext i j; rw [Rx.mt, es, hd_one]; simp
      rw [e2]
      rw [es] at QA
      simp only [mtAlt, or_false] at QA
      rw [decide_eq_true_eq, QA]
      constructor
      · intro q; exact ⟨j, q, .refl j⟩
      · rintro ⟨m, q1, q2⟩
        have a1 := mt_le _ q1
        have a2 := (Star.few (fun i j => mt_le (S := S) (sh k) (i := i) (j := j)) q2).1
        obtain rfl : m = j := by omega
        exact q1
theorem em_seq : ∀ (l : List Pt) (j : Nat), emOkL l → isAll (shL l) = true → (l.countP em = l.length ↔ mtSeq S (shL l) j j)
  | [], j, _, _ => by simp [shL, mtSeq]
  | k :: r, j, h, hr => by
    rw [emOkL] at h
    rw [shL, isAll, Bool.and_eq_true] at hr
    have h1 := em_says k j h.1 hr.1
    have h2 := em_seq r j h.2 hr.2
    have hle := List.countP_le_length (p := em) (l := r)
    rw [shL, List.countP_cons, List.length_cons]
    constructor
    · intro q
      by_cases e : k.em = true
      · rw [if_pos e] at q
        exact ⟨j, h1.1 e, h2.1 (by omega)⟩
      · rw [if_neg e] at q; omega
    · rintro ⟨m, q1, q2⟩
      have a1 := mt_le _ q1
      have a2 := seq_le _ q2
      obtain rfl : m = j := by omega
      rw [if_pos (h1.2 q1), h2.2 q2]
theorem em_alt : ∀ (l : List Pt) (j : Nat), emOkL l → isAll (shL l) = true → (0 < l.countP em ↔ mtAlt S (shL l) j j)
  | [], j, _, _ => by simp [shL, mtAlt]
  | k :: r, j, h, hr => by
    rw [emOkL] at h
    rw [shL, isAll, Bool.and_eq_true] at hr
    have h1 := em_says k j h.1 hr.1
    have h2 := em_alt r j h.2 hr.2
    rw [shL, List.countP_cons, mtAlt, ← h1, ← h2]
    constructor
    · intro q
      by_cases e : k.em = true
      · exact .inl e
      · rw [if_neg e] at q; exact .inr q
    · rintro (q | q)
      · rw [if_pos q]; omega
      · omega
end
mutual
theorem good_new : ∀ (t : Pt) (B : Nat → Prop) (i : Nat), emOk t → dead t → isRex (sh t) = true → (∀ b, b < i → ¬ B b) → good S t B i
  | .mk op a b c d blk em l la ks, B, i, h, hd, hr, hB => by
    have E := fun j => em_says (S := S) _ j h hr
    rw [sh] at E hr
    rw [emOk] at h
    rw [dead] at hd
    obtain ⟨_, rfl, hd⟩ := hd
    rw [good]
    refine ⟨E, ⟨fun q => absurd q (by decide), fun ⟨b', q1, q2, _⟩ => absurd q2 (hB b' q1)⟩, ?_⟩
    rw [isRex] at hr
    split
    · trivial
    · rename_i o1
      rw [if_neg o1] at hr
      simp only [Bool.and_eq_true] at hr
      split
      · exact goodSeq_new ks B i h.2 hd hr.1.2 hB
      · split
        · exact goodAll_new ks _ i h.2 hd hr.1.2 (fun b' q ⟨b1, q1, q2, _⟩ => hB b1 (by omega) q2)
        · exact goodAll_new ks _ i h.2 hd hr.1.2 hB
theorem goodAll_new : ∀ (l : List Pt) (B : Nat → Prop) (i : Nat), emOkL l → deadL l → isAll (shL l) = true → (∀ b, b < i → ¬ B b) → goodAll S l B i
  | [], _, _, _, _, _, _ => by rw [goodAll]; trivial
  | k :: r, B, i, h, hd, hr, hB => by
    rw [emOkL] at h
    rw [deadL] at hd
    rw [shL, isAll, Bool.and_eq_true] at hr
    rw [goodAll]
    exact ⟨good_new k B i h.1 hd.1 hr.1 hB, goodAll_new r B i h.2 hd.2 hr.2 hB⟩
theorem goodSeq_new : ∀ (l : List Pt) (B : Nat → Prop) (i : Nat), emOkL l → deadL l → isAll (shL l) = true → (∀ b, b < i → ¬ B b) → goodSeq S l B i
  | [], _, _, _, _, _, _ => by rw [goodSeq]; trivial
  | k :: r, B, i, h, hd, hr, hB => by
    rw [emOkL] at h
    rw [deadL] at hd
    rw [shL, isAll, Bool.and_eq_true] at hr
    rw [goodSeq]
    exact ⟨good_new k B i h.1 hd.1 hr.1 hB, goodSeq_new r _ i h.2 hd.2 hr.2 (fun b' q ⟨b1, q1, q2, _⟩ => hB b1 (by omega) q2)⟩
end
mutual
theorem dead_wf : ∀ (t : Pt), dead t → isRex (sh t) = true → wf t
  | .mk op a b c d blk em l la ks, h, hr => by
    rw [dead] at h
    rw [sh, isRex] at hr
    rw [wf]
    refine ⟨fun o => ?_, fun _ => h.2, ?_⟩
    · rw [if_pos o] at hr
      match ks, hr with
      | [], _ => rfl
      | _ :: _, hr => simp [shL] at hr
    · by_cases o : op = 1
      · rw [if_pos o] at hr
        match ks, hr with
        | [], _ => rw [wfL]; trivial
        | _ :: _, hr => simp [shL] at hr
      · rw [if_neg o] at hr
        simp only [Bool.and_eq_true] at hr
        exact dead_wfL ks h.2.2 hr.1.2
theorem dead_wfL : ∀ (l : List Pt), deadL l → isAll (shL l) = true → wfL l
  | [], _, _ => by rw [wfL]; trivial
  | k :: r, h, hr => by
    rw [deadL] at h
    rw [shL, isAll, Bool.and_eq_true] at hr
    rw [wfL]
    exact ⟨dead_wf k h.1 hr.1, dead_wfL r h.2 hr.2⟩
end
/-- Read from place p on, k bytes. -/
def rdTo (S : List Nat) (t : Pt) (p : Nat) : Nat → Pt
  | 0 => t
  | k + 1 => rd (S.getD (p + k) 0) (rdTo S t p k) (k == 0)
theorem sh_rdTo (t : Pt) (p : Nat) : ∀ k, sh (rdTo S t p k) = sh t
  | 0 => rfl
  | k + 1 => by rw [rdTo, sh_rd, sh_rdTo t p k]
theorem em_rdTo (t : Pt) (p : Nat) : ∀ k, (rdTo S t p k).em = t.em
  | 0 => rfl
  | k + 1 => by rw [rdTo, em_rd, em_rdTo t p k]
theorem bl_rdTo (t : Pt) (p : Nat) : ∀ k, bl (rdTo S t p k) = bl t
  | 0 => rfl
  | k + 1 => by rw [rdTo, bl_rd, bl_rdTo t p k]
theorem count_rdTo (t : Pt) (p : Nat) : ∀ k, count (rdTo S t p k) = count t
  | 0 => rfl
  | k + 1 => by rw [rdTo, count_rd, count_rdTo t p k]
theorem wf_rdTo {t : Pt} (p : Nat) (h : wf t) : ∀ k, wf (rdTo S t p k)
  | 0 => h
  | k + 1 => by rw [rdTo]; exact wf_rd _ _ _ (wf_rdTo p h k)
theorem good_rdTo {t : Pt} {p : Nat} (h : emOk t) (hd : dead t) (hr : isRex (sh t) = true) : ∀ k, p + k ≤ S.length → good S (rdTo S t p k) (fun j => j = p) (p + k)
  | 0, _ => good_new t _ _ h hd hr (fun b q e => by omega)
  | k + 1, hk => by
    rw [rdTo, ← Nat.add_assoc]
    refine good_rd (p + k) (by omega) _ _ _ (by rw [sh_rdTo]; exact hr) ?_ (good_rdTo h hd hr k (by omega))
    simp
theorem rdTo_la {t : Pt} {p k : Nat} (h : emOk t) (hd : dead t) (hr : isRex (sh t) = true) (hk : p + k ≤ S.length) (h0 : 0 < k) : (rdTo S t p k).la = true ↔ mt S (sh t) p (p + k) := by
  rw [good_la (good_rdTo h hd hr k hk), sh_rdTo]
  constructor
  · rintro ⟨b, _, rfl, q⟩; exact q
  · intro q; exact ⟨p, by omega, rfl, q⟩
theorem rdTo_dead {t : Pt} {p k : Nat} (hd : wf t) (h0 : 0 < k) (he : (rdTo S t p k).lv = false) : ∀ m, rdTo S t p (k + m) = rdTo S t p k
  | 0 => rfl
  | m + 1 => by
    rw [← Nat.add_assoc, rdTo, rdTo_dead hd h0 he m]
    have e : (k + m == 0) = false := by simp; omega
    rw [e]
    exact dead_rd _ _ (wf_rdTo p hd k) (wf_dead (wf_rdTo p hd k) he)
end Pt
theorem aft_mt {S : List Nat} {t : Rx} {p j : Nat} (hp : p ≤ S.length) (hj : j ≤ S.length) : aft S t (fun i => i == p) j = true ↔ mt S t p j := by
  rw [(aft_says S t).2 _ j hj]
  constructor
  · rintro ⟨i, _, e, q⟩
    have e2 : i = p := by simpa using e
    subst e2; exact q
  · intro q; exact ⟨p, hp, by simp, q⟩
theorem endsTo_front {S : List Nat} {t : Rx} {p : Nat} (hp : p ≤ S.length) : ∀ k, k ≤ p → endsTo S t p k = []
  | 0, _ => rfl
  | k + 1, hk => by
    rw [endsTo_no, endsTo_front hp k (by omega)]
    cases h : aft S t (fun j => j == p) k
    · rfl
    · have := Pt.mt_le _ ((aft_mt hp (by omega)).1 h); omega
theorem endsTo_stop {S : List Nat} {t : Rx} {p k : Nat} : ∀ m, (∀ j, k ≤ j → j < k + m → aft S t (fun i => i == p) j = false) → endsTo S t p (k + m) = endsTo S t p k
  | 0, _ => rfl
  | m + 1, h => by
    rw [← Nat.add_assoc, endsTo_no (h (k + m) (by omega) (by omega))]
    exact endsTo_stop m (fun j h1 h2 => h j h1 (by omega))

end Go.Proofs.Ytjnikeiboefnbaa
