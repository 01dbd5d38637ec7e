/-
  Plain mathematics of the program's way through a text: a part that was read up to a place says where matches end; another byte keeps that true. No conditions.
-/
import Derived.Test.YtjnikeiboefnbaaProg
import Derived.Test.YtjnikeiboefnbaaEa
import Derived.Test.YtjnikeiboefnbaaEd
import Derived.Test.YtjnikeiboefnbaaEm
import Derived.Test.YtjnikeiboefnbaaHa
import Derived.Laws.MakeOwn
import Derived.Laws.OwnMore
import Derived.OwnWalk
import Derived.WalkKit
import Derived.WalkSpells
import Derived.WalkLawsBesides
import Derived.Lib.Hide
import Derived.Below
import Derived.BigQuiet
import Derived.Lib.QuietBelow
import Derived.Laws.StructEq
import Derived.KernelRfl
import Derived.Deep.RegionHeld3
namespace Go.Proofs.Ytjnikeiboefnbaa
open Rx
namespace Pt
variable (S : List Nat)
mutual
/-- Begun at the places B and read up to place i, it says what is so. -/
def good : Pt → (Nat → Prop) → Nat → Prop
  | .mk op a b c d _ em _ la ks, B, i =>
    (∀ j, em = true ↔ mt S (.mk op a b c d (shL ks)) j j) ∧ (la = true ↔ ∃ b', b' < i ∧ B b' ∧ mt S (.mk op a b c d (shL ks)) b' i) ∧
    (if op = 1 then True else if op = 2 then goodSeq ks B i else if op = 4 ∨ op = 5 then goodAll ks (fun j => ∃ b', b' ≤ j ∧ B b' ∧ Star (mtHd S (shL ks)) b' j) i else goodAll ks B i)
def goodAll : List Pt → (Nat → Prop) → Nat → Prop
  | [], _, _ => True
  | k :: r, B, i => good k B i ∧ goodAll r B i
def goodSeq : List Pt → (Nat → Prop) → Nat → Prop
  | [], _, _ => True
  | k :: r, B, i => good k B i ∧ goodSeq r (fun j => ∃ b', b' ≤ j ∧ B b' ∧ mt S (sh k) b' j) i
end
variable {S}
theorem good_em : ∀ {t : Pt} {B : Nat → Prop} {i : Nat}, good S t B i → ∀ j, t.em = true ↔ mt S (sh t) j j
  | .mk _ _ _ _ _ _ _ _ _ _, _, _, h => by rw [good] at h; rw [sh]; exact h.1
theorem good_la : ∀ {t : Pt} {B : Nat → Prop} {i : Nat}, good S t B i → (t.la = true ↔ ∃ b, b < i ∧ B b ∧ mt S (sh t) b i)
  | .mk _ _ _ _ _ _ _ _ _ _, _, _, h => by rw [good] at h; rw [sh]; exact h.2.1
theorem mt_le (t : Rx) {i j : Nat} (h : mt S t i j) : i ≤ j := ((aft_says S t).1 i j h).1
theorem seq_le (l : List Rx) {i j : Nat} (h : mtSeq S l i j) : i ≤ j := ((seq_says S l).1 i j h).1
theorem last_says : ∀ (l : List Pt) (B : Nat → Prop) (n : Nat) (p : Bool), goodSeq S l B n → (lastSeq p l = true ↔ (∃ b, b < n ∧ B b ∧ mtSeq S (shL l) b n) ∨ (p = true ∧ mtSeq S (shL l) n n))
  | [], B, n, p, _ => by
    rw [lastSeq, shL]
    constructor
    · intro h; exact .inr ⟨h, rfl⟩
    · rintro (⟨b, h1, _, h2⟩ | ⟨h, _⟩)
      · have e : b = n := h2
        omega
      · exact h
  | k :: r, B, n, p, h => by
    rw [goodSeq] at h
    rw [lastSeq, shL, last_says r _ n _ h.2]
    have h1 := good_la h.1
    have h2 := good_em h.1
    constructor
    · rintro (⟨m, hm, ⟨b, hb, hB, q⟩, q2⟩ | ⟨hp, q⟩)
      · exact .inl ⟨b, by omega, hB, m, q, q2⟩
      · rcases Bool.or_eq_true_iff.1 hp with hp | hp
        · obtain ⟨b, hb, hB, q1⟩ := h1.1 hp
          exact .inl ⟨b, hb, hB, n, q1, q⟩
        · rw [Bool.and_eq_true] at hp
          exact .inr ⟨hp.1, n, (h2 n).1 hp.2, q⟩
    · rintro (⟨b, hb, hB, m, q1, q2⟩ | ⟨hp, m, q1, q2⟩)
      · have a1 := mt_le _ q1
        have a2 := seq_le _ q2
        by_cases e : m = n
        · subst e
          exact .inr ⟨by rw [h1.2 ⟨b, hb, hB, q1⟩]; rfl, q2⟩
        · exact .inl ⟨m, by omega, ⟨b, a1, hB, q1⟩, q2⟩
      · have a1 := mt_le _ q1
        have a2 := seq_le _ q2
        obtain rfl : m = n := by omega
        exact .inr ⟨by rw [hp, (h2 m).2 q1]; simp, q2⟩
theorem any_says : ∀ (l : List Pt) (B : Nat → Prop) (n : Nat), goodAll S l B n → (l.any Pt.la = true ↔ ∃ b, b < n ∧ B b ∧ mtAlt S (shL l) b n)
  | [], B, n, _ => by
    simp only [List.any_nil, shL, mtAlt]
    constructor
    · intro h; cases h
    · rintro ⟨_, _, _, h⟩; exact h.elim
  | k :: r, B, n, h => by
    rw [goodAll] at h
    rw [List.any_cons, shL, Bool.or_eq_true, good_la h.1, any_says r B n h.2]
    constructor
    · rintro (⟨b, h1, h2, h3⟩ | ⟨b, h1, h2, h3⟩)
      · exact ⟨b, h1, h2, .inl h3⟩
      · exact ⟨b, h1, h2, .inr h3⟩
    · rintro ⟨b, h1, h2, h3 | h3⟩
      · exact .inl ⟨b, h1, h2, h3⟩
      · exact .inr ⟨b, h1, h2, h3⟩
theorem star_last {R : Nat → Nat → Prop} (hR : ∀ i j, R i j → i ≤ j) {i j : Nat} (h : Star R i j) (hl : i < j) : ∃ m, m < j ∧ i ≤ m ∧ Star R i m ∧ R m j := by
  induction h with
  | refl => omega
  | tail h1 r ih =>
    rename_i a b
    by_cases e : a = b
    · subst e; exact ih hl
    · have := hR _ _ r
      exact ⟨a, by omega, (Star.few hR h1).1, h1, r⟩
theorem star_first {R : Nat → Nat → Prop} {i j : Nat} (h : Star R i j) (hl : i ≠ j) : ∃ m, R i m ∧ Star R m j := by
  induction h with
  | refl => exact absurd rfl hl
  | tail h1 r ih =>
    rename_i a b
    by_cases e : i = a
    · subst e; exact ⟨b, r, .refl b⟩
    · obtain ⟨m, r1, s1⟩ := ih e
      exact ⟨m, r1, s1.tail r⟩
theorem star_cons {R : Nat → Nat → Prop} {i m j : Nat} (r : R i m) (h : Star R m j) : Star R i j := by
  induction h with
  | refl => exact (Star.refl i).tail r
  | tail _ r2 ih => exact ih.tail r2
theorem hd_one (k : Rx) : mtHd S [k] = mt S k := by funext i j; rw [mtHd]
mutual
theorem good_rd (i : Nat) (hi : i < S.length) : ∀ (t : Pt) (B : Nat → Prop) (bg : Bool), isRex (sh t) = true → (bg = true ↔ B i) → good S t B i → good S (rd (S.getD i 0) t bg) B (i + 1)
  | .mk op a b c d blk em l la ks, B, bg, hr, hb, h => by
    rw [sh, isRex] at hr
    rw [good] at h
    obtain ⟨h1, h2, h3⟩ := h
    have RA := fun B bg => goodAll_rd i hi ks B bg
    have RS := goodSeq_rd i hi ks B bg
    rw [rd]
    by_cases o1 : op = 1
    · rw [if_pos o1, good]
      refine ⟨h1, ?_, by rw [if_pos o1]; trivial⟩
      simp only [Rx.mt, o1, if_true]
      rw [Bool.and_eq_true, hb]
      constructor
      · rintro ⟨q1, q2⟩; exact ⟨i, by omega, q1, hi, rfl, q2⟩
      · rintro ⟨b', q1, q2, q3, q4, q5⟩
        obtain rfl : b' = i := by omega
        exact ⟨q2, q5⟩
    rw [if_neg o1] at hr h3
    rw [if_neg o1]
    simp only [Bool.and_eq_true] at hr
    obtain ⟨⟨hm, ha⟩, _⟩ := hr
    by_cases o2 : op = 2
    · rw [if_pos o2] at h3
      have q := RS ha hb h3
      rw [if_pos o2, good, if_neg o1, if_pos o2, sh_rdSeq]
      refine ⟨h1, ?_, q⟩
      have e2 : mt S (.mk op a b c d (shL ks)) = mtSeq S (shL ks) := by funext i j; rw [Rx.mt, if_neg o1, if_pos o2]
      rw [e2, last_says _ B (i + 1) false q, sh_rdSeq]
      simp
    rw [if_neg o2] at h3
    rw [if_neg o2]
    by_cases o45 : op = 4 ∨ op = 5
    · have hl : (shL ks).length = 1 := by
        unfold may at hm
        rcases o45 with o | o <;> (subst o; simpa using hm)
      obtain ⟨k, rfl⟩ : ∃ k, ks = [k] := by
        match ks, hl with
        | [k], _ => exact ⟨k, rfl⟩
        | [], hl => simp [shL] at hl
        | _ :: _ :: _, hl => simp [shL] at hl
      have es : shL [k] = [sh k] := by rw [shL, shL]
      rw [if_pos o45] at h3
      rw [if_pos o45, good, if_neg o1, if_neg o2, if_pos o45, sh_rdAll]
      rw [es, hd_one] at h3
      have hR := fun i j => mt_le (S := S) (sh k) (i := i) (j := j)
      have LA : la = true ↔ ∃ b', b' < i ∧ B b' ∧ Star (mt S (sh k)) b' i := by
        rw [h2]
        rcases o45 with o | o
        · subst o
          have e2 : mt S (.mk 4 a b c d (shL [k])) = Star (mt S (sh k)) := by funext i j; rw [Rx.mt, es, hd_one]; simp
          rw [e2]
        · subst o
          have e2 : mt S (.mk 5 a b c d (shL [k])) = fun i j => ∃ m, mt S (sh k) i m ∧ Star (mt S (sh k)) m j := by funext i j; rw [Rx.mt, es, hd_one]; simp
          rw [e2]
          constructor
          · rintro ⟨b', q1, q2, m, q3, q4⟩; exact ⟨b', q1, q2, star_cons q3 q4⟩
          · rintro ⟨b', q1, q2, q3⟩; exact ⟨b', q1, q2, star_first q3 (by omega)⟩
      have hbg : (bg || la) = true ↔ ∃ b', b' ≤ i ∧ B b' ∧ Star (mt S (sh k)) b' i := by
        rw [Bool.or_eq_true, hb, LA]
        constructor
        · rintro (q | ⟨b', q1, q2, q3⟩)
          · exact ⟨i, Nat.le_refl _, q, .refl i⟩
          · exact ⟨b', by omega, q2, q3⟩
        · rintro ⟨b', q1, q2, q3⟩
          by_cases e : b' = i
          · subst e; exact .inl q2
          · exact .inr ⟨b', by omega, q2, q3⟩
      have q := RA _ _ ha hbg h3
      rw [es, hd_one]
      refine ⟨by rw [es] at h1; exact h1, ?_, q⟩
      rw [any_says _ _ _ q, sh_rdAll, es]
      have key : (∃ b', b' < i + 1 ∧ (∃ b, b ≤ b' ∧ B b ∧ Star (mt S (sh k)) b b') ∧ mtAlt S [sh k] b' (i + 1)) ↔ ∃ b', b' < i + 1 ∧ B b' ∧ Star (mt S (sh k)) b' (i + 1) := by
        simp only [mtAlt, or_false]
        constructor
        · rintro ⟨b', q1, ⟨b, q2, q3, q4⟩, q5⟩; exact ⟨b, by omega, q3, q4.tail q5⟩
        · rintro ⟨b, q1, q2, q3⟩
          obtain ⟨m, m1, m2, m3, m4⟩ := star_last hR q3 q1
          exact ⟨m, m1, ⟨b, m2, q2, m3⟩, m4⟩
      rw [key]
      rcases o45 with o | o
      · subst o
        have e2 : mt S (.mk 4 a b c d [sh k]) = Star (mt S (sh k)) := by funext i j; rw [Rx.mt, hd_one]; simp
        rw [e2]
      · subst o
        have e2 : mt S (.mk 5 a b c d [sh k]) = fun i j => ∃ m, mt S (sh k) i m ∧ Star (mt S (sh k)) m j := by funext i j; rw [Rx.mt, hd_one]; simp
        rw [e2]
        constructor
        · rintro ⟨b', q1, q2, q3⟩; exact ⟨b', q1, q2, star_first q3 (by omega)⟩
        · rintro ⟨b', q1, q2, m, q3, q4⟩; exact ⟨b', q1, q2, star_cons q3 q4⟩
    · rw [if_neg o45] at h3
      have q := RA _ _ ha hb h3
      rw [if_neg o45, good, if_neg o1, if_neg o2, if_neg o45, sh_rdAll]
      refine ⟨h1, ?_, q⟩
      rw [any_says _ _ _ q, sh_rdAll]
      by_cases o3 : op = 3
      · have e2 : mt S (.mk op a b c d (shL ks)) = mtAlt S (shL ks) := by funext i j; rw [Rx.mt, if_neg o1, if_neg o2, if_pos o3]
        rw [e2]
      · have o6 : op = 6 := by
          unfold may at hm
          rw [not_or] at o45
          simp [o2, o3, o45.1, o45.2] at hm
          exact hm.1
        have hl : (shL ks).length = 1 := by
          unfold may at hm
          subst o6; simpa using hm
        obtain ⟨k, rfl⟩ : ∃ k, ks = [k] := by
          match ks, hl with
          | [k], _ => exact ⟨k, rfl⟩
          | [], hl => simp [shL] at hl
          | _ :: _ :: _, hl => simp [shL] at hl
        have es : shL [k] = [sh k] := by rw [shL, shL]
        have e2 : mt S (.mk op a b c d (shL [k])) = fun i j => i = j ∨ mt S (sh k) i j := by funext i j; rw [Rx.mt, if_neg o1, if_neg o2, if_neg o3, if_pos o6, es, hd_one]
        rw [e2, es]
        simp only [mtAlt, or_false]
        constructor
        · rintro ⟨b', q1, q2, q3⟩; exact ⟨b', q1, q2, .inr q3⟩
        · rintro ⟨b', q1, q2, q3 | q3⟩
          · omega
          · exact ⟨b', q1, q2, q3⟩
theorem goodAll_rd (i : Nat) (hi : i < S.length) : ∀ (l : List Pt) (B : Nat → Prop) (bg : Bool), isAll (shL l) = true → (bg = true ↔ B i) → goodAll S l B i → goodAll S (rdAll (S.getD i 0) l bg) B (i + 1)
  | [], _, _, _, _, h => by rw [rdAll]; rw [goodAll]; trivial
  | k :: r, B, bg, hr, hb, h => by
    rw [shL, isAll, Bool.and_eq_true] at hr
    rw [goodAll] at h
    rw [rdAll, goodAll]
    exact ⟨good_rd i hi k B bg hr.1 hb h.1, goodAll_rd i hi r B bg hr.2 hb h.2⟩
theorem goodSeq_rd (i : Nat) (hi : i < S.length) : ∀ (l : List Pt) (B : Nat → Prop) (bg : Bool), isAll (shL l) = true → (bg = true ↔ B i) → goodSeq S l B i → goodSeq S (rdSeq (S.getD i 0) l bg) B (i + 1)
  | [], _, _, _, _, h => by rw [rdSeq]; rw [goodSeq]; trivial
  | k :: r, B, bg, hr, hb, h => by
    rw [shL, isAll, Bool.and_eq_true] at hr
    rw [goodSeq] at h
    rw [rdSeq, goodSeq, sh_rd]
    refine ⟨good_rd i hi k B bg hr.1 hb h.1, goodSeq_rd i hi r _ _ hr.2 ?_ h.2⟩
    have h1 := good_la h.1
    have h2 := good_em h.1
    rw [Bool.or_eq_true, Bool.and_eq_true, h1, hb, h2 i]
    constructor
    · rintro (⟨b', q1, q2, q3⟩ | ⟨q1, q2⟩)
      · exact ⟨b', by omega, q2, q3⟩
      · exact ⟨i, Nat.le_refl _, q1, q2⟩
    · rintro ⟨b', q1, q2, q3⟩
      by_cases e : b' = i
      · subst e; exact .inr ⟨q2, q3⟩
      · exact .inl ⟨b', by omega, q2, q3⟩
end
end Pt

end Go.Proofs.Ytjnikeiboefnbaa
