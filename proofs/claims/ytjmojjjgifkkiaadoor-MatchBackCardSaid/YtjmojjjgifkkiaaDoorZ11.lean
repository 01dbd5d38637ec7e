/-
  Plain mathematics of the program's way through a text: a part that was read up to a place says where matches end; another byte keeps that true. No conditions.
  What the reference's Ends does: the places at which a match of a tree may end, in order; none of what may not be. Conditions: at most 1000 nodes, 100 places; words have 64 bits.
  Plain mathematics of chapter 7: running a tree's steps over a text comes to their end just where a match of the tree ends. No conditions.
  Plain mathematics of chapter 7: where a tree's steps come to their end a match of the tree ends. No conditions.
  Plain mathematics of chapter 7: sets of steps, level by level; which steps are reached in how many rounds; words as sets. No conditions.
  Plain mathematics of chapter 7: the reference's words, round by round, and what bits they have; when a program matches. No conditions.
-/
import Derived.Test.YtjmojjjgifkkiaaDoorProg
import Derived.Test.YtjmojjjgifkkiaaDoorZ01
import Derived.Test.YtjmojjjgifkkiaaDoorZ02
import Derived.Test.YtjmojjjgifkkiaaDoorZ05
import Derived.Test.YtjmojjjgifkkiaaDoorZ03
import Derived.Test.YtjmojjjgifkkiaaDoorZ04
import Derived.Test.YtjmojjjgifkkiaaDoorZ06
import Derived.Test.YtjmojjjgifkkiaaDoorZ08
import Derived.Test.YtjmojjjgifkkiaaDoorZ09
import Derived.Test.YtjmojjjgifkkiaaDoorZ10
import Derived.Laws.MakeOwn
import Derived.Laws.OwnMore
import Derived.OwnWalk
import Derived.Deep.RegionHeld3
import Derived.WalkKit
import Derived.WalkSpells
import Derived.WalkLawsBesides
import Derived.Lib.Hide
import Derived.Below
import Derived.BigQuiet
import Derived.Lib.QuietBelow
import Derived.Laws.StructEq
import Derived.KernelRfl
import Derived.Laws.CopyOwn
import Derived.Laws.AppendOwn
import Derived.Deep.QuietTactic
import Derived.Lib.Bytealg
import Derived.Laws.Externs
import Derived.Deep.LoopGhost
import Derived.StillTailTactics
import Derived.Maps.AppendAt
import Derived.Laws.ResultCell
namespace Go.Proofs.YtjmojjjgifkkiaaDoor
open Rx
namespace Pt
variable (S : List Nat)
mutual
/-- Begun at the places B and read up to place i, it says what is so. -/
def good : Pt → (Nat → Prop) → Nat → Prop
  | .mk op a b c d _ em _ la ks, B, i =>
    (∀ j, em = true ↔ mt S (.mk op a b c d (shL ks)) j j) ∧ (la = true ↔ ∃ b', b' < i ∧ B b' ∧ mt S (.mk op a b c d (shL ks)) b' i) ∧
    (if op = 1 then True else if op = 2 then goodSeq ks B i else if op = 4 ∨ op = 5 then goodAll ks (fun j => ∃ b', b' ≤ j ∧ B b' ∧ Star (mtHd S (shL ks)) b' j) i else goodAll ks B i)
def goodAll : List Pt → (Nat → Prop) → Nat → Prop
  | [], _, _ => True
  | k :: r, B, i => good k B i ∧ goodAll r B i
def goodSeq : List Pt → (Nat → Prop) → Nat → Prop
  | [], _, _ => True
  | k :: r, B, i => good k B i ∧ goodSeq r (fun j => ∃ b', b' ≤ j ∧ B b' ∧ mt S (sh k) b' j) i
end
variable {S}
theorem good_em : ∀ {t : Pt} {B : Nat → Prop} {i : Nat}, good S t B i → ∀ j, t.em = true ↔ mt S (sh t) j j
  | .mk _ _ _ _ _ _ _ _ _ _, _, _, h => by rw [good] at h; rw [sh]; exact h.1
theorem good_la : ∀ {t : Pt} {B : Nat → Prop} {i : Nat}, good S t B i → (t.la = true ↔ ∃ b, b < i ∧ B b ∧ mt S (sh t) b i)
  | .mk _ _ _ _ _ _ _ _ _ _, _, _, h => by rw [good] at h; rw [sh]; exact h.2.1
theorem mt_le (t : Rx) {i j : Nat} (h : mt S t i j) : i ≤ j := ((aft_says S t).1 i j h).1
theorem seq_le (l : List Rx) {i j : Nat} (h : mtSeq S l i j) : i ≤ j := ((seq_says S l).1 i j h).1
theorem last_says : ∀ (l : List Pt) (B : Nat → Prop) (n : Nat) (p : Bool), goodSeq S l B n → (lastSeq p l = true ↔ (∃ b, b < n ∧ B b ∧ mtSeq S (shL l) b n) ∨ (p = true ∧ mtSeq S (shL l) n n))
  | [], B, n, p, _ => by
    rw [lastSeq, shL]
    constructor
    · intro h; exact .inr ⟨h, rfl⟩
    · rintro (⟨b, h1, _, h2⟩ | ⟨h, _⟩)
      · have e : b = n := h2
        omega
      · exact h
  | k :: r, B, n, p, h => by
    rw [goodSeq] at h
    rw [lastSeq, shL, last_says r _ n _ h.2]
    have h1 := good_la h.1
    have h2 := good_em h.1
    constructor
    · rintro (⟨m, hm, ⟨b, hb, hB, q⟩, q2⟩ | ⟨hp, q⟩)
      · exact .inl ⟨b, by omega, hB, m, q, q2⟩
      · rcases Bool.or_eq_true_iff.1 hp with hp | hp
        · obtain ⟨b, hb, hB, q1⟩ := h1.1 hp
          exact .inl ⟨b, hb, hB, n, q1, q⟩
        · rw [Bool.and_eq_true] at hp
          exact .inr ⟨hp.1, n, (h2 n).1 hp.2, q⟩
    · rintro (⟨b, hb, hB, m, q1, q2⟩ | ⟨hp, m, q1, q2⟩)
      · have a1 := mt_le _ q1
        have a2 := seq_le _ q2
        by_cases e : m = n
        · subst e
          exact .inr ⟨by rw [h1.2 ⟨b, hb, hB, q1⟩]; rfl, q2⟩
        · exact .inl ⟨m, by omega, ⟨b, a1, hB, q1⟩, q2⟩
      · have a1 := mt_le _ q1
        have a2 := seq_le _ q2
        obtain rfl : m = n := by omega
        exact .inr ⟨by rw [hp, (h2 m).2 q1]; simp, q2⟩
theorem any_says : ∀ (l : List Pt) (B : Nat → Prop) (n : Nat), goodAll S l B n → (l.any Pt.la = true ↔ ∃ b, b < n ∧ B b ∧ mtAlt S (shL l) b n)
  | [], B, n, _ => by
    simp only [List.any_nil, shL, mtAlt]
    constructor
    · intro h; cases h
    · rintro ⟨_, _, _, h⟩; exact h.elim
  | k :: r, B, n, h => by
    rw [goodAll] at h
    rw [List.any_cons, shL, Bool.or_eq_true, good_la h.1, any_says r B n h.2]
    constructor
    · rintro (⟨b, h1, h2, h3⟩ | ⟨b, h1, h2, h3⟩)
      · exact ⟨b, h1, h2, .inl h3⟩
      · exact ⟨b, h1, h2, .inr h3⟩
    · rintro ⟨b, h1, h2, h3 | h3⟩
      · exact .inl ⟨b, h1, h2, h3⟩
      · exact .inr ⟨b, h1, h2, h3⟩
theorem star_last {R : Nat → Nat → Prop} (hR : ∀ i j, R i j → i ≤ j) {i j : Nat} (h : Star R i j) (hl : i < j) : ∃ m, m < j ∧ i ≤ m ∧ Star R i m ∧ R m j := by
  induction h with
  | refl => omega
  | tail h1 r ih =>
    rename_i a b
    by_cases e : a = b
    · subst e; exact ih hl
    · have := hR _ _ r
      exact ⟨a, by omega, (Star.few hR h1).1, h1, r⟩
theorem star_first {R : Nat → Nat → Prop} {i j : Nat} (h : Star R i j) (hl : i ≠ j) : ∃ m, R i m ∧ Star R m j := by
  induction h with
  | refl => exact absurd rfl hl
  | tail h1 r ih =>
    rename_i a b
    by_cases e : i = a
    · subst e; exact ⟨b, r, .refl b⟩
    · obtain ⟨m, r1, s1⟩ := ih e
      exact ⟨m, r1, s1.tail r⟩
theorem star_cons {R : Nat → Nat → Prop} {i m j : Nat} (r : R i m) (h : Star R m j) : Star R i j := by
  induction h with
  | refl => exact (Star.refl i).tail r
  | tail _ r2 ih => exact ih.tail r2
theorem hd_one (k : Rx) : mtHd S [k] = mt S k := by funext i j; rw [mtHd]
mutual
theorem good_rd (i : Nat) (hi : i < S.length) : ∀ (t : Pt) (B : Nat → Prop) (bg : Bool), isRex (sh t) = true → (bg = true ↔ B i) → good S t B i → good S (rd (S.getD i 0) t bg) B (i + 1)
  | .mk op a b c d blk em l la ks, B, bg, hr, hb, h => by
    rw [sh, isRex] at hr
    rw [good] at h
    obtain ⟨h1, h2, h3⟩ := h
    have RA := fun B bg => goodAll_rd i hi ks B bg
    have RS := goodSeq_rd i hi ks B bg
    rw [rd]
    by_cases o1 : op = 1
    · rw [if_pos o1, good]
      refine ⟨h1, ?_, by rw [if_pos o1]; trivial⟩
      simp only [Rx.mt, o1, if_true]
      rw [Bool.and_eq_true, hb]
      constructor
      · rintro ⟨q1, q2⟩; exact ⟨i, by omega, q1, hi, rfl, q2⟩
      · rintro ⟨b', q1, q2, q3, q4, q5⟩
        obtain rfl : b' = i := by omega
        exact ⟨q2, q5⟩
    rw [if_neg o1] at hr h3
    rw [if_neg o1]
    simp only [Bool.and_eq_true] at hr
    obtain ⟨⟨hm, ha⟩, _⟩ := hr
    by_cases o2 : op = 2
    · rw [if_pos o2] at h3
      have q := RS ha hb h3
      rw [if_pos o2, good, if_neg o1, if_pos o2, sh_rdSeq]
      refine ⟨h1, ?_, q⟩
      have e2 : mt S (.mk op a b c d (shL ks)) = mtSeq S (shL ks) := by funext i j; rw [Rx.mt, if_neg o1, if_pos o2]
      rw [e2, last_says _ B (i + 1) false q, sh_rdSeq]
      simp
    rw [if_neg o2] at h3
    rw [if_neg o2]
    by_cases o45 : op = 4 ∨ op = 5
    · have hl : (shL ks).length = 1 := by
        unfold may at hm
        rcases o45 with o | o <;> (subst o; simpa using hm)
      obtain ⟨k, rfl⟩ : ∃ k, ks = [k] := by
        match ks, hl with
        | [k], _ => exact ⟨k, rfl⟩
        | [], hl => simp [shL] at hl
        | _ :: _ :: _, hl => simp [shL] at hl
      have es : shL [k] = [sh k] := by rw [shL, shL]
      rw [if_pos o45] at h3
      rw [if_pos o45, good, if_neg o1, if_neg o2, if_pos o45, sh_rdAll]
      rw [es, hd_one] at h3
      have hR := fun i j => mt_le (S := S) (sh k) (i := i) (j := j)
      have LA : la = true ↔ ∃ b', b' < i ∧ B b' ∧ Star (mt S (sh k)) b' i := by
        rw [h2]
        rcases o45 with o | o
        · subst o
          have e2 : mt S (.mk 4 a b c d (shL [k])) = Star (mt S (sh k)) := by funext i j; rw [Rx.mt, es, hd_one]; simp
          rw [e2]
        · subst o
          have e2 : mt S (.mk 5 a b c d (shL [k])) = fun i j => ∃ m, mt S (sh k) i m ∧ Star (mt S (sh k)) m j := by funext i j; rw [Rx.mt, es, hd_one]; simp
          rw [e2]
          constructor
          · rintro ⟨b', q1, q2, m, q3, q4⟩; exact ⟨b', q1, q2, star_cons q3 q4⟩
          · rintro ⟨b', q1, q2, q3⟩; exact ⟨b', q1, q2, star_first q3 (by omega)⟩
      have hbg : (bg || la) = true ↔ ∃ b', b' ≤ i ∧ B b' ∧ Star (mt S (sh k)) b' i := by
        rw [Bool.or_eq_true, hb, LA]
        constructor
        · rintro (q | ⟨b', q1, q2, q3⟩)
          · exact ⟨i, Nat.le_refl _, q, .refl i⟩
          · exact ⟨b', by omega, q2, q3⟩
        · rintro ⟨b', q1, q2, q3⟩
          by_cases e : b' = i
          · subst e; exact .inl q2
          · exact .inr ⟨b', by omega, q2, q3⟩
      have q := RA _ _ ha hbg h3
      rw [es, hd_one]
      refine ⟨by rw [es] at h1; exact h1, ?_, q⟩
      rw [any_says _ _ _ q, sh_rdAll, es]
      have key : (∃ b', b' < i + 1 ∧ (∃ b, b ≤ b' ∧ B b ∧ Star (mt S (sh k)) b b') ∧ mtAlt S [sh k] b' (i + 1)) ↔ ∃ b', b' < i + 1 ∧ B b' ∧ Star (mt S (sh k)) b' (i + 1) := by
        simp only [mtAlt, or_false]
        constructor
        · rintro ⟨b', q1, ⟨b, q2, q3, q4⟩, q5⟩; exact ⟨b, by omega, q3, q4.tail q5⟩
        · rintro ⟨b, q1, q2, q3⟩
          obtain ⟨m, m1, m2, m3, m4⟩ := star_last hR q3 q1
          exact ⟨m, m1, ⟨b, m2, q2, m3⟩, m4⟩
      rw [key]
      rcases o45 with o | o
      · subst o
        have e2 : mt S (.mk 4 a b c d [sh k]) = Star (mt S (sh k)) := by funext i j; rw [Rx.mt, hd_one]; simp
        rw [e2]
      · subst o
        have e2 : mt S (.mk 5 a b c d [sh k]) = fun i j => ∃ m, mt S (sh k) i m ∧ Star (mt S (sh k)) m j := by funext i j; rw [Rx.mt, hd_one]; simp
        rw [e2]
        constructor
        · rintro ⟨b', q1, q2, q3⟩; exact ⟨b', q1, q2, star_first q3 (by omega)⟩
        · rintro ⟨b', q1, q2, m, q3, q4⟩; exact ⟨b', q1, q2, star_cons q3 q4⟩
    · rw [if_neg o45] at h3
      have q := RA _ _ ha hb h3
      rw [if_neg o45, good, if_neg o1, if_neg o2, if_neg o45, sh_rdAll]
      refine ⟨h1, ?_, q⟩
      rw [any_says _ _ _ q, sh_rdAll]
      by_cases o3 : op = 3
      · have e2 : mt S (.mk op a b c d (shL ks)) = mtAlt S (shL ks) := by funext i j; rw [Rx.mt, if_neg o1, if_neg o2, if_pos o3]
        rw [e2]
      · have o6 : op = 6 := by
          unfold may at hm
          rw [not_or] at o45
          simp [o2, o3, o45.1, o45.2] at hm
          exact hm.1
        have hl : (shL ks).length = 1 := by
          unfold may at hm
          subst o6; simpa using hm
        obtain ⟨k, rfl⟩ : ∃ k, ks = [k] := by
          match ks, hl with
          | [k], _ => exact ⟨k, rfl⟩
          | [], hl => simp [shL] at hl
          | _ :: _ :: _, hl => simp [shL] at hl
        have es : shL [k] = [sh k] := by rw [shL, shL]
        have e2 : mt S (.mk op a b c d (shL [k])) = fun i j => i = j ∨ mt S (sh k) i j := by funext i j; rw [Rx.mt, if_neg o1, if_neg o2, if_neg o3, if_pos o6, es, hd_one]
        rw [e2, es]
        simp only [mtAlt, or_false]
        constructor
        · rintro ⟨b', q1, q2, q3⟩; exact ⟨b', q1, q2, .inr q3⟩
        · rintro ⟨b', q1, q2, q3 | q3⟩
          · omega
          · exact ⟨b', q1, q2, q3⟩
theorem goodAll_rd (i : Nat) (hi : i < S.length) : ∀ (l : List Pt) (B : Nat → Prop) (bg : Bool), isAll (shL l) = true → (bg = true ↔ B i) → goodAll S l B i → goodAll S (rdAll (S.getD i 0) l bg) B (i + 1)
  | [], _, _, _, _, h => by rw [rdAll]; rw [goodAll]; trivial
  | k :: r, B, bg, hr, hb, h => by
    rw [shL, isAll, Bool.and_eq_true] at hr
    rw [goodAll] at h
    rw [rdAll, goodAll]
    exact ⟨good_rd i hi k B bg hr.1 hb h.1, goodAll_rd i hi r B bg hr.2 hb h.2⟩
theorem goodSeq_rd (i : Nat) (hi : i < S.length) : ∀ (l : List Pt) (B : Nat → Prop) (bg : Bool), isAll (shL l) = true → (bg = true ↔ B i) → goodSeq S l B i → goodSeq S (rdSeq (S.getD i 0) l bg) B (i + 1)
  | [], _, _, _, _, h => by rw [rdSeq]; rw [goodSeq]; trivial
  | k :: r, B, bg, hr, hb, h => by
    rw [shL, isAll, Bool.and_eq_true] at hr
    rw [goodSeq] at h
    rw [rdSeq, goodSeq, sh_rd]
    refine ⟨good_rd i hi k B bg hr.1 hb h.1, goodSeq_rd i hi r _ _ hr.2 ?_ h.2⟩
    have h1 := good_la h.1
    have h2 := good_em h.1
    rw [Bool.or_eq_true, Bool.and_eq_true, h1, hb, h2 i]
    constructor
    · rintro (⟨b', q1, q2, q3⟩ | ⟨q1, q2⟩)
      · exact ⟨b', by omega, q2, q3⟩
      · exact ⟨i, Nat.le_refl _, q1, q2⟩
    · rintro ⟨b', q1, q2, q3⟩
      by_cases e : b' = i
      · subst e; exact .inr ⟨q2, q3⟩
      · exact .inl ⟨b', by omega, q2, q3⟩
end
end Pt

end Go.Proofs.YtjmojjjgifkkiaaDoor
namespace Go.Proofs.YtjmojjjgifkkiaaDoor
open Go.RowKit Go.Sort

/-- Numbers as cells. -/
def iz (l : List Nat) : List Value := l.map fun k : Nat => Value.int .i64 (k : Int)
theorem iz_app (a b : List Nat) : iz (a ++ b) = iz a ++ iz b := by simp [iz]
theorem iz_len (l : List Nat) : (iz l).length = l.length := by simp [iz]
/-- The places up to k at which a match may end. -/
def endsTo (S : List Nat) (t : Rx) (at_ k : Nat) : List Nat := (List.range k).filter (Rx.aft S t fun j => j == at_)
theorem endsTo_yes {S : List Nat} {t : Rx} {a k : Nat} (h : Rx.aft S t (fun j => j == a) k = true) : endsTo S t a (k + 1) = endsTo S t a k ++ [k] := by
  simp [endsTo, List.range_succ, List.filter_append, h]
theorem endsTo_no {S : List Nat} {t : Rx} {a k : Nat} (h : Rx.aft S t (fun j => j == a) k = false) : endsTo S t a (k + 1) = endsTo S t a k := by
  simp [endsTo, List.range_succ, List.filter_append, h]
theorem endsTo_len (S : List Nat) (t : Rx) (a k : Nat) : (endsTo S t a k).length ≤ k := Nat.le_trans (List.length_filter_le _ _) (by simp)
/-- What Ends is to tell. -/
def ends (S : List Nat) (t : Rx) (z : Int) : List Nat := if Rx.isRex t = true ∧ 0 ≤ z ∧ z ≤ (S.length : Int) then endsTo S t z.toNat (S.length + 1) else []
def MadeInts (w : World) (l : List Nat) (e : Ending) (w' : World) : Prop := ∃ v, e = .returned v ∧ w'.ownsRow w.heap.size 3 1 v l.length (iz l) ∧ Below w.heap.size w w'
theorem Tryd.infoZ : (Tryd.prog.info? 3).map (fun i => (i.zero, i.size, i.bytes)) = some (some (.int .i64 0), 1, 8) := by kernel_rfl
theorem one_iz (k : Nat) : ∀ u ∈ [Value.int .i64 (k : Int)], u.oneCell' = true := by
  intro u hu
  simp only [List.mem_singleton] at hu
  subst hu
  rfl

set_option maxRecDepth 100000 in
set_option maxHeartbeats 2000000 in
theorem rends_none (t : Rx) (v : Value) (z : Int) (s : ByteArray) (w : World) (hcnt : Rx.count t ≤ 1000) (h : IsRx w v t) (hno : ¬ (Rx.isRex t = true ∧ 0 ≤ z ∧ z ≤ (s.size : Int))) :
    Calls Tryd.prog 73 #[v, .string s, .int .i64 z] w fun e w' => e = .returned (.slice none 0 0) ∧ Below w.heap.size w w' := by
  have h0 := h
  cases h with
  | node op a b c d ks A cap blk off V hcap hA hp hc hk =>
    have BX := box6 (w := w) (v0 := .int .i64 op) (v1 := .int .u64 (a : Int)) (v2 := .int .u64 (b : Int)) (v3 := .int .u64 (c : Int)) (v4 := .int .u64 (d : Int)) (v5 := .slice A ks.length cap) (ty := 60) (W := _) (Below.refl _ _)
    have CI := Lib.hid (risrex_any 1000 _ _ _ (Nat.le_refl _) hcnt (h0.grown BX.2))
    have BW := Lib.hid BX.2
    clear BX hcap hA hp hc hk h0 hcnt
    generalize ks.length = N at *
    cases hr : Rx.isRex (.mk op a b c d ks)
    · rw [hr] at CI
      clear hr hno
      go_enter Tryd.func73, Tryd.ntmps73
      go_wp2_with fail
      refine CI.out.mono ?_
      rintro e w2 ⟨rfl, b2⟩
      have B := Lib.hid (BW.out.trans (b2.mono BW.out.size))
      clear CI b2 BW
      go_wp2
      go_ret
      exact ⟨rfl, B.out⟩
    · rw [hr] at CI hno
      clear hr
      by_cases hz : z < 0
      · clear hno
        go_enter Tryd.func73, Tryd.ntmps73
        go_wp2_with fail
        refine CI.out.mono ?_
        rintro e w2 ⟨rfl, b2⟩
        have B := Lib.hid (BW.out.trans (b2.mono BW.out.size))
        clear CI b2 BW
        go_wp2
        go_ret
        exact ⟨rfl, B.out⟩
      · have hzd : decide (z > (s.size : Int)) = true := decide_eq_true (by
          rcases Int.lt_or_le (s.size : Int) z with h | h
          · exact h
          · exact absurd ⟨rfl, by omega, h⟩ hno)
        clear hno
        go_enter Tryd.func73, Tryd.ntmps73
        go_wp2_with fail
        refine CI.out.mono ?_
        rintro e w2 ⟨rfl, b2⟩
        have B := Lib.hid (BW.out.trans (b2.mono BW.out.size))
        clear CI b2 BW
        go_wp2
        go_ret
        exact ⟨rfl, B.out⟩

end Go.Proofs.YtjmojjjgifkkiaaDoor
namespace Go.Proofs.YtjmojjjgifkkiaaDoor
namespace Sc
def has (s : St) (c : Nat) : Bool := hasB s.a s.b s.c s.d c
/-- A step taken without a byte. -/
def EMv (P : List St) (p q : Nat) : Prop := p < P.length ∧ (((nthS P p).op = 2 ∧ ((q : Int) = (nthS P p).x ∨ (q : Int) = (nthS P p).y)) ∨ ((nthS P p).op = 3 ∧ (q : Int) = (nthS P p).x))
/-- A step taken with a byte. -/
def BMv (P : List St) (S : List Nat) (p i : Nat) : Prop := p < P.length ∧ (nthS P p).op = 1 ∧ i < S.length ∧ has (nthS P p) (S.getD i 0) = true
def Mv (P : List St) (S : List Nat) (p i q j : Nat) : Prop := (EMv P p q ∧ j = i) ∨ (BMv P S p i ∧ q = p + 1 ∧ j = i + 1)
/-- So many steps. -/
def Pth (P : List St) (S : List Nat) : Nat → Nat → Nat → Nat → Nat → Prop
  | 0, p, i, q, j => p = q ∧ i = j
  | m + 1, p, i, q, j => ∃ p' i', Mv P S p i p' i' ∧ Pth P S m p' i' q j
theorem Pth.trans {P : List St} {S : List Nat} : ∀ {m n p i q j r k : Nat}, Pth P S m p i q j → Pth P S n q j r k → Pth P S (m + n) p i r k
  | 0, n, p, i, q, j, r, k, ⟨e1, e2⟩, h => by subst e1 e2; rw [Nat.zero_add]; exact h
  | m + 1, n, p, i, q, j, r, k, ⟨p', i', h1, h2⟩, h => by rw [Nat.add_right_comm]; exact ⟨p', i', h1, Pth.trans h2 h⟩
theorem Pth.one {P : List St} {S : List Nat} {p i q j : Nat} (h : Mv P S p i q j) : Pth P S 1 p i q j := ⟨q, j, h, rfl, rfl⟩
/-- Steps lie in a program from an index on. -/
def In (P : List St) (n : Nat) (L : List St) : Prop := ∀ k, k < L.length → n + k < P.length ∧ nthS P (n + k) = nthS L k
theorem nthS_left {L M : List St} {k : Nat} (h : k < L.length) : nthS (L ++ M) k = nthS L k := by simp [nthS, List.getD, List.getElem?_append_left h]
theorem nthS_right {L M : List St} {k : Nat} : nthS (L ++ M) (L.length + k) = nthS M k := by simp [nthS, List.getD, List.getElem?_append_right]
theorem In.left {P : List St} {n : Nat} {L M : List St} (h : In P n (L ++ M)) : In P n L := fun k hk => by
  have := h k (by rw [List.length_append]; omega)
  rw [nthS_left hk] at this; exact this
theorem In.right {P : List St} {n m : Nat} {L M : List St} (h : In P n (L ++ M)) (hm : L.length = m) : In P (n + m) M := fun k hk => by
  subst hm
  have := h (L.length + k) (by rw [List.length_append]; omega)
  rw [nthS_right] at this
  rw [Nat.add_assoc]; exact this
theorem In.head {P : List St} {n : Nat} {s : St} {M : List St} (h : In P n (s :: M)) : n < P.length ∧ nthS P n = s := h 0 (by simp)
theorem In.tail {P : List St} {n : Nat} {s : St} {M : List St} (h : In P n (s :: M)) : In P (n + 1) M := In.right (L := [s]) h rfl
theorem split_mv {P : List St} {S : List Nat} {n x y : Nat} (h : n < P.length ∧ nthS P n = St.split x y) (i q j : Nat) : Mv P S n i q j ↔ j = i ∧ (q = x ∨ q = y) := by
  obtain ⟨h1, h2⟩ := h
  unfold Mv EMv BMv
  rw [h2]
  simp only [St.split]
  constructor
  · rintro (⟨⟨_, h⟩, e⟩ | ⟨⟨_, h, _⟩, _⟩)
    · refine ⟨e, ?_⟩
      rcases h with ⟨_, h | h⟩ | ⟨h, _⟩
      · exact .inl (by omega)
      · exact .inr (by omega)
      · omega
    · omega
  · rintro ⟨e, h⟩
    exact .inl ⟨⟨h1, .inl ⟨trivial, h.elim (fun e => .inl (by omega)) (fun e => .inr (by omega))⟩⟩, e⟩
theorem jump_mv {P : List St} {S : List Nat} {n x : Nat} (h : n < P.length ∧ nthS P n = St.jump x) (i q j : Nat) : Mv P S n i q j ↔ j = i ∧ q = x := by
  obtain ⟨h1, h2⟩ := h
  unfold Mv EMv BMv
  rw [h2]
  simp only [St.jump]
  constructor
  · rintro (⟨⟨_, h⟩, e⟩ | ⟨⟨_, h, _⟩, _⟩)
    · refine ⟨e, ?_⟩
      rcases h with ⟨h, _⟩ | ⟨_, h⟩
      · omega
      · omega
    · omega
  · rintro ⟨e, h⟩
    exact .inl ⟨⟨h1, .inr ⟨trivial, by omega⟩⟩, e⟩
theorem byte_mv {P : List St} {S : List Nat} {n a b c d : Nat} (h : n < P.length ∧ nthS P n = St.byte a b c d) (i q j : Nat) : Mv P S n i q j ↔ i < S.length ∧ hasB a b c d (S.getD i 0) = true ∧ q = n + 1 ∧ j = i + 1 := by
  obtain ⟨h1, h2⟩ := h
  unfold Mv EMv BMv has
  rw [h2]
  simp only [St.byte]
  constructor
  · rintro (⟨⟨_, h⟩, e⟩ | ⟨⟨_, _, h2, h3⟩, h4, h5⟩)
    · omega
    · exact ⟨h2, h3, h4, h5⟩
  · rintro ⟨h2, h3, h4, h5⟩
    exact .inr ⟨⟨h1, trivial, h2, h3⟩, h4, h5⟩

/-- Repeated, if one pass leads back. -/
theorem star_path {P : List St} {S : List Nat} {n : Nat} {R : Nat → Nat → Prop} (h : ∀ i j, R i j → ∃ m, Pth P S m n i n j) {i j : Nat} (hs : Rx.Star R i j) : ∃ m, Pth P S m n i n j := by
  induction hs with
  | refl => exact ⟨0, rfl, rfl⟩
  | tail _ r ih =>
    obtain ⟨m1, h1⟩ := ih
    obtain ⟨m2, h2⟩ := h _ _ r
    exact ⟨_, h1.trans h2⟩
theorem star_cons {R : Nat → Nat → Prop} {i j k : Nat} (h : R i j) (hs : Rx.Star R j k) : Rx.Star R i k := by
  induction hs with
  | refl => exact .tail (.refl i) h
  | tail _ r ih => exact .tail ih r
mutual
/-- Where a match ends its steps come to their end. -/
theorem reaches {P : List St} {S : List Nat} : ∀ (t : Rx) (n : Nat), Rx.isRex t = true → In P n (Rx.lay n t) → ∀ i j, Rx.mt S t i j → ∃ m, Pth P S m n i (n + Rx.sz t) j
  | .mk op a b c d ks, n, hr, hin, i, j, h => by
    obtain ⟨hall, hop⟩ := Rx.isRex_cases hr
    rcases hop with ⟨rfl, rfl⟩ | rfl | ⟨rfl, h1⟩ | ⟨ho, h1⟩
    · simp only [Rx.mt, if_true] at h
      simp only [Rx.lay, if_true] at hin
      simp only [Rx.sz, if_true]
      obtain ⟨e1, e2, e3⟩ := h
      exact ⟨1, Pth.one ((byte_mv hin.head i _ _).2 ⟨e1, e3, rfl, e2⟩)⟩
    · simp [Rx.mt] at h
      simp [Rx.lay] at hin
      simp [Rx.sz]
      exact reachesL ks n hall hin i j h
    · simp [Rx.mt] at h
      simp [Rx.lay] at hin
      simp [Rx.sz]
      exact reachesW ks n _ hall h1 rfl hin i j h
    · have hk := reachesL (P := P) (S := S) ks
      rcases ho with rfl | rfl | rfl
      · simp [Rx.mt] at h
        simp [Rx.lay] at hin
        simp [Rx.sz]
        have hS := hin.head
        have hL := hin.tail.left
        have hJ := (hin.tail.right (Rx.layL_len ks (n + 1))).head
        have one : ∀ i j, Rx.mtHd S ks i j → ∃ m, Pth P S m n i n j := fun i j hm => by
          obtain ⟨m, hm⟩ := hk (n + 1) hall hL i j (by
            obtain ⟨k0, rfl⟩ := List.length_eq_one_iff.1 h1
            exact ⟨j, hm, rfl⟩)
          exact ⟨_, (Pth.one ((split_mv hS i (n + 1) i).2 ⟨rfl, .inl rfl⟩)).trans (hm.trans (Pth.one ((jump_mv hJ j n j).2 ⟨rfl, rfl⟩)))⟩
        obtain ⟨m, hm⟩ := star_path one h
        exact ⟨_, hm.trans (Pth.one ((split_mv hS j _ j).2 ⟨rfl, .inr (by omega)⟩))⟩
      · simp [Rx.mt] at h
        simp [Rx.lay] at hin
        simp [Rx.sz]
        have hL := hin.left
        have hS := (hin.right (Rx.layL_len ks n)).head
        have pass : ∀ i j, Rx.mtHd S ks i j → ∃ m, Pth P S m n i (n + Rx.szL ks) j := fun i j hm => hk n hall hL i j (by
          obtain ⟨k0, rfl⟩ := List.length_eq_one_iff.1 h1
          exact ⟨j, hm, rfl⟩)
        obtain ⟨x, hx, hs⟩ := h
        obtain ⟨m0, p0⟩ := pass i x hx
        have one : ∀ i j, Rx.mtHd S ks i j → ∃ m, Pth P S m (n + Rx.szL ks) i (n + Rx.szL ks) j := fun i j hm => by
          obtain ⟨m, hm⟩ := pass i j hm
          exact ⟨_, (Pth.one ((split_mv hS i n i).2 ⟨rfl, .inl rfl⟩)).trans hm⟩
        obtain ⟨m, hm⟩ := star_path one hs
        exact ⟨_, p0.trans (hm.trans (Pth.one ((split_mv hS j _ j).2 ⟨rfl, .inr (by omega)⟩)))⟩
      · simp [Rx.mt] at h
        simp [Rx.lay] at hin
        simp [Rx.sz]
        have hS := hin.head
        have hL := hin.tail
        rcases h with rfl | h
        · exact ⟨_, Pth.one ((split_mv hS i _ i).2 ⟨rfl, .inr (by omega)⟩)⟩
        · obtain ⟨m, hm⟩ := hk (n + 1) hall hL i j (by
            obtain ⟨k0, rfl⟩ := List.length_eq_one_iff.1 h1
            exact ⟨j, h, rfl⟩)
          have e : n + 1 + Rx.szL ks = n + (Rx.szL ks + 1) := by omega
          rw [e] at hm
          exact ⟨_, (Pth.one ((split_mv hS i (n + 1) i).2 ⟨rfl, .inl rfl⟩)).trans hm⟩
theorem reachesL {P : List St} {S : List Nat} : ∀ (ks : List Rx) (n : Nat), Rx.isAll ks = true → In P n (Rx.layL n ks) → ∀ i j, Rx.mtSeq S ks i j → ∃ m, Pth P S m n i (n + Rx.szL ks) j
  | [], n, _, _, i, j, h => ⟨0, by simp [Rx.szL], h⟩
  | k :: r, n, ha, hin, i, j, h => by
    rw [Rx.isAll, Bool.and_eq_true] at ha
    obtain ⟨x, h1, h2⟩ := h
    rw [Rx.layL] at hin
    obtain ⟨m1, p1⟩ := reaches k n ha.1 hin.left i x h1
    obtain ⟨m2, p2⟩ := reachesL r (n + Rx.sz k) ha.2 (hin.right (Rx.lay_len k n)) x j h2
    rw [Rx.szL, ← Nat.add_assoc]
    exact ⟨_, p1.trans p2⟩
theorem reachesW {P : List St} {S : List Nat} : ∀ (ks : List Rx) (n e : Nat), Rx.isAll ks = true → 1 ≤ ks.length → n + (Rx.szL ks + 2 * (ks.length - 1)) = e → In P n (Rx.ways n e ks) → ∀ i j, Rx.mtAlt S ks i j → ∃ m, Pth P S m n i e j
  | k :: r, n, e, ha, _, he, hin, i, j, h => by
    rw [Rx.isAll, Bool.and_eq_true] at ha
    rw [Rx.ways] at hin
    rcases r with _ | ⟨k2, r2⟩
    · rw [if_pos (by rfl)] at hin
      have e2 : n + Rx.sz k = e := by simp [Rx.szL] at he; omega
      rw [← e2]
      rcases h with h | h
      · exact reaches k n ha.1 hin i j h
      · cases h
    · rw [if_neg (by simp)] at hin
      have hS := hin.head
      have hL := hin.tail.left
      have hR := hin.tail.right (Rx.lay_len k (n + 1))
      rcases h with h | h
      · obtain ⟨m, hm⟩ := reaches k (n + 1) ha.1 hL i j h
        exact ⟨_, (Pth.one ((split_mv hS i (n + 1) i).2 ⟨rfl, .inl rfl⟩)).trans (hm.trans (Pth.one ((jump_mv hR.head j e j).2 ⟨rfl, rfl⟩)))⟩
      · have hW := hR.tail
        have e3 : n + 1 + Rx.sz k + 1 = n + 2 + Rx.sz k := by omega
        rw [e3] at hW
        obtain ⟨m, hm⟩ := reachesW (k2 :: r2) (n + 2 + Rx.sz k) e ha.2 (by simp) (by simp only [Rx.szL, List.length_cons] at he ⊢; omega) hW i j h
        exact ⟨_, (Pth.one ((split_mv hS i _ i).2 ⟨rfl, .inr rfl⟩)).trans hm⟩
end
end Sc

end Go.Proofs.YtjmojjjgifkkiaaDoor
namespace Go.Proofs.YtjmojjjgifkkiaaDoor
namespace Sc
/-- Outside of a piece of a program. -/
def Out (n e q : Nat) : Prop := q < n ∨ e ≤ q
theorem Pth.first {P : List St} {S : List Nat} {m p i q j : Nat} (h : Pth P S m p i q j) (hne : p ≠ q) : ∃ m' p' i', m = m' + 1 ∧ Mv P S p i p' i' ∧ Pth P S m' p' i' q j := by
  cases m with
  | zero => exact absurd h.1 hne
  | succ m => obtain ⟨p', i', h1, h2⟩ := h; exact ⟨m, p', i', rfl, h1, h2⟩
theorem lay2 (n : Nat) (a b c d : Nat) (ks : List Rx) : Rx.lay n (.mk 2 a b c d ks) = Rx.layL n ks := by simp [Rx.lay]
theorem lay3 (n : Nat) (a b c d : Nat) (ks : List Rx) : Rx.lay n (.mk 3 a b c d ks) = Rx.ways n (n + (Rx.szL ks + 2 * (ks.length - 1))) ks := by simp [Rx.lay]
theorem lay4 (n : Nat) (a b c d : Nat) (ks : List Rx) : Rx.lay n (.mk 4 a b c d ks) = St.split (n + 1) (n + 2 + Rx.szL ks) :: (Rx.layL (n + 1) ks ++ [St.jump n]) := by simp [Rx.lay]
theorem lay5 (n : Nat) (a b c d : Nat) (ks : List Rx) : Rx.lay n (.mk 5 a b c d ks) = Rx.layL n ks ++ [St.split n (n + Rx.szL ks + 1)] := by simp [Rx.lay]
theorem lay6 (n : Nat) (a b c d : Nat) (ks : List Rx) : Rx.lay n (.mk 6 a b c d ks) = St.split (n + 1) (n + 1 + Rx.szL ks) :: Rx.layL (n + 1) ks := by simp [Rx.lay]
theorem sz2 (a b c d : Nat) (ks : List Rx) : Rx.sz (.mk 2 a b c d ks) = Rx.szL ks := by simp [Rx.sz]
theorem sz3 (a b c d : Nat) (ks : List Rx) : Rx.sz (.mk 3 a b c d ks) = Rx.szL ks + 2 * (ks.length - 1) := by simp [Rx.sz]
theorem sz4 (a b c d : Nat) (ks : List Rx) : Rx.sz (.mk 4 a b c d ks) = Rx.szL ks + 2 := by simp [Rx.sz]
theorem sz5 (a b c d : Nat) (ks : List Rx) : Rx.sz (.mk 5 a b c d ks) = Rx.szL ks + 1 := by simp [Rx.sz]
theorem sz6 (a b c d : Nat) (ks : List Rx) : Rx.sz (.mk 6 a b c d ks) = Rx.szL ks + 1 := by simp [Rx.sz]
theorem mt2 (S : List Nat) (a b c d : Nat) (ks : List Rx) (i j : Nat) : Rx.mt S (.mk 2 a b c d ks) i j ↔ Rx.mtSeq S ks i j := by simp [Rx.mt]
theorem mt3 (S : List Nat) (a b c d : Nat) (ks : List Rx) (i j : Nat) : Rx.mt S (.mk 3 a b c d ks) i j ↔ Rx.mtAlt S ks i j := by simp [Rx.mt]
theorem mt4 (S : List Nat) (a b c d : Nat) (ks : List Rx) (i j : Nat) : Rx.mt S (.mk 4 a b c d ks) i j ↔ Rx.Star (Rx.mtHd S ks) i j := by simp [Rx.mt]
theorem mt5 (S : List Nat) (a b c d : Nat) (ks : List Rx) (i j : Nat) : Rx.mt S (.mk 5 a b c d ks) i j ↔ ∃ m, Rx.mtHd S ks i m ∧ Rx.Star (Rx.mtHd S ks) m j := by simp [Rx.mt]
theorem mt6 (S : List Nat) (a b c d : Nat) (ks : List Rx) (i j : Nat) : Rx.mt S (.mk 6 a b c d ks) i j ↔ i = j ∨ Rx.mtHd S ks i j := by simp [Rx.mt]
mutual
/-- A way out of a tree's steps goes through their end, where a match ends. -/
theorem settles {P : List St} {S : List Nat} : ∀ (t : Rx) (n : Nat), Rx.isRex t = true → In P n (Rx.lay n t) → ∀ m i q j, Pth P S m n i q j → Out n (n + Rx.sz t) q → ∃ m' i', m' ≤ m ∧ Rx.mt S t i i' ∧ Pth P S m' (n + Rx.sz t) i' q j
  | .mk op a b c d ks, n, hr, hin, m, i, q, j, h, ho => by
    obtain ⟨hall, hop⟩ := Rx.isRex_cases hr
    have hk := settlesL (P := P) (S := S) ks
    have hw := settlesW (P := P) (S := S) ks
    rcases hop with ⟨rfl, rfl⟩ | rfl | ⟨rfl, h1⟩ | ⟨hop, h1⟩
    · simp only [Rx.lay, if_true] at hin
      simp only [Rx.sz, if_true] at ho ⊢
      obtain ⟨m', p', i', rfl, hm, hp⟩ := h.first (by rcases ho with h | h <;> omega)
      obtain ⟨e1, e2, e3, e4⟩ := (byte_mv hin.head i _ _).1 hm
      rw [e3, e4] at hp
      refine ⟨m', i + 1, by omega, ?_, hp⟩
      simp only [Rx.mt, if_true]
      exact ⟨e1, trivial, e2⟩
    · rw [lay2] at hin
      rw [sz2] at ho ⊢
      obtain ⟨m', i', h1, h2, h3⟩ := hk n hall hin m i q j h ho
      exact ⟨m', i', h1, (mt2 S a b c d ks i i').2 h2, h3⟩
    · rw [lay3] at hin
      rw [sz3] at ho ⊢
      obtain ⟨m', i', h1, h2, h3⟩ := hw n _ hall h1 rfl hin m i q j h ho
      exact ⟨m', i', h1, (mt3 S a b c d ks i i').2 h2, h3⟩
    · have one : ∀ x y, Rx.mtSeq S ks x y → Rx.mtHd S ks x y := fun x y hxy => by
        obtain ⟨k0, rfl⟩ := List.length_eq_one_iff.1 h1
        obtain ⟨z, hz, e⟩ := hxy
        have e2 : z = y := e
        subst e2; exact hz
      rcases hop with rfl | rfl | rfl
      · rw [lay4] at hin
        rw [sz4] at ho ⊢
        have hS := hin.head
        have hL := hin.tail.left
        have hJ := (hin.tail.right (Rx.layL_len ks (n + 1))).head
        clear hin
        induction m using Nat.strongRecOn generalizing i with
        | _ m ih =>
          obtain ⟨m1, p1, i1, rfl, hm, hp⟩ := h.first (by rcases ho with h | h <;> omega)
          obtain ⟨e1, hq⟩ := (split_mv hS i _ _).1 hm
          rw [e1] at hp
          rcases hq with e2 | e2
          · rw [e2] at hp
            obtain ⟨m2, i2, l2, hx, hp2⟩ := hk (n + 1) hall hL m1 i q j hp (by rcases ho with h | h; exact .inl (by omega); exact .inr (by omega))
            obtain ⟨m3, p3, i3, rfl, hm3, hp3⟩ := hp2.first (by rcases ho with h | h <;> omega)
            obtain ⟨e3, e4⟩ := (jump_mv hJ _ _ _).1 hm3
            rw [e3, e4] at hp3
            obtain ⟨m4, i4, l4, hs, hp4⟩ := ih m3 (by omega) i2 hp3
            exact ⟨m4, i4, by omega, (mt4 S a b c d ks i i4).2 (star_cons (one _ _ hx) ((mt4 S a b c d ks i2 i4).1 hs)), hp4⟩
          · rw [e2] at hp
            exact ⟨m1, i, by omega, (mt4 S a b c d ks i i).2 (.refl i), by rw [show n + (Rx.szL ks + 2) = n + 2 + Rx.szL ks by omega]; exact hp⟩
      · rw [lay5] at hin
        rw [sz5] at ho ⊢
        have hL := hin.left
        have hS := (hin.right (Rx.layL_len ks n)).head
        clear hin
        induction m using Nat.strongRecOn generalizing i with
        | _ m ih =>
          obtain ⟨m2, i2, l2, hx, hp2⟩ := hk n hall hL m i q j h (by rcases ho with h | h; exact .inl (by omega); exact .inr (by omega))
          obtain ⟨m3, p3, i3, rfl, hm3, hp3⟩ := hp2.first (by rcases ho with h | h <;> omega)
          obtain ⟨e1, hq⟩ := (split_mv hS _ _ _).1 hm3
          rw [e1] at hp3
          rcases hq with e2 | e2
          · rw [e2] at hp3
            obtain ⟨m4, i4, l4, hs, hp4⟩ := ih m3 (by omega) i2 hp3
            obtain ⟨y, hy, hs⟩ := (mt5 S a b c d ks i2 i4).1 hs
            exact ⟨m4, i4, by omega, (mt5 S a b c d ks i i4).2 ⟨i2, one _ _ hx, star_cons hy hs⟩, hp4⟩
          · rw [e2] at hp3
            exact ⟨m3, i2, by omega, (mt5 S a b c d ks i i2).2 ⟨i2, one _ _ hx, .refl i2⟩, by rw [← Nat.add_assoc]; exact hp3⟩
      · rw [lay6] at hin
        rw [sz6] at ho ⊢
        have hS := hin.head
        have hL := hin.tail
        obtain ⟨m1, p1, i1, rfl, hm, hp⟩ := h.first (by rcases ho with h | h <;> omega)
        obtain ⟨e1, hq⟩ := (split_mv hS i _ _).1 hm
        rw [e1] at hp
        have e : n + (Rx.szL ks + 1) = n + 1 + Rx.szL ks := by omega
        rcases hq with e2 | e2
        · rw [e2] at hp
          obtain ⟨m2, i2, l2, hx, hp2⟩ := hk (n + 1) hall hL m1 i q j hp (by rcases ho with h | h; exact .inl (by omega); exact .inr (by omega))
          exact ⟨m2, i2, by omega, (mt6 S a b c d ks i i2).2 (.inr (one _ _ hx)), by rw [e]; exact hp2⟩
        · rw [e2] at hp
          exact ⟨m1, i, by omega, (mt6 S a b c d ks i i).2 (.inl rfl), by rw [e]; exact hp⟩
theorem settlesL {P : List St} {S : List Nat} : ∀ (ks : List Rx) (n : Nat), Rx.isAll ks = true → In P n (Rx.layL n ks) → ∀ m i q j, Pth P S m n i q j → Out n (n + Rx.szL ks) q → ∃ m' i', m' ≤ m ∧ Rx.mtSeq S ks i i' ∧ Pth P S m' (n + Rx.szL ks) i' q j
  | [], n, _, _, m, i, q, j, h, _ => ⟨m, i, Nat.le_refl _, rfl, by simp [Rx.szL]; exact h⟩
  | k :: r, n, ha, hin, m, i, q, j, h, ho => by
    rw [Rx.isAll, Bool.and_eq_true] at ha
    rw [Rx.layL] at hin
    rw [Rx.szL] at ho ⊢
    obtain ⟨m1, i1, l1, h1, p1⟩ := settles k n ha.1 hin.left m i q j h (by rcases ho with h | h; exact .inl h; exact .inr (by omega))
    obtain ⟨m2, i2, l2, h2, p2⟩ := settlesL r (n + Rx.sz k) ha.2 (hin.right (Rx.lay_len k n)) m1 i1 q j p1 (by rcases ho with h | h; exact .inl (by omega); exact .inr (by omega))
    rw [← Nat.add_assoc]
    exact ⟨m2, i2, by omega, ⟨i1, h1, h2⟩, p2⟩
theorem settlesW {P : List St} {S : List Nat} : ∀ (ks : List Rx) (n e : Nat), Rx.isAll ks = true → 1 ≤ ks.length → n + (Rx.szL ks + 2 * (ks.length - 1)) = e → In P n (Rx.ways n e ks) → ∀ m i q j, Pth P S m n i q j → Out n e q → ∃ m' i', m' ≤ m ∧ Rx.mtAlt S ks i i' ∧ Pth P S m' e i' q j
  | k :: r, n, e, ha, _, he, hin, m, i, q, j, h, ho => by
    rw [Rx.isAll, Bool.and_eq_true] at ha
    rw [Rx.ways] at hin
    rcases r with _ | ⟨k2, r2⟩
    · rw [if_pos (by rfl)] at hin
      have e2 : n + Rx.sz k = e := by simp [Rx.szL] at he; omega
      rw [← e2] at ho ⊢
      obtain ⟨m1, i1, l1, h1, p1⟩ := settles k n ha.1 hin m i q j h ho
      exact ⟨m1, i1, l1, .inl h1, p1⟩
    · rw [if_neg (by simp)] at hin
      simp only [Rx.szL, List.length_cons] at he
      have hS := hin.head
      have hL := hin.tail.left
      have hR := hin.tail.right (Rx.lay_len k (n + 1))
      obtain ⟨m1, p1, i1, rfl, hm, hp⟩ := h.first (by rcases ho with h | h <;> omega)
      obtain ⟨e1, hq⟩ := (split_mv hS i _ _).1 hm
      rw [e1] at hp
      rcases hq with e2 | e2 <;> rw [e2] at hp
      · obtain ⟨m2, i2, l2, h2, p2⟩ := settles k (n + 1) ha.1 hL m1 i q j hp (by rcases ho with h | h; exact .inl (by omega); exact .inr (by omega))
        obtain ⟨m3, p3, i3, rfl, hm3, hp3⟩ := p2.first (by rcases ho with h | h <;> omega)
        obtain ⟨e3, e4⟩ := (jump_mv hR.head _ _ _).1 hm3
        rw [e3, e4] at hp3
        exact ⟨m3, i2, by omega, .inl h2, hp3⟩
      · have hW := hR.tail
        have e3 : n + 1 + Rx.sz k + 1 = n + 2 + Rx.sz k := by omega
        rw [e3] at hW
        obtain ⟨m2, i2, l2, h2, p2⟩ := settlesW (k2 :: r2) (n + 2 + Rx.sz k) e ha.2 (by simp) (by simp only [Rx.szL, List.length_cons]; omega) hW m1 i q j hp (by rcases ho with h | h; exact .inl (by omega); exact .inr (by omega))
        exact ⟨m2, i2, by omega, .inr h2, p2⟩
end
theorem in_self (L : List St) : In L 0 L := fun k hk => ⟨by omega, by rw [Nat.zero_add]⟩
/-- The program of a tree matches a text just if a match of the tree that begins at its beginning ends at its end. -/
def Acc (P : List St) (S : List Nat) : Prop := ∃ p m, Pth P S m 0 0 p S.length ∧ p < P.length ∧ (nthS P p).op = 4
theorem no_move {P : List St} {S : List Nat} {p i q j : Nat} (h : (nthS P p).op = 4) : ¬ Mv P S p i q j := by
  rintro (⟨⟨_, h1⟩, _⟩ | ⟨⟨_, h1, _⟩, _⟩)
  · rcases h1 with ⟨h1, _⟩ | ⟨h1, _⟩ <;> omega
  · omega
theorem acc_iff {t : Rx} (hr : Rx.isRex t = true) (S : List Nat) : Acc (progOf t) S ↔ Rx.mt S t 0 S.length := by
  have hin : In (progOf t) 0 (Rx.lay 0 t) := (in_self (progOf t)).left
  have hlen := prog_len t
  have hlast : (nthS (progOf t) (Rx.sz t)).op = 4 := by
    rw [nthS_eq (by omega)]
    simp only [progOf]
    rw [List.getElem_append_right (by rw [Rx.lay_len]; exact Nat.le_refl _)]
    simp [Rx.lay_len, St.mat]
  have hother : ∀ p, p < Rx.sz t → (nthS (progOf t) p).op ≠ 4 := fun p hp => by
    have hl : p < (Rx.lay 0 t).length := by rw [Rx.lay_len]; exact hp
    rw [nthS_eq (by omega)]
    simp only [progOf]
    rw [List.getElem_append_left hl]
    exact (lay_good t 0 (Rx.sz t + 1) (by omega) _ (List.getElem_mem hl)).2
  constructor
  · rintro ⟨p, m, h, hp, ho⟩
    have e : p = Rx.sz t := by
      rcases Nat.lt_or_ge p (Rx.sz t) with h | h
      · exact absurd ho (hother p h)
      · omega
    subst e
    obtain ⟨m', i', _, hm, hp'⟩ := settles t 0 hr hin m 0 _ _ h (.inr (by omega))
    rw [Nat.zero_add] at hp'
    cases m' with
    | zero => obtain ⟨_, e⟩ := hp'; rw [← e]; exact hm
    | succ m' => obtain ⟨_, _, h1, _⟩ := hp'; exact absurd h1 (no_move hlast)
  · intro h
    obtain ⟨m, hm⟩ := reaches t 0 hr hin 0 _ h
    rw [Nat.zero_add] at hm
    exact ⟨_, m, hm, by omega, hlast⟩
end Sc

end Go.Proofs.YtjmojjjgifkkiaaDoor
namespace Go.Proofs.YtjmojjjgifkkiaaDoor
namespace Sc
/-- A step where a byte is read, or a match. -/
def Rest (P : List St) (q : Nat) : Prop := q < P.length ∧ ((nthS P q).op = 1 ∨ (nthS P q).op = 4)
/-- The steps reached from an index. -/
def Fs (P : List St) (p q : Nat) : Prop := Rx.Star (EMv P) p q ∧ Rest P q
/-- The set behind k bytes. -/
def Lvl (P : List St) (S : List Nat) (k q : Nat) : Prop := (∃ m, Pth P S m 0 0 q k) ∧ Rest P q
theorem Pth.le {P : List St} {S : List Nat} : ∀ {m p i q j : Nat}, Pth P S m p i q j → i ≤ j
  | 0, _, _, _, _, ⟨_, e⟩ => by omega
  | m + 1, p, i, q, j, ⟨p', i', h1, h2⟩ => by
    have := Pth.le h2
    rcases h1 with ⟨_, e⟩ | ⟨_, _, e⟩ <;> omega
theorem Pth.eps {P : List St} {S : List Nat} : ∀ {m p i q j : Nat}, Pth P S m p i q j → i = j → Rx.Star (EMv P) p q
  | 0, _, _, _, _, ⟨e, _⟩, _ => by subst e; exact .refl _
  | m + 1, p, i, q, j, ⟨p', i', h1, h2⟩, e => by
    rcases h1 with ⟨h, e2⟩ | ⟨_, _, e2⟩
    · exact star_cons h (Pth.eps h2 (by omega))
    · have := Pth.le h2; omega
theorem eps_path {P : List St} (S : List Nat) {p q : Nat} (h : Rx.Star (EMv P) p q) (i : Nat) : ∃ m, Pth P S m p i q i := by
  induction h with
  | refl => exact ⟨0, rfl, rfl⟩
  | tail _ r ih => obtain ⟨m, hm⟩ := ih; exact ⟨_, hm.trans (Pth.one (.inl ⟨r, rfl⟩))⟩
/-- A way over more bytes reads the last one somewhere. -/
theorem Pth.last {P : List St} {S : List Nat} : ∀ {m p i q k : Nat}, Pth P S m p i q (k + 1) → i ≤ k → ∃ m1 r, Pth P S m1 p i r k ∧ BMv P S r k ∧ Rx.Star (EMv P) (r + 1) q
  | 0, _, _, _, _, ⟨_, e⟩, h => by omega
  | m + 1, p, i, q, k, ⟨p', i', h1, h2⟩, h => by
    rcases h1 with ⟨he, e⟩ | ⟨hb, e1, e2⟩
    · subst e
      obtain ⟨m1, r, a, b, c⟩ := Pth.last h2 h
      exact ⟨m1 + 1, r, ⟨p', i', .inl ⟨he, rfl⟩, a⟩, b, c⟩
    · rcases Nat.lt_or_ge i k with hlt | hge
      · obtain ⟨m1, r, a, b, c⟩ := Pth.last h2 (by omega)
        exact ⟨m1 + 1, r, ⟨p', i', .inr ⟨hb, e1, e2⟩, a⟩, b, c⟩
      · obtain rfl : i = k := by omega
        subst e1
        exact ⟨0, p, ⟨rfl, rfl⟩, hb, Pth.eps h2 (by omega)⟩
theorem lvl_zero (P : List St) (S : List Nat) (q : Nat) : Lvl P S 0 q ↔ Fs P 0 q :=
  ⟨fun ⟨⟨_, h⟩, hr⟩ => ⟨h.eps rfl, hr⟩, fun ⟨h, hr⟩ => ⟨eps_path S h 0, hr⟩⟩
theorem lvl_succ (P : List St) (S : List Nat) (k q : Nat) (hk : k < S.length) : Lvl P S (k + 1) q ↔ ∃ p, Lvl P S k p ∧ (nthS P p).op = 1 ∧ has (nthS P p) (S.getD k 0) = true ∧ Fs P (p + 1) q := by
  constructor
  · rintro ⟨⟨m, h⟩, hr⟩
    obtain ⟨m1, r, h1, ⟨h2, h3, h4, h5⟩, h6⟩ := h.last (Nat.zero_le _)
    exact ⟨r, ⟨⟨m1, h1⟩, h2, .inl h3⟩, h3, h5, h6, hr⟩
  · rintro ⟨p, ⟨⟨m, h⟩, hp, _⟩, ho, hb, hs, hr⟩
    obtain ⟨m2, h2⟩ := eps_path S hs (k + 1)
    exact ⟨⟨_, h.trans ((Pth.one (.inr ⟨⟨hp, ho, hk, hb⟩, rfl, rfl⟩)).trans h2)⟩, hr⟩
theorem acc_lvl (P : List St) (S : List Nat) : Acc P S ↔ ∃ p, Lvl P S S.length p ∧ (nthS P p).op = 4 :=
  ⟨fun ⟨p, m, h, hp, ho⟩ => ⟨p, ⟨⟨m, h⟩, hp, .inr ho⟩, ho⟩, fun ⟨p, ⟨⟨m, h⟩, hp, _⟩, ho⟩ => ⟨p, m, h, hp, ho⟩⟩

/-- A chain of places, each led to by the one before. -/
inductive Ch (R : Nat → Nat → Prop) : Nat → List Nat → Nat → Prop where
  | nil (p : Nat) : Ch R p [] p
  | cons {p x q : Nat} {l : List Nat} : R p x → Ch R x l q → Ch R p (x :: l) q
theorem Ch.snoc {R : Nat → Nat → Prop} {p q r : Nat} {l : List Nat} (h : Ch R p l q) (hr : R q r) : Ch R p (l ++ [r]) r := by
  induction h with
  | nil p => exact .cons hr (.nil _)
  | cons h1 _ ih => exact .cons h1 (ih hr)
theorem Ch.of {R : Nat → Nat → Prop} {p q : Nat} (h : Rx.Star R p q) : ∃ l, Ch R p l q := by
  induction h with
  | refl => exact ⟨[], .nil _⟩
  | tail _ r ih => obtain ⟨l, hl⟩ := ih; exact ⟨_, hl.snoc r⟩
theorem Ch.star {R : Nat → Nat → Prop} {p q : Nat} {l : List Nat} (h : Ch R p l q) : Rx.Star R p q := by
  induction h with
  | nil p => exact .refl p
  | cons h1 _ ih => exact star_cons h1 ih
/-- From any place on the chain. -/
theorem Ch.from {R : Nat → Nat → Prop} {p q x : Nat} {l : List Nat} (h : Ch R x l q) (hn : (x :: l).Nodup) (hp : p ∈ x :: l) : ∃ l', Ch R p l' q ∧ (p :: l').Nodup := by
  induction h with
  | nil y =>
    obtain rfl : p = y := by simpa using hp
    exact ⟨[], .nil p, by simp⟩
  | @cons y z q l h1 h2 ih =>
    rcases List.mem_cons.1 hp with rfl | hp
    · exact ⟨z :: l, .cons h1 h2, hn⟩
    · exact ih (List.nodup_cons.1 hn).2 hp
/-- No place twice. -/
theorem Ch.once {R : Nat → Nat → Prop} {p q : Nat} {l : List Nat} (h : Ch R p l q) : ∃ l', Ch R p l' q ∧ (p :: l').Nodup := by
  induction h with
  | nil p => exact ⟨[], .nil p, by simp⟩
  | @cons y z q l h1 h2 ih =>
    obtain ⟨l', h3, h4⟩ := ih
    by_cases hy : y ∈ z :: l'
    · exact h3.from h4 hy
    · exact ⟨z :: l', .cons h1 h3, List.nodup_cons.2 ⟨hy, h4⟩⟩
theorem Ch.all {R : Nat → Nat → Prop} {N : Nat} (hR : ∀ x y, R x y → y < N) {p q : Nat} {l : List Nat} (h : Ch R p l q) : ∀ x ∈ l, x < N := by
  induction h with
  | nil p => intro x hx; cases hx
  | cons h1 _ ih =>
    intro x hx
    rcases List.mem_cons.1 hx with rfl | hx
    · exact hR _ _ h1
    · exact ih x hx
/-- Short chains are enough. -/
theorem Ch.short {R : Nat → Nat → Prop} {N : Nat} (hR : ∀ x y, R x y → y < N) {p q : Nat} (hp : p < N) (h : Rx.Star R p q) : ∃ l, Ch R p l q ∧ l.length < N := by
  obtain ⟨l0, h0⟩ := Ch.of h
  obtain ⟨l, h1, h2⟩ := h0.once
  refine ⟨l, h1, ?_⟩
  have hs : (p :: l) ⊆ List.range N := fun x hx => by
    rw [List.mem_range]
    rcases List.mem_cons.1 hx with rfl | hx
    · exact hp
    · exact h1.all hR x hx
  have := h2.length_le_of_subset hs
  rw [List.length_range, List.length_cons] at this
  omega
theorem Ch.back {R : Nat → Nat → Prop} {p q : Nat} {l : List Nat} (h : Ch R p l q) (hl : 0 < l.length) : ∃ l' x, Ch R p l' x ∧ R x q ∧ l'.length + 1 = l.length := by
  induction h with
  | nil p => simp at hl
  | @cons y z q l h1 h2 ih =>
    rcases l with _ | ⟨a, l⟩
    · cases h2
      exact ⟨[], y, .nil y, h1, rfl⟩
    · obtain ⟨l', x, h3, h4, h5⟩ := ih (by simp)
      exact ⟨z :: l', x, .cons h1 h3, h4, by simp at h5 ⊢; omega⟩

/-- The word whose bits are Q. -/
def Word (z : Nat) (Q : Nat → Prop) : Prop := ∀ i, z.testBit i = true ↔ Q i
theorem Word.eq {y z : Nat} {Q : Nat → Prop} (h : Word y Q) (k : Word z Q) : y = z :=
  Nat.eq_of_testBit_eq fun i => by rw [Bool.eq_iff_iff, h i, k i]
theorem Word.congr {z : Nat} {Q Q' : Nat → Prop} (h : Word z Q) (hq : ∀ i, Q i ↔ Q' i) : Word z Q' := fun i => (h i).trans (hq i)
theorem Word.zero : Word 0 (fun _ => False) := fun i => by simp
theorem Word.or {y z : Nat} {Q R : Nat → Prop} (h : Word y Q) (k : Word z R) : Word (y ||| z) (fun i => Q i ∨ R i) := fun i => by
  rw [Nat.testBit_or, Bool.or_eq_true, h i, k i]
theorem Word.bit (n : Nat) : Word (2 ^ n) (fun i => i = n) := fun i => by
  rw [Nat.testBit_two_pow]
  constructor
  · intro h; have := of_decide_eq_true h; exact this.symm
  · intro h; exact decide_eq_true h.symm
theorem Word.lt {z N : Nat} {Q : Nat → Prop} (h : Word z Q) (hq : ∀ i, Q i → i < N) : z < 2 ^ N := by
  apply Nat.lt_pow_two_of_testBit
  intro i hi
  cases hb : z.testBit i
  · rfl
  · have := hq i ((h i).1 hb); omega
end Sc

end Go.Proofs.YtjmojjjgifkkiaaDoor
namespace Go.Proofs.YtjmojjjgifkkiaaDoor
namespace Sc
def toX (P : List St) (i : Nat) : Nat := (nthS P i).x.toNat
def toY (P : List St) (i : Nat) : Nat := (nthS P i).y.toNat
def opS (P : List St) (i : Nat) : Int := (nthS P i).op
/-- What may be at a place of a program. -/
structure OkAt (P : List St) (N i : Nat) : Prop where
  kind : opS P i = 1 ∨ opS P i = 2 ∨ opS P i = 3 ∨ opS P i = 4
  x2 : opS P i = 2 → (nthS P i).x = (toX P i : Int) ∧ toX P i < N ∧ (nthS P i).y = (toY P i : Int) ∧ toY P i < N
  x3 : opS P i = 3 → (nthS P i).x = (toX P i : Int) ∧ toX P i < N
  next : opS P i = 1 → i + 1 < N
theorem okIdx_of {z : Int} {n : Nat} (h : okIdx z n = true) : z = (z.toNat : Int) ∧ z.toNat < n := by
  simp only [okIdx, Bool.and_eq_true, decide_eq_true_eq] at h; omega
theorem prog_len2 {P : List St} (h : progOk P = true) : 1 ≤ P.length ∧ P.length ≤ 40 := by
  simp only [progOk, Bool.and_eq_true, decide_eq_true_eq] at h; exact ⟨h.1.1.1, h.1.1.2⟩
theorem lastOp_nth {L : List St} (h : 0 < L.length) : lastOp L = (nthS L (L.length - 1)).op := by
  unfold lastOp
  rw [nthS_eq (by omega)]
  cases L with
  | nil => simp at h
  | cons x r =>
    rw [List.getLastD_eq_getLast?, List.getLast?_eq_getElem?]
    simp
theorem prog_at {P : List St} (h : progOk P = true) {i : Nat} (hi : i < P.length) : OkAt P P.length i := by
  have hl := prog_len2 h
  simp only [progOk, Bool.and_eq_true, decide_eq_true_eq] at h
  obtain ⟨⟨_, ha⟩, hn⟩ := h
  have hs := List.all_eq_true.1 ha (nthS P i) (by rw [nthS_eq hi]; exact List.getElem_mem hi)
  unfold St.ok at hs
  refine ⟨?_, fun h2 => ?_, fun h3 => ?_, fun h1 => ?_⟩
  · unfold opS
    by_cases h1 : (nthS P i).op = 1
    · exact .inl h1
    rw [if_neg h1] at hs
    by_cases h2 : (nthS P i).op = 2
    · exact .inr (.inl h2)
    rw [if_neg h2] at hs
    by_cases h3 : (nthS P i).op = 3
    · exact .inr (.inr (.inl h3))
    rw [if_neg h3] at hs
    by_cases h4 : (nthS P i).op = 4
    · exact .inr (.inr (.inr h4))
    rw [if_neg h4] at hs
    simp at hs
  · unfold opS at h2
    rw [if_neg (by omega), if_pos h2, Bool.and_eq_true, Bool.and_eq_true] at hs
    exact ⟨(okIdx_of hs.2.1).1, (okIdx_of hs.2.1).2, (okIdx_of hs.2.2).1, (okIdx_of hs.2.2).2⟩
  · unfold opS at h3
    rw [if_neg (by omega), if_neg (by omega), if_pos h3, Bool.and_eq_true, Bool.and_eq_true] at hs
    exact ⟨(okIdx_of hs.2.1).1, (okIdx_of hs.2.1).2⟩
  · rw [lastOp_nth (by omega)] at hn
    rcases Nat.lt_or_ge (i + 1) P.length with h | h
    · exact h
    · exact absurd h1 (by unfold opS; rw [show i = P.length - 1 by omega]; exact hn)
theorem emv_of {P : List St} (h : progOk P = true) {p q : Nat} : EMv P p q ↔ p < P.length ∧ ((opS P p = 2 ∧ (q = toX P p ∨ q = toY P p)) ∨ (opS P p = 3 ∧ q = toX P p)) := by
  unfold EMv
  constructor
  · rintro ⟨hp, h1⟩
    have o := prog_at h hp
    refine ⟨hp, ?_⟩
    rcases h1 with ⟨h2, h3⟩ | ⟨h2, h3⟩
    · obtain ⟨e1, _, e2, _⟩ := o.x2 h2
      rw [e1, e2] at h3
      exact .inl ⟨h2, by omega⟩
    · obtain ⟨e1, _⟩ := o.x3 h2
      rw [e1] at h3
      exact .inr ⟨h2, by omega⟩
  · rintro ⟨hp, h1⟩
    have o := prog_at h hp
    refine ⟨hp, ?_⟩
    rcases h1 with ⟨h2, h3⟩ | ⟨h2, h3⟩
    · obtain ⟨e1, _, e2, _⟩ := o.x2 h2
      rw [e1, e2]
      exact .inl ⟨h2, by omega⟩
    · obtain ⟨e1, _⟩ := o.x3 h2
      rw [e1]
      exact .inr ⟨h2, by omega⟩
theorem emv_lt {P : List St} (h : progOk P = true) {p q : Nat} (he : EMv P p q) : q < P.length := by
  obtain ⟨hp, h1⟩ := (emv_of h).1 he
  have o := prog_at h hp
  rcases h1 with ⟨h2, h3 | h3⟩ | ⟨h2, h3⟩
  · rw [h3]; exact (o.x2 h2).2.1
  · rw [h3]; exact (o.x2 h2).2.2.2
  · rw [h3]; exact (o.x3 h2).2
theorem star_lt {P : List St} (h : progOk P = true) {p q : Nat} (hp : p < P.length) (hs : Rx.Star (EMv P) p q) : q < P.length := by
  cases hs with
  | refl => exact hp
  | tail _ r => exact emv_lt h r

/-- One place of the reference's reach. -/
def rst (P : List St) (m i : Nat) : Nat :=
  if m.testBit i = true then (if opS P i = 2 then (m ||| 2 ^ toX P i) ||| 2 ^ toY P i else if opS P i = 3 then m ||| 2 ^ toX P i else m) else m
def rrow (P : List St) (m : Nat) : Nat → Nat
  | 0 => m
  | k + 1 => rst P (rrow P m k) k
def rmet (P : List St) (m : Nat) : Nat → Nat
  | 0 => m
  | n + 1 => rrow P (rmet P m n) P.length
def rout (P : List St) (m : Nat) : Nat → Nat
  | 0 => 0
  | k + 1 => if m.testBit k = true ∧ (opS P k = 1 ∨ opS P k = 4) then rout P m k ||| 2 ^ k else rout P m k
def rreach (P : List St) (at_ : Nat) : Nat := rout P (rmet P (2 ^ at_) P.length) P.length
theorem bit_pow {n i : Nat} : (2 ^ n).testBit i = true ↔ i = n := Word.bit n i
theorem or_bit {y z i : Nat} : (y ||| z).testBit i = true ↔ y.testBit i = true ∨ z.testBit i = true := by rw [Nat.testBit_or, Bool.or_eq_true]
theorem rst_mono (P : List St) {m i j : Nat} (h : m.testBit j = true) : (rst P m i).testBit j = true := by
  unfold rst
  split
  · split
    · rw [or_bit, or_bit]; exact .inl (.inl h)
    · split
      · rw [or_bit]; exact .inl h
      · exact h
  · exact h
theorem rst_sound {P : List St} {m i : Nat} (hP : progOk P = true) (hi : i < P.length) {R : Nat → Prop} (hR : ∀ p q, R p → EMv P p q → R q) (h : ∀ j, m.testBit j = true → R j) : ∀ j, (rst P m i).testBit j = true → R j := by
  intro j hj
  unfold rst at hj
  split at hj
  · rename_i hb
    split at hj
    · rename_i h2
      rw [or_bit, or_bit, bit_pow, bit_pow] at hj
      rcases hj with (hj | hj) | hj
      · exact h j hj
      · exact hR i j (h i hb) ((emv_of hP).2 ⟨hi, .inl ⟨h2, .inl hj⟩⟩)
      · exact hR i j (h i hb) ((emv_of hP).2 ⟨hi, .inl ⟨h2, .inr hj⟩⟩)
    · split at hj
      · rename_i h3
        rw [or_bit, bit_pow] at hj
        rcases hj with hj | hj
        · exact h j hj
        · exact hR i j (h i hb) ((emv_of hP).2 ⟨hi, .inr ⟨h3, hj⟩⟩)
      · exact h j hj
  · exact h j hj
theorem rst_adds {P : List St} {m i q : Nat} (hP : progOk P = true) (h : m.testBit i = true) (he : EMv P i q) : (rst P m i).testBit q = true := by
  obtain ⟨_, h1⟩ := (emv_of hP).1 he
  unfold rst
  rw [if_pos h]
  rcases h1 with ⟨h2, h3⟩ | ⟨h2, h3⟩
  · rw [if_pos h2, or_bit, or_bit, bit_pow, bit_pow]
    rcases h3 with h3 | h3
    · exact .inl (.inr h3)
    · exact .inr h3
  · rw [if_neg (by omega), if_pos h2, or_bit, bit_pow]; exact .inr h3
theorem rrow_mono (P : List St) {m j : Nat} (h : m.testBit j = true) : ∀ k, (rrow P m k).testBit j = true
  | 0 => h
  | k + 1 => rst_mono P (rrow_mono P h k)
theorem rrow_sound {P : List St} {m : Nat} (hP : progOk P = true) {R : Nat → Prop} (hR : ∀ p q, R p → EMv P p q → R q) (h : ∀ j, m.testBit j = true → R j) : ∀ k, k ≤ P.length → ∀ j, (rrow P m k).testBit j = true → R j
  | 0, _ => h
  | k + 1, hk => rst_sound hP (by omega) hR (rrow_sound hP hR h k (by omega))
theorem rrow_adds {P : List St} {m i q : Nat} (hP : progOk P = true) (h : m.testBit i = true) (he : EMv P i q) : ∀ k, i < k → (rrow P m k).testBit q = true
  | 0, hk => by omega
  | k + 1, hk => by
    rcases Nat.lt_or_ge i k with h1 | h1
    · exact rst_mono P (rrow_adds hP h he k h1)
    · obtain rfl : i = k := by omega
      exact rst_adds hP (rrow_mono P h i) he
theorem rmet_sound {P : List St} {m : Nat} (hP : progOk P = true) {R : Nat → Prop} (hR : ∀ p q, R p → EMv P p q → R q) (h : ∀ j, m.testBit j = true → R j) : ∀ n, ∀ j, (rmet P m n).testBit j = true → R j
  | 0 => h
  | n + 1 => rrow_sound hP hR (rmet_sound hP hR h n) _ (Nat.le_refl _)
theorem rmet_mono (P : List St) {m j : Nat} (h : m.testBit j = true) : ∀ n, (rmet P m n).testBit j = true
  | 0 => h
  | n + 1 => rrow_mono P (rmet_mono P h n) _
theorem rmet_all {P : List St} {at_ : Nat} (hP : progOk P = true) : ∀ (n : Nat) (l : List Nat) (q : Nat), Ch (EMv P) at_ l q → l.length ≤ n → (rmet P (2 ^ at_) n).testBit q = true
  | n, [], q, h, _ => by cases h; exact rmet_mono P (bit_pow.2 rfl) n
  | 0, x :: l, q, h, hl => by simp at hl
  | n + 1, x :: l, q, h, hl => by
    obtain ⟨l', y, h1, h2, h3⟩ := h.back (by simp)
    have := rmet_all hP n l' y h1 (by omega)
    exact rrow_adds hP this h2 _ h2.1
theorem rmet_word {P : List St} {at_ : Nat} (hP : progOk P = true) (ha : at_ < P.length) : Word (rmet P (2 ^ at_) P.length) (fun q => Rx.Star (EMv P) at_ q) := fun q => by
  constructor
  · intro h
    exact rmet_sound (R := fun q => Rx.Star (EMv P) at_ q) hP (fun p q h1 h2 => .tail h1 h2) (fun j hj => by rw [bit_pow.1 hj]; exact .refl _) _ q h
  · intro h
    obtain ⟨l, h1, h2⟩ := Ch.short (fun x y => emv_lt hP) ha h
    exact rmet_all hP _ l q h1 (by omega)
theorem rout_bit (P : List St) (m : Nat) : ∀ k j, (rout P m k).testBit j = true ↔ j < k ∧ m.testBit j = true ∧ (opS P j = 1 ∨ opS P j = 4)
  | 0, j => by simp [rout]
  | k + 1, j => by
    have ih := rout_bit P m k j
    unfold rout
    split
    · rename_i h
      rw [or_bit, bit_pow, ih]
      constructor
      · rintro (⟨h1, h2⟩ | rfl)
        · exact ⟨by omega, h2⟩
        · exact ⟨by omega, h⟩
      · rintro ⟨h1, h2⟩
        rcases Nat.lt_or_ge j k with h3 | h3
        · exact .inl ⟨h3, h2⟩
        · exact .inr (by omega)
    · rename_i h
      rw [ih]
      constructor
      · rintro ⟨h1, h2⟩; exact ⟨by omega, h2⟩
      · rintro ⟨h1, h2⟩
        rcases Nat.lt_or_ge j k with h3 | h3
        · exact ⟨h3, h2⟩
        · obtain rfl : j = k := by omega
          exact absurd h2 h
/-- The reference's reach has the steps reached. -/
theorem rreach_word {P : List St} {at_ : Nat} (hP : progOk P = true) (ha : at_ < P.length) : Word (rreach P at_) (Fs P at_) := fun q => by
  unfold rreach Fs Rest
  rw [rout_bit, rmet_word hP ha q]
  exact ⟨fun ⟨h1, h2, h3⟩ => ⟨h2, h1, h3⟩, fun ⟨h2, h1, h3⟩ => ⟨h1, h2, h3⟩⟩
theorem word_lt {z N : Nat} (h : ∀ i, z.testBit i = true → i < N) : z < 2 ^ N := Word.lt (Q := fun i => z.testBit i = true) (fun _ => Iff.rfl) h
theorem lt64 {z N : Nat} (hN : N ≤ 64) (h : ∀ i, z.testBit i = true → i < N) : z < 18446744073709551616 := by
  have h1 := word_lt h
  have h2 : 2 ^ N ≤ 2 ^ 64 := Nat.pow_le_pow_right (by omega) hN
  simpa using Nat.lt_of_lt_of_le h1 h2
theorem rst_lim {P : List St} (hP : progOk P = true) {m i : Nat} (hi : i < P.length) (h : ∀ j, m.testBit j = true → j < P.length) : ∀ j, (rst P m i).testBit j = true → j < P.length := rst_sound hP hi (R := fun j => j < P.length) (fun _ _ _ he => emv_lt hP he) h
theorem rrow_lim {P : List St} (hP : progOk P = true) {m : Nat} (h : ∀ j, m.testBit j = true → j < P.length) (k : Nat) (hk : k ≤ P.length) : ∀ j, (rrow P m k).testBit j = true → j < P.length := rrow_sound hP (R := fun j => j < P.length) (fun _ _ _ he => emv_lt hP he) h k hk
theorem rmet_lim {P : List St} (hP : progOk P = true) {m : Nat} (h : ∀ j, m.testBit j = true → j < P.length) (n : Nat) : ∀ j, (rmet P m n).testBit j = true → j < P.length := rmet_sound hP (R := fun j => j < P.length) (fun _ _ _ he => emv_lt hP he) h n
theorem rout_lim (P : List St) (m k : Nat) : ∀ j, (rout P m k).testBit j = true → j < k := fun j h => ((rout_bit P m k j).1 h).1
theorem rreach_lim (P : List St) (a : Nat) : ∀ j, (rreach P a).testBit j = true → j < P.length := rout_lim P _ _

/-- The reference's next set, place by place. -/
def rnext (P : List St) (now c : Nat) : Nat → Nat
  | 0 => 0
  | k + 1 => if now.testBit k = true ∧ opS P k = 1 ∧ has (nthS P k) c = true then rnext P now c k ||| rreach P (k + 1) else rnext P now c k
theorem rnext_bit (P : List St) (now c : Nat) : ∀ k q, (rnext P now c k).testBit q = true ↔ ∃ p, p < k ∧ now.testBit p = true ∧ opS P p = 1 ∧ has (nthS P p) c = true ∧ (rreach P (p + 1)).testBit q = true
  | 0, q => by simp [rnext]
  | k + 1, q => by
    have ih := rnext_bit P now c k q
    unfold rnext
    split
    · rename_i h
      rw [or_bit, ih]
      constructor
      · rintro (⟨p, h1, h2⟩ | h2)
        · exact ⟨p, by omega, h2⟩
        · exact ⟨k, by omega, h.1, h.2.1, h.2.2, h2⟩
      · rintro ⟨p, h1, h2⟩
        rcases Nat.lt_or_ge p k with h3 | h3
        · exact .inl ⟨p, h3, h2⟩
        · obtain rfl : p = k := by omega
          exact .inr h2.2.2.2
    · rename_i h
      rw [ih]
      constructor
      · rintro ⟨p, h1, h2⟩; exact ⟨p, by omega, h2⟩
      · rintro ⟨p, h1, h2⟩
        rcases Nat.lt_or_ge p k with h3 | h3
        · exact ⟨p, h3, h2⟩
        · obtain rfl : p = k := by omega
          exact absurd ⟨h2.1, h2.2.1, h2.2.2.1⟩ h
theorem rnext_lim (P : List St) (now c k : Nat) : ∀ j, (rnext P now c k).testBit j = true → j < P.length := fun j h => by
  obtain ⟨p, _, _, _, _, h5⟩ := (rnext_bit P now c k j).1 h
  exact rreach_lim P _ j h5
def vStart (P : List St) : Nat := if progOk P = true then rreach P 0 else 0
def vNext (P : List St) (now c : Nat) : Nat := if progOk P = true then rnext P now c P.length else 0
/-- The steps behind those that take the byte. -/
def Beh (P : List St) (now c q : Nat) : Prop := ∃ p, now.testBit p = true ∧ p < P.length ∧ opS P p = 1 ∧ has (nthS P p) c = true ∧ Fs P (p + 1) q
theorem vStart_word {P : List St} (hP : progOk P = true) : Word (vStart P) (Fs P 0) := by
  unfold vStart; rw [if_pos hP]; exact rreach_word hP (by have := prog_len2 hP; omega)
theorem vNext_word {P : List St} (hP : progOk P = true) (now c : Nat) : Word (vNext P now c) (Beh P now c) := fun q => by
  unfold vNext Beh; rw [if_pos hP, rnext_bit]
  constructor
  · rintro ⟨p, h1, h2, h3, h4, h5⟩
    exact ⟨p, h2, h1, h3, h4, (rreach_word hP ((prog_at hP h1).next h3) q).1 h5⟩
  · rintro ⟨p, h2, h1, h3, h4, h5⟩
    exact ⟨p, h1, h2, h3, h4, (rreach_word hP ((prog_at hP h1).next h3) q).2 h5⟩
theorem vStart_lim (P : List St) : ∀ j, (vStart P).testBit j = true → j < P.length := fun j h => by
  unfold vStart at h
  split at h
  · exact rreach_lim P _ j h
  · simp at h
theorem vNext_lim (P : List St) (now c : Nat) : ∀ j, (vNext P now c).testBit j = true → j < P.length := fun j h => by
  unfold vNext at h
  split at h
  · exact rnext_lim P _ _ _ j h
  · simp at h
theorem vNext_zero (P : List St) (c : Nat) : vNext P 0 c = 0 := by
  unfold vNext
  split
  · apply Nat.eq_of_testBit_eq
    intro i
    rw [Nat.zero_testBit]
    cases h : (rnext P 0 c P.length).testBit i
    · rfl
    · obtain ⟨p, _, h2, _⟩ := (rnext_bit P 0 c _ i).1 h
      simp at h2
  · rfl
/-- The set behind k bytes of a text. -/
def vSet (P : List St) (S : List Nat) : Nat → Nat
  | 0 => vStart P
  | k + 1 => vNext P (vSet P S k) (S.getD k 0)
theorem vSet_lim (P : List St) (S : List Nat) (k : Nat) : ∀ j, (vSet P S k).testBit j = true → j < P.length := by
  cases k with
  | zero => exact vStart_lim P
  | succ k => exact vNext_lim P _ _
theorem vSet_word {P : List St} (hP : progOk P = true) (S : List Nat) : ∀ k, k ≤ S.length → Word (vSet P S k) (Lvl P S k)
  | 0, _ => fun q => by rw [lvl_zero]; exact vStart_word hP q
  | k + 1, hk => fun q => by
    rw [lvl_succ P S k q (by omega), vSet, vNext_word hP _ _ q]
    have ih := vSet_word hP S k (by omega)
    constructor
    · rintro ⟨p, h1, _, h3, h4, h5⟩; exact ⟨p, (ih p).1 h1, h3, h4, h5⟩
    · rintro ⟨p, h1, h3, h4, h5⟩; exact ⟨p, (ih p).2 h1, vSet_lim P S k p ((ih p).2 h1), h3, h4, h5⟩
def anyM (P : List St) (z : Nat) : Nat → Bool
  | 0 => false
  | k + 1 => anyM P z k || (z.testBit k && decide (opS P k = 4))
theorem anyM_iff (P : List St) (z : Nat) : ∀ k, anyM P z k = true ↔ ∃ p, p < k ∧ z.testBit p = true ∧ opS P p = 4
  | 0 => by simp [anyM]
  | k + 1 => by
    rw [anyM, Bool.or_eq_true, anyM_iff P z k, Bool.and_eq_true, decide_eq_true_eq]
    constructor
    · rintro (⟨p, h1, h2⟩ | h)
      · exact ⟨p, by omega, h2⟩
      · exact ⟨k, by omega, h⟩
    · rintro ⟨p, h1, h2⟩
      rcases Nat.lt_or_ge p k with h3 | h3
      · exact .inl ⟨p, h3, h2⟩
      · obtain rfl : p = k := by omega
        exact .inr h2
def vMatch (P : List St) (S : List Nat) : Bool := anyM P (vSet P S S.length) P.length
theorem vSet_bad {P : List St} (hP : ¬ progOk P = true) (S : List Nat) : ∀ k, vSet P S k = 0
  | 0 => by unfold vSet vStart; rw [if_neg hP]
  | k + 1 => by unfold vSet vNext; rw [if_neg hP]
theorem vMatch_iff (P : List St) (S : List Nat) : vMatch P S = true ↔ progOk P = true ∧ Acc P S := by
  unfold vMatch
  rw [anyM_iff]
  by_cases hP : progOk P = true
  · rw [acc_lvl]
    have w := vSet_word hP S S.length (Nat.le_refl _)
    constructor
    · rintro ⟨p, h1, h2, h3⟩; exact ⟨hP, p, (w p).1 h2, h3⟩
    · rintro ⟨_, p, h2, h3⟩; exact ⟨p, vSet_lim P S _ p ((w p).2 h2), (w p).2 h2, h3⟩
  · rw [vSet_bad hP]
    constructor
    · rintro ⟨p, _, h2, _⟩; simp at h2
    · rintro ⟨h, _⟩; exact absurd h hP

/-- The program's words: which steps take a byte, which are matches. -/
def tks (P : List St) (c : Nat) : Nat → Nat
  | 0 => 0
  | k + 1 => if opS P k = 1 ∧ has (nthS P k) c = true then tks P c k ||| 2 ^ k else tks P c k
def mts (P : List St) : Nat → Nat
  | 0 => 0
  | k + 1 => if opS P k = 4 then mts P k ||| 2 ^ k else mts P k
theorem tks_bit (P : List St) (c : Nat) : ∀ k j, (tks P c k).testBit j = true ↔ j < k ∧ opS P j = 1 ∧ has (nthS P j) c = true
  | 0, j => by simp [tks]
  | k + 1, j => by
    have ih := tks_bit P c k j
    unfold tks
    split
    · rename_i h
      rw [or_bit, bit_pow, ih]
      constructor
      · rintro (⟨h1, h2⟩ | rfl)
        · exact ⟨by omega, h2⟩
        · exact ⟨by omega, h⟩
      · rintro ⟨h1, h2⟩
        rcases Nat.lt_or_ge j k with h3 | h3
        · exact .inl ⟨h3, h2⟩
        · exact .inr (by omega)
    · rename_i h
      rw [ih]
      constructor
      · rintro ⟨h1, h2⟩; exact ⟨by omega, h2⟩
      · rintro ⟨h1, h2⟩
        rcases Nat.lt_or_ge j k with h3 | h3
        · exact ⟨h3, h2⟩
        · obtain rfl : j = k := by omega
          exact absurd h2 h
theorem mts_bit (P : List St) : ∀ k j, (mts P k).testBit j = true ↔ j < k ∧ opS P j = 4
  | 0, j => by simp [mts]
  | k + 1, j => by
    have ih := mts_bit P k j
    unfold mts
    split
    · rename_i h
      rw [or_bit, bit_pow, ih]
      constructor
      · rintro (⟨h1, h2⟩ | rfl)
        · exact ⟨by omega, h2⟩
        · exact ⟨by omega, h⟩
      · rintro ⟨h1, h2⟩
        rcases Nat.lt_or_ge j k with h3 | h3
        · exact .inl ⟨h3, h2⟩
        · exact .inr (by omega)
    · rename_i h
      rw [ih]
      constructor
      · rintro ⟨h1, h2⟩; exact ⟨by omega, h2⟩
      · rintro ⟨h1, h2⟩
        rcases Nat.lt_or_ge j k with h3 | h3
        · exact ⟨h3, h2⟩
        · obtain rfl : j = k := by omega
          exact absurd h2 h
theorem tks_lim (P : List St) (c k : Nat) : ∀ j, (tks P c k).testBit j = true → j < k := fun j h => ((tks_bit P c k j).1 h).1
theorem mts_lim (P : List St) (k : Nat) : ∀ j, (mts P k).testBit j = true → j < k := fun j h => ((mts_bit P k j).1 h).1
theorem anyM_mts (P : List St) (z : Nat) : decide (z &&& mts P P.length ≠ 0) = anyM P z P.length := by
  rw [Bool.eq_iff_iff, decide_eq_true_eq, anyM_iff]
  constructor
  · intro h
    obtain ⟨p, hp⟩ := Nat.exists_testBit_of_ne_zero h
    rw [Nat.testBit_and, Bool.and_eq_true, mts_bit] at hp
    exact ⟨p, hp.2.1, hp.1, hp.2.2⟩
  · rintro ⟨p, h1, h2, h3⟩ h
    have : (z &&& mts P P.length).testBit p = true := by rw [Nat.testBit_and, Bool.and_eq_true, mts_bit]; exact ⟨h2, h1, h3⟩
    rw [h] at this; simp at this

/-- What the program's reached keeps: what is to do, what was seen, the ends. -/
structure RInv (P : List St) (start todo seen ends : Nat) : Prop where
  lim : ∀ i, todo.testBit i = true ∨ seen.testBit i = true → i < P.length
  apart : ∀ i, todo.testBit i = true → seen.testBit i = false
  sound : ∀ i, todo.testBit i = true ∨ seen.testBit i = true → ∃ p, start.testBit p = true ∧ Rx.Star (EMv P) p i
  all : ∀ p, start.testBit p = true → todo.testBit p = true ∨ seen.testBit p = true
  clos : ∀ i, seen.testBit i = true → ∀ q, EMv P i q → todo.testBit q = true ∨ seen.testBit q = true
  ends : ∀ i, ends.testBit i = true ↔ seen.testBit i = true ∧ (opS P i = 1 ∨ opS P i = 4)
theorem RInv.begin {P : List St} {start : Nat} (h : ∀ i, start.testBit i = true → i < P.length) : RInv P start start 0 0 :=
  ⟨fun i hi => hi.elim (h i) (fun e => by simp at e), fun i _ => by simp, fun i hi => hi.elim (fun e => ⟨i, e, .refl i⟩) (fun e => by simp at e), fun p hp => .inl hp, fun i hi => by simp at hi, fun i => by simp⟩
/-- How many are unseen. -/
def unseen (seen : Nat) : Nat → Nat
  | 0 => 0
  | k + 1 => unseen seen k + (if seen.testBit k = true then 0 else 1)
theorem unseen_less {s i : Nat} (h : s.testBit i = false) : ∀ k, unseen (s ||| 2 ^ i) k + (if i < k then 1 else 0) = unseen s k
  | 0 => by simp [unseen]
  | k + 1 => by
    have ih := unseen_less h k
    unfold unseen
    by_cases hk : k = i
    · subst hk
      have e1 : (s ||| 2 ^ k).testBit k = true := or_bit.2 (.inr (bit_pow.2 rfl))
      simp only [e1, h, if_true, Bool.false_eq_true, if_false, Nat.lt_irrefl, Nat.lt_succ_self] at ih ⊢
      omega
    · have e : (s ||| 2 ^ i).testBit k = s.testBit k := by
        rw [Bool.eq_iff_iff, or_bit, bit_pow]
        exact ⟨fun h => h.elim id (fun e => absurd e hk), .inl⟩
      rw [e]
      by_cases hik : i < k
      · rw [if_pos hik] at ih; rw [if_pos (show i < k + 1 by omega)]; omega
      · rw [if_neg hik] at ih; rw [if_neg (show ¬ i < k + 1 by omega)]; omega
/-- What is in a word and not in another. -/
def minus (a b : Nat) : Nat := a &&& (18446744073709551615 - b)
theorem minus_bit {a b i : Nat} (ha : a < 18446744073709551616) (hb : b < 18446744073709551616) : (minus a b).testBit i = true ↔ a.testBit i = true ∧ b.testBit i = false := by
  unfold minus
  have e : 18446744073709551615 - b = 2 ^ 64 - (b + 1) := by omega
  rw [Nat.testBit_and, e, Nat.testBit_two_pow_sub_succ (by simpa using hb)]
  simp only [Bool.and_eq_true, decide_eq_true_eq, Bool.not_eq_true']
  constructor
  · rintro ⟨h1, _, h3⟩; exact ⟨h1, h3⟩
  · rintro ⟨h1, h3⟩
    refine ⟨h1, ?_, h3⟩
    rcases Nat.lt_or_ge i 64 with h | h
    · exact h
    · have := Nat.testBit_lt_two_pow (x := a) (i := i) (Nat.lt_of_lt_of_le ha (by have : 2 ^ 64 ≤ 2 ^ i := Nat.pow_le_pow_right (by omega) h; simpa using this))
      rw [this] at h1; cases h1
/-- One round: a place that was to do is seen. -/
theorem RInv.step {P : List St} {start todo seen ends i todo1 ends1 : Nat} (hP : progOk P = true) (h : RInv P start todo seen ends) (hi : todo.testBit i = true)
    (ht : ∀ j, todo1.testBit j = true ↔ todo.testBit j = true ∨ EMv P i j) (he : ∀ j, ends1.testBit j = true ↔ ends.testBit j = true ∨ (j = i ∧ (opS P i = 1 ∨ opS P i = 4))) :
    RInv P start (minus todo1 (seen ||| 2 ^ i)) (seen ||| 2 ^ i) ends1 ∧ unseen (seen ||| 2 ^ i) P.length < unseen seen P.length := by
  have hl := prog_len2 hP
  have l1 : todo1 < 18446744073709551616 := lt64 (N := P.length) (by omega) fun j hj => ((ht j).1 hj).elim (fun h2 => h.lim j (.inl h2)) (fun h2 => emv_lt hP h2)
  have lS : ∀ j, (seen ||| 2 ^ i).testBit j = true → j < P.length := fun j hj => by
    rw [or_bit, bit_pow] at hj
    exact hj.elim (fun h2 => h.lim j (.inr h2)) (fun e => by rw [e]; exact h.lim i (.inl hi))
  have l2 : (seen ||| 2 ^ i) < 18446744073709551616 := lt64 (N := P.length) (by omega) lS
  have hM : ∀ j, (minus todo1 (seen ||| 2 ^ i)).testBit j = true ↔ (todo.testBit j = true ∨ EMv P i j) ∧ (seen ||| 2 ^ i).testBit j = false := fun j => by rw [minus_bit l1 l2, ht j]
  have hor : ∀ j, (minus todo1 (seen ||| 2 ^ i)).testBit j = true ∨ (seen ||| 2 ^ i).testBit j = true ↔ (todo.testBit j = true ∨ EMv P i j) ∨ (seen.testBit j = true ∨ j = i) := fun j => by
    rw [hM j]
    have e := @or_bit seen (2 ^ i) j
    rw [bit_pow] at e
    rw [← e]
    cases (seen ||| 2 ^ i).testBit j <;> simp
  have hiP := h.lim i (.inl hi)
  refine ⟨⟨fun j hj => ?_, fun j hj => ((hM j).1 hj).2, fun j hj => ?_, fun p hp => ?_, fun j hj q hq => ?_, fun j => ?_⟩, ?_⟩
  · rcases (hor j).1 hj with (h1 | h1) | (h1 | rfl)
    · exact h.lim j (.inl h1)
    · exact emv_lt hP h1
    · exact h.lim j (.inr h1)
    · exact hiP
  · rcases (hor j).1 hj with (h1 | h1) | (h1 | rfl)
    · exact h.sound j (.inl h1)
    · obtain ⟨p, h2, h3⟩ := h.sound i (.inl hi)
      exact ⟨p, h2, .tail h3 h1⟩
    · exact h.sound j (.inr h1)
    · exact h.sound j (.inl hi)
  · refine (hor p).2 ?_
    rcases h.all p hp with h1 | h1
    · exact .inl (.inl h1)
    · exact .inr (.inl h1)
  · refine (hor q).2 ?_
    rw [or_bit, bit_pow] at hj
    rcases hj with h1 | rfl
    · rcases h.clos j h1 q hq with h2 | h2
      · exact .inl (.inl h2)
      · exact .inr (.inl h2)
    · exact .inl (.inr hq)
  · rw [he j, h.ends j, or_bit, bit_pow]
    constructor
    · rintro (⟨h1, h2⟩ | ⟨rfl, h2⟩)
      · exact ⟨.inl h1, h2⟩
      · exact ⟨.inr rfl, h2⟩
    · rintro ⟨h1 | rfl, h2⟩
      · exact .inl ⟨h1, h2⟩
      · exact .inr ⟨rfl, h2⟩
  · have := unseen_less (h.apart i hi) P.length
    rw [if_pos hiP] at this
    omega
/-- Nothing to do: the ends are the steps reached. -/
theorem RInv.done {P : List St} {start seen ends : Nat} (h : RInv P start 0 seen ends) : Word ends (fun q => ∃ p, start.testBit p = true ∧ Fs P p q) := fun q => by
  have hs : ∀ p q, seen.testBit p = true → Rx.Star (EMv P) p q → seen.testBit q = true := by
    intro p q hp hs
    induction hs with
    | refl => exact hp
    | tail _ r ih =>
      rcases h.clos _ ih _ r with h1 | h1
      · simp at h1
      · exact h1
  rw [h.ends q]
  constructor
  · rintro ⟨h1, h2⟩
    obtain ⟨p, h3, h4⟩ := h.sound q (.inr h1)
    exact ⟨p, h3, h4, h.lim q (.inr h1), h2⟩
  · rintro ⟨p, h1, h2, h3, h4⟩
    rcases h.all p h1 with h5 | h5
    · simp at h5
    · exact ⟨hs p q h5 h2, h4⟩
/-- The program's words are the reference's. -/
theorem start_word {P : List St} (hP : progOk P = true) {z : Nat} (h : Word z (fun q => ∃ p, (1 : Nat).testBit p = true ∧ Fs P p q)) : z = vStart P :=
  h.eq ((vStart_word hP).congr fun q => by
    constructor
    · intro h; exact ⟨0, by decide, h⟩
    · rintro ⟨p, h1, h2⟩
      obtain rfl : p = 0 := by
        have : (1 : Nat) = 2 ^ 0 := rfl
        rw [this, bit_pow] at h1; exact h1
      exact h2)
theorem next_word {P : List St} (hP : progOk P = true) {now c z : Nat} (h : Word z (fun q => ∃ p, (2 * (now &&& tks P c P.length)).testBit p = true ∧ Fs P p q)) : z = vNext P now c :=
  h.eq ((vNext_word hP now c).congr fun q => by
    unfold Beh
    constructor
    · rintro ⟨p, h1, h2, h3, h4, h5⟩
      refine ⟨p + 1, ?_, h5⟩
      rw [Nat.testBit_succ, Nat.mul_div_cancel_left _ (by omega), Nat.testBit_and, h1, (tks_bit P c _ p).2 ⟨h2, h3, h4⟩]; rfl
    · rintro ⟨p, h1, h2⟩
      cases p with
      | zero => simp at h1
      | succ p =>
        rw [Nat.testBit_succ, Nat.mul_div_cancel_left _ (by omega), Nat.testBit_and, Bool.and_eq_true, tks_bit] at h1
        exact ⟨p, h1.1, h1.2.1, h1.2.2.1, h1.2.2.2, h2⟩)
theorem next_lim {P : List St} (hP : progOk P = true) (now c : Nat) : ∀ i, (2 * (now &&& tks P c P.length)).testBit i = true → i < P.length := fun i h => by
  cases i with
  | zero => have := prog_len2 hP; omega
  | succ p =>
    rw [Nat.testBit_succ, Nat.mul_div_cancel_left _ (by omega), Nat.testBit_and, Bool.and_eq_true, tks_bit] at h
    exact (prog_at hP h.2.1).next h.2.2.1
end Sc

end Go.Proofs.YtjmojjjgifkkiaaDoor
