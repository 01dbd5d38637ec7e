/-
  Plain mathematics of chapter 5: where the matches of a tree end (mt), and that the reference's way of reckoning it by sets of places (aft) says just that. No conditions.
-/
import Derived.Test.YtlbhiiciajfphaaProg
import Derived.Test.YtlbhiiciajfphaaEa
import Derived.Test.YtlbhiiciajfphaaEd
import Derived.Test.YtlbhiiciajfphaaEe
import Derived.Deep.RegionHeld3
import Derived.WalkKit
import Derived.WalkSpells
import Derived.WalkLawsBesides
import Derived.Lib.Hide
import Derived.Below
import Derived.BigQuiet
import Derived.Lib.QuietBelow
import Derived.Laws.StructEq
import Derived.KernelRfl
import Derived.Laws.MakeOwn
import Derived.Laws.OwnMore
import Derived.OwnWalk
namespace Go.Proofs.Ytlbhiiciajfphaa
namespace Rx
/-- Any number of steps. -/
inductive Star (R : Nat → Nat → Prop) : Nat → Nat → Prop where
  | refl (i : Nat) : Star R i i
  | tail {i j k : Nat} : Star R i j → R j k → Star R i k
/-- At most m steps. -/
def RS (R : Nat → Nat → Prop) : Nat → Nat → Nat → Prop
  | 0, i, j => i = j
  | m + 1, i, j => ∃ k, (k = i ∨ R i k) ∧ RS R m k j
theorem RS.snoc {R : Nat → Nat → Prop} : ∀ {m i j k : Nat}, RS R m i j → R j k → RS R (m + 1) i k
  | 0, i, j, k, h, r => by
    have e : i = j := h
    subst e
    exact ⟨k, .inr r, rfl⟩
  | m + 1, i, j, k, ⟨q, hq, h⟩, r => ⟨q, hq, RS.snoc h r⟩
theorem RS.more {R : Nat → Nat → Prop} : ∀ {m i j : Nat}, RS R m i j → RS R (m + 1) i j
  | 0, i, _, h => ⟨i, .inl rfl, h⟩
  | _ + 1, _, _, ⟨q, hq, h⟩ => ⟨q, hq, RS.more h⟩
theorem RS.mono {R : Nat → Nat → Prop} {m n i j : Nat} (h : RS R m i j) (hn : m ≤ n) : RS R n i j := by
  obtain ⟨d, rfl⟩ : ∃ d, n = m + d := ⟨n - m, by omega⟩
  induction d with
  | zero => exact h
  | succ d ih => exact RS.more (ih (by omega))
theorem RS.star {R : Nat → Nat → Prop} : ∀ {m i j : Nat}, RS R m i j → ∀ {q}, Star R q i → Star R q j
  | 0, i, j, h, q, s => by
    have e : i = j := h
    subst e; exact s
  | m + 1, i, j, ⟨k, hk, h⟩, q, s => RS.star h (hk.elim (fun e => by rw [e]; exact s) fun r => s.tail r)
/-- Steps that never go back: as many as there are places between are enough. -/
theorem Star.few {R : Nat → Nat → Prop} (hR : ∀ i j, R i j → i ≤ j) {i j : Nat} (h : Star R i j) : i ≤ j ∧ RS R (j - i) i j := by
  induction h with
  | refl => exact ⟨Nat.le_refl _, by rw [Nat.sub_self]; rfl⟩
  | tail h1 r ih =>
    rename_i a b
    have hb := hR _ _ r
    refine ⟨by omega, ?_⟩
    by_cases e : a = b
    · subst e; exact ih.2
    · exact (ih.2.snoc r).mono (by omega)
/-- m times: what there is, and what comes of it. -/
def star (g : (Nat → Bool) → Nat → Bool) : Nat → (Nat → Bool) → Nat → Bool
  | 0, f => f
  | m + 1, f => star g m (fun i => f i || g f i)
mutual
/-- The reference's way: which places a match may end at, of those at which it may begin. -/
def aft (s : List Nat) : Rx → (Nat → Bool) → Nat → Bool
  | .mk op a b c d ks, f =>
    if op = 1 then fun i => decide (0 < i) && decide (i ≤ s.length) && f (i - 1) && hasB a b c d (s.getD (i - 1) 0)
    else if op = 2 then aftSeq s ks f
    else if op = 3 then aftAlt s ks f
    else if op = 6 then fun i => f i || aftHd s ks f i
    else if op = 5 then star (aftHd s ks) (s.length + 1) (aftHd s ks f)
    else star (aftHd s ks) (s.length + 1) f
def aftSeq (s : List Nat) : List Rx → (Nat → Bool) → Nat → Bool
  | [], f => f
  | k :: r, f => aftSeq s r (aft s k f)
def aftAlt (s : List Nat) : List Rx → (Nat → Bool) → Nat → Bool
  | [], _ => fun _ => false
  | k :: r, f => fun i => aft s k f i || aftAlt s r f i
def aftHd (s : List Nat) : List Rx → (Nat → Bool) → Nat → Bool
  | [], _ => fun _ => false
  | k :: _, f => aft s k f
end
mutual
/-- A match of the tree that begins at i may end at j. -/
def mt (s : List Nat) : Rx → Nat → Nat → Prop
  | .mk op a b c d ks, i, j =>
    if op = 1 then i < s.length ∧ j = i + 1 ∧ hasB a b c d (s.getD i 0) = true
    else if op = 2 then mtSeq s ks i j
    else if op = 3 then mtAlt s ks i j
    else if op = 6 then i = j ∨ mtHd s ks i j
    else if op = 5 then ∃ m, mtHd s ks i m ∧ Star (mtHd s ks) m j
    else Star (mtHd s ks) i j
def mtSeq (s : List Nat) : List Rx → Nat → Nat → Prop
  | [], i, j => i = j
  | k :: r, i, j => ∃ m, mt s k i m ∧ mtSeq s r m j
def mtAlt (s : List Nat) : List Rx → Nat → Nat → Prop
  | [], _, _ => False
  | k :: r, i, j => mt s k i j ∨ mtAlt s r i j
def mtHd (s : List Nat) : List Rx → Nat → Nat → Prop
  | [], _, _ => False
  | k :: _, i, j => mt s k i j
end
/-- It says of sets of places what R says of places. -/
def Says (L : Nat) (g : (Nat → Bool) → Nat → Bool) (R : Nat → Nat → Prop) : Prop :=
  (∀ i j, R i j → i ≤ j ∧ (i ≤ L → j ≤ L)) ∧ ∀ f j, j ≤ L → (g f j = true ↔ ∃ i, i ≤ L ∧ f i = true ∧ R i j)
theorem star_says {L : Nat} {g : (Nat → Bool) → Nat → Bool} {R : Nat → Nat → Prop} (h : Says L g R) : ∀ (m : Nat) (f : Nat → Bool) (j : Nat), j ≤ L → (star g m f j = true ↔ ∃ i, i ≤ L ∧ f i = true ∧ RS R m i j)
  | 0, f, j, hj => ⟨fun e => ⟨j, hj, e, rfl⟩, fun ⟨i, _, e, r⟩ => by
    have e2 : i = j := r
    subst e2; exact e⟩
  | m + 1, f, j, hj => by
    rw [star, star_says h m _ j hj]
    constructor
    · rintro ⟨k, hk, e, r⟩
      rcases Bool.or_eq_true_iff.1 e with e | e
      · exact ⟨k, hk, e, k, .inl rfl, r⟩
      · obtain ⟨i, hi, e2, r2⟩ := (h.2 f k hk).1 e
        exact ⟨i, hi, e2, k, .inr r2, r⟩
    · rintro ⟨i, hi, e, k, hk, r⟩
      rcases hk with rfl | hk
      · exact ⟨k, hi, by simp [e], r⟩
      · have hkL := (h.1 i k hk).2 hi
        exact ⟨k, hkL, by rw [(h.2 f k hkL).2 ⟨i, hi, e, hk⟩]; simp, r⟩
theorem star_all {L : Nat} {g : (Nat → Bool) → Nat → Bool} {R : Nat → Nat → Prop} (h : Says L g R) : Says L (star g (L + 1)) (Star R) := by
  have back : ∀ i j, Star R i j → i ≤ j ∧ (i ≤ L → j ≤ L) := by
    intro i j s
    induction s with
    | refl => exact ⟨Nat.le_refl _, id⟩
    | tail _ r ih => have := h.1 _ _ r; exact ⟨by omega, fun x => this.2 (ih.2 x)⟩
  refine ⟨back, fun f j hj => ?_⟩
  rw [star_says h (L + 1) f j hj]
  constructor
  · rintro ⟨i, hi, e, r⟩
    exact ⟨i, hi, e, RS.star r (.refl i)⟩
  · rintro ⟨i, hi, e, s⟩
    have := Star.few (fun a b r => (h.1 a b r).1) s
    exact ⟨i, hi, e, this.2.mono (by omega)⟩
mutual
theorem aft_says (s : List Nat) : ∀ t : Rx, Says s.length (aft s t) (mt s t)
  | .mk op a b c d ks => by
    have hS := seq_says s ks
    have hA := alt_says s ks
    have hH := hd_says s ks
    by_cases o1 : op = 1
    · refine ⟨fun i j r => ?_, fun f j hj => ?_⟩
      · rw [mt, if_pos o1] at r; omega
      · rw [aft, if_pos o1]
        simp only [mt, o1, if_true, Bool.and_eq_true, decide_eq_true_eq]
        constructor
        · rintro ⟨⟨⟨h1, h2⟩, h3⟩, h4⟩
          exact ⟨j - 1, by omega, h3, by omega, by omega, h4⟩
        · rintro ⟨i, h1, h2, h3, rfl, h5⟩
          exact ⟨⟨⟨by omega, by omega⟩, by simpa using h2⟩, by simpa using h5⟩
    by_cases o2 : op = 2
    · have e1 : aft s (.mk op a b c d ks) = aftSeq s ks := by funext f; rw [aft, if_neg o1, if_pos o2]
      have e2 : mt s (.mk op a b c d ks) = mtSeq s ks := by funext i j; rw [mt, if_neg o1, if_pos o2]
      rw [e1, e2]; exact hS
    by_cases o3 : op = 3
    · have e1 : aft s (.mk op a b c d ks) = aftAlt s ks := by funext f; rw [aft, if_neg o1, if_neg o2, if_pos o3]
      have e2 : mt s (.mk op a b c d ks) = mtAlt s ks := by funext i j; rw [mt, if_neg o1, if_neg o2, if_pos o3]
      rw [e1, e2]; exact hA
    by_cases o6 : op = 6
    · have e1 : aft s (.mk op a b c d ks) = fun f i => f i || aftHd s ks f i := by funext f; rw [aft, if_neg o1, if_neg o2, if_neg o3, if_pos o6]
      have e2 : mt s (.mk op a b c d ks) = fun i j => i = j ∨ mtHd s ks i j := by funext i j; rw [mt, if_neg o1, if_neg o2, if_neg o3, if_pos o6]
      rw [e1, e2]
      refine ⟨fun i j r => ?_, fun f j hj => ?_⟩
      · rcases r with rfl | r
        · exact ⟨Nat.le_refl _, id⟩
        · exact hH.1 i j r
      · simp only [Bool.or_eq_true, hH.2 f j hj]
        constructor
        · rintro (h | ⟨i, h1, h2, h3⟩)
          · exact ⟨j, hj, h, .inl rfl⟩
          · exact ⟨i, h1, h2, .inr h3⟩
        · rintro ⟨i, h1, h2, rfl | h3⟩
          · exact .inl h2
          · exact .inr ⟨i, h1, h2, h3⟩
    have hst := star_all hH
    by_cases o5 : op = 5
    · have e1 : aft s (.mk op a b c d ks) = fun f => star (aftHd s ks) (s.length + 1) (aftHd s ks f) := by funext f; rw [aft, if_neg o1, if_neg o2, if_neg o3, if_neg o6, if_pos o5]
      have e2 : mt s (.mk op a b c d ks) = fun i j => ∃ m, mtHd s ks i m ∧ Star (mtHd s ks) m j := by funext i j; rw [mt, if_neg o1, if_neg o2, if_neg o3, if_neg o6, if_pos o5]
      rw [e1, e2]
      refine ⟨fun i j ⟨m, r1, r2⟩ => ?_, fun f j hj => ?_⟩
      · have h1 := hH.1 i m r1
        have h2 := hst.1 m j r2
        exact ⟨by omega, fun x => h2.2 (h1.2 x)⟩
      · rw [hst.2 _ j hj]
        constructor
        · rintro ⟨m, hm, e, r⟩
          obtain ⟨i, hi, e3, r3⟩ := (hH.2 f m hm).1 e
          exact ⟨i, hi, e3, m, r3, r⟩
        · rintro ⟨i, hi, e, m, r1, r2⟩
          have hm := (hH.1 i m r1).2 hi
          exact ⟨m, hm, (hH.2 f m hm).2 ⟨i, hi, e, r1⟩, r2⟩
    · have e1 : aft s (.mk op a b c d ks) = fun f => star (aftHd s ks) (s.length + 1) f := by funext f; rw [aft, if_neg o1, if_neg o2, if_neg o3, if_neg o6, if_neg o5]
      have e2 : mt s (.mk op a b c d ks) = Star (mtHd s ks) := by funext i j; rw [mt, if_neg o1, if_neg o2, if_neg o3, if_neg o6, if_neg o5]
      rw [e1, e2]; exact hst
theorem seq_says (s : List Nat) : ∀ ks : List Rx, Says s.length (aftSeq s ks) (mtSeq s ks)
  | [] => by
    refine ⟨fun i j r => ?_, fun f j hj => ?_⟩
    · have e : i = j := r
      omega
    · exact ⟨fun e => ⟨j, hj, e, rfl⟩, fun ⟨i, _, e, r⟩ => by
        have e2 : i = j := r
        subst e2; exact e⟩
  | k :: r => by
    have h1 := aft_says s k
    have h2 := seq_says s r
    refine ⟨fun i j ⟨m, r1, r2⟩ => ?_, fun f j hj => ?_⟩
    · have a := h1.1 i m r1
      have b := h2.1 m j r2
      exact ⟨by omega, fun x => b.2 (a.2 x)⟩
    · rw [aftSeq, h2.2 _ j hj]
      constructor
      · rintro ⟨m, hm, e, q⟩
        obtain ⟨i, hi, e3, r3⟩ := (h1.2 f m hm).1 e
        exact ⟨i, hi, e3, m, r3, q⟩
      · rintro ⟨i, hi, e, m, r1, r2⟩
        have hm := (h1.1 i m r1).2 hi
        exact ⟨m, hm, (h1.2 f m hm).2 ⟨i, hi, e, r1⟩, r2⟩
theorem alt_says (s : List Nat) : ∀ ks : List Rx, Says s.length (aftAlt s ks) (mtAlt s ks)
  | [] => ⟨fun i j r => absurd r (by simp [mtAlt]), fun f j _ => by simp [aftAlt, mtAlt]⟩
  | k :: r => by
    have h1 := aft_says s k
    have h2 := alt_says s r
    refine ⟨fun i j q => ?_, fun f j hj => ?_⟩
    · rcases q with q | q
      · exact h1.1 i j q
      · exact h2.1 i j q
    · simp only [aftAlt, mtAlt, Bool.or_eq_true, h1.2 f j hj, h2.2 f j hj]
      constructor
      · rintro (⟨i, a, b, c⟩ | ⟨i, a, b, c⟩)
        · exact ⟨i, a, b, .inl c⟩
        · exact ⟨i, a, b, .inr c⟩
      · rintro ⟨i, a, b, c | c⟩
        · exact .inl ⟨i, a, b, c⟩
        · exact .inr ⟨i, a, b, c⟩
theorem hd_says (s : List Nat) : ∀ ks : List Rx, Says s.length (aftHd s ks) (mtHd s ks)
  | [] => ⟨fun i j r => absurd r (by simp [mtHd]), fun f j _ => by simp [aftHd, mtHd]⟩
  | k :: _ => by
    have h1 := aft_says s k
    exact ⟨fun i j q => h1.1 i j q, fun f j hj => h1.2 f j hj⟩
end
end Rx

end Go.Proofs.Ytlbhiiciajfphaa
