/-
  Plain mathematics of chapter 5: where the matches of a tree end (mt), and that the reference's way of reckoning it by sets of places (aft) says just that. No conditions.
  Plain mathematics of chapter 5: the reference's sets of places depend on the places of the text alone; a round that changes nothing is the last one. No conditions.
  What sordinekeep.Nodes does: how many nodes a tree has, or one more than may be. Conditions: at most 1000 may be.
  What the reference's after does at a node 'maybe' and at a node of ways, where its kids' calls do as they should. Conditions: no more than 100 places.
  Plain mathematics of chapter 5: a pattern's bytes are read as a tree. No conditions.
-/
import Derived.Test.YtonfmbnankihbaaDoorProg
import Derived.Test.YtonfmbnankihbaaDoorZ01
import Derived.Test.YtonfmbnankihbaaDoorZ02
import Derived.Deep.RegionHeld3
import Derived.Laws.MakeOwn
import Derived.Laws.OwnMore
import Derived.OwnWalk
import Derived.WalkKit
import Derived.WalkSpells
import Derived.WalkLawsBesides
import Derived.Lib.Hide
import Derived.Below
import Derived.BigQuiet
import Derived.Lib.QuietBelow
import Derived.Laws.StructEq
import Derived.KernelRfl
import Derived.Laws.AppendOwn
import Derived.Laws.CopyOwn
namespace Go.Proofs.YtonfmbnankihbaaDoor
namespace Rx
/-- Any number of steps. -/
inductive Star (R : Nat → Nat → Prop) : Nat → Nat → Prop where
  | refl (i : Nat) : Star R i i
  | tail {i j k : Nat} : Star R i j → R j k → Star R i k
/-- At most m steps. -/
def RS (R : Nat → Nat → Prop) : Nat → Nat → Nat → Prop
  | 0, i, j => i = j
  | m + 1, i, j => ∃ k, (k = i ∨ R i k) ∧ RS R m k j
theorem RS.snoc {R : Nat → Nat → Prop} : ∀ {m i j k : Nat}, RS R m i j → R j k → RS R (m + 1) i k
  | 0, i, j, k, h, r => by
    have e : i = j := h
    subst e
    exact ⟨k, .inr r, rfl⟩
  | m + 1, i, j, k, ⟨q, hq, h⟩, r => ⟨q, hq, RS.snoc h r⟩
theorem RS.more {R : Nat → Nat → Prop} : ∀ {m i j : Nat}, RS R m i j → RS R (m + 1) i j
  | 0, i, _, h => ⟨i, .inl rfl, h⟩
  | _ + 1, _, _, ⟨q, hq, h⟩ => ⟨q, hq, RS.more h⟩
theorem RS.mono {R : Nat → Nat → Prop} {m n i j : Nat} (h : RS R m i j) (hn : m ≤ n) : RS R n i j := by
  obtain ⟨d, rfl⟩ : ∃ d, n = m + d := ⟨n - m, by omega⟩
  induction d with
  | zero => exact h
  | succ d ih => exact RS.more (ih (by omega))
theorem RS.star {R : Nat → Nat → Prop} : ∀ {m i j : Nat}, RS R m i j → ∀ {q}, Star R q i → Star R q j
  | 0, i, j, h, q, s => by
    have e : i = j := h
    subst e; exact s
  | m + 1, i, j, ⟨k, hk, h⟩, q, s => RS.star h (hk.elim (fun e => by rw [e]; exact s) fun r => s.tail r)
/-- Steps that never go back: as many as there are places between are enough. -/
theorem Star.few {R : Nat → Nat → Prop} (hR : ∀ i j, R i j → i ≤ j) {i j : Nat} (h : Star R i j) : i ≤ j ∧ RS R (j - i) i j := by
  induction h with
  | refl => exact ⟨Nat.le_refl _, by rw [Nat.sub_self]; rfl⟩
  | tail h1 r ih =>
    rename_i a b
    have hb := hR _ _ r
    refine ⟨by omega, ?_⟩
    by_cases e : a = b
    · subst e; exact ih.2
    · exact (ih.2.snoc r).mono (by omega)
/-- m times: what there is, and what comes of it. -/
def star (g : (Nat → Bool) → Nat → Bool) : Nat → (Nat → Bool) → Nat → Bool
  | 0, f => f
  | m + 1, f => star g m (fun i => f i || g f i)
mutual
/-- The reference's way: which places a match may end at, of those at which it may begin. -/
def aft (s : List Nat) : Rx → (Nat → Bool) → Nat → Bool
  | .mk op a b c d ks, f =>
    if op = 1 then fun i => decide (0 < i) && decide (i ≤ s.length) && f (i - 1) && hasB a b c d (s.getD (i - 1) 0)
    else if op = 2 then aftSeq s ks f
    else if op = 3 then aftAlt s ks f
    else if op = 6 then fun i => f i || aftHd s ks f i
    else if op = 5 then star (aftHd s ks) (s.length + 1) (aftHd s ks f)
    else star (aftHd s ks) (s.length + 1) f
def aftSeq (s : List Nat) : List Rx → (Nat → Bool) → Nat → Bool
  | [], f => f
  | k :: r, f => aftSeq s r (aft s k f)
def aftAlt (s : List Nat) : List Rx → (Nat → Bool) → Nat → Bool
  | [], _ => fun _ => false
  | k :: r, f => fun i => aft s k f i || aftAlt s r f i
def aftHd (s : List Nat) : List Rx → (Nat → Bool) → Nat → Bool
  | [], _ => fun _ => false
  | k :: _, f => aft s k f
end
mutual
/-- A match of the tree that begins at i may end at j. -/
def mt (s : List Nat) : Rx → Nat → Nat → Prop
  | .mk op a b c d ks, i, j =>
    if op = 1 then i < s.length ∧ j = i + 1 ∧ hasB a b c d (s.getD i 0) = true
    else if op = 2 then mtSeq s ks i j
    else if op = 3 then mtAlt s ks i j
    else if op = 6 then i = j ∨ mtHd s ks i j
    else if op = 5 then ∃ m, mtHd s ks i m ∧ Star (mtHd s ks) m j
    else Star (mtHd s ks) i j
def mtSeq (s : List Nat) : List Rx → Nat → Nat → Prop
  | [], i, j => i = j
  | k :: r, i, j => ∃ m, mt s k i m ∧ mtSeq s r m j
def mtAlt (s : List Nat) : List Rx → Nat → Nat → Prop
  | [], _, _ => False
  | k :: r, i, j => mt s k i j ∨ mtAlt s r i j
def mtHd (s : List Nat) : List Rx → Nat → Nat → Prop
  | [], _, _ => False
  | k :: _, i, j => mt s k i j
end
/-- It says of sets of places what R says of places. -/
def Says (L : Nat) (g : (Nat → Bool) → Nat → Bool) (R : Nat → Nat → Prop) : Prop :=
  (∀ i j, R i j → i ≤ j ∧ (i ≤ L → j ≤ L)) ∧ ∀ f j, j ≤ L → (g f j = true ↔ ∃ i, i ≤ L ∧ f i = true ∧ R i j)
theorem star_says {L : Nat} {g : (Nat → Bool) → Nat → Bool} {R : Nat → Nat → Prop} (h : Says L g R) : ∀ (m : Nat) (f : Nat → Bool) (j : Nat), j ≤ L → (star g m f j = true ↔ ∃ i, i ≤ L ∧ f i = true ∧ RS R m i j)
  | 0, f, j, hj => ⟨fun e => ⟨j, hj, e, rfl⟩, fun ⟨i, _, e, r⟩ => by
    have e2 : i = j := r
    subst e2; exact e⟩
  | m + 1, f, j, hj => by
    rw [star, star_says h m _ j hj]
    constructor
    · rintro ⟨k, hk, e, r⟩
      rcases Bool.or_eq_true_iff.1 e with e | e
      · exact ⟨k, hk, e, k, .inl rfl, r⟩
      · obtain ⟨i, hi, e2, r2⟩ := (h.2 f k hk).1 e
        exact ⟨i, hi, e2, k, .inr r2, r⟩
    · rintro ⟨i, hi, e, k, hk, r⟩
      rcases hk with rfl | hk
      · exact ⟨k, hi, by simp [e], r⟩
      · have hkL := (h.1 i k hk).2 hi
        exact ⟨k, hkL, by rw [(h.2 f k hkL).2 ⟨i, hi, e, hk⟩]; simp, r⟩
theorem star_all {L : Nat} {g : (Nat → Bool) → Nat → Bool} {R : Nat → Nat → Prop} (h : Says L g R) : Says L (star g (L + 1)) (Star R) := by
  have back : ∀ i j, Star R i j → i ≤ j ∧ (i ≤ L → j ≤ L) := by
    intro i j s
    induction s with
    | refl => exact ⟨Nat.le_refl _, id⟩
    | tail _ r ih => have := h.1 _ _ r; exact ⟨by omega, fun x => this.2 (ih.2 x)⟩
  refine ⟨back, fun f j hj => ?_⟩
  rw [star_says h (L + 1) f j hj]
  constructor
  · rintro ⟨i, hi, e, r⟩
    exact ⟨i, hi, e, RS.star r (.refl i)⟩
  · rintro ⟨i, hi, e, s⟩
    have := Star.few (fun a b r => (h.1 a b r).1) s
    exact ⟨i, hi, e, this.2.mono (by omega)⟩
mutual
theorem aft_says (s : List Nat) : ∀ t : Rx, Says s.length (aft s t) (mt s t)
  | .mk op a b c d ks => by
    have hS := seq_says s ks
    have hA := alt_says s ks
    have hH := hd_says s ks
    by_cases o1 : op = 1
    · refine ⟨fun i j r => ?_, fun f j hj => ?_⟩
      · rw [mt, if_pos o1] at r; omega
      · rw [aft, if_pos o1]
        simp only [mt, o1, if_true, Bool.and_eq_true, decide_eq_true_eq]
        constructor
        · rintro ⟨⟨⟨h1, h2⟩, h3⟩, h4⟩
          exact ⟨j - 1, by omega, h3, by omega, by omega, h4⟩
        · rintro ⟨i, h1, h2, h3, rfl, h5⟩
          exact ⟨⟨⟨by omega, by omega⟩, by simpa using h2⟩, by simpa using h5⟩
    by_cases o2 : op = 2
    · have e1 : aft s (.mk op a b c d ks) = aftSeq s ks := by funext f; rw [aft, if_neg o1, if_pos o2]
      have e2 : mt s (.mk op a b c d ks) = mtSeq s ks := by funext i j; rw [mt, if_neg o1, if_pos o2]
      rw [e1, e2]; exact hS
    by_cases o3 : op = 3
    · have e1 : aft s (.mk op a b c d ks) = aftAlt s ks := by funext f; rw [aft, if_neg o1, if_neg o2, if_pos o3]
      have e2 : mt s (.mk op a b c d ks) = mtAlt s ks := by funext i j; rw [mt, if_neg o1, if_neg o2, if_pos o3]
      rw [e1, e2]; exact hA
    by_cases o6 : op = 6
    · have e1 : aft s (.mk op a b c d ks) = fun f i => f i || aftHd s ks f i := by funext f; rw [aft, if_neg o1, if_neg o2, if_neg o3, if_pos o6]
      have e2 : mt s (.mk op a b c d ks) = fun i j => i = j ∨ mtHd s ks i j := by funext i j; rw [mt, if_neg o1, if_neg o2, if_neg o3, if_pos o6]
      rw [e1, e2]
      refine ⟨fun i j r => ?_, fun f j hj => ?_⟩
      · rcases r with rfl | r
        · exact ⟨Nat.le_refl _, id⟩
        · exact hH.1 i j r
      · simp only [Bool.or_eq_true, hH.2 f j hj]
        constructor
        · rintro (h | ⟨i, h1, h2, h3⟩)
          · exact ⟨j, hj, h, .inl rfl⟩
          · exact ⟨i, h1, h2, .inr h3⟩
        · rintro ⟨i, h1, h2, rfl | h3⟩
          · exact .inl h2
          · exact .inr ⟨i, h1, h2, h3⟩
    have hst := star_all hH
    by_cases o5 : op = 5
    · have e1 : aft s (.mk op a b c d ks) = fun f => star (aftHd s ks) (s.length + 1) (aftHd s ks f) := by funext f; rw [aft, if_neg o1, if_neg o2, if_neg o3, if_neg o6, if_pos o5]
      have e2 : mt s (.mk op a b c d ks) = fun i j => ∃ m, mtHd s ks i m ∧ Star (mtHd s ks) m j := by funext i j; rw [mt, if_neg o1, if_neg o2, if_neg o3, if_neg o6, if_pos o5]
      rw [e1, e2]
      refine ⟨fun i j ⟨m, r1, r2⟩ => ?_, fun f j hj => ?_⟩
      · have h1 := hH.1 i m r1
        have h2 := hst.1 m j r2
        exact ⟨by omega, fun x => h2.2 (h1.2 x)⟩
      · rw [hst.2 _ j hj]
        constructor
        · rintro ⟨m, hm, e, r⟩
          obtain ⟨i, hi, e3, r3⟩ := (hH.2 f m hm).1 e
          exact ⟨i, hi, e3, m, r3, r⟩
        · rintro ⟨i, hi, e, m, r1, r2⟩
          have hm := (hH.1 i m r1).2 hi
          exact ⟨m, hm, (hH.2 f m hm).2 ⟨i, hi, e, r1⟩, r2⟩
    · have e1 : aft s (.mk op a b c d ks) = fun f => star (aftHd s ks) (s.length + 1) f := by funext f; rw [aft, if_neg o1, if_neg o2, if_neg o3, if_neg o6, if_neg o5]
      have e2 : mt s (.mk op a b c d ks) = Star (mtHd s ks) := by funext i j; rw [mt, if_neg o1, if_neg o2, if_neg o3, if_neg o6, if_neg o5]
      rw [e1, e2]; exact hst
theorem seq_says (s : List Nat) : ∀ ks : List Rx, Says s.length (aftSeq s ks) (mtSeq s ks)
  | [] => by
    refine ⟨fun i j r => ?_, fun f j hj => ?_⟩
    · have e : i = j := r
      omega
    · exact ⟨fun e => ⟨j, hj, e, rfl⟩, fun ⟨i, _, e, r⟩ => by
        have e2 : i = j := r
        subst e2; exact e⟩
  | k :: r => by
    have h1 := aft_says s k
    have h2 := seq_says s r
    refine ⟨fun i j ⟨m, r1, r2⟩ => ?_, fun f j hj => ?_⟩
    · have a := h1.1 i m r1
      have b := h2.1 m j r2
      exact ⟨by omega, fun x => b.2 (a.2 x)⟩
    · rw [aftSeq, h2.2 _ j hj]
      constructor
      · rintro ⟨m, hm, e, q⟩
        obtain ⟨i, hi, e3, r3⟩ := (h1.2 f m hm).1 e
        exact ⟨i, hi, e3, m, r3, q⟩
      · rintro ⟨i, hi, e, m, r1, r2⟩
        have hm := (h1.1 i m r1).2 hi
        exact ⟨m, hm, (h1.2 f m hm).2 ⟨i, hi, e, r1⟩, r2⟩
theorem alt_says (s : List Nat) : ∀ ks : List Rx, Says s.length (aftAlt s ks) (mtAlt s ks)
  | [] => ⟨fun i j r => absurd r (by simp [mtAlt]), fun f j _ => by simp [aftAlt, mtAlt]⟩
  | k :: r => by
    have h1 := aft_says s k
    have h2 := alt_says s r
    refine ⟨fun i j q => ?_, fun f j hj => ?_⟩
    · rcases q with q | q
      · exact h1.1 i j q
      · exact h2.1 i j q
    · simp only [aftAlt, mtAlt, Bool.or_eq_true, h1.2 f j hj, h2.2 f j hj]
      constructor
      · rintro (⟨i, a, b, c⟩ | ⟨i, a, b, c⟩)
        · exact ⟨i, a, b, .inl c⟩
        · exact ⟨i, a, b, .inr c⟩
      · rintro ⟨i, a, b, c | c⟩
        · exact .inl ⟨i, a, b, c⟩
        · exact .inr ⟨i, a, b, c⟩
theorem hd_says (s : List Nat) : ∀ ks : List Rx, Says s.length (aftHd s ks) (mtHd s ks)
  | [] => ⟨fun i j r => absurd r (by simp [mtHd]), fun f j _ => by simp [aftHd, mtHd]⟩
  | k :: _ => by
    have h1 := aft_says s k
    exact ⟨fun i j q => h1.1 i j q, fun f j hj => h1.2 f j hj⟩
end
end Rx

end Go.Proofs.YtonfmbnankihbaaDoor
namespace Go.Proofs.YtonfmbnankihbaaDoor
namespace Rx
theorem Says.congr {L : Nat} {g : (Nat → Bool) → Nat → Bool} {R : Nat → Nat → Prop} (h : Says L g R) {f f' : Nat → Bool} (hf : ∀ i, i ≤ L → f i = f' i) {j : Nat} (hj : j ≤ L) : g f j = g f' j := by
  rw [Bool.eq_iff_iff, h.2 f j hj, h.2 f' j hj]
  constructor
  · rintro ⟨i, hi, e, r⟩; exact ⟨i, hi, by rw [← hf i hi]; exact e, r⟩
  · rintro ⟨i, hi, e, r⟩; exact ⟨i, hi, by rw [hf i hi]; exact e, r⟩
theorem aft_congr (s : List Nat) (t : Rx) {f f' : Nat → Bool} (hf : ∀ i, i ≤ s.length → f i = f' i) {j : Nat} (hj : j ≤ s.length) : aft s t f j = aft s t f' j := (aft_says s t).congr hf hj
theorem star_congr {L : Nat} {g : (Nat → Bool) → Nat → Bool} {R : Nat → Nat → Prop} (h : Says L g R) (m : Nat) {f f' : Nat → Bool} (hf : ∀ i, i ≤ L → f i = f' i) {j : Nat} (hj : j ≤ L) : star g m f j = star g m f' j := by
  rw [Bool.eq_iff_iff, star_says h m f j hj, star_says h m f' j hj]
  constructor
  · rintro ⟨i, hi, e, r⟩; exact ⟨i, hi, by rw [← hf i hi]; exact e, r⟩
  · rintro ⟨i, hi, e, r⟩; exact ⟨i, hi, by rw [hf i hi]; exact e, r⟩
theorem star_stop {L : Nat} {g : (Nat → Bool) → Nat → Bool} {R : Nat → Nat → Prop} (h : Says L g R) {f : Nat → Bool} (hf : ∀ i, i ≤ L → (f i || g f i) = f i) : ∀ (m : Nat) {j : Nat}, j ≤ L → star g m f j = f j
  | 0, _, _ => rfl
  | m + 1, j, hj => by rw [star, star_congr h m hf hj]; exact star_stop h hf m hj
theorem seq_app (s : List Nat) : ∀ (a b : List Rx) (f : Nat → Bool), aftSeq s (a ++ b) f = aftSeq s b (aftSeq s a f)
  | [], _, _ => rfl
  | k :: r, b, f => by rw [List.cons_append, aftSeq, aftSeq]; exact seq_app s r b _
theorem alt_app (s : List Nat) : ∀ (a b : List Rx) (f : Nat → Bool) (i : Nat), aftAlt s (a ++ b) f i = (aftAlt s a f i || aftAlt s b f i)
  | [], _, _, _ => by simp [aftAlt]
  | k :: r, b, f, i => by
    have h := alt_app s r b f i
    show (aft s k f i || aftAlt s (r ++ b) f i) = _
    rw [h, ← Bool.or_assoc]
    rfl
theorem seq_take (s : List Nat) {ks : List Rx} {k : Nat} (h : k < ks.length) (f : Nat → Bool) : aftSeq s (ks.take (k + 1)) f = aft s (nth ks k) (aftSeq s (ks.take k) f) := by
  rw [List.take_succ_eq_append_getElem h, seq_app, ← nth_eq h]; rfl
theorem alt_take (s : List Nat) {ks : List Rx} {k : Nat} (h : k < ks.length) (f : Nat → Bool) (i : Nat) : aftAlt s (ks.take (k + 1)) f i = (aftAlt s (ks.take k) f i || aft s (nth ks k) f i) := by
  rw [List.take_succ_eq_append_getElem h, alt_app, ← nth_eq h]
  show (aftAlt s (ks.take k) f i || (aft s (nth ks k) f i || false)) = _
  rw [Bool.or_false]
end Rx

end Go.Proofs.YtonfmbnankihbaaDoor
namespace Go.Proofs.YtonfmbnankihbaaDoor
open Go.RowKit

theorem Rx.countL_take {ks : List Rx} {k : Nat} (h : k < ks.length) : Rx.countL (ks.take (k + 1)) = Rx.countL (ks.take k) + Rx.count (Rx.nth ks k) := by
  rw [Rx.nth_eq h]
  induction ks generalizing k with
  | nil => simp at h
  | cons x r ih =>
    cases k with
    | zero => simp [Rx.countL]
    | succ k =>
      have := ih (k := k) (by simpa using h)
      simp only [List.take_succ_cons, Rx.countL, List.getElem_cons_succ] at this ⊢
      omega
theorem Rx.take_le {ks : List Rx} {k : Nat} (h : k ≤ ks.length) : k ≤ Rx.countL (ks.take k) := by
  have := Rx.len_count (ks.take k)
  rw [List.length_take, Nat.min_eq_left h] at this
  exact this
/-- A node's cells in its own block. -/
theorem box6 {w : World} {v0 v1 v2 v3 v4 v5 : Value} {ty : TypeId} {W : World} (h : Below (w.heap.size + 1) (w.alloc (.cells #[v0, v1, v2, v3, v4, v5] ty)) W) :
    (W.cell? ⟨w.heap.size, 0, none⟩ = some v0 ∧ W.cell? ⟨w.heap.size, 1, none⟩ = some v1 ∧ W.cell? ⟨w.heap.size, 2, none⟩ = some v2 ∧ W.cell? ⟨w.heap.size, 3, none⟩ = some v3 ∧ W.cell? ⟨w.heap.size, 4, none⟩ = some v4 ∧ W.cell? ⟨w.heap.size, 5, none⟩ = some v5) ∧ Below w.heap.size w W := by
  have e := heap_alloc_new w (.cells #[v0, v1, v2, v3, v4, v5] ty)
  have e2 : W.heap[w.heap.size]? = _ := (h.block w.heap.size (by omega)).trans e
  refine ⟨⟨?_, ?_, ?_, ?_, ?_, ?_⟩, ((Below.refl _ _).alloc (Nat.le_refl _) _).trans (h.mono (by omega))⟩ <;> (rw [cell_of_row _ w.heap.size _ _ ty (0, 0) e2]; rfl)

set_option maxRecDepth 100000 in
set_option maxHeartbeats 4000000 in
theorem nodes_any : ∀ (n : Nat) (t : Rx) (v : Value) (m : Nat) (w : World), m ≤ 1000 → Rx.count t ≤ n → IsRx w v t → Calls Tryd.prog 17 #[v, .int .i64 (m : Int)] w fun e w' => e = .returned (.int .i64 ((min (Rx.count t) (m + 1) : Nat) : Int)) ∧ Below w.heap.size w w' := by
  intro n
  induction n with
  | zero => intro t v m w _ hs; have := Rx.count_pos t; omega
  | succ n ih =>
    intro t v m w hm hs h
    cases h with
    | node op a b c_ d ks A cap blk off V hcap hA hp hc hk =>
      rw [Rx.count] at hs
      have IH : Hid (∀ j, j < ks.length → ∀ (m' : Nat) (W : World), m' ≤ 1000 → Below w.heap.size w W → Calls Tryd.prog 17 #[val6 (V j), .int .i64 (m' : Int)] W fun e w' => e = .returned (.int .i64 ((min (Rx.count (Rx.nth ks j)) (m' + 1) : Nat) : Int)) ∧ Below W.heap.size W w') := fun j hj m' W hm' hW => ih _ _ m' W hm' (by have := Rx.nth_count hj; omega) ((hk j hj).grown hW)
      have HC : Hid (∀ W, Below w.heap.size w W → ∀ j i, j < ks.length → i < 6 → W.cell? ⟨blk, off + j * 6 + i, none⟩ = some (V j i)) := fun W hW j i hj hi => (hW.cell (World.block_lt_of_cell? w _ (hc j i hj hi))).trans (hc j i hj hi)
      have HP := Lib.hid hp
      have CT := Lib.hid (fun k => Rx.countL_take (ks := ks) (k := k))
      have TL := Lib.hid (fun k => Rx.take_le (ks := ks) (k := k))
      have CE : Hid (Rx.countL (ks.take ks.length) = Rx.countL ks) := by show _ = _; rw [List.take_length]
      have CC : Hid (Rx.count (.mk op a b c_ d ks) = 1 + Rx.countL ks) := by show _ = _; rw [Rx.count]
      have MO : Hid (∀ k, k ≤ ks.length → Rx.countL (ks.take k) ≤ Rx.countL ks) := by
        intro k hk
        have : ∀ j, k + j ≤ ks.length → Rx.countL (ks.take k) ≤ Rx.countL (ks.take (k + j)) := by
          intro j
          induction j with
          | zero => intro _; exact Nat.le_refl _
          | succ j ihj =>
            intro hj
            have h1 := ihj (by omega)
            have h2 := Rx.countL_take (ks := ks) (k := k + j) (by omega)
            rw [← Nat.add_assoc, h2]; omega
        have := this (ks.length - k) (by omega)
        rwa [show k + (ks.length - k) = ks.length by omega, List.take_length] at this
      clear hp hc hk ih hA hs
      obtain ⟨N, hN⟩ : ∃ N, ks.length = N := ⟨_, rfl⟩
      rw [hN] at hcap IH HC HP CT TL CE MO ⊢
      clear hN hcap
      have BX := Lib.hid (fun W => box6 (w := w) (v0 := .int .i64 op) (v1 := .int .u64 (a : Int)) (v2 := .int .u64 (b : Int)) (v3 := .int .u64 (c_ : Int)) (v4 := .int .u64 (d : Int)) (v5 := .slice A N cap) (ty := 34) (W := W))
      have SZ0 : Hid (w.heap.size + 1 ≤ (w.alloc (.cells #[.int .i64 op, .int .u64 (a : Int), .int .u64 (b : Int), .int .u64 (c_ : Int), .int .u64 (d : Int), .slice A N cap] 34)).heap.size) := by show _ ≤ _; simp
      go_enter Tryd.func17, Tryd.ntmps17
      go_wp2
      obtain ⟨w0, hw0⟩ : ∃ w0, w.alloc (.cells #[.int .i64 op, .int .u64 (a : Int), .int .u64 (b : Int), .int .u64 (c_ : Int), .int .u64 (d : Int), .slice A N cap] 34) = w0 := ⟨_, rfl⟩
      rw [hw0] at BX SZ0 ⊢
      clear hw0
      go_loopw [5, 6] (fun vn i wr => ∃ k c : Nat, k ≤ N ∧ k < c ∧ c ≤ m + 1 ∧ i = .int .i64 (k : Int) ∧ vn = .int .i64 (c : Int) ∧ Hid (Below (w.heap.size + 1) w0 wr ∧ c = min (1 + Rx.countL (ks.take k)) (m + 1))) (fun _ i _ => N - (intOf i).toNat)
      case atStart => exact ⟨0, 1, by omega, by omega, by omega, rfl, rfl, Below.refl _ _, by simp [Rx.countL]⟩
      case round =>
        obtain ⟨k, c, hk, hkc, hcm, rfl, rfl, HI⟩ := hrel
        obtain ⟨⟨_, _, _, _, _, q5⟩, BW⟩ := BX.out wr HI.out.1
        have BWH := Lib.hid BW
        have A1 := Lib.hid HI.out.1
        have A2 := Lib.hid HI.out.2
        clear BW HI
        by_cases hkn : k < N
        · have hkz : (k : Int) < (N : Int) := by omega
          by_cases hle : c ≤ m
          · have hlez : (c : Int) ≤ (m : Int) := by omega
            have hAe := HP.out (by omega)
            subst hAe
            have c0 := HC.out wr BWH.out k 0 hkn (by omega)
            have c1 := HC.out wr BWH.out k 1 hkn (by omega)
            have c2 := HC.out wr BWH.out k 2 hkn (by omega)
            have c3 := HC.out wr BWH.out k 3 hkn (by omega)
            have c4 := HC.out wr BWH.out k 4 hkn (by omega)
            have c5 := HC.out wr BWH.out k 5 hkn (by omega)
            simp only [Nat.add_zero] at c0
            have CK := Lib.hid (IH.out k hkn (m - c) wr (by omega) BWH.out)
            have em : ((m - c : Nat) : Int) = (m : Int) - (c : Int) := by omega
            rw [em] at CK
            unfold val6 at CK
            generalize V k 0 = v0 at *
            generalize V k 1 = v1 at *
            generalize V k 2 = v2 at *
            generalize V k 3 = v3 at *
            generalize V k 4 = v4 at *
            generalize V k 5 = v5 at *
            obtain ⟨r, hr⟩ : ∃ r, min (Rx.count (Rx.nth ks k)) (m - c + 1) = r := ⟨_, rfl⟩
            rw [hr] at CK
            have hr1 : 1 ≤ r ∧ r ≤ m - c + 1 := by have := Rx.count_pos (Rx.nth ks k); omega
            have R : Hid (c + r = min (1 + Rx.countL (ks.take (k + 1))) (m + 1)) := by
              show _ = _
              have h1 := A2.out
              rw [CT.out k hkn]
              omega
            clear hr em HC
            have wm : IntKind.i64.wrap ((m : Int) - (c : Int)) = (m : Int) - (c : Int) := by rw [IntKind.wrap_i64]; omega
            have wc : IntKind.i64.wrap ((c : Int) + (r : Int)) = (c : Int) + (r : Int) := by rw [IntKind.wrap_i64]; omega
            go_wp2_with fail
            refine CK.out.mono ?_
            rintro e w' ⟨rfl, b'⟩
            have B := Lib.hid (A1.out.trans (b'.mono (by have := A1.out.size; have := SZ0.out; omega)))
            clear b' CK c0 c1 c2 c3 c4 c5 q5
            go_wp2
            go_roundw
            case rel => exact ⟨k + 1, c + r, by omega, by omega, by omega, by go_num, by simp, B.out, R.out⟩
            case measure => simp [intOf]; omega
          · have hlez : ¬ (c : Int) ≤ (m : Int) := by omega
            have R : Hid (min (Rx.count (.mk op a b c_ d ks)) (m + 1) = c) := by
              show _ = _
              have h1 := A2.out
              have h2 := MO.out k hk
              rw [CC.out]; omega
            clear HC IH
            go_wp2
            go_ret
            exact ⟨by rw [R.out]; rfl, BWH.out⟩
        · obtain rfl : k = N := by omega
          have hkz : ¬ (k : Int) < (k : Int) := by omega
          have R : Hid (min (Rx.count (.mk op a b c_ d ks)) (m + 1) = c) := by
            show _ = _
            have h1 := A2.out
            rw [CE.out] at h1
            rw [CC.out]; omega
          clear HC IH
          go_wp2
          go_ret
          exact ⟨by rw [R.out]; rfl, BWH.out⟩

end Go.Proofs.YtonfmbnankihbaaDoor
namespace Go.Proofs.YtonfmbnankihbaaDoor
open Go.RowKit Go.Sort

/-- What a call of after is told of the node's kids. -/
structure AftH (w : World) (s : ByteArray) (S : List Nat) (L : Nat) (ks : List Rx) (N : Nat) (A : Option Addr) (blk off : Nat) (V : Nat → Nat → Value) : Prop where
  size : s.size = L
  text : S.length = L
  few : L ≤ 100
  len : ks.length = N
  lenN : N ≤ 1000
  ptr : 0 < N → A = some ⟨blk, off, none⟩
  cells : ∀ W, Below w.heap.size w W → ∀ j i, j < N → i < 6 → W.cell? ⟨blk, off + j * 6 + i, none⟩ = some (V j i)
  call : ∀ (j : Nat) (W : World) (A' : Option Addr) (c' : Nat) (f' : Nat → Bool), j < N → Below w.heap.size w W → IsBo W A' (L + 1) f' →
    Calls Tryd.prog 57 #[val6 (V j), .string s, .slice A' (L + 1) c'] W fun e w' => (∃ q, e = .returned (.slice (some ⟨q, 0, none⟩) (L + 1) (L + 1)) ∧ OwnB w' W.heap.size q (L + 1) (Rx.aft S (Rx.nth ks j) f')) ∧ Below W.heap.size W w'
/-- What after is to do. -/
def AftDone (w : World) (S : List Nat) (L : Nat) (t : Rx) (f : Nat → Bool) (e : Ending) (w' : World) : Prop :=
  (∃ q, e = .returned (.slice (some ⟨q, 0, none⟩) (L + 1) (L + 1)) ∧ OwnB w' w.heap.size q (L + 1) (Rx.aft S t f)) ∧ Below w.heap.size w w'
theorem OwnB.base {w : World} {b1 b2 g n : Nat} {f : Nat → Bool} (h : OwnB w b2 g n f) (hb : b1 ≤ b2) : OwnB w b1 g n f := by
  refine ⟨h.1, ?_⟩
  rcases h.2 with hn | ⟨g, cap, cur, e, hg, rest⟩
  · exact .inl hn
  · exact .inr ⟨g, cap, cur, e, by omega, rest⟩
theorem OwnB.congr {w : World} {b g n : Nat} {f f' : Nat → Bool} (h : OwnB w b g n f) (he : ∀ i, i < n → f i = f' i) : OwnB w b g n f' := by
  unfold OwnB at h ⊢
  rw [← bof_congr he]; exact h
theorem aft_maybe_eq {S : List Nat} {a b c d : Nat} {ks : List Rx} {f : Nat → Bool} (h : ks.length = 1) : Rx.aft S (.mk 6 a b c d ks) f = fun i => f i || Rx.aft S (Rx.nth ks 0) f i := by
  match ks, h with
  | [k], _ => rfl

set_option maxRecDepth 100000 in
set_option maxHeartbeats 2000000 in
theorem after_maybe {w : World} {s : ByteArray} {S : List Nat} {L : Nat} {ks : List Rx} {N : Nat} {A : Option Addr} {blk off : Nat} {V : Nat → Nat → Value} (T : AftH w s S L ks N A blk off V) (a b c d cap : Nat) (hN : N = 1) (F : Option Addr) (cf : Nat) (f : Nat → Bool) (hf : IsBo w F (L + 1) f) :
    Calls Tryd.prog 57 #[.agg #[.int .i64 6, .int .u64 (a : Int), .int .u64 (b : Int), .int .u64 (c : Int), .int .u64 (d : Int), .slice A N cap], .string s, .slice F (L + 1) cf] w (AftDone w S L (.mk 6 a b c d ks) f) := by
  have HT := Lib.hid T
  have hL := T.few
  have hs := T.size
  have E := Lib.hid (aft_maybe_eq (S := S) (a := a) (b := b) (c := c) (d := d) (f := f) (T.len.trans hN))
  have hA := T.ptr (by omega)
  subst hN hA
  have MK := fun W => make_bools (L + 1) (by omega) W
  have BX := Lib.hid (fun W => box6 (w := w) (v0 := .int .i64 6) (v1 := .int .u64 (a : Int)) (v2 := .int .u64 (b : Int)) (v3 := .int .u64 (c : Int)) (v4 := .int .u64 (d : Int)) (v5 := .slice (some ⟨blk, off, none⟩) 1 cap) (ty := 34) (W := W))
  obtain ⟨w0, hw0⟩ : ∃ w0, w.alloc (.cells #[.int .i64 6, .int .u64 (a : Int), .int .u64 (b : Int), .int .u64 (c : Int), .int .u64 (d : Int), .slice (some ⟨blk, off, none⟩) 1 cap] 34) = w0 := ⟨_, rfl⟩
  obtain ⟨w1, hw1⟩ : ∃ w1, w0.alloc (.cells (bof (L + 1) fun _ => false).toArray 4) = w1 := ⟨_, rfl⟩
  have MK1 := MK w0
  have wl : IntKind.i64.wrap ((L : Int) + 1) = (L : Int) + 1 := by rw [IntKind.wrap_i64]; omega
  have el : ((L + 1 : Nat) : Int) = (L : Int) + 1 := by simp
  rw [hw1, el] at MK1
  rw [hw0] at BX
  have B01 : Below (w.heap.size + 1) w0 w1 := by
    rw [← hw1]
    have e : w0.heap.size = w.heap.size + 1 := by rw [← hw0]; simp
    rw [← e]
    exact (Below.refl _ _).alloc (Nat.le_refl _) _
  obtain ⟨⟨q0, q1, q2, q3, q4, q5⟩, BW⟩ := BX.out w1 B01
  have BWH := Lib.hid BW
  have c0 := T.cells w1 BW 0 0 (by omega) (by omega)
  have c1 := T.cells w1 BW 0 1 (by omega) (by omega)
  have c2 := T.cells w1 BW 0 2 (by omega) (by omega)
  have c3 := T.cells w1 BW 0 3 (by omega) (by omega)
  have c4 := T.cells w1 BW 0 4 (by omega) (by omega)
  have c5 := T.cells w1 BW 0 5 (by omega) (by omega)
  simp only [Nat.zero_mul, Nat.add_zero] at c0 c1 c2 c3 c4 c5
  have CK := Lib.hid (T.call 0 w1 F cf f (by omega) BW (hf.below BW))
  have JN := Lib.hid (fun q W (hW : Below w1.heap.size w1 W) (ho : OwnB W w1.heap.size q (L + 1) (Rx.aft S (Rx.nth ks 0) f)) => rjoin_any (L + 1) f (Rx.aft S (Rx.nth ks 0) f) F (some ⟨q, 0, none⟩) cf (L + 1) W (by omega) ((hf.below BW).below hW) ho.is)
  unfold val6 at CK
  clear T MK BX B01 BW hf q1 q2 q3 q4
  generalize V 0 0 = v0 at *
  generalize V 0 1 = v1 at *
  generalize V 0 2 = v2 at *
  generalize V 0 3 = v3 at *
  generalize V 0 4 = v4 at *
  generalize V 0 5 = v5 at *
  generalize Rx.aft S (Rx.nth ks 0) f = G at *
  go_enter Tryd.func57, Tryd.ntmps57
  go_wp2_with fail
  refine CK.out.mono ?_
  rintro e w2 ⟨⟨q, rfl, o2⟩, b2⟩
  have d2 := BWH.out.trans (b2.mono BWH.out.size)
  have CJ := Lib.hid (JN.out q w2 b2 o2)
  clear CK JN b2 o2 c0 c1 c2 c3 c4 c5 q0 q5
  go_wp2_with fail
  refine CJ.out.mono ?_
  rintro e w3 ⟨⟨q3, rfl, o3⟩, b3⟩
  have R : Hid (AftDone w S L (.mk 6 a b c d ks) f (.returned (.slice (some ⟨q3, 0, none⟩) (L + 1) (L + 1))) w3) := ⟨⟨q3, rfl, by rw [E.out]; exact o3.base d2.size⟩, d2.trans (b3.mono d2.size)⟩
  clear CJ o3 b3 d2
  go_wp2
  go_ret
  exact R.out

end Go.Proofs.YtonfmbnankihbaaDoor
namespace Go.Proofs.YtonfmbnankihbaaDoor
namespace Pz
/-- The byte at a place; 256: none. -/
def pk (S : List Nat) (i : Nat) : Nat := S.getD i 256
def special (c : Nat) : Bool := c == 124 || c == 42 || c == 43 || c == 63 || c == 40 || c == 41 || c == 91 || c == 93 || c == 46 || c == 92
def inside (c : Nat) : Bool := c == 92 || c == 93 || c == 91 || c == 94 || c == 45
def quotable (c : Nat) : Bool := special c || c == 94 || c == 45
/-- A byte that is none of these, or a quoted one. -/
def byte1 (S : List Nat) (but : Nat → Bool) (i : Nat) : Option (Nat × Nat) :=
  if pk S i = 92 then (if quotable (pk S (i + 1)) then some (pk S (i + 1), i + 2) else none)
  else if pk S i = 256 ∨ but (pk S i) = true then none else some (pk S i, i + 1)
/-- One byte more in a set of four words. -/
def put (W : Nat → Nat) (c : Nat) : Nat → Nat := fun k => if k = c / 64 then W k ||| 2 ^ (c % 64) else W k
/-- n bytes from lo on. -/
def span (W : Nat → Nat) (lo : Nat) : Nat → Nat → Nat
  | 0 => W
  | n + 1 => put (span W lo n) (lo + n)
def none4 : Nat → Nat := fun _ => 0
def join (V W : Nat → Nat) : Nat → Nat := fun k => V k ||| W k
def neg (W : Nat → Nat) : Nat → Nat := fun k => 18446744073709551615 - W k
/-- A byte, or two with a - between them: from, to. -/
def item (S : List Nat) (i : Nat) : Option (Nat × Nat × Nat) :=
  match byte1 S inside i with
  | none => none
  | some (lo, j) =>
    if pk S j = 45 then
      match byte1 S inside (j + 1) with
      | none => none
      | some (hi, k) => if hi < lo then none else some (lo, hi, k)
    else some (lo, lo, j)
/-- Items up to a closing bracket. -/
def items (S : List Nat) : Nat → (Nat → Nat) → Nat → Option ((Nat → Nat) × Nat)
  | 0, _, _ => none
  | n + 1, W, i =>
    if pk S i = 93 then some (W, i + 1)
    else match item S i with
      | none => none
      | some (lo, hi, j) => items S n (span W lo (hi + 1 - lo)) j
def setOf (W : Nat → Nat) : Rx := .mk 1 (W 0) (W 1) (W 2) (W 3) []
/-- The choice of bytes behind its opening bracket. -/
def class1 (S : List Nat) (n : Nat) (i : Nat) : Option (Rx × Nat) :=
  let j := if pk S i = 94 then i + 1 else i
  match item S j with
  | none => none
  | some (lo, hi, k) =>
    match items S n (span none4 lo (hi + 1 - lo)) k with
    | none => none
    | some (W, m) => some (setOf (if pk S i = 94 then neg W else W), m)
/-- A group, or what stands for one byte. -/
def atom (S : List Nat) (n : Nat) (G : Nat → Option (Rx × Nat)) (i : Nat) : Option (Rx × Nat) :=
  if pk S i = 40 then G (i + 1)
  else if pk S i = 91 then class1 S n (i + 1)
  else if pk S i = 46 then some (setOf (neg none4), i + 1)
  else match byte1 S special i with
    | none => none
    | some (c, j) => some (setOf (put none4 c), j)
def rep (op : Int) (x : Rx) : Rx := .mk op 0 0 0 0 [x]
def factor (S : List Nat) (n : Nat) (G : Nat → Option (Rx × Nat)) (i : Nat) : Option (Rx × Nat) :=
  match atom S n G i with
  | none => none
  | some (x, j) => if pk S j = 42 then some (rep 4 x, j + 1) else if pk S j = 43 then some (rep 5 x, j + 1) else if pk S j = 63 then some (rep 6 x, j + 1) else some (x, j)
def joined (op : Int) : List Rx → Rx
  | [x] => x
  | l => .mk op 0 0 0 0 l
/-- Factors up to the end of a way, behind those that are there. -/
def way (S : List Nat) (n : Nat) (G : Nat → Option (Rx × Nat)) : Nat → List Rx → Nat → Option (Rx × Nat)
  | 0, _, _ => none
  | m + 1, l, i =>
    if pk S i = 256 ∨ pk S i = 124 ∨ pk S i = 41 then some (joined 2 l, i)
    else match factor S n G i with
      | none => none
      | some (x, j) => way S n G m (l ++ [x]) j
/-- Ways with | between, behind those that are there. -/
def ways (S : List Nat) (n : Nat) (G : Nat → Option (Rx × Nat)) : Nat → List Rx → Nat → Option (Rx × Nat)
  | 0, _, _ => none
  | m + 1, l, i =>
    match way S n G n [] i with
    | none => none
    | some (x, j) => if pk S j = 124 then ways S n G m (l ++ [x]) (j + 1) else some (joined 3 (l ++ [x]), j)
/-- The rest of a group behind its opening bracket, so many groups deep. -/
def group (S : List Nat) (n : Nat) : Nat → Nat → Option (Rx × Nat)
  | 0, _ => none
  | d + 1, i =>
    match ways S n (group S n d) n [] i with
    | none => none
    | some (x, j) => if pk S j = 41 then some (x, j + 1) else none
/-- The tree of a pattern. -/
def parse (S : List Nat) : Option Rx :=
  if 40 < S.length then none
  else match ways S 42 (group S 42 8) 42 [] 0 with
    | none => none
    | some (x, j) => if j < S.length then none else some x
example : (parse [97, 42, 124, 98]).isSome = true := by decide +kernel
example : (parse [97, 42, 42]).isSome = false := by decide +kernel
example : (parse [40, 97, 41, 91, 97, 45, 122, 93]).isSome = true := by decide +kernel
end Pz

end Go.Proofs.YtonfmbnankihbaaDoor
