/-
  Plain mathematics of chapter 5: a pattern's tree may be, has few nodes, its words have 64 bits. No conditions.
-/
import Derived.Test.YtjnikeiboefnbaaProg
import Derived.Test.YtjnikeiboefnbaaEa
import Derived.Test.YtjnikeiboefnbaaEd
import Derived.Test.YtjnikeiboefnbaaEe
import Derived.Test.YtjnikeiboefnbaaEm
import Derived.Test.YtjnikeiboefnbaaEk
import Derived.Test.YtjnikeiboefnbaaEl
import Derived.Test.YtjnikeiboefnbaaJa
import Derived.Test.YtjnikeiboefnbaaJb
import Derived.Test.YtjnikeiboefnbaaJc
import Derived.Test.YtjnikeiboefnbaaHa
import Derived.Test.YtjnikeiboefnbaaEo
import Derived.Test.YtjnikeiboefnbaaHd
import Derived.Test.YtjnikeiboefnbaaHe
import Derived.Test.YtjnikeiboefnbaaJd
import Derived.Test.YtjnikeiboefnbaaJe
import Derived.Test.YtjnikeiboefnbaaJg
import Derived.Test.YtjnikeiboefnbaaJh
import Derived.Test.YtjnikeiboefnbaaJj
import Derived.Laws.AppendOwn
import Derived.Maps.AppendAt
import Derived.Deep.LoopGhost
import Derived.Deep.QuietTactic
import Derived.BigQuiet
import Derived.Lib.Bytealg
import Derived.Laws.Externs
import Derived.Laws.CopyOwn
import Derived.Laws.MakeOwn
import Derived.Laws.OwnMore
import Derived.OwnWalk
import Derived.StillTailTactics
import Derived.WalkKit
import Derived.WalkSpells
import Derived.WalkLawsBesides
import Derived.Lib.Hide
import Derived.Below
import Derived.Lib.QuietBelow
import Derived.Laws.StructEq
import Derived.KernelRfl
import Derived.Deep.RegionHeld3
import Derived.Laws.ResultCell
namespace Go.Proofs.Ytjnikeiboefnbaa
open Pz

/-- A tree that may be, of at most so many nodes. -/
structure Good (t : Rx) (n : Nat) : Prop where
  rex : Rx.isRex t = true
  fit : Rx.fit t
  count : Rx.count t ≤ n
theorem Good.mono {t : Rx} {m n : Nat} (h : Good t m) (hn : m ≤ n) : Good t n := ⟨h.rex, h.fit, Nat.le_trans h.count hn⟩
/-- Trees that may be, of at most so many nodes together. -/
structure GoodL (l : List Rx) (n : Nat) : Prop where
  rex : Rx.isAll l = true
  fit : Rx.fitL l
  count : Rx.countL l ≤ n
theorem isAll_app : ∀ (l : List Rx) (x : Rx), Rx.isAll (l ++ [x]) = (Rx.isAll l && Rx.isRex x)
  | [], x => by simp [Rx.isAll]
  | k :: r, x => by rw [List.cons_append, Rx.isAll, Rx.isAll, isAll_app r x, Bool.and_assoc]
theorem fitL_app : ∀ (l : List Rx) (x : Rx), Rx.fitL (l ++ [x]) ↔ Rx.fitL l ∧ Rx.fit x
  | [], x => by simp [Rx.fitL]
  | k :: r, x => by rw [List.cons_append, Rx.fitL, Rx.fitL, fitL_app r x, and_assoc]
theorem countL_app : ∀ (l : List Rx) (x : Rx), Rx.countL (l ++ [x]) = Rx.countL l + Rx.count x
  | [], x => by simp [Rx.countL]
  | k :: r, x => by rw [List.cons_append, Rx.countL, Rx.countL, countL_app r x]; omega
theorem GoodL.nil : GoodL [] 0 := ⟨by simp [Rx.isAll], by simp [Rx.fitL], by simp [Rx.countL]⟩
theorem GoodL.app {l : List Rx} {x : Rx} {m n : Nat} (h : GoodL l m) (hx : Good x n) : GoodL (l ++ [x]) (m + n) :=
  ⟨by rw [isAll_app, h.rex, hx.rex]; rfl, (fitL_app l x).2 ⟨h.fit, hx.fit⟩, by rw [countL_app]; have := h.count; have := hx.count; omega⟩
theorem fit0 : Fit4 0 0 0 0 := ⟨by omega, by omega, by omega, by omega⟩
theorem GoodL.joined {l : List Rx} {n : Nat} {op : Int} (h : GoodL l n) (ho : op = 2 ∨ (op = 3 ∧ 1 ≤ l.length)) : Good (joined op l) (n + 1) := by
  by_cases h1 : l.length = 1
  · obtain ⟨x, rfl⟩ := List.length_eq_one_iff.1 h1
    have h2 := h.rex
    have h3 := h.fit
    have h4 := h.count
    simp only [Rx.isAll, Bool.and_true] at h2
    simp only [Rx.fitL, and_true] at h3
    simp only [Rx.countL] at h4
    exact ⟨h2, h3, by show Rx.count x ≤ _; omega⟩
  · rw [joined_two h1]
    refine ⟨?_, ?_, by rw [Rx.count]; have := h.count; omega⟩
    · rw [Rx.isRex]
      rcases ho with rfl | ⟨rfl, hl⟩
      · rw [if_neg (by decide), h.rex]; simp [Rx.may]
      · rw [if_neg (by decide), h.rex]; simp [Rx.may]; omega
    · rw [Rx.fit]; exact ⟨fit0, h.fit⟩
theorem set_good {W : Nat → Nat} (h : Fits4 W) : Good (setOf W) 1 := ⟨by simp [setOf, Rx.isRex], by unfold setOf; rw [Rx.fit, Rx.fitL]; exact ⟨⟨h 0, h 1, h 2, h 3⟩, trivial⟩, by simp [setOf, Rx.count, Rx.countL]⟩
theorem rep_good {x : Rx} {n : Nat} {op : Int} (h : Good x n) (ho : op = 4 ∨ op = 5 ∨ op = 6) : Good (rep op x) (n + 1) := by
  refine ⟨?_, ?_, by unfold rep; rw [Rx.count, Rx.countL, Rx.countL]; have := h.count; omega⟩
  · unfold rep
    rw [Rx.isRex, Rx.isAll, Rx.isAll, h.rex]
    rcases ho with rfl | rfl | rfl <;> simp [Rx.may]
  · unfold rep; rw [Rx.fit, Rx.fitL, Rx.fitL]; exact ⟨fit0, h.fit, trivial⟩
theorem items_fits {s : ByteArray} : ∀ {m i j : Nat} {W V : Nat → Nat}, Fits4 W → items (txt8 s) m W i = some (V, j) → Fits4 V
  | 0, i, j, W, V, _, h => by cases h
  | m + 1, i, j, W, V, hW, h => by
    by_cases h9 : pk (txt8 s) i = 93
    · rw [items, if_pos h9] at h
      injection h with h
      injection h with h1 h2
      rw [← h1]; exact hW
    · rw [items_step h9] at h
      cases hq : item (txt8 s) i with
      | none => rw [hq] at h; cases h
      | some q =>
        obtain ⟨lo, hi, k⟩ := q
        rw [hq] at h
        exact items_fits (m := m) (join_fits hW (span_fits none4_fits _ _)) h
theorem class_good {s : ByteArray} {i j : Nat} {t : Rx} (h : class1 (txt8 s) 42 i = some (t, j)) : Good t 1 := by
  rw [class_eq _ _ _ _ _ rfl rfl] at h
  generalize (if pk (txt8 s) i = 94 then i + 1 else i) = i2 at h
  cases hq : item (txt8 s) i2 with
  | none => rw [hq] at h; cases h
  | some q =>
    obtain ⟨lo, hi, k⟩ := q
    rw [hq] at h
    simp only [cont] at h
    cases hc : items (txt8 s) 42 (join none4 (span none4 lo (hi + 1 - lo))) k with
    | none => rw [hc] at h; cases h
    | some p =>
      obtain ⟨V, m⟩ := p
      rw [hc] at h
      have hV := items_fits (join_fits none4_fits (span_fits none4_fits _ _)) hc
      injection h with h
      injection h with h1 h2
      rw [← h1]
      split
      · exact set_good (neg_fits V)
      · exact set_good hV
/-- What is told of the groups within. -/
def GoodG (G : Nat → Option (Rx × Nat)) : Prop := ∀ i t j, G i = some (t, j) → Good t (3 * (j - i))
theorem atom_good {s : ByteArray} {G : Nat → Option (Rx × Nat)} (hA : Ahead G) (hG : GoodG G) {i j : Nat} {t : Rx} (h : atom (txt8 s) 42 G i = some (t, j)) : Good t (3 * (j - i)) := by
  have lt := atom_lt hA h
  unfold atom at h
  split at h
  · exact (hG _ _ _ h).mono (by omega)
  · split at h
    · exact (class_good h).mono (by omega)
    · split at h
      · injection h with h; injection h with h1 h2; rw [← h1]; exact (set_good (neg_fits _)).mono (by omega)
      · split at h
        · cases h
        · injection h with h; injection h with h1 h2; rw [← h1]; exact (set_good (put_fits none4_fits _)).mono (by omega)
theorem factor_good {s : ByteArray} {G : Nat → Option (Rx × Nat)} (hA : Ahead G) (hG : GoodG G) {i j : Nat} {t : Rx} (h : factor (txt8 s) 42 G i = some (t, j)) : Good t (3 * (j - i)) := by
  unfold factor at h
  split at h
  · cases h
  · rename_i x k h1
    have l1 := atom_lt hA h1
    have g1 := atom_good hA hG h1
    split at h
    · injection h with h; injection h with h2 h3; rw [← h2, ← h3]; exact (rep_good g1 (by simp)).mono (by omega)
    · split at h
      · injection h with h; injection h with h2 h3; rw [← h2, ← h3]; exact (rep_good g1 (by simp)).mono (by omega)
      · split at h
        · injection h with h; injection h with h2 h3; rw [← h2, ← h3]; exact (rep_good g1 (by simp)).mono (by omega)
        · injection h with h; injection h with h2 h3; rw [← h2, ← h3]; exact g1
theorem way_good {s : ByteArray} {G : Nat → Option (Rx × Nat)} (hA : Ahead G) (hG : GoodG G) {t : Rx} : ∀ {m : Nat} {l : List Rx} {i j n : Nat}, GoodL l n → way (txt8 s) 42 G m l i = some (t, j) → Good t (n + 3 * (j - i) + 1)
  | 0, l, i, j, n, _, h => by cases h
  | m + 1, l, i, j, n, hl, h => by
    rw [way] at h
    split at h
    · injection h with h; injection h with h1 h2; rw [← h1]; exact (hl.joined (.inl rfl)).mono (by omega)
    · split at h
      · cases h
      · rename_i x k h1
        have l1 := factor_lt hA h1
        have g1 := factor_good hA hG h1
        have l2 := way_le hA (m := m) h
        exact (way_good hA hG (m := m) (hl.app g1) h).mono (by omega)
theorem ways_good {s : ByteArray} {G : Nat → Option (Rx × Nat)} (hA : Ahead G) (hG : GoodG G) {t : Rx} : ∀ {m : Nat} {l : List Rx} {i j n : Nat}, GoodL l n → Pz.ways (txt8 s) 42 G m l i = some (t, j) → Good t (n + 3 * (j - i) + 2)
  | 0, l, i, j, n, _, h => by cases h
  | m + 1, l, i, j, n, hl, h => by
    rw [Pz.ways] at h
    split at h
    · cases h
    · rename_i x k h1
      have l1 := way_le hA h1
      have g1 := way_good hA hG GoodL.nil h1
      split at h
      · have l2 := ways_le hA (m := m) h
        exact (ways_good hA hG (m := m) (hl.app g1) h).mono (by omega)
      · injection h with h; injection h with h2 h3
        rw [← h2, ← h3]
        exact ((hl.app g1).joined (.inr ⟨rfl, by simp⟩)).mono (by omega)
theorem group_good {s : ByteArray} : ∀ D, GoodG (group (txt8 s) 42 D)
  | 0 => fun i t j h => by cases h
  | D + 1 => fun i t j h => by
    rw [group] at h
    split at h
    · cases h
    · rename_i x k h1
      have l1 := ways_le (group_le (s := s) D) h1
      have g1 := ways_good (group_le (s := s) D) (group_good D) GoodL.nil h1
      split at h
      · injection h with h; injection h with h2 h3; rw [← h2, ← h3]; exact g1.mono (by omega)
      · cases h
theorem pk_is {s : ByteArray} {i c : Nat} (h : pk (txt8 s) i = c) (hc : c ≠ 256) : i + 1 ≤ s.size := pk_in (by rw [h]; exact hc)
theorem items_in {s : ByteArray} : ∀ {m i j : Nat} {W V : Nat → Nat}, items (txt8 s) m W i = some (V, j) → j ≤ s.size
  | 0, i, j, W, V, h => by cases h
  | m + 1, i, j, W, V, h => by
    by_cases h9 : pk (txt8 s) i = 93
    · rw [items, if_pos h9] at h; have := pk_is h9 (by omega); simp at h; omega
    · rw [items_step h9] at h
      cases hq : item (txt8 s) i with
      | none => rw [hq] at h; cases h
      | some q =>
        obtain ⟨lo, hi, k⟩ := q
        rw [hq] at h
        exact items_in (m := m) h
theorem class_in {s : ByteArray} {i j : Nat} {t : Rx} (h : class1 (txt8 s) 42 i = some (t, j)) : j ≤ s.size := by
  rw [class_eq _ _ _ _ _ rfl rfl] at h
  generalize (if pk (txt8 s) i = 94 then i + 1 else i) = i2 at h
  cases hq : item (txt8 s) i2 with
  | none => rw [hq] at h; cases h
  | some q =>
    obtain ⟨lo, hi, k⟩ := q
    rw [hq] at h
    simp only [cont] at h
    cases hc : items (txt8 s) 42 (join none4 (span none4 lo (hi + 1 - lo))) k with
    | none => rw [hc] at h; cases h
    | some p =>
      obtain ⟨V, m⟩ := p
      rw [hc] at h
      have := items_in hc
      simp [clsOf] at h
      omega
/-- No part ends behind the text. -/
def InG (s : ByteArray) (G : Nat → Option (Rx × Nat)) : Prop := ∀ i t j, G i = some (t, j) → j ≤ s.size
theorem atom_in {s : ByteArray} {G : Nat → Option (Rx × Nat)} (hG : InG s G) {i j : Nat} {t : Rx} (h : atom (txt8 s) 42 G i = some (t, j)) : j ≤ s.size := by
  unfold atom at h
  split at h
  · exact hG _ _ _ h
  · split at h
    · exact class_in h
    · split at h
      · rename_i h46
        have := pk_is h46 (by omega)
        simp at h; omega
      · split at h
        · cases h
        · rename_i c j' h1
          have := byte1_lt h1
          simp at h; omega
theorem factor_in {s : ByteArray} {G : Nat → Option (Rx × Nat)} (hG : InG s G) {i j : Nat} {t : Rx} (h : factor (txt8 s) 42 G i = some (t, j)) : j ≤ s.size := by
  unfold factor at h
  split at h
  · cases h
  · rename_i x k h1
    have := atom_in hG h1
    split at h
    · rename_i h2; have := pk_is h2 (by omega); simp at h; omega
    · split at h
      · rename_i h2; have := pk_is h2 (by omega); simp at h; omega
      · split at h
        · rename_i h2; have := pk_is h2 (by omega); simp at h; omega
        · simp at h; omega
theorem way_in {s : ByteArray} {G : Nat → Option (Rx × Nat)} (hG : InG s G) {t : Rx} : ∀ {m : Nat} {l : List Rx} {i j : Nat}, i ≤ s.size → way (txt8 s) 42 G m l i = some (t, j) → j ≤ s.size
  | 0, l, i, j, _, h => by cases h
  | m + 1, l, i, j, hi, h => by
    rw [way] at h
    split at h
    · simp at h; omega
    · split at h
      · cases h
      · rename_i x k h1
        exact way_in hG (m := m) (factor_in hG h1) h
theorem ways_in {s : ByteArray} {G : Nat → Option (Rx × Nat)} (hG : InG s G) {t : Rx} : ∀ {m : Nat} {l : List Rx} {i j : Nat}, i ≤ s.size → Pz.ways (txt8 s) 42 G m l i = some (t, j) → j ≤ s.size
  | 0, l, i, j, _, h => by cases h
  | m + 1, l, i, j, hi, h => by
    rw [Pz.ways] at h
    split at h
    · cases h
    · rename_i x k h1
      have := way_in hG hi h1
      split at h
      · rename_i h2
        exact ways_in hG (m := m) (pk_is h2 (by omega)) h
      · simp at h; omega
theorem group_in {s : ByteArray} : ∀ D, InG s (group (txt8 s) 42 D)
  | 0 => fun i t j h => by cases h
  | D + 1 => fun i t j h => by
    rw [group] at h
    split at h
    · cases h
    · rename_i x k h1
      split at h
      · rename_i h2; have := pk_is h2 (by omega); simp at h; omega
      · cases h
theorem parse_good {s : ByteArray} {t : Rx} (h : parse (txt8 s) = some t) : Good t 1000 := by
  unfold parse at h
  split at h
  · cases h
  · split at h
    · cases h
    · rename_i h0 _ x k h1
      rw [txt8_len] at h0 h
      have g1 := ways_good (group_le (s := s) 8) (group_good 8) GoodL.nil h1
      split at h
      · cases h
      · injection h with h
        rw [← h]
        have := ways_in (group_in (s := s) 8) (by omega) h1
        exact g1.mono (by omega)

end Go.Proofs.Ytjnikeiboefnbaa
