/-
  Plain mathematics of chapter 7's consequences: what was made of a pattern matches just what its tree does; two patterns in brackets; one text within another. No conditions.
-/
import Derived.Test.YtonfmbnankihbaaDoorZ15
import Derived.Test.YtonfmbnankihbaaDoorZ21
import Derived.Test.YtonfmbnankihbaaDoorZ12
import Derived.Test.YtonfmbnankihbaaDoorZ34
namespace Go.Proofs.YtonfmbnankihbaaDoor
open Pz Sc

/-- What a tree's program matches. -/
theorem vMatch_made {t : Rx} (h : Rx.made t = true) (S : List Nat) : vMatch (Rx.progL t) S = true ↔ Rx.mt S t 0 S.length := by
  have e0 : Rx.progL t = progOf t := by unfold Rx.progL; rw [if_pos h]
  rw [e0, vMatch_iff, acc_iff (Rx.size_yes h).1]
  exact ⟨fun h => h.2, fun h2 => ⟨prog_ok (Rx.size_yes h).2.1, h2⟩⟩
theorem vMatch_nil (S : List Nat) : vMatch [] S = false := by
  cases h : vMatch [] S
  · rfl
  · have := (vMatch_iff [] S).1 h; exact absurd this.1 (by decide)
theorem ends_mem {t : Rx} (hr : Rx.isRex t = true) (S : List Nat) : S.length ∈ ends S t 0 ↔ Rx.mt S t 0 S.length := by
  unfold ends
  rw [if_pos ⟨hr, by omega, by omega⟩]
  unfold endsTo
  rw [List.mem_filter, List.mem_range]
  obtain ⟨h1, h2⟩ := Rx.aft_says S t
  rw [h2 (fun j => j == (0 : Int).toNat) S.length (Nat.le_refl _)]
  constructor
  · rintro ⟨_, i, _, h3, h4⟩
    have : i = 0 := by simpa using h3
    rw [this] at h4; exact h4
  · intro h
    exact ⟨by omega, 0, by omega, by simp, h⟩
/-- The last one of what rises. -/
theorem ends_last {t : Rx} (hr : Rx.isRex t = true) (S : List Nat) : (0 < (ends S t 0).length ∧ (ends S t 0).getD ((ends S t 0).length - 1) 0 = S.length) ↔ S.length ∈ ends S t 0 := by
  unfold ends
  rw [if_pos ⟨hr, by omega, by omega⟩]
  unfold endsTo
  rw [List.range_succ, List.filter_append]
  cases hb : Rx.aft S t (fun j => j == (0 : Int).toNat) S.length
  · have e : [S.length].filter (Rx.aft S t fun j => j == (0 : Int).toNat) = [] := by simp only [List.filter_cons, hb, List.filter_nil]; rfl
    rw [e, List.append_nil]
    have no : ∀ x, x ∈ (List.range S.length).filter (Rx.aft S t fun j => j == (0 : Int).toNat) → x < S.length := fun x hx => by rw [List.mem_filter, List.mem_range] at hx; exact hx.1
    generalize (List.range S.length).filter (Rx.aft S t fun j => j == (0 : Int).toNat) = l at *
    constructor
    · rintro ⟨h1, h2⟩
      have hx : l.getD (l.length - 1) 0 ∈ l := by
        rw [List.getD, List.getElem?_eq_getElem (by omega), Option.getD_some]; exact List.getElem_mem _
      have := no _ hx
      omega
    · intro h
      have := no _ h; omega
  · have e : [S.length].filter (Rx.aft S t fun j => j == (0 : Int).toNat) = [S.length] := by simp only [List.filter_cons, hb, List.filter_nil]; rfl
    rw [e]
    generalize (List.range S.length).filter (Rx.aft S t fun j => j == (0 : Int).toNat) = l
    constructor
    · intro _; simp
    · intro _
      refine ⟨by simp, ?_⟩
      rw [List.length_append, List.length_singleton, Nat.add_sub_cancel, List.getD, List.getElem?_append_right (Nat.le_refl _), Nat.sub_self]
      rfl

namespace Rx
/-- A match of a text that lies within another one. -/
theorem Star.map {R R' : Nat → Nat → Prop} {k : Nat} (h : ∀ i j, R i j → R' (k + i) (k + j)) {i j : Nat} (hs : Star R i j) : Star R' (k + i) (k + j) := by
  induction hs with
  | refl => exact .refl _
  | tail _ r ih => exact .tail ih (h _ _ r)
mutual
theorem mt_shift {S U : List Nat} {k : Nat} (hS : ∀ i, i < S.length → k + i < U.length ∧ U.getD (k + i) 0 = S.getD i 0) : ∀ (t : Rx) (i j : Nat), mt S t i j → mt U t (k + i) (k + j)
  | .mk op a b c d ks, i, j, h => by
    rw [mt] at h ⊢
    split at h
    · rw [if_pos (by assumption)]
      obtain ⟨h1, h2, h3⟩ := h
      obtain ⟨h4, h5⟩ := hS i h1
      exact ⟨h4, by omega, by rw [h5]; exact h3⟩
    · rw [if_neg (by assumption)]
      split at h
      · rw [if_pos (by assumption)]; exact mtSeq_shift hS ks i j h
      · rw [if_neg (by assumption)]
        split at h
        · rw [if_pos (by assumption)]; exact mtAlt_shift hS ks i j h
        · rw [if_neg (by assumption)]
          split at h
          · rw [if_pos (by assumption)]
            rcases h with h | h
            · exact .inl (by omega)
            · exact .inr (mtHd_shift hS ks i j h)
          · rw [if_neg (by assumption)]
            split at h
            · rw [if_pos (by assumption)]
              obtain ⟨m, h1, h2⟩ := h
              exact ⟨k + m, mtHd_shift hS ks i m h1, h2.map (mtHd_shift hS ks)⟩
            · rw [if_neg (by assumption)]
              exact h.map (mtHd_shift hS ks)
theorem mtSeq_shift {S U : List Nat} {k : Nat} (hS : ∀ i, i < S.length → k + i < U.length ∧ U.getD (k + i) 0 = S.getD i 0) : ∀ (ks : List Rx) (i j : Nat), mtSeq S ks i j → mtSeq U ks (k + i) (k + j)
  | [], i, j, h => by rw [mtSeq] at h ⊢; omega
  | x :: r, i, j, h => by
    rw [mtSeq] at h ⊢
    obtain ⟨m, h1, h2⟩ := h
    exact ⟨k + m, mt_shift hS x i m h1, mtSeq_shift hS r m j h2⟩
theorem mtAlt_shift {S U : List Nat} {k : Nat} (hS : ∀ i, i < S.length → k + i < U.length ∧ U.getD (k + i) 0 = S.getD i 0) : ∀ (ks : List Rx) (i j : Nat), mtAlt S ks i j → mtAlt U ks (k + i) (k + j)
  | [], i, j, h => by rw [mtAlt] at h; exact absurd h id
  | x :: r, i, j, h => by
    rw [mtAlt] at h ⊢
    rcases h with h | h
    · exact .inl (mt_shift hS x i j h)
    · exact .inr (mtAlt_shift hS r i j h)
theorem mtHd_shift {S U : List Nat} {k : Nat} (hS : ∀ i, i < S.length → k + i < U.length ∧ U.getD (k + i) 0 = S.getD i 0) : ∀ (ks : List Rx) (i j : Nat), mtHd S ks i j → mtHd U ks (k + i) (k + j)
  | [], i, j, h => by rw [mtHd] at h; exact absurd h id
  | x :: r, i, j, h => by rw [mtHd] at h ⊢; exact mt_shift hS x i j h
end
/-- Two matches, one behind the other. -/
theorem mt_twice {t : Rx} {S T : List Nat} (h1 : mt S t 0 S.length) (h2 : mt T t 0 T.length) : mt (S ++ T) (.mk 4 0 0 0 0 [t]) 0 (S ++ T).length := by
  have a := mt_shift (S := S) (U := S ++ T) (k := 0) (fun i hi => ⟨by rw [List.length_append]; omega, by rw [Nat.zero_add, List.getD, List.getD, List.getElem?_append_left hi]⟩) t 0 S.length h1
  have b := mt_shift (S := T) (U := S ++ T) (k := S.length) (fun i hi => ⟨by rw [List.length_append]; omega, by rw [List.getD, List.getD, List.getElem?_append_right (by omega), Nat.add_sub_cancel_left]⟩) t 0 T.length h2
  rw [Sc.mt4]
  rw [Nat.zero_add, Nat.zero_add] at a
  rw [Nat.add_zero] at b
  rw [List.length_append]
  exact .tail (.tail (.refl 0) a) b
end Rx

namespace Pz
/-- A text lies in another one, a closing bracket behind it. -/
structure Emb (S U : List Nat) (k : Nat) : Prop where
  at_ : ∀ i, i < S.length → pk U (k + i) = pk S i
  end_ : pk U (k + S.length) = 41
  byte : ∀ i, i < S.length → pk S i ≠ 256
theorem pk_out {S : List Nat} {i : Nat} (h : S.length ≤ i) : pk S i = 256 := by unfold pk; rw [List.getD, List.getElem?_eq_none h]; rfl
theorem pk_lt2 {S : List Nat} {i : Nat} (h : pk S i ≠ 256) : i < S.length := by
  rcases Nat.lt_or_ge i S.length with h1 | h1
  · exact h1
  · exact absurd (pk_out h1) h
theorem Emb.is {S U : List Nat} {k : Nat} (h : Emb S U k) {i c : Nat} (hi : i ≤ S.length) (h1 : c ≠ 256) (h2 : c ≠ 41) : pk U (k + i) = c ↔ pk S i = c := by
  rcases Nat.lt_or_ge i S.length with h3 | h3
  · rw [h.at_ i h3]
  · obtain rfl : i = S.length := by omega
    rw [h.end_, pk_out (Nat.le_refl _)]
    omega
theorem byte1_emb {S U : List Nat} {k : Nat} (h : Emb S U k) {but : Nat → Bool} {i c j : Nat} (hb : byte1 S but i = some (c, j)) : i < S.length ∧ j ≤ S.length ∧ byte1 U but (k + i) = some (c, k + j) := by
  unfold byte1 at hb ⊢
  split at hb
  · rename_i h9
    have hi : i < S.length := pk_lt2 (by omega)
    rw [h.at_ i hi, if_pos h9]
    split at hb
    · rename_i hq
      have hi1 : i + 1 < S.length := pk_lt2 (by intro e; rw [e] at hq; simp [quotable, special] at hq)
      have e := h.at_ (i + 1) hi1
      rw [← Nat.add_assoc] at e
      rw [e, if_pos hq]
      simp only [Option.some.injEq, Prod.mk.injEq] at hb ⊢
      exact ⟨hi, by omega, hb.1, by omega⟩
    · cases hb
  · rename_i h9
    split at hb
    · cases hb
    · rename_i hq
      have hi : i < S.length := pk_lt2 (fun e => hq (.inl e))
      rw [h.at_ i hi, if_neg h9, if_neg hq]
      simp only [Option.some.injEq, Prod.mk.injEq] at hb ⊢
      exact ⟨hi, by omega, hb.1, by omega⟩
theorem item_emb {S U : List Nat} {k : Nat} (h : Emb S U k) {i lo hi j : Nat} (hb : item S i = some (lo, hi, j)) : i < S.length ∧ j ≤ S.length ∧ item U (k + i) = some (lo, hi, k + j) := by
  unfold item at hb ⊢
  split at hb
  · cases hb
  · rename_i lo' m h1
    obtain ⟨hi1, hm, e⟩ := byte1_emb h h1
    rw [e]
    simp only
    split at hb
    · rename_i h45
      rw [if_pos ((h.is hm (by omega) (by omega)).2 h45)]
      split at hb
      · cases hb
      · rename_i hi' m2 h2
        obtain ⟨_, hm2, e2⟩ := byte1_emb h h2
        rw [Nat.add_assoc, e2]
        simp only
        split at hb
        · cases hb
        · rename_i h3
          rw [if_neg h3]
          simp only [Option.some.injEq, Prod.mk.injEq] at hb ⊢
          exact ⟨hi1, by omega, hb.1, hb.2.1, by omega⟩
    · rename_i h45
      rw [if_neg (fun e => h45 ((h.is hm (by omega) (by omega)).1 e))]
      simp only [Option.some.injEq, Prod.mk.injEq] at hb ⊢
      exact ⟨hi1, by omega, hb.1, hb.2.1, by omega⟩
theorem items_emb {S U : List Nat} {k : Nat} (h : Emb S U k) : ∀ {n i j : Nat} {W V : Nat → Nat}, items S n W i = some (V, j) → j ≤ S.length ∧ items U n W (k + i) = some (V, k + j)
  | 0, i, j, W, V, hb => by rw [items] at hb; cases hb
  | n + 1, i, j, W, V, hb => by
    rw [items] at hb ⊢
    split at hb
    · rename_i h9
      have hi : i < S.length := pk_lt2 (by omega)
      rw [h.at_ i hi, if_pos h9]
      simp only [Option.some.injEq, Prod.mk.injEq] at hb ⊢
      exact ⟨by omega, hb.1, by omega⟩
    · rename_i h9
      split at hb
      · cases hb
      · rename_i lo hi m h1
        obtain ⟨hi1, hm, e⟩ := item_emb h h1
        rw [h.at_ i hi1, if_neg h9, e]
        exact items_emb h hb
theorem class1_emb {S U : List Nat} {k : Nat} (h : Emb S U k) {n i j : Nat} {t : Rx} (hb : class1 S n i = some (t, j)) : j ≤ S.length ∧ class1 U n (k + i) = some (t, k + j) := by
  have hi : i < S.length := by
    unfold class1 at hb
    simp only at hb
    split at hb
    · cases hb
    · rename_i lo hi m h1
      have := (item_emb h h1).1
      split at this <;> omega
  have e94 : pk U (k + i) = pk S i := h.at_ i hi
  unfold class1 at hb ⊢
  simp only at hb ⊢
  rw [e94]
  have ej : (if pk S i = 94 then k + i + 1 else k + i) = k + (if pk S i = 94 then i + 1 else i) := by split <;> omega
  rw [ej]
  split at hb
  · cases hb
  · rename_i lo hi m h1
    obtain ⟨_, hm, e⟩ := item_emb h h1
    rw [e]
    simp only
    split at hb
    · cases hb
    · rename_i W m2 h2
      obtain ⟨h3, e3⟩ := items_emb h h2
      rw [e3]
      simp only [Option.some.injEq, Prod.mk.injEq] at hb ⊢
      exact ⟨by omega, hb.1, by omega⟩
/-- What one reads the other one reads. -/
def RelG (S : List Nat) (k : Nat) (G G' : Nat → Option (Rx × Nat)) : Prop := ∀ i t j, i ≤ S.length → G i = some (t, j) → j ≤ S.length ∧ G' (k + i) = some (t, k + j)
theorem atom_emb {S U : List Nat} {k : Nat} (h : Emb S U k) {G G' : Nat → Option (Rx × Nat)} (hG : RelG S k G G') {n i j : Nat} {t : Rx} (hb : atom S n G i = some (t, j)) : i < S.length ∧ j ≤ S.length ∧ atom U n G' (k + i) = some (t, k + j) := by
  unfold atom at hb ⊢
  split at hb
  · rename_i h1
    have hi : i < S.length := pk_lt2 (by omega)
    rw [h.at_ i hi, if_pos h1]
    obtain ⟨h2, h3⟩ := hG _ _ _ (by omega) hb
    exact ⟨hi, h2, h3⟩
  · rename_i h1
    split at hb
    · rename_i h2
      have hi : i < S.length := pk_lt2 (by omega)
      rw [h.at_ i hi, if_neg h1, if_pos h2]
      obtain ⟨h3, h4⟩ := class1_emb h hb
      exact ⟨hi, h3, h4⟩
    · rename_i h2
      split at hb
      · rename_i h3
        have hi : i < S.length := pk_lt2 (by omega)
        rw [h.at_ i hi, if_neg h1, if_neg h2, if_pos h3]
        simp only [Option.some.injEq, Prod.mk.injEq] at hb ⊢
        exact ⟨hi, by omega, hb.1, by omega⟩
      · rename_i h3
        split at hb
        · cases hb
        · rename_i c m h4
          obtain ⟨hi, hm, e⟩ := byte1_emb h h4
          rw [h.at_ i hi, if_neg h1, if_neg h2, if_neg h3, e]
          simp only [Option.some.injEq, Prod.mk.injEq] at hb ⊢
          exact ⟨hi, by omega, hb.1, by omega⟩
theorem factor_emb {S U : List Nat} {k : Nat} (h : Emb S U k) {G G' : Nat → Option (Rx × Nat)} (hG : RelG S k G G') {n i j : Nat} {t : Rx} (hb : factor S n G i = some (t, j)) : i < S.length ∧ j ≤ S.length ∧ factor U n G' (k + i) = some (t, k + j) := by
  unfold factor at hb ⊢
  split at hb
  · cases hb
  · rename_i x m h1
    obtain ⟨hi, hm, e⟩ := atom_emb h hG h1
    rw [e]
    simp only
    split at hb
    · rename_i h2
      have := pk_lt2 (S := S) (i := m) (by omega)
      rw [if_pos ((h.is hm (by omega) (by omega)).2 h2)]
      simp only [Option.some.injEq, Prod.mk.injEq] at hb ⊢
      exact ⟨hi, by omega, hb.1, by omega⟩
    · rename_i h2
      rw [if_neg (fun e => h2 ((h.is hm (by omega) (by omega)).1 e))]
      split at hb
      · rename_i h3
        have := pk_lt2 (S := S) (i := m) (by omega)
        rw [if_pos ((h.is hm (by omega) (by omega)).2 h3)]
        simp only [Option.some.injEq, Prod.mk.injEq] at hb ⊢
        exact ⟨hi, by omega, hb.1, by omega⟩
      · rename_i h3
        rw [if_neg (fun e => h3 ((h.is hm (by omega) (by omega)).1 e))]
        split at hb
        · rename_i h4
          have := pk_lt2 (S := S) (i := m) (by omega)
          rw [if_pos ((h.is hm (by omega) (by omega)).2 h4)]
          simp only [Option.some.injEq, Prod.mk.injEq] at hb ⊢
          exact ⟨hi, by omega, hb.1, by omega⟩
        · rename_i h4
          rw [if_neg (fun e => h4 ((h.is hm (by omega) (by omega)).1 e))]
          simp only [Option.some.injEq, Prod.mk.injEq] at hb ⊢
          exact ⟨hi, by omega, hb.1, by omega⟩
theorem way_emb {S U : List Nat} {k : Nat} (h : Emb S U k) {G G' : Nat → Option (Rx × Nat)} (hG : RelG S k G G') {n : Nat} {t : Rx} : ∀ {m : Nat} {l : List Rx} {i j : Nat}, i ≤ S.length → way S n G m l i = some (t, j) → j ≤ S.length ∧ way U n G' m l (k + i) = some (t, k + j)
  | 0, l, i, j, hi, hb => by rw [way] at hb; cases hb
  | m + 1, l, i, j, hi, hb => by
    rw [way] at hb ⊢
    have he : (pk U (k + i) = 256 ∨ pk U (k + i) = 124 ∨ pk U (k + i) = 41) ↔ (pk S i = 256 ∨ pk S i = 124 ∨ pk S i = 41) := by
      rcases Nat.lt_or_ge i S.length with h3 | h3
      · rw [h.at_ i h3]
      · obtain rfl : i = S.length := by omega
        rw [h.end_, pk_out (Nat.le_refl _)]
        simp
    split at hb
    · rename_i h1
      rw [if_pos (he.2 h1)]
      simp only [Option.some.injEq, Prod.mk.injEq] at hb ⊢
      exact ⟨by omega, hb.1, by omega⟩
    · rename_i h1
      rw [if_neg (fun e => h1 (he.1 e))]
      split at hb
      · cases hb
      · rename_i x m2 h2
        obtain ⟨_, hm, e⟩ := factor_emb h hG h2
        rw [e]
        exact way_emb h hG hm hb
theorem ways_emb {S U : List Nat} {k : Nat} (h : Emb S U k) {G G' : Nat → Option (Rx × Nat)} (hG : RelG S k G G') {n : Nat} {t : Rx} : ∀ {m : Nat} {l : List Rx} {i j : Nat}, i ≤ S.length → ways S n G m l i = some (t, j) → j ≤ S.length ∧ ways U n G' m l (k + i) = some (t, k + j)
  | 0, l, i, j, hi, hb => by rw [ways] at hb; cases hb
  | m + 1, l, i, j, hi, hb => by
    rw [ways] at hb ⊢
    split at hb
    · cases hb
    · rename_i x m2 h2
      obtain ⟨hm, e⟩ := way_emb h hG hi h2
      rw [e]
      simp only
      split at hb
      · rename_i h3
        have := pk_lt2 (S := S) (i := m2) (by omega)
        rw [if_pos ((h.is hm (by omega) (by omega)).2 h3)]
        have := ways_emb h hG (i := m2 + 1) (by omega) hb
        rw [← Nat.add_assoc] at this
        exact this
      · rename_i h3
        rw [if_neg (fun e => h3 ((h.is hm (by omega) (by omega)).1 e))]
        simp only [Option.some.injEq, Prod.mk.injEq] at hb ⊢
        exact ⟨by omega, hb.1, by omega⟩
theorem group_emb {S U : List Nat} {k : Nat} (h : Emb S U k) {n : Nat} : ∀ d, RelG S k (group S n d) (group U n d)
  | 0 => fun i t j _ hb => by rw [group] at hb; cases hb
  | d + 1 => fun i t j hi hb => by
    rw [group] at hb ⊢
    split at hb
    · cases hb
    · rename_i x m h1
      obtain ⟨hm, e⟩ := ways_emb h (group_emb h d) hi h1
      rw [e]
      simp only
      split at hb
      · rename_i h2
        have hl := pk_lt2 (S := S) (i := m) (by omega)
        rw [h.at_ m hl, if_pos h2]
        simp only [Option.some.injEq, Prod.mk.injEq] at hb ⊢
        exact ⟨by omega, hb.1, by omega⟩
      · cases hb
/-- What is read with few groups in one another is read with more. -/
def LeG (G G' : Nat → Option (Rx × Nat)) : Prop := ∀ i r, G i = some r → G' i = some r
theorem atom_le {S : List Nat} {n : Nat} {G G' : Nat → Option (Rx × Nat)} (hG : LeG G G') : LeG (atom S n G) (atom S n G') := fun i r hb => by
  unfold atom at hb ⊢
  split at hb
  · rw [if_pos (by assumption)]; exact hG _ _ hb
  · rw [if_neg (by assumption)]; exact hb
theorem factor_le {S : List Nat} {n : Nat} {G G' : Nat → Option (Rx × Nat)} (hG : LeG G G') : LeG (factor S n G) (factor S n G') := fun i r hb => by
  unfold factor at hb ⊢
  split at hb
  · cases hb
  · rename_i x m h1
    rw [atom_le hG _ _ h1]; exact hb
theorem way_le {S : List Nat} {n : Nat} {G G' : Nat → Option (Rx × Nat)} (hG : LeG G G') : ∀ m l, LeG (way S n G m l) (way S n G' m l)
  | 0, l => fun i r hb => by rw [way] at hb; cases hb
  | m + 1, l => fun i r hb => by
    rw [way] at hb ⊢
    split at hb
    · rw [if_pos (by assumption)]; exact hb
    · rw [if_neg (by assumption)]
      split at hb
      · cases hb
      · rename_i x m2 h1
        rw [factor_le hG _ _ h1]; exact way_le hG m _ _ _ hb
theorem ways_le {S : List Nat} {n : Nat} {G G' : Nat → Option (Rx × Nat)} (hG : LeG G G') : ∀ m l, LeG (ways S n G m l) (ways S n G' m l)
  | 0, l => fun i r hb => by rw [ways] at hb; cases hb
  | m + 1, l => fun i r hb => by
    rw [ways] at hb ⊢
    split at hb
    · cases hb
    · rename_i x m2 h1
      rw [way_le hG n _ _ _ h1]
      simp only
      split at hb
      · rw [if_pos (by assumption)]; exact ways_le hG m _ _ _ hb
      · rw [if_neg (by assumption)]; exact hb
theorem group_le (S : List Nat) (n : Nat) : ∀ d, LeG (group S n d) (group S n (d + 1))
  | 0 => fun i r hb => by rw [group] at hb; cases hb
  | d + 1 => fun i r hb => by
    rw [group] at hb ⊢
    split at hb
    · cases hb
    · rename_i x m h1
      rw [ways_le (group_le S n d) _ _ _ _ h1]; exact hb
theorem parse_ways {S : List Nat} {t : Rx} (h : parse S = some t) : ∃ j, ways S 42 (group S 42 8) 42 [] 0 = some (t, j) ∧ S.length ≤ j := by
  unfold parse at h
  split at h
  · cases h
  · split at h
    · cases h
    · rename_i x j h1
      split at h
      · cases h
      · rename_i h2
        simp only [Option.some.injEq] at h
        subst h
        exact ⟨j, h1, by omega⟩
/-- A pattern in brackets, as a group. -/
theorem group_is {S U : List Nat} {k : Nat} (h : Emb S U k) {t : Rx} (hp : parse S = some t) {r : Rx × Nat} (hg : group U 42 8 k = some r) : r = (t, k + S.length + 1) := by
  obtain ⟨j, h1, h2⟩ := parse_ways hp
  obtain ⟨h3, h4⟩ := ways_emb h (group_emb h 8) (Nat.zero_le _) h1
  obtain rfl : j = S.length := by omega
  have hg' : group U 42 (7 + 1) k = some r := hg
  rw [group] at hg'
  split at hg'
  · cases hg'
  · rename_i x m h5
    have h6 := ways_le (group_le U 42 7) _ _ _ _ h5
    rw [Nat.add_zero] at h4
    have h7 : ways U 42 (group U 42 (7 + 1)) 42 [] k = some (t, k + S.length) := h4
    rw [h7] at h6
    simp only [Option.some.injEq, Prod.mk.injEq] at h6
    obtain ⟨rfl, rfl⟩ := h6
    rw [if_pos h.end_] at hg'
    simp only [Option.some.injEq] at hg'
    exact hg'.symm
/-- A way that is a pattern in brackets. -/
theorem way_group {S U : List Nat} {k m : Nat} (h : Emb S U (k + 1)) (h0 : pk U k = 40) {t : Rx} (hp : parse S = some t) (he : pk U (k + S.length + 2) = 256 ∨ pk U (k + S.length + 2) = 124) {r : Rx × Nat} (hw : way U 42 (group U 42 8) (m + 2) [] k = some r) : r = (t, k + S.length + 2) := by
  rw [way, if_neg (by omega)] at hw
  split at hw
  · cases hw
  · rename_i x j h1
    unfold factor at h1
    split at h1
    · cases h1
    · rename_i y j2 h2
      unfold atom at h2
      rw [if_pos h0] at h2
      have h3 := group_is h hp h2
      simp only [Prod.mk.injEq] at h3
      obtain ⟨rfl, rfl⟩ := h3
      have e : k + 1 + S.length + 1 = k + S.length + 2 := by omega
      rw [e, if_neg (by omega), if_neg (by omega), if_neg (by omega)] at h1
      simp only [Option.some.injEq, Prod.mk.injEq] at h1
      obtain ⟨rfl, rfl⟩ := h1
      rw [way, if_pos (by rcases he with he | he; exact .inl he; exact .inr (.inl he))] at hw
      simp only [Option.some.injEq] at hw
      exact hw.symm
/-- A way that is a pattern in brackets, repeated. -/
theorem way_star {S U : List Nat} {k m : Nat} (h : Emb S U (k + 1)) (h0 : pk U k = 40) {t : Rx} (hp : parse S = some t) (h42 : pk U (k + S.length + 2) = 42) (he : pk U (k + S.length + 3) = 256) {r : Rx × Nat} (hw : way U 42 (group U 42 8) (m + 2) [] k = some r) : r = (rep 4 t, k + S.length + 3) := by
  rw [way, if_neg (by omega)] at hw
  split at hw
  · cases hw
  · rename_i x j h1
    unfold factor at h1
    split at h1
    · cases h1
    · rename_i y j2 h2
      unfold atom at h2
      rw [if_pos h0] at h2
      have h3 := group_is h hp h2
      simp only [Prod.mk.injEq] at h3
      obtain ⟨rfl, rfl⟩ := h3
      have e : k + 1 + S.length + 1 = k + S.length + 2 := by omega
      rw [e, if_pos h42] at h1
      simp only [Option.some.injEq, Prod.mk.injEq] at h1
      obtain ⟨rfl, rfl⟩ := h1
      rw [way, if_pos (.inl he)] at hw
      simp only [Option.some.injEq] at hw
      exact hw.symm
theorem pk_app_left {A B : List Nat} {i : Nat} (h : i < A.length) : pk (A ++ B) i = pk A i := by unfold pk; rw [List.getD, List.getD, List.getElem?_append_left h]
theorem pk_app_right {A B : List Nat} {i : Nat} : pk (A ++ B) (A.length + i) = pk B i := by unfold pk; rw [List.getD, List.getD, List.getElem?_append_right (by omega), Nat.add_sub_cancel_left]
theorem emb_app (A S B : List Nat) (hS : ∀ x ∈ S, x < 256) : Emb S (A ++ S ++ 41 :: B) A.length := by
  refine ⟨fun i hi => ?_, ?_, fun i hi => ?_⟩
  · rw [pk_app_left (by rw [List.length_append]; omega), pk_app_right]
  · have := pk_app_right (A := A ++ S) (B := 41 :: B) (i := 0)
    rw [List.length_append, Nat.add_zero] at this
    rw [this]; rfl
  · have := hS S[i] (List.getElem_mem hi)
    unfold pk; rw [List.getD, List.getElem?_eq_getElem hi, Option.getD_some]; omega
/-- Two patterns in brackets with a bar between. -/
theorem parse_two {P Q : List Nat} {t x y : Rx} (hP : ∀ c ∈ P, c < 256) (hQ : ∀ c ∈ Q, c < 256) (hx : parse P = some x) (hy : parse Q = some y) (h : parse ([40] ++ P ++ [41, 124, 40] ++ Q ++ [41]) = some t) : t = .mk 3 0 0 0 0 [x, y] := by
  obtain ⟨j, h1, _⟩ := parse_ways h
  clear h
  have e1 : [40] ++ P ++ [41, 124, 40] ++ Q ++ [41] = [40] ++ P ++ 41 :: ([124, 40] ++ Q ++ [41]) := by simp
  have e2 : [40] ++ P ++ [41, 124, 40] ++ Q ++ [41] = ([40] ++ P ++ [41, 124, 40]) ++ Q ++ 41 :: [] := by simp
  have E1 := emb_app [40] P ([124, 40] ++ Q ++ [41]) hP
  have E2 := emb_app ([40] ++ P ++ [41, 124, 40]) Q [] hQ
  rw [← e1] at E1
  rw [← e2] at E2
  have p0 : pk ([40] ++ P ++ [41, 124, 40] ++ Q ++ [41]) 0 = 40 := rfl
  have p1 : pk ([40] ++ P ++ [41, 124, 40] ++ Q ++ [41]) (P.length + 2) = 124 := by
    have := pk_app_right (A := [40] ++ P ++ [41]) (B := [124, 40] ++ Q ++ [41]) (i := 0)
    rw [show (([40] ++ P ++ [41] : List Nat)).length + 0 = P.length + 2 by simp] at this
    rw [show [40] ++ P ++ [41, 124, 40] ++ Q ++ [41] = ([40] ++ P ++ [41]) ++ ([124, 40] ++ Q ++ [41]) by simp, this]; rfl
  have p2 : pk ([40] ++ P ++ [41, 124, 40] ++ Q ++ [41]) (P.length + 3) = 40 := by
    have := pk_app_right (A := [40] ++ P ++ [41, 124]) (B := [40] ++ Q ++ [41]) (i := 0)
    rw [show (([40] ++ P ++ [41, 124] : List Nat)).length + 0 = P.length + 3 by simp] at this
    rw [show [40] ++ P ++ [41, 124, 40] ++ Q ++ [41] = ([40] ++ P ++ [41, 124]) ++ ([40] ++ Q ++ [41]) by simp, this]; rfl
  have p3 : pk ([40] ++ P ++ [41, 124, 40] ++ Q ++ [41]) (P.length + 3 + Q.length + 2) = 256 := pk_out (by simp; omega)
  have l2 : ([40] ++ P ++ [41, 124, 40]).length = P.length + 3 + 1 := by simp
  rw [l2] at E2
  generalize [40] ++ P ++ [41, 124, 40] ++ Q ++ [41] = U at *
  have h1' : ways U 42 (group U 42 8) (40 + 1 + 1) [] 0 = some (t, j) := h1
  rw [ways] at h1'
  split at h1'
  · cases h1'
  · rename_i z m h2
    have := way_group (S := P) (k := 0) (m := 40) E1 p0 hx (.inr (by rw [Nat.zero_add]; exact p1)) h2
    rw [Nat.zero_add] at this
    simp only [Prod.mk.injEq] at this
    obtain ⟨rfl, rfl⟩ := this
    rw [if_pos p1, ways] at h1'
    split at h1'
    · cases h1'
    · rename_i z2 m2 h3
      have := way_group (S := Q) (k := P.length + 3) (m := 40) E2 p2 hy (.inl p3) h3
      simp only [Prod.mk.injEq] at this
      obtain ⟨rfl, rfl⟩ := this
      rw [if_neg (by rw [p3]; omega)] at h1'
      simp only [Option.some.injEq, Prod.mk.injEq] at h1'
      exact h1'.1.symm
/-- A pattern in brackets, repeated. -/
theorem parse_star {P : List Nat} {t x : Rx} (hP : ∀ c ∈ P, c < 256) (hx : parse P = some x) (h : parse ([40] ++ P ++ [41, 42]) = some t) : t = .mk 4 0 0 0 0 [x] := by
  obtain ⟨j, h1, _⟩ := parse_ways h
  clear h
  have e1 : [40] ++ P ++ [41, 42] = [40] ++ P ++ 41 :: [42] := by simp
  have E1 := emb_app [40] P [42] hP
  rw [← e1] at E1
  have p0 : pk ([40] ++ P ++ [41, 42]) 0 = 40 := rfl
  have p1 : pk ([40] ++ P ++ [41, 42]) (P.length + 2) = 42 := by
    have := pk_app_right (A := [40] ++ P ++ [41]) (B := [42]) (i := 0)
    rw [show (([40] ++ P ++ [41] : List Nat)).length + 0 = P.length + 2 by simp] at this
    rw [show [40] ++ P ++ [41, 42] = ([40] ++ P ++ [41]) ++ [42] by simp, this]; rfl
  have p3 : pk ([40] ++ P ++ [41, 42]) (P.length + 3) = 256 := pk_out (by simp)
  generalize [40] ++ P ++ [41, 42] = U at *
  have h1' : ways U 42 (group U 42 8) (40 + 1 + 1) [] 0 = some (t, j) := h1
  rw [ways] at h1'
  split at h1'
  · cases h1'
  · rename_i z m h2
    have := way_star (S := P) (k := 0) (m := 40) E1 p0 hx (by rw [Nat.zero_add]; exact p1) (by rw [Nat.zero_add]; exact p3) h2
    rw [Nat.zero_add] at this
    simp only [Prod.mk.injEq] at this
    obtain ⟨rfl, rfl⟩ := this
    rw [if_neg (by rw [p3]; omega)] at h1'
    simp only [Option.some.injEq, Prod.mk.injEq] at h1'
    exact h1'.1.symm
end Pz
end Go.Proofs.YtonfmbnankihbaaDoor
