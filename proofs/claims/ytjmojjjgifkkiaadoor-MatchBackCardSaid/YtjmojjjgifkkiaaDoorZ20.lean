/-
  Plain mathematics of chapter 7's consequences: what was made of a pattern matches just what its tree does; two patterns in brackets; one text within another. No conditions.
  Plain mathematics of the program's way through a text: a new part says what is so ahead of any byte; read byte by byte it tells where matches end. No conditions.
  Parts that are made of a tree, kid by kid, in new blocks. No conditions.
  What the reference's Takes tells: does a tree match a text whole? Conditions: at most 1000 nodes, 100 places; words have 64 bits.
  What the program's Ends does: the places at which a match of a tree may end, in order; none of what may not be. Conditions: at most 1000 nodes, 100 places; words have 64 bits.
-/
import Derived.Test.YtjmojjjgifkkiaaDoorProg
import Derived.Test.YtjmojjjgifkkiaaDoorZ01
import Derived.Test.YtjmojjjgifkkiaaDoorZ02
import Derived.Test.YtjmojjjgifkkiaaDoorZ03
import Derived.Test.YtjmojjjgifkkiaaDoorZ04
import Derived.Test.YtjmojjjgifkkiaaDoorZ06
import Derived.Test.YtjmojjjgifkkiaaDoorZ05
import Derived.Test.YtjmojjjgifkkiaaDoorZ11
import Derived.Test.YtjmojjjgifkkiaaDoorZ08
import Derived.Test.YtjmojjjgifkkiaaDoorZ09
import Derived.Test.YtjmojjjgifkkiaaDoorZ12
import Derived.Test.YtjmojjjgifkkiaaDoorZ15
import Derived.Test.YtjmojjjgifkkiaaDoorZ17
import Derived.Test.YtjmojjjgifkkiaaDoorZ18
import Derived.Test.YtjmojjjgifkkiaaDoorZ19
import Derived.Test.YtjmojjjgifkkiaaDoorZ10
import Derived.Deep.QuietTactic
import Derived.Laws.MakeOwn
import Derived.Laws.OwnMore
import Derived.OwnWalk
import Derived.WalkKit
import Derived.WalkSpells
import Derived.WalkLawsBesides
import Derived.Lib.Hide
import Derived.Below
import Derived.BigQuiet
import Derived.Lib.QuietBelow
import Derived.Laws.StructEq
import Derived.KernelRfl
import Derived.Laws.AppendOwn
import Derived.Lib.Bytealg
import Derived.Laws.Externs
import Derived.Deep.RegionHeld3
import Derived.Deep.Cut
import Derived.StillTailTactics
import Derived.Maps.AppendAt
import Derived.Laws.ResultCell
import Derived.Deep.MidRow
import Derived.Deep.Upon
import Derived.Deep.LoopGhost
import Derived.Laws.CopyOwn
namespace Go.Proofs.YtjmojjjgifkkiaaDoor
open Pz Sc

/-- What a tree's program matches. -/
theorem vMatch_made {t : Rx} (h : Rx.made t = true) (S : List Nat) : vMatch (Rx.progL t) S = true ↔ Rx.mt S t 0 S.length := by
  have e0 : Rx.progL t = progOf t := by unfold Rx.progL; rw [if_pos h]
  rw [e0, vMatch_iff, acc_iff (Rx.size_yes h).1]
  exact ⟨fun h => h.2, fun h2 => ⟨prog_ok (Rx.size_yes h).2.1, h2⟩⟩
theorem vMatch_nil (S : List Nat) : vMatch [] S = false := by
  cases h : vMatch [] S
  · rfl
  · have := (vMatch_iff [] S).1 h; exact absurd this.1 (by decide)
theorem ends_mem {t : Rx} (hr : Rx.isRex t = true) (S : List Nat) : S.length ∈ ends S t 0 ↔ Rx.mt S t 0 S.length := by
  unfold ends
  rw [if_pos ⟨hr, by omega, by omega⟩]
  unfold endsTo
  rw [List.mem_filter, List.mem_range]
  obtain ⟨h1, h2⟩ := Rx.aft_says S t
  rw [h2 (fun j => j == (0 : Int).toNat) S.length (Nat.le_refl _)]
  constructor
  · rintro ⟨_, i, _, h3, h4⟩
    have : i = 0 := by simpa using h3
    rw [this] at h4; exact h4
  · intro h
    exact ⟨by omega, 0, by omega, by simp, h⟩
/-- The last one of what rises. -/
theorem ends_last {t : Rx} (hr : Rx.isRex t = true) (S : List Nat) : (0 < (ends S t 0).length ∧ (ends S t 0).getD ((ends S t 0).length - 1) 0 = S.length) ↔ S.length ∈ ends S t 0 := by
  unfold ends
  rw [if_pos ⟨hr, by omega, by omega⟩]
  unfold endsTo
  rw [List.range_succ, List.filter_append]
  cases hb : Rx.aft S t (fun j => j == (0 : Int).toNat) S.length
  · have e : [S.length].filter (Rx.aft S t fun j => j == (0 : Int).toNat) = [] := by simp only [List.filter_cons, hb, List.filter_nil]; rfl
    rw [e, List.append_nil]
    have no : ∀ x, x ∈ (List.range S.length).filter (Rx.aft S t fun j => j == (0 : Int).toNat) → x < S.length := fun x hx => by rw [List.mem_filter, List.mem_range] at hx; exact hx.1
    generalize (List.range S.length).filter (Rx.aft S t fun j => j == (0 : Int).toNat) = l at *
    constructor
    · rintro ⟨h1, h2⟩
      have hx : l.getD (l.length - 1) 0 ∈ l := by
        rw [List.getD, List.getElem?_eq_getElem (by omega), Option.getD_some]; exact List.getElem_mem _
      have := no _ hx
      omega
    · intro h
      have := no _ h; omega
  · have e : [S.length].filter (Rx.aft S t fun j => j == (0 : Int).toNat) = [S.length] := by simp only [List.filter_cons, hb, List.filter_nil]; rfl
    rw [e]
    generalize (List.range S.length).filter (Rx.aft S t fun j => j == (0 : Int).toNat) = l
    constructor
    · intro _; simp
    · intro _
      refine ⟨by simp, ?_⟩
      rw [List.length_append, List.length_singleton, Nat.add_sub_cancel, List.getD, List.getElem?_append_right (Nat.le_refl _), Nat.sub_self]
      rfl

namespace Rx
/-- A match of a text that lies within another one. -/
theorem Star.map {R R' : Nat → Nat → Prop} {k : Nat} (h : ∀ i j, R i j → R' (k + i) (k + j)) {i j : Nat} (hs : Star R i j) : Star R' (k + i) (k + j) := by
  induction hs with
  | refl => exact .refl _
  | tail _ r ih => exact .tail ih (h _ _ r)
mutual
theorem mt_shift {S U : List Nat} {k : Nat} (hS : ∀ i, i < S.length → k + i < U.length ∧ U.getD (k + i) 0 = S.getD i 0) : ∀ (t : Rx) (i j : Nat), mt S t i j → mt U t (k + i) (k + j)
  | .mk op a b c d ks, i, j, h => by
    rw [mt] at h ⊢
    split at h
    · rw [if_pos (by assumption)]
      obtain ⟨h1, h2, h3⟩ := h
      obtain ⟨h4, h5⟩ := hS i h1
      exact ⟨h4, by omega, by rw [h5]; exact h3⟩
    · rw [if_neg (by assumption)]
      split at h
      · rw [if_pos (by assumption)]; exact mtSeq_shift hS ks i j h
      · rw [if_neg (by assumption)]
        split at h
        · rw [if_pos (by assumption)]; exact mtAlt_shift hS ks i j h
        · rw [if_neg (by assumption)]
          split at h
          · rw [if_pos (by assumption)]
            rcases h with h | h
            · exact .inl (by omega)
            · exact .inr (mtHd_shift hS ks i j h)
          · rw [if_neg (by assumption)]
            split at h
            · rw [if_pos (by assumption)]
              obtain ⟨m, h1, h2⟩ := h
              exact ⟨k + m, mtHd_shift hS ks i m h1, h2.map (mtHd_shift hS ks)⟩
            · rw [if_neg (by assumption)]
              exact h.map (mtHd_shift hS ks)
theorem mtSeq_shift {S U : List Nat} {k : Nat} (hS : ∀ i, i < S.length → k + i < U.length ∧ U.getD (k + i) 0 = S.getD i 0) : ∀ (ks : List Rx) (i j : Nat), mtSeq S ks i j → mtSeq U ks (k + i) (k + j)
  | [], i, j, h => by rw [mtSeq] at h ⊢; omega
  | x :: r, i, j, h => by
    rw [mtSeq] at h ⊢
    obtain ⟨m, h1, h2⟩ := h
    exact ⟨k + m, mt_shift hS x i m h1, mtSeq_shift hS r m j h2⟩
theorem mtAlt_shift {S U : List Nat} {k : Nat} (hS : ∀ i, i < S.length → k + i < U.length ∧ U.getD (k + i) 0 = S.getD i 0) : ∀ (ks : List Rx) (i j : Nat), mtAlt S ks i j → mtAlt U ks (k + i) (k + j)
  | [], i, j, h => by rw [mtAlt] at h; exact absurd h id
  | x :: r, i, j, h => by
    rw [mtAlt] at h ⊢
    rcases h with h | h
    · exact .inl (mt_shift hS x i j h)
    · exact .inr (mtAlt_shift hS r i j h)
theorem mtHd_shift {S U : List Nat} {k : Nat} (hS : ∀ i, i < S.length → k + i < U.length ∧ U.getD (k + i) 0 = S.getD i 0) : ∀ (ks : List Rx) (i j : Nat), mtHd S ks i j → mtHd U ks (k + i) (k + j)
  | [], i, j, h => by rw [mtHd] at h; exact absurd h id
  | x :: r, i, j, h => by rw [mtHd] at h ⊢; exact mt_shift hS x i j h
end
/-- Two matches, one behind the other. -/
theorem mt_twice {t : Rx} {S T : List Nat} (h1 : mt S t 0 S.length) (h2 : mt T t 0 T.length) : mt (S ++ T) (.mk 4 0 0 0 0 [t]) 0 (S ++ T).length := by
  have a := mt_shift (S := S) (U := S ++ T) (k := 0) (fun i hi => ⟨by rw [List.length_append]; omega, by rw [Nat.zero_add, List.getD, List.getD, List.getElem?_append_left hi]⟩) t 0 S.length h1
  have b := mt_shift (S := T) (U := S ++ T) (k := S.length) (fun i hi => ⟨by rw [List.length_append]; omega, by rw [List.getD, List.getD, List.getElem?_append_right (by omega), Nat.add_sub_cancel_left]⟩) t 0 T.length h2
  rw [Sc.mt4]
  rw [Nat.zero_add, Nat.zero_add] at a
  rw [Nat.add_zero] at b
  rw [List.length_append]
  exact .tail (.tail (.refl 0) a) b
end Rx

namespace Pz
/-- A text lies in another one, a closing bracket behind it. -/
structure Emb (S U : List Nat) (k : Nat) : Prop where
  at_ : ∀ i, i < S.length → pk U (k + i) = pk S i
  end_ : pk U (k + S.length) = 41
  byte : ∀ i, i < S.length → pk S i ≠ 256
theorem pk_out {S : List Nat} {i : Nat} (h : S.length ≤ i) : pk S i = 256 := by unfold pk; rw [List.getD, List.getElem?_eq_none h]; rfl
theorem pk_lt2 {S : List Nat} {i : Nat} (h : pk S i ≠ 256) : i < S.length := by
  rcases Nat.lt_or_ge i S.length with h1 | h1
  · exact h1
  · exact absurd (pk_out h1) h
theorem Emb.is {S U : List Nat} {k : Nat} (h : Emb S U k) {i c : Nat} (hi : i ≤ S.length) (h1 : c ≠ 256) (h2 : c ≠ 41) : pk U (k + i) = c ↔ pk S i = c := by
  rcases Nat.lt_or_ge i S.length with h3 | h3
  · rw [h.at_ i h3]
  · obtain rfl : i = S.length := by omega
    rw [h.end_, pk_out (Nat.le_refl _)]
    omega
theorem byte1_emb {S U : List Nat} {k : Nat} (h : Emb S U k) {but : Nat → Bool} {i c j : Nat} (hb : byte1 S but i = some (c, j)) : i < S.length ∧ j ≤ S.length ∧ byte1 U but (k + i) = some (c, k + j) := by
  unfold byte1 at hb ⊢
  split at hb
  · rename_i h9
    have hi : i < S.length := pk_lt2 (by omega)
    rw [h.at_ i hi, if_pos h9]
    split at hb
    · rename_i hq
      have hi1 : i + 1 < S.length := pk_lt2 (by intro e; rw [e] at hq; simp [quotable, special] at hq)
      have e := h.at_ (i + 1) hi1
      rw [← Nat.add_assoc] at e
      rw [e, if_pos hq]
      simp only [Option.some.injEq, Prod.mk.injEq] at hb ⊢
      exact ⟨hi, by omega, hb.1, by omega⟩
    · cases hb
  · rename_i h9
    split at hb
    · cases hb
    · rename_i hq
      have hi : i < S.length := pk_lt2 (fun e => hq (.inl e))
      rw [h.at_ i hi, if_neg h9, if_neg hq]
      simp only [Option.some.injEq, Prod.mk.injEq] at hb ⊢
      exact ⟨hi, by omega, hb.1, by omega⟩
theorem item_emb {S U : List Nat} {k : Nat} (h : Emb S U k) {i lo hi j : Nat} (hb : item S i = some (lo, hi, j)) : i < S.length ∧ j ≤ S.length ∧ item U (k + i) = some (lo, hi, k + j) := by
  unfold item at hb ⊢
  split at hb
  · cases hb
  · rename_i lo' m h1
    obtain ⟨hi1, hm, e⟩ := byte1_emb h h1
    rw [e]
    simp only
    split at hb
    · rename_i h45
      rw [if_pos ((h.is hm (by omega) (by omega)).2 h45)]
      split at hb
      · cases hb
      · rename_i hi' m2 h2
        obtain ⟨_, hm2, e2⟩ := byte1_emb h h2
        rw [Nat.add_assoc, e2]
        simp only
        split at hb
        · cases hb
        · rename_i h3
          rw [if_neg h3]
          simp only [Option.some.injEq, Prod.mk.injEq] at hb ⊢
          exact ⟨hi1, by omega, hb.1, hb.2.1, by omega⟩
    · rename_i h45
      rw [if_neg (fun e => h45 ((h.is hm (by omega) (by omega)).1 e))]
      simp only [Option.some.injEq, Prod.mk.injEq] at hb ⊢
      exact ⟨hi1, by omega, hb.1, hb.2.1, by omega⟩
theorem items_emb {S U : List Nat} {k : Nat} (h : Emb S U k) : ∀ {n i j : Nat} {W V : Nat → Nat}, items S n W i = some (V, j) → j ≤ S.length ∧ items U n W (k + i) = some (V, k + j)
  | 0, i, j, W, V, hb => by rw [items] at hb; cases hb
  | n + 1, i, j, W, V, hb => by
    rw [items] at hb ⊢
    split at hb
    · rename_i h9
      have hi : i < S.length := pk_lt2 (by omega)
      rw [h.at_ i hi, if_pos h9]
      simp only [Option.some.injEq, Prod.mk.injEq] at hb ⊢
      exact ⟨by omega, hb.1, by omega⟩
    · rename_i h9
      split at hb
      · cases hb
      · rename_i lo hi m h1
        obtain ⟨hi1, hm, e⟩ := item_emb h h1
        rw [h.at_ i hi1, if_neg h9, e]
        exact items_emb h hb
theorem class1_emb {S U : List Nat} {k : Nat} (h : Emb S U k) {n i j : Nat} {t : Rx} (hb : class1 S n i = some (t, j)) : j ≤ S.length ∧ class1 U n (k + i) = some (t, k + j) := by
  have hi : i < S.length := by
    unfold class1 at hb
    simp only at hb
    split at hb
    · cases hb
    · rename_i lo hi m h1
      have := (item_emb h h1).1
      split at this <;> omega
  have e94 : pk U (k + i) = pk S i := h.at_ i hi
  unfold class1 at hb ⊢
  simp only at hb ⊢
  rw [e94]
  have ej : (if pk S i = 94 then k + i + 1 else k + i) = k + (if pk S i = 94 then i + 1 else i) := by split <;> omega
  rw [ej]
  split at hb
  · cases hb
  · rename_i lo hi m h1
    obtain ⟨_, hm, e⟩ := item_emb h h1
    rw [e]
    simp only
    split at hb
    · cases hb
    · rename_i W m2 h2
      obtain ⟨h3, e3⟩ := items_emb h h2
      rw [e3]
      simp only [Option.some.injEq, Prod.mk.injEq] at hb ⊢
      exact ⟨by omega, hb.1, by omega⟩
/-- What one reads the other one reads. -/
def RelG (S : List Nat) (k : Nat) (G G' : Nat → Option (Rx × Nat)) : Prop := ∀ i t j, i ≤ S.length → G i = some (t, j) → j ≤ S.length ∧ G' (k + i) = some (t, k + j)
theorem atom_emb {S U : List Nat} {k : Nat} (h : Emb S U k) {G G' : Nat → Option (Rx × Nat)} (hG : RelG S k G G') {n i j : Nat} {t : Rx} (hb : atom S n G i = some (t, j)) : i < S.length ∧ j ≤ S.length ∧ atom U n G' (k + i) = some (t, k + j) := by
  unfold atom at hb ⊢
  split at hb
  · rename_i h1
    have hi : i < S.length := pk_lt2 (by omega)
    rw [h.at_ i hi, if_pos h1]
    obtain ⟨h2, h3⟩ := hG _ _ _ (by omega) hb
    exact ⟨hi, h2, h3⟩
  · rename_i h1
    split at hb
    · rename_i h2
      have hi : i < S.length := pk_lt2 (by omega)
      rw [h.at_ i hi, if_neg h1, if_pos h2]
      obtain ⟨h3, h4⟩ := class1_emb h hb
      exact ⟨hi, h3, h4⟩
    · rename_i h2
      split at hb
      · rename_i h3
        have hi : i < S.length := pk_lt2 (by omega)
        rw [h.at_ i hi, if_neg h1, if_neg h2, if_pos h3]
        simp only [Option.some.injEq, Prod.mk.injEq] at hb ⊢
        exact ⟨hi, by omega, hb.1, by omega⟩
      · rename_i h3
        split at hb
        · cases hb
        · rename_i c m h4
          obtain ⟨hi, hm, e⟩ := byte1_emb h h4
          rw [h.at_ i hi, if_neg h1, if_neg h2, if_neg h3, e]
          simp only [Option.some.injEq, Prod.mk.injEq] at hb ⊢
          exact ⟨hi, by omega, hb.1, by omega⟩
theorem factor_emb {S U : List Nat} {k : Nat} (h : Emb S U k) {G G' : Nat → Option (Rx × Nat)} (hG : RelG S k G G') {n i j : Nat} {t : Rx} (hb : factor S n G i = some (t, j)) : i < S.length ∧ j ≤ S.length ∧ factor U n G' (k + i) = some (t, k + j) := by
  unfold factor at hb ⊢
  split at hb
  · cases hb
  · rename_i x m h1
    obtain ⟨hi, hm, e⟩ := atom_emb h hG h1
    rw [e]
    simp only
    split at hb
    · rename_i h2
      have := pk_lt2 (S := S) (i := m) (by omega)
      rw [if_pos ((h.is hm (by omega) (by omega)).2 h2)]
      simp only [Option.some.injEq, Prod.mk.injEq] at hb ⊢
      exact ⟨hi, by omega, hb.1, by omega⟩
    · rename_i h2
      rw [if_neg (fun e => h2 ((h.is hm (by omega) (by omega)).1 e))]
      split at hb
      · rename_i h3
        have := pk_lt2 (S := S) (i := m) (by omega)
        rw [if_pos ((h.is hm (by omega) (by omega)).2 h3)]
        simp only [Option.some.injEq, Prod.mk.injEq] at hb ⊢
        exact ⟨hi, by omega, hb.1, by omega⟩
      · rename_i h3
        rw [if_neg (fun e => h3 ((h.is hm (by omega) (by omega)).1 e))]
        split at hb
        · rename_i h4
          have := pk_lt2 (S := S) (i := m) (by omega)
          rw [if_pos ((h.is hm (by omega) (by omega)).2 h4)]
          simp only [Option.some.injEq, Prod.mk.injEq] at hb ⊢
          exact ⟨hi, by omega, hb.1, by omega⟩
        · rename_i h4
          rw [if_neg (fun e => h4 ((h.is hm (by omega) (by omega)).1 e))]
          simp only [Option.some.injEq, Prod.mk.injEq] at hb ⊢
          exact ⟨hi, by omega, hb.1, by omega⟩
theorem way_emb {S U : List Nat} {k : Nat} (h : Emb S U k) {G G' : Nat → Option (Rx × Nat)} (hG : RelG S k G G') {n : Nat} {t : Rx} : ∀ {m : Nat} {l : List Rx} {i j : Nat}, i ≤ S.length → way S n G m l i = some (t, j) → j ≤ S.length ∧ way U n G' m l (k + i) = some (t, k + j)
  | 0, l, i, j, hi, hb => by rw [way] at hb; cases hb
  | m + 1, l, i, j, hi, hb => by
    rw [way] at hb ⊢
    have he : (pk U (k + i) = 256 ∨ pk U (k + i) = 124 ∨ pk U (k + i) = 41) ↔ (pk S i = 256 ∨ pk S i = 124 ∨ pk S i = 41) := by
      rcases Nat.lt_or_ge i S.length with h3 | h3
      · rw [h.at_ i h3]
      · obtain rfl : i = S.length := by omega
        rw [h.end_, pk_out (Nat.le_refl _)]
        simp
    split at hb
    · rename_i h1
      rw [if_pos (he.2 h1)]
      simp only [Option.some.injEq, Prod.mk.injEq] at hb ⊢
      exact ⟨by omega, hb.1, by omega⟩
    · rename_i h1
      rw [if_neg (fun e => h1 (he.1 e))]
      split at hb
      · cases hb
      · rename_i x m2 h2
        obtain ⟨_, hm, e⟩ := factor_emb h hG h2
        rw [e]
        exact way_emb h hG hm hb
theorem ways_emb {S U : List Nat} {k : Nat} (h : Emb S U k) {G G' : Nat → Option (Rx × Nat)} (hG : RelG S k G G') {n : Nat} {t : Rx} : ∀ {m : Nat} {l : List Rx} {i j : Nat}, i ≤ S.length → ways S n G m l i = some (t, j) → j ≤ S.length ∧ ways U n G' m l (k + i) = some (t, k + j)
  | 0, l, i, j, hi, hb => by rw [ways] at hb; cases hb
  | m + 1, l, i, j, hi, hb => by
    rw [ways] at hb ⊢
    split at hb
    · cases hb
    · rename_i x m2 h2
      obtain ⟨hm, e⟩ := way_emb h hG hi h2
      rw [e]
      simp only
      split at hb
      · rename_i h3
        have := pk_lt2 (S := S) (i := m2) (by omega)
        rw [if_pos ((h.is hm (by omega) (by omega)).2 h3)]
        have := ways_emb h hG (i := m2 + 1) (by omega) hb
        rw [← Nat.add_assoc] at this
        exact this
      · rename_i h3
        rw [if_neg (fun e => h3 ((h.is hm (by omega) (by omega)).1 e))]
        simp only [Option.some.injEq, Prod.mk.injEq] at hb ⊢
        exact ⟨by omega, hb.1, by omega⟩
theorem group_emb {S U : List Nat} {k : Nat} (h : Emb S U k) {n : Nat} : ∀ d, RelG S k (group S n d) (group U n d)
  | 0 => fun i t j _ hb => by rw [group] at hb; cases hb
  | d + 1 => fun i t j hi hb => by
    rw [group] at hb ⊢
    split at hb
    · cases hb
    · rename_i x m h1
      obtain ⟨hm, e⟩ := ways_emb h (group_emb h d) hi h1
      rw [e]
      simp only
      split at hb
      · rename_i h2
        have hl := pk_lt2 (S := S) (i := m) (by omega)
        rw [h.at_ m hl, if_pos h2]
        simp only [Option.some.injEq, Prod.mk.injEq] at hb ⊢
        exact ⟨by omega, hb.1, by omega⟩
      · cases hb
/-- What is read with few groups in one another is read with more. -/
def LeG (G G' : Nat → Option (Rx × Nat)) : Prop := ∀ i r, G i = some r → G' i = some r
theorem atom_le {S : List Nat} {n : Nat} {G G' : Nat → Option (Rx × Nat)} (hG : LeG G G') : LeG (atom S n G) (atom S n G') := fun i r hb => by
  unfold atom at hb ⊢
  split at hb
  · rw [if_pos (by assumption)]; exact hG _ _ hb
  · rw [if_neg (by assumption)]; exact hb
theorem factor_le {S : List Nat} {n : Nat} {G G' : Nat → Option (Rx × Nat)} (hG : LeG G G') : LeG (factor S n G) (factor S n G') := fun i r hb => by
  unfold factor at hb ⊢
  split at hb
  · cases hb
  · rename_i x m h1
    rw [atom_le hG _ _ h1]; exact hb
theorem way_le {S : List Nat} {n : Nat} {G G' : Nat → Option (Rx × Nat)} (hG : LeG G G') : ∀ m l, LeG (way S n G m l) (way S n G' m l)
  | 0, l => fun i r hb => by rw [way] at hb; cases hb
  | m + 1, l => fun i r hb => by
    rw [way] at hb ⊢
    split at hb
    · rw [if_pos (by assumption)]; exact hb
    · rw [if_neg (by assumption)]
      split at hb
      · cases hb
      · rename_i x m2 h1
        rw [factor_le hG _ _ h1]; exact way_le hG m _ _ _ hb
theorem ways_le {S : List Nat} {n : Nat} {G G' : Nat → Option (Rx × Nat)} (hG : LeG G G') : ∀ m l, LeG (ways S n G m l) (ways S n G' m l)
  | 0, l => fun i r hb => by rw [ways] at hb; cases hb
  | m + 1, l => fun i r hb => by
    rw [ways] at hb ⊢
    split at hb
    · cases hb
    · rename_i x m2 h1
      rw [way_le hG n _ _ _ h1]
      simp only
      split at hb
      · rw [if_pos (by assumption)]; exact ways_le hG m _ _ _ hb
      · rw [if_neg (by assumption)]; exact hb
theorem group_le (S : List Nat) (n : Nat) : ∀ d, LeG (group S n d) (group S n (d + 1))
  | 0 => fun i r hb => by rw [group] at hb; cases hb
  | d + 1 => fun i r hb => by
    rw [group] at hb ⊢
    split at hb
    · cases hb
    · rename_i x m h1
      rw [ways_le (group_le S n d) _ _ _ _ h1]; exact hb
theorem parse_ways {S : List Nat} {t : Rx} (h : parse S = some t) : ∃ j, ways S 42 (group S 42 8) 42 [] 0 = some (t, j) ∧ S.length ≤ j := by
  unfold parse at h
  split at h
  · cases h
  · split at h
    · cases h
    · rename_i x j h1
      split at h
      · cases h
      · rename_i h2
        simp only [Option.some.injEq] at h
        subst h
        exact ⟨j, h1, by omega⟩
/-- A pattern in brackets, as a group. -/
theorem group_is {S U : List Nat} {k : Nat} (h : Emb S U k) {t : Rx} (hp : parse S = some t) {r : Rx × Nat} (hg : group U 42 8 k = some r) : r = (t, k + S.length + 1) := by
  obtain ⟨j, h1, h2⟩ := parse_ways hp
  obtain ⟨h3, h4⟩ := ways_emb h (group_emb h 8) (Nat.zero_le _) h1
  obtain rfl : j = S.length := by omega
  have hg' : group U 42 (7 + 1) k = some r := hg
  rw [group] at hg'
  split at hg'
  · cases hg'
  · rename_i x m h5
    have h6 := ways_le (group_le U 42 7) _ _ _ _ h5
    rw [Nat.add_zero] at h4
    have h7 : ways U 42 (group U 42 (7 + 1)) 42 [] k = some (t, k + S.length) := h4
    rw [h7] at h6
    simp only [Option.some.injEq, Prod.mk.injEq] at h6
    obtain ⟨rfl, rfl⟩ := h6
    rw [if_pos h.end_] at hg'
    simp only [Option.some.injEq] at hg'
    exact hg'.symm
/-- A way that is a pattern in brackets. -/
theorem way_group {S U : List Nat} {k m : Nat} (h : Emb S U (k + 1)) (h0 : pk U k = 40) {t : Rx} (hp : parse S = some t) (he : pk U (k + S.length + 2) = 256 ∨ pk U (k + S.length + 2) = 124) {r : Rx × Nat} (hw : way U 42 (group U 42 8) (m + 2) [] k = some r) : r = (t, k + S.length + 2) := by
  rw [way, if_neg (by omega)] at hw
  split at hw
  · cases hw
  · rename_i x j h1
    unfold factor at h1
    split at h1
    · cases h1
    · rename_i y j2 h2
      unfold atom at h2
      rw [if_pos h0] at h2
      have h3 := group_is h hp h2
      simp only [Prod.mk.injEq] at h3
      obtain ⟨rfl, rfl⟩ := h3
      have e : k + 1 + S.length + 1 = k + S.length + 2 := by omega
      rw [e, if_neg (by omega), if_neg (by omega), if_neg (by omega)] at h1
      simp only [Option.some.injEq, Prod.mk.injEq] at h1
      obtain ⟨rfl, rfl⟩ := h1
      rw [way, if_pos (by rcases he with he | he; exact .inl he; exact .inr (.inl he))] at hw
      simp only [Option.some.injEq] at hw
      exact hw.symm
/-- A way that is a pattern in brackets, repeated. -/
theorem way_star {S U : List Nat} {k m : Nat} (h : Emb S U (k + 1)) (h0 : pk U k = 40) {t : Rx} (hp : parse S = some t) (h42 : pk U (k + S.length + 2) = 42) (he : pk U (k + S.length + 3) = 256) {r : Rx × Nat} (hw : way U 42 (group U 42 8) (m + 2) [] k = some r) : r = (rep 4 t, k + S.length + 3) := by
  rw [way, if_neg (by omega)] at hw
  split at hw
  · cases hw
  · rename_i x j h1
    unfold factor at h1
    split at h1
    · cases h1
    · rename_i y j2 h2
      unfold atom at h2
      rw [if_pos h0] at h2
      have h3 := group_is h hp h2
      simp only [Prod.mk.injEq] at h3
      obtain ⟨rfl, rfl⟩ := h3
      have e : k + 1 + S.length + 1 = k + S.length + 2 := by omega
      rw [e, if_pos h42] at h1
      simp only [Option.some.injEq, Prod.mk.injEq] at h1
      obtain ⟨rfl, rfl⟩ := h1
      rw [way, if_pos (.inl he)] at hw
      simp only [Option.some.injEq] at hw
      exact hw.symm
theorem pk_app_left {A B : List Nat} {i : Nat} (h : i < A.length) : pk (A ++ B) i = pk A i := by unfold pk; rw [List.getD, List.getD, List.getElem?_append_left h]
theorem pk_app_right {A B : List Nat} {i : Nat} : pk (A ++ B) (A.length + i) = pk B i := by unfold pk; rw [List.getD, List.getD, List.getElem?_append_right (by omega), Nat.add_sub_cancel_left]
theorem emb_app (A S B : List Nat) (hS : ∀ x ∈ S, x < 256) : Emb S (A ++ S ++ 41 :: B) A.length := by
  refine ⟨fun i hi => ?_, ?_, fun i hi => ?_⟩
  · rw [pk_app_left (by rw [List.length_append]; omega), pk_app_right]
  · have := pk_app_right (A := A ++ S) (B := 41 :: B) (i := 0)
    rw [List.length_append, Nat.add_zero] at this
    rw [this]; rfl
  · have := hS S[i] (List.getElem_mem hi)
    unfold pk; rw [List.getD, List.getElem?_eq_getElem hi, Option.getD_some]; omega
/-- Two patterns in brackets with a bar between. -/
theorem parse_two {P Q : List Nat} {t x y : Rx} (hP : ∀ c ∈ P, c < 256) (hQ : ∀ c ∈ Q, c < 256) (hx : parse P = some x) (hy : parse Q = some y) (h : parse ([40] ++ P ++ [41, 124, 40] ++ Q ++ [41]) = some t) : t = .mk 3 0 0 0 0 [x, y] := by
  obtain ⟨j, h1, _⟩ := parse_ways h
  clear h
  have e1 : [40] ++ P ++ [41, 124, 40] ++ Q ++ [41] = [40] ++ P ++ 41 :: ([124, 40] ++ Q ++ [41]) := by simp
  have e2 : [40] ++ P ++ [41, 124, 40] ++ Q ++ [41] = ([40] ++ P ++ [41, 124, 40]) ++ Q ++ 41 :: [] := by simp
  have E1 := emb_app [40] P ([124, 40] ++ Q ++ [41]) hP
  have E2 := emb_app ([40] ++ P ++ [41, 124, 40]) Q [] hQ
  rw [← e1] at E1
  rw [← e2] at E2
  have p0 : pk ([40] ++ P ++ [41, 124, 40] ++ Q ++ [41]) 0 = 40 := rfl
  have p1 : pk ([40] ++ P ++ [41, 124, 40] ++ Q ++ [41]) (P.length + 2) = 124 := by
    have := pk_app_right (A := [40] ++ P ++ [41]) (B := [124, 40] ++ Q ++ [41]) (i := 0)
    rw [show (([40] ++ P ++ [41] : List Nat)).length + 0 = P.length + 2 by simp] at this
    rw [show [40] ++ P ++ [41, 124, 40] ++ Q ++ [41] = ([40] ++ P ++ [41]) ++ ([124, 40] ++ Q ++ [41]) by simp, this]; rfl
  have p2 : pk ([40] ++ P ++ [41, 124, 40] ++ Q ++ [41]) (P.length + 3) = 40 := by
    have := pk_app_right (A := [40] ++ P ++ [41, 124]) (B := [40] ++ Q ++ [41]) (i := 0)
    rw [show (([40] ++ P ++ [41, 124] : List Nat)).length + 0 = P.length + 3 by simp] at this
    rw [show [40] ++ P ++ [41, 124, 40] ++ Q ++ [41] = ([40] ++ P ++ [41, 124]) ++ ([40] ++ Q ++ [41]) by simp, this]; rfl
  have p3 : pk ([40] ++ P ++ [41, 124, 40] ++ Q ++ [41]) (P.length + 3 + Q.length + 2) = 256 := pk_out (by simp; omega)
  have l2 : ([40] ++ P ++ [41, 124, 40]).length = P.length + 3 + 1 := by simp
  rw [l2] at E2
  generalize [40] ++ P ++ [41, 124, 40] ++ Q ++ [41] = U at *
  have h1' : ways U 42 (group U 42 8) (40 + 1 + 1) [] 0 = some (t, j) := h1
  rw [ways] at h1'
  split at h1'
  · cases h1'
  · rename_i z m h2
    have := way_group (S := P) (k := 0) (m := 40) E1 p0 hx (.inr (by rw [Nat.zero_add]; exact p1)) h2
    rw [Nat.zero_add] at this
    simp only [Prod.mk.injEq] at this
    obtain ⟨rfl, rfl⟩ := this
    rw [if_pos p1, ways] at h1'
    split at h1'
    · cases h1'
    · rename_i z2 m2 h3
      have := way_group (S := Q) (k := P.length + 3) (m := 40) E2 p2 hy (.inl p3) h3
      simp only [Prod.mk.injEq] at this
      obtain ⟨rfl, rfl⟩ := this
      rw [if_neg (by rw [p3]; omega)] at h1'
      simp only [Option.some.injEq, Prod.mk.injEq] at h1'
      exact h1'.1.symm
/-- A pattern in brackets, repeated. -/
theorem parse_star {P : List Nat} {t x : Rx} (hP : ∀ c ∈ P, c < 256) (hx : parse P = some x) (h : parse ([40] ++ P ++ [41, 42]) = some t) : t = .mk 4 0 0 0 0 [x] := by
  obtain ⟨j, h1, _⟩ := parse_ways h
  clear h
  have e1 : [40] ++ P ++ [41, 42] = [40] ++ P ++ 41 :: [42] := by simp
  have E1 := emb_app [40] P [42] hP
  rw [← e1] at E1
  have p0 : pk ([40] ++ P ++ [41, 42]) 0 = 40 := rfl
  have p1 : pk ([40] ++ P ++ [41, 42]) (P.length + 2) = 42 := by
    have := pk_app_right (A := [40] ++ P ++ [41]) (B := [42]) (i := 0)
    rw [show (([40] ++ P ++ [41] : List Nat)).length + 0 = P.length + 2 by simp] at this
    rw [show [40] ++ P ++ [41, 42] = ([40] ++ P ++ [41]) ++ [42] by simp, this]; rfl
  have p3 : pk ([40] ++ P ++ [41, 42]) (P.length + 3) = 256 := pk_out (by simp)
  generalize [40] ++ P ++ [41, 42] = U at *
  have h1' : ways U 42 (group U 42 8) (40 + 1 + 1) [] 0 = some (t, j) := h1
  rw [ways] at h1'
  split at h1'
  · cases h1'
  · rename_i z m h2
    have := way_star (S := P) (k := 0) (m := 40) E1 p0 hx (by rw [Nat.zero_add]; exact p1) (by rw [Nat.zero_add]; exact p3) h2
    rw [Nat.zero_add] at this
    simp only [Prod.mk.injEq] at this
    obtain ⟨rfl, rfl⟩ := this
    rw [if_neg (by rw [p3]; omega)] at h1'
    simp only [Option.some.injEq, Prod.mk.injEq] at h1'
    exact h1'.1.symm
end Pz

end Go.Proofs.YtjmojjjgifkkiaaDoor
namespace Go.Proofs.YtjmojjjgifkkiaaDoor
open Rx
namespace Pt
/-- May it be empty, by its kids? -/
def emOf (op : Int) (ks : List Pt) : Bool := if op = 4 ∨ op = 6 then true else if op = 2 then ks.countP em == ks.length else decide (0 < ks.countP em)
mutual
def emOk : Pt → Prop
  | .mk op _ _ _ _ _ em _ _ ks => em = emOf op ks ∧ emOkL ks
def emOkL : List Pt → Prop
  | [] => True
  | k :: r => emOk k ∧ emOkL r
end
variable {S : List Nat}
theorem emOk_em : ∀ {t : Pt}, emOk t → t.em = emOf t.op t.kids
  | .mk _ _ _ _ _ _ _ _ _ _, h => by rw [emOk] at h; exact h.1
mutual
theorem em_says : ∀ (t : Pt) (j : Nat), emOk t → isRex (sh t) = true → (t.em = true ↔ mt S (sh t) j j)
  | .mk op a b c d blk em l la ks, j, h, hr => by
    rw [sh, isRex] at hr
    rw [emOk] at h
    obtain ⟨h1, h2⟩ := h
    show em = true ↔ _
    rw [h1, emOf, sh]
    have QS := em_seq ks j h2
    have QA := em_alt ks j h2
    by_cases o1 : op = 1
    · subst o1
      rw [Rx.mt]
      simp only [if_true] at hr
      have e : ks = [] := by
        match ks, hr with
        | [], _ => rfl
        | _ :: _, hr => simp [shL] at hr
      subst e
      simp
    rw [if_neg o1] at hr
    simp only [Bool.and_eq_true] at hr
    obtain ⟨⟨hm, ha⟩, _⟩ := hr
    have QS := QS ha
    have QA := QA ha
    by_cases o4 : op = 4
    · subst o4
      have e2 : mt S (.mk 4 a b c d (shL ks)) = Star (mtHd S (shL ks)) := by funext i j; rw [Rx.mt]; simp
      rw [e2]
      simp [Star.refl j]
    by_cases o6 : op = 6
    · subst o6
      rw [Rx.mt]
      simp
    rw [if_neg (fun h => h.elim o4 o6)]
    by_cases o2 : op = 2
    · subst o2
      have e2 : mt S (.mk 2 a b c d (shL ks)) = mtSeq S (shL ks) := by funext i j; rw [Rx.mt]; simp
      rw [e2, if_pos rfl, ← QS]
      simp
    rw [if_neg o2]
    by_cases o3 : op = 3
    · subst o3
      have e2 : mt S (.mk 3 a b c d (shL ks)) = mtAlt S (shL ks) := by funext i j; rw [Rx.mt]; simp
      rw [e2, ← QA]
      simp
    · have o5 : op = 5 := by
        unfold may at hm
        simp [o2, o3, o4, o6] at hm
        exact hm.1
      subst o5
      have hl : (shL ks).length = 1 := by unfold may at hm; simpa using hm
      obtain ⟨k, rfl⟩ : ∃ k, ks = [k] := by
        match ks, hl with
        | [k], _ => exact ⟨k, rfl⟩
        | [], hl => simp [shL] at hl
        | _ :: _ :: _, hl => simp [shL] at hl
      have es : shL [k] = [sh k] := by rw [shL, shL]
      have e2 : mt S (.mk 5 a b c d (shL [k])) = fun i j => ∃ m, mt S (sh k) i m ∧ Star (mt S (sh k)) m j := by funext i j; rw [Rx.mt, es, hd_one]; simp
      rw [e2]
      rw [es] at QA
      simp only [mtAlt, or_false] at QA
      rw [decide_eq_true_eq, QA]
      constructor
      · intro q; exact ⟨j, q, .refl j⟩
      · rintro ⟨m, q1, q2⟩
        have a1 := mt_le _ q1
        have a2 := (Star.few (fun i j => mt_le (S := S) (sh k) (i := i) (j := j)) q2).1
        obtain rfl : m = j := by omega
        exact q1
theorem em_seq : ∀ (l : List Pt) (j : Nat), emOkL l → isAll (shL l) = true → (l.countP em = l.length ↔ mtSeq S (shL l) j j)
  | [], j, _, _ => by simp [shL, mtSeq]
  | k :: r, j, h, hr => by
    rw [emOkL] at h
    rw [shL, isAll, Bool.and_eq_true] at hr
    have h1 := em_says k j h.1 hr.1
    have h2 := em_seq r j h.2 hr.2
    have hle := List.countP_le_length (p := em) (l := r)
    rw [shL, List.countP_cons, List.length_cons]
    constructor
    · intro q
      by_cases e : k.em = true
      · rw [if_pos e] at q
        exact ⟨j, h1.1 e, h2.1 (by omega)⟩
      · rw [if_neg e] at q; omega
    · rintro ⟨m, q1, q2⟩
      have a1 := mt_le _ q1
      have a2 := seq_le _ q2
      obtain rfl : m = j := by omega
      rw [if_pos (h1.2 q1), h2.2 q2]
theorem em_alt : ∀ (l : List Pt) (j : Nat), emOkL l → isAll (shL l) = true → (0 < l.countP em ↔ mtAlt S (shL l) j j)
  | [], j, _, _ => by simp [shL, mtAlt]
  | k :: r, j, h, hr => by
    rw [emOkL] at h
    rw [shL, isAll, Bool.and_eq_true] at hr
    have h1 := em_says k j h.1 hr.1
    have h2 := em_alt r j h.2 hr.2
    rw [shL, List.countP_cons, mtAlt, ← h1, ← h2]
    constructor
    · intro q
      by_cases e : k.em = true
      · exact .inl e
      · rw [if_neg e] at q; exact .inr q
    · rintro (q | q)
      · rw [if_pos q]; omega
      · omega
end
mutual
theorem good_new : ∀ (t : Pt) (B : Nat → Prop) (i : Nat), emOk t → dead t → isRex (sh t) = true → (∀ b, b < i → ¬ B b) → good S t B i
  | .mk op a b c d blk em l la ks, B, i, h, hd, hr, hB => by
    have E := fun j => em_says (S := S) _ j h hr
    rw [sh] at E hr
    rw [emOk] at h
    rw [dead] at hd
    obtain ⟨_, rfl, hd⟩ := hd
    rw [good]
    refine ⟨E, ⟨fun q => absurd q (by decide), fun ⟨b', q1, q2, _⟩ => absurd q2 (hB b' q1)⟩, ?_⟩
    rw [isRex] at hr
    split
    · trivial
    · rename_i o1
      rw [if_neg o1] at hr
      simp only [Bool.and_eq_true] at hr
      split
      · exact goodSeq_new ks B i h.2 hd hr.1.2 hB
      · split
        · exact goodAll_new ks _ i h.2 hd hr.1.2 (fun b' q ⟨b1, q1, q2, _⟩ => hB b1 (by omega) q2)
        · exact goodAll_new ks _ i h.2 hd hr.1.2 hB
theorem goodAll_new : ∀ (l : List Pt) (B : Nat → Prop) (i : Nat), emOkL l → deadL l → isAll (shL l) = true → (∀ b, b < i → ¬ B b) → goodAll S l B i
  | [], _, _, _, _, _, _ => by rw [goodAll]; trivial
  | k :: r, B, i, h, hd, hr, hB => by
    rw [emOkL] at h
    rw [deadL] at hd
    rw [shL, isAll, Bool.and_eq_true] at hr
    rw [goodAll]
    exact ⟨good_new k B i h.1 hd.1 hr.1 hB, goodAll_new r B i h.2 hd.2 hr.2 hB⟩
theorem goodSeq_new : ∀ (l : List Pt) (B : Nat → Prop) (i : Nat), emOkL l → deadL l → isAll (shL l) = true → (∀ b, b < i → ¬ B b) → goodSeq S l B i
  | [], _, _, _, _, _, _ => by rw [goodSeq]; trivial
  | k :: r, B, i, h, hd, hr, hB => by
    rw [emOkL] at h
    rw [deadL] at hd
    rw [shL, isAll, Bool.and_eq_true] at hr
    rw [goodSeq]
    exact ⟨good_new k B i h.1 hd.1 hr.1 hB, goodSeq_new r _ i h.2 hd.2 hr.2 (fun b' q ⟨b1, q1, q2, _⟩ => hB b1 (by omega) q2)⟩
end
mutual
theorem dead_wf : ∀ (t : Pt), dead t → isRex (sh t) = true → wf t
  | .mk op a b c d blk em l la ks, h, hr => by
    rw [dead] at h
    rw [sh, isRex] at hr
    rw [wf]
    refine ⟨fun o => ?_, fun _ => h.2, ?_⟩
    · rw [if_pos o] at hr
      match ks, hr with
      | [], _ => rfl
      | _ :: _, hr => simp [shL] at hr
    · by_cases o : op = 1
      · rw [if_pos o] at hr
        match ks, hr with
        | [], _ => rw [wfL]; trivial
        | _ :: _, hr => simp [shL] at hr
      · rw [if_neg o] at hr
        simp only [Bool.and_eq_true] at hr
        exact dead_wfL ks h.2.2 hr.1.2
theorem dead_wfL : ∀ (l : List Pt), deadL l → isAll (shL l) = true → wfL l
  | [], _, _ => by rw [wfL]; trivial
  | k :: r, h, hr => by
    rw [deadL] at h
    rw [shL, isAll, Bool.and_eq_true] at hr
    rw [wfL]
    exact ⟨dead_wf k h.1 hr.1, dead_wfL r h.2 hr.2⟩
end
/-- Read from place p on, k bytes. -/
def rdTo (S : List Nat) (t : Pt) (p : Nat) : Nat → Pt
  | 0 => t
  | k + 1 => rd (S.getD (p + k) 0) (rdTo S t p k) (k == 0)
theorem sh_rdTo (t : Pt) (p : Nat) : ∀ k, sh (rdTo S t p k) = sh t
  | 0 => rfl
  | k + 1 => by rw [rdTo, sh_rd, sh_rdTo t p k]
theorem em_rdTo (t : Pt) (p : Nat) : ∀ k, (rdTo S t p k).em = t.em
  | 0 => rfl
  | k + 1 => by rw [rdTo, em_rd, em_rdTo t p k]
theorem bl_rdTo (t : Pt) (p : Nat) : ∀ k, bl (rdTo S t p k) = bl t
  | 0 => rfl
  | k + 1 => by rw [rdTo, bl_rd, bl_rdTo t p k]
theorem count_rdTo (t : Pt) (p : Nat) : ∀ k, count (rdTo S t p k) = count t
  | 0 => rfl
  | k + 1 => by rw [rdTo, count_rd, count_rdTo t p k]
theorem wf_rdTo {t : Pt} (p : Nat) (h : wf t) : ∀ k, wf (rdTo S t p k)
  | 0 => h
  | k + 1 => by rw [rdTo]; exact wf_rd _ _ _ (wf_rdTo p h k)
theorem good_rdTo {t : Pt} {p : Nat} (h : emOk t) (hd : dead t) (hr : isRex (sh t) = true) : ∀ k, p + k ≤ S.length → good S (rdTo S t p k) (fun j => j = p) (p + k)
  | 0, _ => good_new t _ _ h hd hr (fun b q e => by omega)
  | k + 1, hk => by
    rw [rdTo, ← Nat.add_assoc]
    refine good_rd (p + k) (by omega) _ _ _ (by rw [sh_rdTo]; exact hr) ?_ (good_rdTo h hd hr k (by omega))
    simp
theorem rdTo_la {t : Pt} {p k : Nat} (h : emOk t) (hd : dead t) (hr : isRex (sh t) = true) (hk : p + k ≤ S.length) (h0 : 0 < k) : (rdTo S t p k).la = true ↔ mt S (sh t) p (p + k) := by
  rw [good_la (good_rdTo h hd hr k hk), sh_rdTo]
  constructor
  · rintro ⟨b, _, rfl, q⟩; exact q
  · intro q; exact ⟨p, by omega, rfl, q⟩
theorem rdTo_dead {t : Pt} {p k : Nat} (hd : wf t) (h0 : 0 < k) (he : (rdTo S t p k).lv = false) : ∀ m, rdTo S t p (k + m) = rdTo S t p k
  | 0 => rfl
  | m + 1 => by
    rw [← Nat.add_assoc, rdTo, rdTo_dead hd h0 he m]
    have e : (k + m == 0) = false := by simp; omega
    rw [e]
    exact dead_rd _ _ (wf_rdTo p hd k) (wf_dead (wf_rdTo p hd k) he)
end Pt
theorem aft_mt {S : List Nat} {t : Rx} {p j : Nat} (hp : p ≤ S.length) (hj : j ≤ S.length) : aft S t (fun i => i == p) j = true ↔ mt S t p j := by
  rw [(aft_says S t).2 _ j hj]
  constructor
  · rintro ⟨i, _, e, q⟩
    have e2 : i = p := by simpa using e
    subst e2; exact q
  · intro q; exact ⟨p, hp, by simp, q⟩
theorem endsTo_front {S : List Nat} {t : Rx} {p : Nat} (hp : p ≤ S.length) : ∀ k, k ≤ p → endsTo S t p k = []
  | 0, _ => rfl
  | k + 1, hk => by
    rw [endsTo_no, endsTo_front hp k (by omega)]
    cases h : aft S t (fun j => j == p) k
    · rfl
    · have := Pt.mt_le _ ((aft_mt hp (by omega)).1 h); omega
theorem endsTo_stop {S : List Nat} {t : Rx} {p k : Nat} : ∀ m, (∀ j, k ≤ j → j < k + m → aft S t (fun i => i == p) j = false) → endsTo S t p (k + m) = endsTo S t p k
  | 0, _ => rfl
  | m + 1, h => by
    rw [← Nat.add_assoc, endsTo_no (h (k + m) (by omega) (by omega))]
    exact endsTo_stop m (fun j h1 h2 => h j h1 (by omega))

end Go.Proofs.YtjmojjjgifkkiaaDoor
namespace Go.Proofs.YtjmojjjgifkkiaaDoor
open Go.RowKit Go.Sort
open Pt

/-- The nine cells, as a value. -/
def val9 (t : Pt) : Value := .agg #[t.cell 0, t.cell 1, t.cell 2, t.cell 3, t.cell 4, t.cell 5, t.cell 6, t.cell 7, t.cell 8]
/-- A part that was made of a tree, in blocks from B on. -/
structure New (B : Nat) (x : Rx) (t : Pt) (w : World) : Prop where
  sh : sh t = x
  dead : dead t
  em : emOk t
  nodup : (bl t).Nodup
  low : ∀ b, b ∈ bl t → B ≤ b
  top : t.blk < w.heap.size
  free : ∀ i, w.frozen? ⟨t.blk, i, none⟩ = false
  kid : ∀ j, j < t.kids.length → Lay w t.blk (j * 9) (nth t.kids j)
def zero9 : Array Value := #[.int .i64 0, .int .u64 0, .int .u64 0, .int .u64 0, .int .u64 0, .slice none 0 0, .bool false, .bool false, .bool false]
theorem blL_snoc (t : Pt) : ∀ ts : List Pt, blL (ts ++ [t]) = blL ts ++ bl t
  | [] => by rw [List.nil_append, blL, blL, blL]; simp
  | k :: r => by rw [List.cons_append, blL, blL, blL_snoc t r, List.append_assoc]
theorem nth_snoc {ts : List Pt} {t : Pt} {j : Nat} : nth (ts ++ [t]) j = if j = ts.length then t else nth ts j := by
  unfold nth
  rw [List.getD_eq_getElem?_getD, List.getD_eq_getElem?_getD]
  by_cases e : j = ts.length
  · subst e; simp
  · rw [if_neg e]
    rcases Nat.lt_or_ge j ts.length with h | h
    · rw [List.getElem?_append_left h]
    · rw [List.getElem?_eq_none (by simp; omega), List.getElem?_eq_none (by omega)]
theorem mem_nth : ∀ {ks : List Pt} {k : Nat}, k ∈ blL ks → ∃ j, j < ks.length ∧ k ∈ bl (nth ks j)
  | [], k, hm => by rw [blL] at hm; cases hm
  | a :: r, k, hm => by
    rw [blL, List.mem_append] at hm
    rcases hm with hm | hm
    · exact ⟨0, by simp, hm⟩
    · obtain ⟨j, hj, hx⟩ := mem_nth hm
      exact ⟨j + 1, by simpa using hj, hx⟩
/-- What the loop of newPart keeps: the part itself in block gp, its first kids in block gk. -/
structure NInv (w2 : World) (gp gk N base : Nat) (V : Nat → Value) (ks : List Rx) (ts : List Pt) (k : Nat) (wr : World) : Prop where
  len : ts.length = k
  below : Below w2.heap.size w2 wr
  size : base ≤ wr.heap.size
  gpk : gp ≠ gk
  gkb : gk < base
  gpb : gp < base
  gpo : w2.heap.size ≤ gp
  gko : w2.heap.size ≤ gk
  pcell : ∀ i, i < 9 → wr.cell? ⟨gp, i, none⟩ = some (V i)
  pfree : ∀ i, wr.frozen? ⟨gp, i, none⟩ = false
  kcell : ∀ i, i < N * 9 → (wr.cell? ⟨gk, i, none⟩).isSome = true
  kfree : ∀ i, wr.frozen? ⟨gk, i, none⟩ = false
  kids : ∀ j, j < k → Lay wr gk (j * 9) (nth ts j)
  shp : ∀ j, j < k → sh (nth ts j) = Rx.nth ks j
  dead : ∀ j, j < k → dead (nth ts j)
  em : ∀ j, j < k → emOk (nth ts j)
  nodup : (blL ts).Nodup
  low : ∀ b, b ∈ blL ts → base ≤ b
  top : ∀ b, b ∈ blL ts → b < wr.heap.size
/-- What only grew. -/
theorem NInv.grown {w2 wr w' : World} {gp gk N base k : Nat} {V : Nat → Value} {ks : List Rx} {ts : List Pt} (I : NInv w2 gp gk N base V ks ts k wr) (h : Below wr.heap.size wr w') : NInv w2 gp gk N base V ks ts k w' := by
  have h1 := I.size
  have h2 := I.gpb
  have h3 := I.gkb
  have h4 := h.size
  exact { I with
    below := I.below.trans (h.mono I.below.size)
    size := by omega
    pcell := fun i hi => (h.cell (p := ⟨gp, i, none⟩) (by show gp < _; omega)).trans (I.pcell i hi)
    pfree := fun i => (h.frozen (p := ⟨gp, i, none⟩) (by show gp < _; omega)).trans (I.pfree i)
    kcell := fun i hi => by rw [h.cell (p := ⟨gk, i, none⟩) (by show gk < _; omega)]; exact I.kcell i hi
    kfree := fun i => (h.frozen (p := ⟨gk, i, none⟩) (by show gk < _; omega)).trans (I.kfree i)
    kids := fun j hj => (I.kids j hj).grown h
    top := fun b hb => Nat.lt_of_lt_of_le (I.top b hb) h4 }
def cells9 (t : Pt) : List Value := [t.cell 0, t.cell 1, t.cell 2, t.cell 3, t.cell 4, t.cell 5, t.cell 6, t.cell 7, t.cell 8]
theorem cells9_get (t : Pt) {i : Nat} (hi : i < 9) (h : i < (cells9 t).length) : (cells9 t)[i] = t.cell i := by
  match i, hi with
  | 0, _ => rfl | 1, _ => rfl | 2, _ => rfl | 3, _ => rfl | 4, _ => rfl | 5, _ => rfl | 6, _ => rfl | 7, _ => rfl | 8, _ => rfl
theorem size_setCells9 (b : Nat) : ∀ (vs : List Value) (o : Nat) (w : World), (w.setCells b o vs).heap.size = w.heap.size
  | [], _, _ => rfl
  | v :: r, o, w => by rw [World.setCells, size_setCells9 b r]; simp
theorem setCells_meta (b : Nat) : ∀ (vs : List Value) (o : Nat) (w : World), (w.setCells b o vs).os = w.os ∧ (w.setCells b o vs).tape = w.tape ∧ (w.setCells b o vs).output = w.output
  | [], _, _ => ⟨rfl, rfl, rfl⟩
  | v :: r, o, w => by
    rw [World.setCells]
    obtain ⟨h1, h2, h3⟩ := setCells_meta b r (o + 1) (w.setCell ⟨b, o, none⟩ v)
    exact ⟨h1.trans rfl, h2.trans rfl, h3.trans rfl⟩
set_option maxHeartbeats 1000000 in
/-- One kid more. -/
theorem NInv.next {w2 wr w3 : World} {gp gk N base k B : Nat} {V : Nat → Value} {ks : List Rx} {ts : List Pt} {t : Pt} (I : NInv w2 gp gk N base V ks ts k wr) (hk : k < N) (hB : wr.heap.size ≤ B) (h : Below wr.heap.size wr w3) (n : New B (Rx.nth ks k) t w3) :
    NInv w2 gp gk N base V ks (ts ++ [t]) (k + 1) (w3.setCells gk (k * 9) (cells9 t)) := by
  have J := I.grown h
  have h1 := I.size
  have h2 := J.size
  have hgp := I.gpb
  have hgk := I.gkb
  have hpk := I.gpk
  have l9 : (cells9 t).length = 9 := rfl
  have oth : ∀ b, b < w3.heap.size → b ≠ gk → (w3.setCells gk (k * 9) (cells9 t)).heap[b]? = w3.heap[b]? := fun b hb hne => World.heap_setCells_other w3 gk _ _ hb hne
  have M := setCells_meta gk (cells9 t) (k * 9) w3
  have lenk : ts.length = k := I.len
  have isS : ∀ j, j < (cells9 t).length → (w3.cell? ⟨gk, k * 9 + j, none⟩).isSome = true := fun j hj => J.kcell _ (by rw [l9] at hj; omega)
  have fz : ∀ x, (w3.setCells gk (k * 9) (cells9 t)).frozen? x = w3.frozen? x := fun x => World.frozen?_setCells gk _ _ _ x
  have sz : (w3.setCells gk (k * 9) (cells9 t)).heap.size = w3.heap.size := size_setCells9 _ _ _ _
  have cout : ∀ x : Addr, (x.block = gk → x.spot = none → x.off < k * 9 ∨ k * 9 + (cells9 t).length ≤ x.off) → (w3.setCells gk (k * 9) (cells9 t)).cell? x = w3.cell? x := World.cell?_setCells_out gk _ _ _
  have cin : ∀ i, i < 9 → (w3.setCells gk (k * 9) (cells9 t)).cell? ⟨gk, k * 9 + i, none⟩ = some (t.cell i) := fun i hi => by
    rw [World.cell?_setCells_in gk _ _ w3 isS i (by rw [l9]; exact hi), cells9_get t hi]
  have kis : ∀ x, (w3.cell? x).isSome = true → ((w3.setCells gk (k * 9) (cells9 t)).cell? x).isSome = true := World.isSome_setCells gk _ _ _
  clear isS
  generalize w3.setCells gk (k * 9) (cells9 t) = w4 at *
  have hbel : Below w2.heap.size w2 w4 := ⟨M.1.trans J.below.os, M.2.1.trans J.below.tape, M.2.2.trans J.below.output, by rw [sz]; exact J.below.size, fun b hb => (oth b (by have := J.below.size; omega) (by have := I.gko; omega)).trans (J.below.block b hb)⟩
  have hpc : ∀ i, i < 9 → w4.cell? ⟨gp, i, none⟩ = some (V i) := fun i hi => (World.cell?_of_block (w := w3) (oth gp (by omega) hpk)).trans (J.pcell i hi)
  refine ⟨by rw [List.length_append]; simp [lenk], hbel, by rw [sz]; exact h2, hpk, hgk, hgp, I.gpo, I.gko, hpc, fun i => (fz _).trans (J.pfree i), fun i hi => kis _ (J.kcell i hi), fun i => (fz _).trans (J.kfree i), ?_, ?_, ?_, ?_, ?_, ?_, ?_⟩
  · intro j hj
    rw [nth_snoc, lenk]
    by_cases e : j = k
    · subst e
      rw [if_pos rfl]
      refine .mk (fun i hi => ?_) (fun i => (fz _).trans (J.kfree i)) (by rw [sz]; exact n.top) fun q hq => ?_
      · exact cin i hi
      · have hb := n.low t.blk (by rw [bl_eq]; simp)
        have hne : ∀ b, b ∈ bl t → w4.heap[b]? = w3.heap[b]? := fun b hm => by
          have hb := n.low b hm
          by_cases hs : b < w3.heap.size
          · exact oth b hs (by omega)
          · rw [Array.getElem?_eq_none (by rw [sz]; omega), Array.getElem?_eq_none (by omega)]
        have h0 := hne t.blk (by rw [bl_eq]; simp)
        exact (n.kid q hq).frame (by rw [sz]; omega) (fun _ _ => World.cell?_of_block (w := w3) h0) (fun _ => World.frozen?_of_block (w := w3) h0) (fun b hm => hne b (by rw [bl_eq]; exact List.mem_cons_of_mem _ (nth_blL hq hm)))
    · rw [if_neg e]
      have hj' : j < k := by omega
      refine (J.kids j hj').frame (by rw [sz]; omega) (fun i hi => cout _ (fun _ _ => .inl (by show j * 9 + i < k * 9; omega))) (fun _ => fz _) (fun b hm => ?_)
      have hm2 : b ∈ blL ts := nth_blL (by omega) hm
      have := I.low b hm2
      have := J.top b hm2
      exact oth b (by omega) (by omega)
  · intro j hj
    rw [nth_snoc, lenk]
    split
    · rename_i e; subst e; exact n.sh
    · exact I.shp j (by omega)
  · intro j hj
    rw [nth_snoc, lenk]
    split
    · exact n.dead
    · exact I.dead j (by omega)
  · intro j hj
    rw [nth_snoc, lenk]
    split
    · exact n.em
    · exact I.em j (by omega)
  · rw [blL_snoc, List.nodup_append]
    refine ⟨I.nodup, n.nodup, fun x hx y hy e => ?_⟩
    have := I.top x hx
    have := n.low y hy
    omega
  · intro b hb
    rw [blL_snoc, List.mem_append] at hb
    rcases hb with hb | hb
    · exact I.low b hb
    · have := n.low b hb; omega
  · intro b hb
    rw [sz]
    rw [blL_snoc, List.mem_append] at hb
    rcases hb with hb | hb
    · exact J.top b hb
    · rw [bl_eq, List.mem_cons] at hb
      rcases hb with rfl | hb
      · exact n.top
      · obtain ⟨j, hj, hx⟩ := mem_nth hb
        exact (n.kid j hj).lt b hx
/-- All kids. -/
theorem NInv.lay {w2 wr : World} {gp gk N base : Nat} {ks : List Rx} {ts : List Pt} {op : Int} {a b c d : Nat} {V : Nat → Value} (hV : ∀ i, i < 9 → V i = (Pt.mk op a b c d gk false false false ts).cell i) (I : NInv w2 gp gk N base V ks ts N wr) : Lay wr gp 0 (.mk op a b c d gk false false false ts) := by
  have := I.gkb
  have := I.size
  refine .mk (fun i hi => ?_) I.pfree (by show gk < _; omega) fun j hj => I.kids j (by have := I.len; have : j < ts.length := hj; omega)
  rw [Nat.zero_add, I.pcell i hi, hV i hi]

end Go.Proofs.YtjmojjjgifkkiaaDoor
namespace Go.Proofs.YtjmojjjgifkkiaaDoor
open Go.RowKit Go.Sort
open Pz Sc

def takesB (S : List Nat) (t : Rx) : Bool := decide (0 < (ends S t 0).length ∧ (ends S t 0).getD ((ends S t 0).length - 1) 0 = S.length)
theorem takes_made {t : Rx} (hm : Rx.made t = true) (S : List Nat) : takesB S t = vMatch (Rx.progL t) S := by
  have hr := (Rx.size_yes hm).1
  rw [Bool.eq_iff_iff, takesB, decide_eq_true_eq, vMatch_made hm, ends_last hr, ends_mem hr]
set_option maxRecDepth 100000 in
set_option maxHeartbeats 4000000 in
theorem takes_any (t : Rx) (v : Value) (s : ByteArray) (w : World) (hcnt : Rx.count t ≤ 1000) (hf : Rx.fit t) (hs : s.size ≤ 100) (h : IsRx w v t) :
    Calls Tryd.prog 44 #[v, .string s] w fun e w' => e = .returned (.bool (takesB (txt8 s) t)) ∧ Below w.heap.size w w' := by
  obtain ⟨op, a, b, c, d, A, n, cap, rfl⟩ := h.six
  have B0 : Below w.heap.size w (w.alloc (.cells #[.int .i64 op, .int .u64 (a : Int), .int .u64 (b : Int), .int .u64 (c : Int), .int .u64 (d : Int), .slice A n cap] 60)) := (Below.refl _ _).alloc (Nat.le_refl _) _
  have CE := Lib.hid (rends_all hcnt hf _ 0 s _ hs (h.grown B0))
  have B := Lib.hid B0
  have TD : Hid (takesB (txt8 s) t = decide (0 < (ends (txt8 s) t 0).length ∧ (ends (txt8 s) t 0).getD ((ends (txt8 s) t 0).length - 1) 0 = s.size)) := by show _ = _; rw [takesB, txt8_len]
  generalize ends (txt8 s) t 0 = E at *
  obtain ⟨L, hL⟩ : ∃ L, s.size = L := ⟨_, rfl⟩
  rw [hL] at TD hs
  clear h B0 hcnt hf
  go_enter Tryd.func44, Tryd.ntmps44
  go_wp2_with fail
  refine CE.out.mono ?_
  rintro e w1 ⟨A1, n1, c1, rfl, l1, m1, Z1, b1⟩
  replace B := Lib.hid (B.out.trans (b1.mono B.out.size))
  have Z1 := Lib.hid Z1
  rw [l1] at TD
  clear b1 CE
  by_cases h0 : n1 = 0
  · subst h0
    have R : Hid (takesB (txt8 s) t = false) := by show _ = _; rw [TD.out]; rfl
    clear TD Z1 l1
    go_wp2
    go_ret
    exact ⟨by rw [R.out]; rfl, B.out⟩
  · have hz : decide ((n1 : Int) > 0) = true := decide_eq_true (by omega)
    have hz2 : decide (0 < n1) = true := decide_eq_true (by omega)
    obtain ⟨blk, off, rfl, hc⟩ := Z1.out (by rw [zn_len]; omega)
    obtain ⟨m, rfl⟩ : ∃ m, n1 = m + 1 := ⟨n1 - 1, by omega⟩
    have cM := hc m (by rw [zn_len]; omega)
    have eM : (zn E).getD m 0 = ((E.getD m 0 : Nat) : Int) := by
      unfold zn
      rw [List.getD, List.getD, List.getElem?_map, List.getElem?_eq_getElem (by omega)]; rfl
    rw [eM] at cM
    rw [Nat.add_sub_cancel] at TD
    have R : Hid (takesB (txt8 s) t = decide (E.getD m 0 = L)) := by show _ = _; rw [TD.out]; simp
    clear TD Z1 hc eM l1
    generalize E.getD m 0 = x at *
    have hx : (((x : Nat) : Int) == (L : Int)) = decide (x = L) := by rw [Bool.eq_iff_iff, beq_iff_eq, decide_eq_true_eq]; omega
    generalize decide (x = L) = q at *
    have hw1 : IntKind.i64.wrap (((m + 1 : Nat) : Int) - 1) = (m : Int) := by rw [IntKind.wrap_i64]; omega
    go_wp2
    go_ret
    exact ⟨by rw [R.out]; rfl, B.out⟩

end Go.Proofs.YtjmojjjgifkkiaaDoor
namespace Go.Proofs.YtjmojjjgifkkiaaDoor
open Go.RowKit Go.Sort
open Pt

mutual
theorem count_sh : ∀ t : Pt, Rx.count (sh t) = count t
  | .mk _ _ _ _ _ _ _ _ _ ks => by rw [sh, Rx.count, count, countL_sh ks]
theorem countL_sh : ∀ ks : List Pt, Rx.countL (shL ks) = countL ks
  | [] => by rw [shL, Rx.countL, countL]
  | k :: r => by rw [shL, Rx.countL, countL, count_sh k, countL_sh r]
end
theorem Tch.below {g o B : Nat} {Bs : List Nat} {w0 w w' : World} (T : Tch g o Bs w w') (h : Below B w0 w) (hg : B ≤ g) (hb : ∀ k, k ∈ Bs → B ≤ k) (hs : B ≤ w.heap.size) : Below B w0 w' :=
  h.trans ⟨T.os, T.tape, T.output, T.size, fun k hk => T.block k (by omega) (by omega) (fun hm => by have := hb k hm; omega)⟩
theorem own_tch {g o : Nat} {Bs : List Nat} {w w' : World} {base : Nat} {e : TypeId} {size : Nat} {v : Value} {n : Nat} {xs : List Value} (T : Tch g o Bs w w') (h : w.ownsRow base e size v n xs) (hg : g < base) (hb : ∀ k, k ∈ Bs → k < base) : w'.ownsRow base e size v n xs := by
  refine ⟨h.1, ?_⟩
  rcases h.2 with hn | ⟨g', cap, cur, e1, hbg, hg', rest⟩
  · exact .inl hn
  · exact .inr ⟨g', cap, cur, e1, hbg, (T.block g' (Array.getElem?_eq_some_iff.1 hg').1 (by omega) (fun hm => by have := hb g' hm; omega)).trans hg', rest⟩

end Go.Proofs.YtjmojjjgifkkiaaDoor
