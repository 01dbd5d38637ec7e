/-
  Trees that lie in known blocks; a slice of trees that one owns, appended to. Conditions: at most 100 of them.
-/
import Derived.Test.YtjnikeiboefnbaaProg
import Derived.Test.YtjnikeiboefnbaaEa
import Derived.Test.YtjnikeiboefnbaaEd
import Derived.Test.YtjnikeiboefnbaaEm
import Derived.Test.YtjnikeiboefnbaaEf
import Derived.Test.YtjnikeiboefnbaaEi
import Derived.Test.YtjnikeiboefnbaaJb
import Derived.Maps.AppendAt
import Derived.Deep.QuietTactic
import Derived.BigQuiet
import Derived.Lib.Bytealg
import Derived.Laws.Externs
import Derived.Laws.AppendOwn
import Derived.Laws.CopyOwn
import Derived.Laws.MakeOwn
import Derived.Laws.OwnMore
import Derived.OwnWalk
import Derived.WalkKit
import Derived.WalkSpells
import Derived.WalkLawsBesides
import Derived.Lib.Hide
import Derived.Below
import Derived.Lib.QuietBelow
import Derived.Laws.StructEq
import Derived.KernelRfl
import Derived.Deep.RegionHeld3
namespace Go.Proofs.Ytjnikeiboefnbaa
open Go.RowKit

theorem add0 (g j : Nat) : (⟨g, 0, none⟩ : Addr).add j = ⟨g, j, none⟩ := by unfold Addr.add; split <;> simp_all
/-- The value v is the tree t; its kids lie in blocks that Q tells. -/
inductive RxIn (Q : Nat → Prop) (w : World) : Value → Rx → Prop where
  | node (op : Int) (a b c d : Nat) (ks : List Rx) (A : Option Addr) (cap blk off : Nat) (V : Nat → Nat → Value) (hcap : ks.length ≤ cap) (hA : A = none → cap = 0) (hp : 0 < ks.length → A = some ⟨blk, off, none⟩) (hq : 0 < ks.length → Q blk)
      (hc : ∀ j i, j < ks.length → i < 6 → w.cell? ⟨blk, off + j * 6 + i, none⟩ = some (V j i)) (hk : ∀ j, j < ks.length → RxIn Q w (val6 (V j)) (Rx.nth ks j)) :
      RxIn Q w (.agg #[.int .i64 op, .int .u64 (a : Int), .int .u64 (b : Int), .int .u64 (c : Int), .int .u64 (d : Int), .slice A ks.length cap]) (.mk op a b c d ks)
theorem RxIn.is {Q : Nat → Prop} {w : World} {v : Value} {t : Rx} (h : RxIn Q w v t) : IsRx w v t := by
  induction h with
  | node op a b c d ks A cap blk off V hcap hA hp hq hc hk ih => exact .node op a b c d ks A cap blk off V hcap hA hp hc ih
theorem RxIn.frame {Q Q' : Nat → Prop} {w w' : World} {v : Value} {t : Rx} (h : RxIn Q w v t) (hb : ∀ b, Q b → w'.heap[b]? = w.heap[b]?) (hQ : ∀ b, b < w.heap.size → Q b → Q' b) : RxIn Q' w' v t := by
  induction h with
  | node op a b c d ks A cap blk off V hcap hA hp hq hc hk ih =>
    exact .node op a b c d ks A cap blk off V hcap hA hp (fun h0 => hQ _ (World.block_lt_of_cell? w _ (hc 0 0 h0 (by omega))) (hq h0)) (fun j i hj hi => (World.cell?_of_block (hb blk (hq (by omega)))).trans (hc j i hj hi)) (fun j hj => ih j hj)
/-- A node without kids. -/
theorem RxIn.leaf (Q : Nat → Prop) (w : World) (op : Int) (a b c d : Nat) : RxIn Q w (.agg #[.int .i64 op, .int .u64 (a : Int), .int .u64 (b : Int), .int .u64 (c : Int), .int .u64 (d : Int), .slice none 0 0]) (.mk op a b c d []) :=
  .node op a b c d [] none 0 0 0 (fun _ _ => Go.undef) (Nat.le_refl _) (fun _ => rfl) (fun h => absurd h (by simp)) (fun h => absurd h (by simp)) (fun _ _ h => absurd h (by simp)) (fun _ h => absurd h (by simp))
/-- What a tree's value looks like. -/
theorem RxIn.form {Q : Nat → Prop} {w : World} {v : Value} {t : Rx} (h : RxIn Q w v t) : ∃ op a b c d A n cap, v = .agg #[.int .i64 op, .int .u64 ((a : Nat) : Int), .int .u64 ((b : Nat) : Int), .int .u64 ((c : Nat) : Int), .int .u64 ((d : Nat) : Int), .slice A n cap] := by
  cases h with
  | node op a b c d ks A cap blk off V hcap hA hp hq hc hk => exact ⟨op, a, b, c, d, A, ks.length, cap, rfl⟩

def cells6 (V : Nat → Value) : List Value := [V 0, V 1, V 2, V 3, V 4, V 5]
def rc (L : List (Nat → Value)) : List Value := L.flatMap cells6
theorem rc_len : ∀ L : List (Nat → Value), (rc L).length = L.length * 6
  | [] => rfl
  | x :: r => by have := rc_len r; simp only [rc, List.flatMap_cons, List.length_append, List.length_cons] at this ⊢; rw [this]; simp [cells6]; omega
theorem rc_app (L M : List (Nat → Value)) : rc (L ++ M) = rc L ++ rc M := by simp [rc]
def row0 : Nat → Value := fun _ => Go.undef
def nthV (L : List (Nat → Value)) (j : Nat) : Nat → Value := L.getD j row0
theorem rc_get : ∀ (L : List (Nat → Value)) (j i : Nat), j < L.length → i < 6 → (rc L)[j * 6 + i]? = some (nthV L j i)
  | x :: r, 0, i, _, hi => by
    show (cells6 x ++ rc r)[0 * 6 + i]? = _
    rw [List.getElem?_append_left (by simp [cells6]; omega)]
    match i, hi with
    | 0, _ => rfl
    | 1, _ => rfl
    | 2, _ => rfl
    | 3, _ => rfl
    | 4, _ => rfl
    | 5, _ => rfl
  | x :: r, j + 1, i, hj, hi => by
    show (cells6 x ++ rc r)[(j + 1) * 6 + i]? = _
    rw [List.getElem?_append_right (by simp [cells6]; omega)]
    have := rc_get r j i (by simpa using hj) hi
    rw [show (j + 1) * 6 + i - (cells6 x).length = j * 6 + i by simp [cells6]; omega, this]
    rfl
theorem nthV_left {L : List (Nat → Value)} {x : Nat → Value} {j : Nat} (h : j < L.length) : nthV (L ++ [x]) j = nthV L j := by simp [nthV, List.getD, List.getElem?_append_left h]
theorem nthV_last (L : List (Nat → Value)) (x : Nat → Value) : nthV (L ++ [x]) L.length = x := by simp [nthV, List.getD]
theorem Rx.nth_left {L : List Rx} {x : Rx} {j : Nat} (h : j < L.length) : Rx.nth (L ++ [x]) j = Rx.nth L j := by simp [Rx.nth, List.getD, List.getElem?_append_left h]
theorem Rx.nth_last (L : List Rx) (x : Rx) : Rx.nth (L ++ [x]) L.length = x := by simp [Rx.nth, List.getD]

theorem Try.infoR : (Try.prog.info? 26).map (fun i => (i.zero, i.size, i.bytes)) = some (some (.agg #[.int .i64 0, .int .u64 0, .int .u64 0, .int .u64 0, .int .u64 0, .slice none 0 0]), 6, 64) := by kernel_rfl
/-- A slice of trees that one owns, in blocks from base on. -/
def Kids (base : Nat) (w : World) (v : Value) (ts : List Rx) : Prop :=
  ∃ L : List (Nat → Value), L.length = ts.length ∧ w.ownsRow base 26 6 v ts.length (rc L) ∧ ∀ j, j < ts.length → RxIn (fun b => base ≤ b ∧ b < w.heap.size ∧ v.ownBlock ≠ some b) w (val6 (nthV L j)) (Rx.nth ts j)
theorem Kids.nil (base : Nat) (w : World) : Kids base w (.slice none 0 0) [] := ⟨[], rfl, World.ownsRow_nil _ _ _ _, fun _ h => absurd h (by simp)⟩
theorem Kids.frame {base : Nat} {w w' : World} {v : Value} {ts : List Rx} (h : Kids base w v ts) (hs : w.heap.size ≤ w'.heap.size) (hb : ∀ b, base ≤ b → b < w.heap.size → w'.heap[b]? = w.heap[b]?) : Kids base w' v ts := by
  obtain ⟨L, h1, h2, h3⟩ := h
  refine ⟨L, h1, ⟨h2.1, ?_⟩, fun j hj => (h3 j hj).frame (fun b hq => hb b hq.1 hq.2.1) (fun b _ hq => ⟨hq.1, by omega, hq.2.2⟩)⟩
  rcases h2.2 with hn | ⟨g, cap, cur, e, hbg, hg, rest⟩
  · exact .inl hn
  · exact .inr ⟨g, cap, cur, e, hbg, (hb g hbg (Array.getElem?_eq_some_iff.1 hg).1).trans hg, rest⟩
theorem Kids.form {base : Nat} {w : World} {v : Value} {ts : List Rx} (h : Kids base w v ts) : ∃ A cap, v = .slice A ts.length cap ∧ (A = none → cap = 0) ∧ ts.length ≤ cap := by
  obtain ⟨L, h1, h2, h3⟩ := h
  rcases h2.2 with ⟨e, h0⟩ | ⟨g, cap, cur, e, hbg, hg, hc, rest⟩
  · exact ⟨none, 0, by rw [e, h0], fun _ => rfl, by omega⟩
  · exact ⟨_, cap, e, (fun e => by cases e), hc⟩
theorem Kids.low {base : Nat} {w : World} {v : Value} {ts : List Rx} (h : Kids base w v ts) : ∀ k, v.ownBlock = some k → base ≤ k ∧ k < w.heap.size := by
  obtain ⟨L, h1, h2, h3⟩ := h
  exact h2.lt
/-- Such a slice as a node's kids. -/
theorem Kids.node {base : Nat} {w : World} {A : Option Addr} {n cap : Nat} {ts : List Rx} (h : Kids base w (.slice A n cap) ts) (op : Int) : n = ts.length ∧ RxIn (fun b => base ≤ b) w (.agg #[.int .i64 op, .int .u64 0, .int .u64 0, .int .u64 0, .int .u64 0, .slice A n cap]) (.mk op 0 0 0 0 ts) := by
  obtain ⟨L, h1, h2, h3⟩ := h
  rcases h2.2 with ⟨e, h0⟩ | ⟨g, cap', cur, e, hbg, hg, hc, rest⟩
  · injection e with e1 e2 e3
    subst e1 e2 e3
    have : ts = [] := List.eq_nil_of_length_eq_zero h0
    subst this
    exact ⟨rfl, RxIn.leaf _ _ _ 0 0 0 0⟩
  · injection e with e1 e2 e3
    subst e1 e2 e3
    refine ⟨rfl, .node op 0 0 0 0 ts _ cap g 0 (nthV L) hc (fun e => by cases e) (fun _ => rfl) (fun _ => hbg) (fun j i hj hi => ?_) (fun j hj => (h3 j hj).frame (fun _ _ => rfl) (fun _ _ hq => hq.1))⟩
    have := h2.cells (g := g) rfl (j * 6 + i) _ (rc_get L j i (by omega) hi)
    rw [add0] at this; simpa using this
/-- Its only kid. -/
theorem Kids.one {base : Nat} {w : World} {A : Option Addr} {n cap : Nat} {t : Rx} (h : Kids base w (.slice A n cap) [t]) : n = 1 ∧ ∃ g V, A = some ⟨g, 0, none⟩ ∧ (∀ i, i < 6 → w.cell? ⟨g, i, none⟩ = some (V i)) ∧ RxIn (fun b => base ≤ b) w (val6 V) t := by
  obtain ⟨L, h1, h2, h3⟩ := h
  rcases h2.2 with ⟨e, h0⟩ | ⟨g, cap', cur, e, hbg, hg, hc, rest⟩
  · simp at h0
  · injection e with e1 e2 e3
    subst e1 e2 e3
    refine ⟨rfl, g, nthV L 0, rfl, fun i hi => ?_, (h3 0 (by simp)).frame (fun _ _ => rfl) (fun _ _ hq => hq.1)⟩
    have := h2.cells (g := g) rfl (0 * 6 + i) _ (rc_get L 0 i (by simp at h1; omega) hi)
    rw [add0] at this; simpa using this
/-- One tree more. -/
theorem run_appR {base : Nat} {w : World} {v : Value} {ts : List Rx} (ty : TypeId) (h : Kids base w v ts) (g : Nat) (V : Nat → Value) (t : Rx) (hV : ∀ i, i < 6 → w.cell? ⟨g, i, none⟩ = some (V i)) (h1 : ∀ i, i < 6 → (V i).oneCell' = true)
    (ht : RxIn (fun b => base ≤ b ∧ b < w.heap.size ∧ v.ownBlock ≠ some b) w (val6 V) t) (hn : ts.length ≤ 1000) (hbase : base ≤ w.heap.size) :
    ∃ v' w', (Builtin.append_ #[24, 24] ty #[v, .slice (some ⟨g, 0, none⟩) 1 1]).run Try.prog w = .ok v' w' ∧ Kids base w' v' (ts ++ [t]) ∧ w.grownBy w' v.ownBlock := by
  obtain ⟨L, hL, hown, hk⟩ := h
  obtain ⟨i0, hi, hz0, hz1, hz2⟩ := info_parts Try.infoR
  obtain ⟨v', w', hr, h2, h3, h4, h5⟩ := run_append_own_at (P := Try.prog) w base 24 ty 26 i0 _ 6 64 Try.underlying24 hi hz0 hz1 hz2 rfl (by decide) v ts.length _ hown ⟨g, 0, none⟩ 1 1 (cells6 V) rfl
    (by
      intro j u hj
      have hj6 : j < 6 := by
        rcases Nat.lt_or_ge j 6 with h | h
        · exact h
        · rw [List.getElem?_eq_none (by simpa [cells6] using h)] at hj; cases hj
      rw [add0, hV j hj6, ← hj]
      match j, hj6 with
      | 0, _ => rfl
      | 1, _ => rfl
      | 2, _ => rfl
      | 3, _ => rfl
      | 4, _ => rfl
      | 5, _ => rfl)
    (by
      intro u hu
      simp only [cells6, List.mem_cons, List.not_mem_nil, or_false] at hu
      rcases hu with rfl | rfl | rfl | rfl | rfl | rfl <;> exact h1 _ (by omega))
    (by unfold maxLen; omega) (by omega) hbase
  refine ⟨v', w', hr, ⟨L ++ [V], by simp [hL], ?_, fun j hj => ?_⟩, h3⟩
  · rw [List.length_append, rc_app]
    have : rc [V] = cells6 V := by simp [rc]
    rw [this]
    exact h2
  · have hfr : ∀ b, (base ≤ b ∧ b < w.heap.size ∧ v.ownBlock ≠ some b) → w'.heap[b]? = w.heap[b]? := fun b hq => h3.block b hq.2.1 (Ne.symm hq.2.2)
    have hQ : ∀ b, b < w.heap.size → (base ≤ b ∧ b < w.heap.size ∧ v.ownBlock ≠ some b) → (base ≤ b ∧ b < w'.heap.size ∧ v'.ownBlock ≠ some b) := fun b _ hq => ⟨hq.1, by have := h3.size; omega, by
      rcases h5 with h5 | h5
      · rw [h5]; exact hq.2.2
      · rw [h5]; intro e; injection e with e; omega⟩
    rw [List.length_append, List.length_singleton] at hj
    rcases Nat.lt_or_ge j ts.length with hlt | hge
    · rw [nthV_left (by omega), Rx.nth_left hlt]
      exact (hk j hlt).frame hfr hQ
    · obtain rfl : j = ts.length := by omega
      rw [Rx.nth_last, ← hL, nthV_last]
      exact ht.frame hfr hQ

end Go.Proofs.Ytjnikeiboefnbaa
