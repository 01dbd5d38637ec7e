/-
  Trees of chapter 5 as mathematics, and how they lie in memory; what the reference's IsRex does. Conditions: lengths fit.
-/
import Derived.Test.YtlbhiiciajfphaaProg
import Derived.WalkKit
import Derived.WalkSpells
import Derived.WalkLawsBesides
import Derived.Lib.Hide
import Derived.Below
import Derived.BigQuiet
import Derived.Lib.QuietBelow
import Derived.Laws.StructEq
import Derived.KernelRfl
import Derived.Deep.RegionHeld3
namespace Go.Proofs.Ytlbhiiciajfphaa
open Go.RowKit

/-- A pattern as a tree. -/
inductive Rx where
  | mk (op : Int) (a b c d : Nat) (kids : List Rx) : Rx
namespace Rx
def op : Rx → Int | .mk o _ _ _ _ _ => o
def kids : Rx → List Rx | .mk _ _ _ _ _ k => k
def nil : Rx := .mk 0 0 0 0 0 []
def nth (ks : List Rx) (j : Nat) : Rx := ks.getD j nil
theorem nth_eq {ks : List Rx} {j : Nat} (h : j < ks.length) : nth ks j = ks[j] := by simp [nth, List.getD, List.getElem?_eq_getElem h]
mutual
/-- How many nodes it has. -/
def count : Rx → Nat
  | .mk _ _ _ _ _ ks => 1 + countL ks
def countL : List Rx → Nat
  | [] => 0
  | k :: r => count k + countL r
end
theorem count_pos : ∀ t : Rx, 1 ≤ count t
  | .mk _ _ _ _ _ _ => by rw [count]; omega
theorem len_count : ∀ ks : List Rx, ks.length ≤ countL ks
  | [] => Nat.le_refl _
  | k :: r => by have := len_count r; have := count_pos k; rw [countL, List.length_cons]; omega
theorem mem_count : ∀ {ks : List Rx} {t : Rx}, t ∈ ks → count t ≤ countL ks
  | k :: r, t, h => by
    rw [countL]
    rcases List.mem_cons.1 h with rfl | h
    · omega
    · have := mem_count h; omega
theorem nth_count {ks : List Rx} {j : Nat} (h : j < ks.length) : count (nth ks j) ≤ countL ks := by rw [nth_eq h]; exact mem_count (List.getElem_mem h)
theorem drop_nth {ks : List Rx} {k : Nat} (h : k < ks.length) : ks.drop k = nth ks k :: ks.drop (k + 1) := by rw [List.drop_eq_getElem_cons h, nth_eq h]
/-- How many kids such a node may have. -/
def may (op : Int) (n : Nat) : Bool := op == 2 || (op == 3 && decide (1 ≤ n)) || ((op == 4 || op == 5 || op == 6) && n == 1)
mutual
def isRex : Rx → Bool
  | .mk op a b c d ks => if op = 1 then ks.length == 0 else may op ks.length && isAll ks && (a == 0 && b == 0 && c == 0 && d == 0)
def isAll : List Rx → Bool
  | [] => true
  | k :: r => isRex k && isAll r
end
end Rx
/-- The six cells of a node, as a value. -/
def val6 (V : Nat → Value) : Value := .agg #[V 0, V 1, V 2, V 3, V 4, V 5]
/-- The value v is the tree t, its kids lie in memory. -/
inductive IsRx (w : World) : Value → Rx → Prop where
  | node (op : Int) (a b c d : Nat) (ks : List Rx) (A : Option Addr) (cap blk off : Nat) (V : Nat → Nat → Value) (hcap : ks.length ≤ cap) (hA : A = none → cap = 0) (hp : 0 < ks.length → A = some ⟨blk, off, none⟩)
      (hc : ∀ j i, j < ks.length → i < 6 → w.cell? ⟨blk, off + j * 6 + i, none⟩ = some (V j i)) (hk : ∀ j, j < ks.length → IsRx w (val6 (V j)) (Rx.nth ks j)) :
      IsRx w (.agg #[.int .i64 op, .int .u64 (a : Int), .int .u64 (b : Int), .int .u64 (c : Int), .int .u64 (d : Int), .slice A ks.length cap]) (.mk op a b c d ks)
theorem IsRx.grown {w w' : World} {v : Value} {t : Rx} (h : IsRx w v t) (hb : Below w.heap.size w w') : IsRx w' v t := by
  induction h with
  | node op a b c d ks A cap blk off V hcap hA hp hc hk ih =>
    exact .node op a b c d ks A cap blk off V hcap hA hp (fun j i hj hi => (hb.cell (World.block_lt_of_cell? w _ (hc j i hj hi))).trans (hc j i hj hi)) (fun j hj => ih j hj)

theorem Rx.all_end {ks : List Rx} {k : Nat} (h : ks.length ≤ k) : Rx.isAll (ks.drop k) = true := by rw [List.drop_of_length_le h]; rfl
theorem Rx.all_step {ks : List Rx} {k : Nat} (h : k < ks.length) : Rx.isAll (ks.drop k) = (Rx.isRex (Rx.nth ks k) && Rx.isAll (ks.drop (k + 1))) := by rw [Rx.drop_nth h]; rfl

theorem Try.one64 : Try.prog.cellsOf 25 = 1 := by kernel_rfl
end Go.Proofs.Ytlbhiiciajfphaa
