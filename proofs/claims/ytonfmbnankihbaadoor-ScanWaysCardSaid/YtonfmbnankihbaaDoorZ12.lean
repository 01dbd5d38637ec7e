/-
  What the program's joined and repeated do; steps of the parser's walk. Conditions: at most 1000 kids.
  Plain mathematics of chapter 6: the steps of a tree, how many there are, what may be a program. No conditions.
  Steps in memory: a row that one owns, appended to, written into; what moves of a world while it grows. Conditions: lengths fit.
  What the reference's Ends does: the places at which a match of a tree may end, in order; none of what may not be. Conditions: at most 1000 nodes, 100 places; words have 64 bits.
-/
import Derived.Test.YtonfmbnankihbaaDoorProg
import Derived.Test.YtonfmbnankihbaaDoorZ01
import Derived.Test.YtonfmbnankihbaaDoorZ02
import Derived.Test.YtonfmbnankihbaaDoorZ03
import Derived.Test.YtonfmbnankihbaaDoorZ04
import Derived.Test.YtonfmbnankihbaaDoorZ06
import Derived.Test.YtonfmbnankihbaaDoorZ07
import Derived.Test.YtonfmbnankihbaaDoorZ09
import Derived.Test.YtonfmbnankihbaaDoorZ11
import Derived.StillTailTactics
import Derived.Laws.MakeOwn
import Derived.Laws.OwnMore
import Derived.OwnWalk
import Derived.WalkKit
import Derived.WalkSpells
import Derived.WalkLawsBesides
import Derived.Lib.Hide
import Derived.Below
import Derived.BigQuiet
import Derived.Lib.QuietBelow
import Derived.Laws.StructEq
import Derived.KernelRfl
import Derived.Laws.AppendOwn
import Derived.Deep.RegionHeld3
import Derived.Laws.CopyOwn
import Derived.Deep.QuietTactic
import Derived.Lib.Bytealg
import Derived.Laws.Externs
import Derived.Maps.AppendAt
import Derived.Deep.LoopGhost
import Derived.Laws.ResultCell
namespace Go.Proofs.YtonfmbnankihbaaDoor
open Go.RowKit Go.Sort
open Pz

theorem val6_eq {V : Nat → Value} {v0 v1 v2 v3 v4 v5 : Value} (h : val6 V = .agg #[v0, v1, v2, v3, v4, v5]) : V 0 = v0 ∧ V 1 = v1 ∧ V 2 = v2 ∧ V 3 = v3 ∧ V 4 = v4 ∧ V 5 = v5 := by simpa [val6] using h
theorem alloc2 (w : World) (o1 o2 : Obj) : ((w.alloc o1).alloc o2).heap[w.heap.size]? = some o1 ∧ ((w.alloc o1).alloc o2).heap[w.heap.size + 1]? = some o2 ∧ ((w.alloc o1).alloc o2).heap.size = w.heap.size + 2 ∧ Below w.heap.size w ((w.alloc o1).alloc o2) := by
  have e1 := heap_alloc_new w o1
  have b1 : Below w.heap.size w (w.alloc o1) := (Below.refl _ _).alloc (Nat.le_refl _) _
  have z1 : (w.alloc o1).heap.size = w.heap.size + 1 := by simp
  generalize w.alloc o1 = w1 at *
  have e2 := heap_alloc_new w1 o2
  rw [z1] at e2
  exact ⟨(heap_alloc_old w1 _ (by omega)).trans e1, e2, by simp; omega, b1.alloc (by omega) _⟩
theorem alloc3 (w : World) (o1 o2 o3 : Obj) : (((w.alloc o1).alloc o2).alloc o3).heap[w.heap.size]? = some o1 ∧ (((w.alloc o1).alloc o2).alloc o3).heap[w.heap.size + 1]? = some o2 ∧ (((w.alloc o1).alloc o2).alloc o3).heap[w.heap.size + 2]? = some o3 ∧ (((w.alloc o1).alloc o2).alloc o3).heap.size = w.heap.size + 3 ∧ Below w.heap.size w (((w.alloc o1).alloc o2).alloc o3) := by
  obtain ⟨e1, e2, z, b⟩ := alloc2 w o1 o2
  generalize (w.alloc o1).alloc o2 = w2 at *
  have e3 := heap_alloc_new w2 o3
  rw [z] at e3
  exact ⟨(heap_alloc_old w2 _ (by omega)).trans e1, (heap_alloc_old w2 _ (by omega)).trans e2, e3, by simp; omega, b.alloc (by omega) _⟩
/-- Six cells of a node. -/
def c6 (op : Int) (a b c d : Nat) (A : Option Addr) (n cap : Nat) : Array Value := #[.int .i64 op, .int .u64 (a : Int), .int .u64 (b : Int), .int .u64 (c : Int), .int .u64 (d : Int), .slice A n cap]
theorem PRes.yes {w w' : World} {P d j : Nat} {s : ByteArray} {r : Option (Rx × Nat)} {t : Rx} {e : Ending} (h : PRes w P s d r e w') (hr : r = some (t, j)) :
    ∃ op a b c d' A n cap, e = .returned (.tuple #[.agg #[.int .i64 op, .int .u64 ((a : Nat) : Int), .int .u64 ((b : Nat) : Int), .int .u64 ((c : Nat) : Int), .int .u64 ((d' : Nat) : Int), .slice A n cap], .bool true]) ∧ RxIn (fun b => w.heap.size ≤ b) w' (.agg (c6 op a b c d' A n cap)) t ∧ Stp P w w' ∧ Par w' P s j d := by
  subst hr
  obtain ⟨st, ⟨t', j', v, hr, he, hx, hp⟩ | ⟨hr, _⟩⟩ := h
  · injection hr with hr; injection hr with h1 h2
    subst h1 h2
    obtain ⟨op, a, b, c, d', A, n, cap, rfl⟩ := hx.form
    exact ⟨op, a, b, c, d', A, n, cap, he, hx, st, hp⟩
  · cases hr
theorem PRes.no {w w' : World} {P d : Nat} {s : ByteArray} {r : Option (Rx × Nat)} {e : Ending} (h : PRes w P s d r e w') (hr : r = none) :
    e = .returned (.tuple #[.agg #[.int .i64 0, .int .u64 0, .int .u64 0, .int .u64 0, .int .u64 0, .slice none 0 0], .bool false]) ∧ Stp P w w' ∧ ∃ j, Par w' P s j d := by
  subst hr
  obtain ⟨st, ⟨_, _, _, hr, _⟩ | ⟨_, he, hp⟩⟩ := h
  · cases hr
  · exact ⟨he, st, hp⟩
/-- A node in a block of its own. -/
def Row6 (w : World) (g : Nat) (cs : Array Value) : Prop := w.heap[g]? = some (.cells cs 34 (0, 0))
theorem Row6.lt {w : World} {g : Nat} {cs : Array Value} (h : Row6 w g cs) : g < w.heap.size := (Array.getElem?_eq_some_iff.1 h).1
theorem Row6.cells {w : World} {g : Nat} {v0 v1 v2 v3 v4 v5 : Value} (h : Row6 w g #[v0, v1, v2, v3, v4, v5]) : w.cell? ⟨g, 0, none⟩ = some v0 ∧ w.cell? ⟨g, 1, none⟩ = some v1 ∧ w.cell? ⟨g, 2, none⟩ = some v2 ∧ w.cell? ⟨g, 3, none⟩ = some v3 ∧ w.cell? ⟨g, 4, none⟩ = some v4 ∧ w.cell? ⟨g, 5, none⟩ = some v5 := by
  refine ⟨?_, ?_, ?_, ?_, ?_, ?_⟩ <;> (rw [cell_of_row _ g _ _ _ _ h]; rfl)
theorem Row6.stp {P g : Nat} {w w' : World} {cs : Array Value} (h : Row6 w g cs) (hs : Stp P w w') (hne : P < g) : Row6 w' g cs := (hs.block g h.lt (by omega)).trans h
theorem Row6.grow {g : Nat} {w w' : World} {cs : Array Value} (h : Row6 w g cs) (hb : Below w.heap.size w w') : Row6 w' g cs := (hb.block g h.lt).trans h
theorem RxIn.under {w w' : World} {B B' : Nat} {v : Value} {t : Rx} (h : RxIn (fun b => B ≤ b) w v t) (hb : Below w.heap.size w w') (hB : B' ≤ B) : RxIn (fun b => B' ≤ b) w' v t := by
  have h2 : RxIn (fun b => B ≤ b ∧ b < w.heap.size) w v t := h.frame (fun _ _ => rfl) (fun b h1 h2 => ⟨h2, h1⟩)
  exact h2.frame (fun b hq => hb.block b hq.2) (fun b _ hq => by omega)
theorem RxIn.stp {P : Nat} {w w' : World} {B B' : Nat} {v : Value} {t : Rx} (h : RxIn (fun b => B ≤ b) w v t) (hs : Stp P w w') (hP : P < B) (hB : B' ≤ B) : RxIn (fun b => B' ≤ b) w' v t := by
  have h2 : RxIn (fun b => B ≤ b ∧ b < w.heap.size) w v t := h.frame (fun _ _ => rfl) (fun b h1 h2 => ⟨h2, h1⟩)
  exact h2.frame (fun b hq => hs.block b hq.2 (by omega)) (fun b _ hq => by omega)
theorem At.grown {w W W' : World} {P i d : Nat} {s : ByteArray} {row : Array Value} {ty : TypeId} {o : Option Nat} (h : At w P s i d row ty W) (hg : W.grownBy W' o) (ho : ∀ k, o = some k → w.heap.size < k) : At w P s i d row ty W' := by
  have hb : ∀ k, k < W.heap.size → k ≤ w.heap.size → W'.heap[k]? = W.heap[k]? := fun k h1 h2 => hg.block k h1 (fun e => by have := ho k e.symm; omega)
  have h1 := h.big
  have h2 := h.lt
  exact ⟨⟨hg.os.trans h.st.os, hg.tape.trans h.st.tape, hg.output.trans h.st.output, Nat.le_trans h.st.size hg.size, fun k q1 q2 => (hb k (by omega) (by omega)).trans (h.st.block k q1 q2)⟩, h.pa.frame (hb P (by omega) (by omega)), h2, (hb _ (by omega) (Nat.le_refl _)).trans h.r⟩
/-- append(v, x) of one tree: the operation. -/
theorem wpList_appR {ops : Array Oper} {rest : List Oper} {o : Oper} {a : Act} {w : World} {Q : Exit → Act → World → Prop} (hgd : o.guard = none) (s x : Operand) (ho : o.op = .call { callee := .builtin .append, args := #[s, x], argTypes := #[32, 32] })
    (base : Nat) (v : Value) (ts : List Rx) (g : Nat) (hs : a.eval s = v) (hx : a.eval x = .slice (some ⟨g, 0, none⟩) 1 1) (h : Kids base w v ts) (V : Nat → Value) (t : Rx) (hV : ∀ i, i < 6 → w.cell? ⟨g, i, none⟩ = some (V i)) (h1 : ∀ i, i < 6 → (V i).oneCell' = true)
    (ht : RxIn (fun b => base ≤ b ∧ b < w.heap.size ∧ v.ownBlock ≠ some b) w (val6 V) t) (hn : ts.length ≤ 1000) (hbase : base ≤ w.heap.size)
    (hk : ∀ v' w', Kids base w' v' (ts ++ [t]) → w.grownBy w' v.ownBlock → wpList Tryd.prog ops Q rest (a.put o.dst v') w') : wpList Tryd.prog ops Q (o :: rest) a w := by
  refine wpList_plain hgd fun K hK => ?_
  obtain ⟨v', w', hr, h2, h3⟩ := run_appR o.type h g V t hV h1 ht hn hbase
  unfold Oper.wp execOp
  simp only [ho, resolve, invoke, builtin, Sem.run_bind, Sem.run_pure, Result.andThen_ok, List.map_toArray, List.map_cons, List.map_nil, hs, hx, hr]
  exact hK _ _ (hk v' w' h2 h3)
theorem joined_two {op : Int} {ts : List Rx} (h : ¬ ts.length = 1) : joined op ts = .mk op 0 0 0 0 ts := by
  match ts, h with
  | [], _ => rfl
  | [_], h => exact absurd rfl h
  | _ :: _ :: _, _ => rfl

set_option maxRecDepth 100000 in
set_option maxHeartbeats 2000000 in
theorem joined_any (op : Int) (ts : List Rx) (base : Nat) (A : Option Addr) (n cap : Nat) (w : World) (hk : Kids base w (.slice A n cap) ts) (hn : ts.length ≤ 1000) :
    Calls Tryd.prog 60 #[.int .i64 op, .slice A n cap] w fun e w' => ∃ op' a b c d A' n' cap', e = .returned (.agg #[.int .i64 op', .int .u64 ((a : Nat) : Int), .int .u64 ((b : Nat) : Int), .int .u64 ((c : Nat) : Int), .int .u64 ((d : Nat) : Int), .slice A' n' cap']) ∧ RxIn (fun b => base ≤ b) w' (.agg (c6 op' a b c d A' n' cap')) (joined op ts) ∧ Below w.heap.size w w' := by
  by_cases h1 : ts.length = 1
  · obtain ⟨t, rfl⟩ := List.length_eq_one_iff.1 h1
    obtain ⟨rfl, g, V, rfl, hc, hx⟩ := hk.one
    obtain ⟨op', a, b, c, d, A', n', cap', hv⟩ := hx.form
    obtain ⟨e0, e1, e2, e3, e4, e5⟩ := val6_eq hv
    have hgl : g < w.heap.size := World.block_lt_of_cell? w _ (hc 0 (by omega))
    have c0 := hc 0 (by omega)
    have c1 := hc 1 (by omega)
    have c2 := hc 2 (by omega)
    have c3 := hc 3 (by omega)
    have c4 := hc 4 (by omega)
    have c5 := hc 5 (by omega)
    rw [e0] at c0
    rw [e1] at c1
    rw [e2] at c2
    rw [e3] at c3
    rw [e4] at c4
    rw [e5] at c5
    have B := Lib.hid (((Below.refl w.heap.size w)).alloc (Nat.le_refl _) (.cells #[.int .i64 op', .int .u64 (a : Int), .int .u64 (b : Int), .int .u64 (c : Int), .int .u64 (d : Int), .slice A' n' cap'] 34))
    rw [hv] at hx
    have X := Lib.hid (hx.under B.out (Nat.le_refl _))
    have HH := Lib.hid (heap_alloc_new w (.cells #[.int .i64 op', .int .u64 (a : Int), .int .u64 (b : Int), .int .u64 (c : Int), .int .u64 (d : Int), .slice A' n' cap'] 34))
    clear hc hv e0 e1 e2 e3 e4 e5 hx h1 hn hk
    go_enter Tryd.func60, Tryd.ntmps60
    go_wp2
    exact bodyPost_ret (results_cell_row rfl _ _ w.heap.size 34 _ (0, 0) _ rfl HH.out Tryd.underlying34 rfl Tryd.size6) rfl ⟨op', a, b, c, d, A', n', cap', rfl, X.out, B.out⟩
  · obtain ⟨rfl, hx⟩ := hk.node op
    have e : Hid (joined op ts = .mk op 0 0 0 0 ts) := joined_two h1
    have h1z : ((ts.length : Int) == 1) = false := by simp; omega
    have B := Lib.hid (((Below.refl w.heap.size w)).alloc (Nat.le_refl _) (.cells #[.int .i64 op, .int .u64 0, .int .u64 0, .int .u64 0, .int .u64 0, .slice A ts.length cap] 34))
    have X := Lib.hid (hx.under B.out (Nat.le_refl _))
    have HH := Lib.hid (heap_alloc_new w (.cells #[.int .i64 op, .int .u64 0, .int .u64 0, .int .u64 0, .int .u64 0, .slice A ts.length cap] 34))
    clear hx h1 hk
    generalize hN : ts.length = N at *
    clear hN
    go_enter Tryd.func60, Tryd.ntmps60
    go_wp2
    exact bodyPost_ret (results_cell_row rfl _ _ w.heap.size 34 _ (0, 0) _ rfl HH.out Tryd.underlying34 rfl Tryd.size6) rfl ⟨op, 0, 0, 0, 0, A, N, cap, rfl, by rw [e.out]; exact X.out, B.out⟩

set_option maxRecDepth 100000 in
set_option maxHeartbeats 2000000 in
theorem repeated_any (op : Int) (t : Rx) (base : Nat) (o : Int) (a b c d : Nat) (A : Option Addr) (n cap : Nat) (w : World) (hb : base ≤ w.heap.size) (hx : RxIn (fun b => base ≤ b) w (.agg (c6 o a b c d A n cap)) t) :
    Calls Tryd.prog 71 #[.int .i64 op, .agg #[.int .i64 o, .int .u64 (a : Int), .int .u64 (b : Int), .int .u64 (c : Int), .int .u64 (d : Int), .slice A n cap]] w fun e w' => ∃ A' n' cap', e = .returned (.agg #[.int .i64 op, .int .u64 0, .int .u64 0, .int .u64 0, .int .u64 0, .slice A' n' cap']) ∧ RxIn (fun b => base ≤ b) w' (.agg (c6 op 0 0 0 0 A' n' cap')) (rep op t) ∧ Below w.heap.size w w' := by
  obtain ⟨_, e2, e3, z, B⟩ := alloc3 w (.cells #[.int .i64 o, .int .u64 (a : Int), .int .u64 (b : Int), .int .u64 (c : Int), .int .u64 (d : Int), .slice A n cap] 34) (.cells #[.int .i64 op, .int .u64 0, .int .u64 0, .int .u64 0, .int .u64 0, .slice (some ⟨w.heap.size + 2, 0, none⟩) 1 1] 34) (.cells #[.int .i64 o, .int .u64 (a : Int), .int .u64 (b : Int), .int .u64 (c : Int), .int .u64 (d : Int), .slice A n cap] 34)
  have X := hx.under B (Nat.le_refl _)
  have HH := Lib.hid e2
  have BB := Lib.hid B
  have RX : Hid (RxIn (fun b => base ≤ b) (((w.alloc (.cells #[.int .i64 o, .int .u64 (a : Int), .int .u64 (b : Int), .int .u64 (c : Int), .int .u64 (d : Int), .slice A n cap] 34)).alloc (.cells #[.int .i64 op, .int .u64 0, .int .u64 0, .int .u64 0, .int .u64 0, .slice (some ⟨w.heap.size + 2, 0, none⟩) 1 1] 34)).alloc (.cells #[.int .i64 o, .int .u64 (a : Int), .int .u64 (b : Int), .int .u64 (c : Int), .int .u64 (d : Int), .slice A n cap] 34)) (.agg (c6 op 0 0 0 0 (some ⟨w.heap.size + 2, 0, none⟩) 1 1)) (rep op t)) := by
    generalize ((w.alloc (.cells #[.int .i64 o, .int .u64 (a : Int), .int .u64 (b : Int), .int .u64 (c : Int), .int .u64 (d : Int), .slice A n cap] 34)).alloc (.cells #[.int .i64 op, .int .u64 0, .int .u64 0, .int .u64 0, .int .u64 0, .slice (some ⟨w.heap.size + 2, 0, none⟩) 1 1] 34)).alloc (.cells #[.int .i64 o, .int .u64 (a : Int), .int .u64 (b : Int), .int .u64 (c : Int), .int .u64 (d : Int), .slice A n cap] 34) = W at *
    refine RxIn.node op 0 0 0 0 [t] (some ⟨w.heap.size + 2, 0, none⟩) 1 (w.heap.size + 2) 0 (fun _ i => (c6 o a b c d A n cap).getD i Go.undef) (Nat.le_refl _) (fun e => by cases e) (fun _ => rfl) (fun _ => by omega) (fun j i hj hi => ?_) (fun j hj => ?_)
    · obtain rfl : j = 0 := by simpa using hj
      obtain ⟨q0, q1, q2, q3, q4, q5⟩ := Row6.cells e3
      match i, hi with
      | 0, _ => exact q0
      | 1, _ => exact q1
      | 2, _ => exact q2
      | 3, _ => exact q3
      | 4, _ => exact q4
      | 5, _ => exact q5
    · obtain rfl : j = 0 := by simpa using hj
      exact X
  clear e2 e3 z B X hx
  go_enter Tryd.func71, Tryd.ntmps71
  go_wp2
  exact bodyPost_ret (results_cell_row rfl _ _ (w.heap.size + 1) 34 _ (0, 0) _ rfl HH.out Tryd.underlying34 rfl Tryd.size6) rfl ⟨_, _, _, rfl, RX.out, BB.out⟩

end Go.Proofs.YtonfmbnankihbaaDoor
namespace Go.Proofs.YtonfmbnankihbaaDoor
namespace Rx
mutual
/-- How many steps a tree has. -/
def sz : Rx → Nat
  | .mk op _ _ _ _ ks => if op = 1 then 1 else if op = 3 then szL ks + 2 * (ks.length - 1) else if op = 4 then szL ks + 2 else if op = 5 then szL ks + 1 else if op = 6 then szL ks + 1 else szL ks
def szL : List Rx → Nat
  | [] => 0
  | k :: r => sz k + szL r
end
theorem szL_app : ∀ (l r : List Rx), szL (l ++ r) = szL l + szL r
  | [], r => by simp [szL]
  | k :: l, r => by simp only [List.cons_append, szL]; rw [szL_app l r]; omega
theorem szL_one (k : Rx) : szL [k] = sz k := by simp [szL]
mutual
theorem sz_le : ∀ t : Rx, sz t + 2 ≤ 4 * count t
  | .mk op a b c d ks => by
    have h := szL_le ks
    have hc := len_count ks
    rw [sz, count]
    split
    · omega
    · split
      · omega
      · split
        · omega
        · split
          · omega
          · split <;> omega
theorem szL_le : ∀ ks : List Rx, szL ks + 2 * ks.length ≤ 4 * countL ks
  | [] => by simp [szL, countL]
  | k :: r => by have := sz_le k; have := szL_le r; rw [szL, countL, List.length_cons]; omega
end
theorem take_nth {ks : List Rx} {j : Nat} (h : j < ks.length) : ks.take (j + 1) = ks.take j ++ [nth ks j] := by
  rw [List.take_add_one, List.getElem?_eq_getElem h, nth_eq h]; rfl
theorem szL_take {ks : List Rx} {j : Nat} (h : j < ks.length) : szL (ks.take (j + 1)) = szL (ks.take j) + sz (nth ks j) := by rw [take_nth h, szL_app, szL_one]
theorem szL_all {ks : List Rx} {j : Nat} (h : ks.length ≤ j) : szL (ks.take j) = szL ks := by rw [List.take_of_length_le h]
theorem szL_sum (ks : List Rx) (j : Nat) : szL (ks.take j) ≤ szL ks := by
  have := szL_app (ks.take j) (ks.drop j)
  rw [List.take_append_drop] at this; omega
theorem countL_app : ∀ (l r : List Rx), countL (l ++ r) = countL l + countL r
  | [], r => by simp [countL]
  | k :: l, r => by simp only [List.cons_append, countL]; rw [countL_app l r]; omega
theorem countL_pre (ks : List Rx) (j : Nat) : countL (ks.take j) ≤ countL ks := by
  have := countL_app (ks.take j) (ks.drop j)
  rw [List.take_append_drop] at this; omega
end Rx

/-- A step. -/
structure St where
  op : Int
  a : Nat
  b : Nat
  c : Nat
  d : Nat
  x : Int
  y : Int
deriving DecidableEq
namespace St
def byte (a b c d : Nat) : St := ⟨1, a, b, c, d, 0, 0⟩
def split (x y : Nat) : St := ⟨2, 0, 0, 0, 0, x, y⟩
def jump (x : Nat) : St := ⟨3, 0, 0, 0, 0, x, 0⟩
def mat : St := ⟨4, 0, 0, 0, 0, 0, 0⟩
def nil : St := ⟨0, 0, 0, 0, 0, 0, 0⟩
end St
namespace Rx
mutual
/-- The steps of a tree, the first one at index n. -/
def lay (n : Nat) : Rx → List St
  | .mk op a b c d ks =>
    if op = 1 then [St.byte a b c d]
    else if op = 3 then ways n (n + (szL ks + 2 * (ks.length - 1))) ks
    else if op = 4 then St.split (n + 1) (n + 2 + szL ks) :: (layL (n + 1) ks ++ [St.jump n])
    else if op = 5 then layL n ks ++ [St.split n (n + szL ks + 1)]
    else if op = 6 then St.split (n + 1) (n + 1 + szL ks) :: layL (n + 1) ks
    else layL n ks
def layL (n : Nat) : List Rx → List St
  | [] => []
  | k :: r => lay n k ++ layL (n + sz k) r
def ways (n e : Nat) : List Rx → List St
  | [] => []
  | k :: r => if r.isEmpty then lay n k else St.split (n + 1) (n + 2 + sz k) :: (lay (n + 1) k ++ St.jump e :: ways (n + 2 + sz k) e r)
end
mutual
theorem lay_len : ∀ (t : Rx) (n : Nat), (lay n t).length = sz t
  | .mk op a b c d ks, n => by
    rw [lay, sz]
    split
    · rfl
    · split
      · exact ways_len ks n _
      · split
        · rw [List.length_cons, List.length_append, layL_len ks]; rfl
        · split
          · rw [List.length_append, layL_len ks]; rfl
          · split
            · rw [List.length_cons, layL_len ks]
            · exact layL_len ks n
theorem layL_len : ∀ (ks : List Rx) (n : Nat), (layL n ks).length = szL ks
  | [], n => rfl
  | k :: r, n => by rw [layL, szL, List.length_append, lay_len k, layL_len r]
theorem ways_len : ∀ (ks : List Rx) (n e : Nat), (ways n e ks).length = szL ks + 2 * (ks.length - 1)
  | [], n, e => rfl
  | k :: r, n, e => by
    rw [ways]
    rcases r with _ | ⟨k2, r2⟩
    · simp [szL, lay_len k]
    · have h := ways_len (k2 :: r2) (n + 2 + sz k) e
      rw [if_neg (by simp), List.length_cons, List.length_append, List.length_cons, lay_len k, h]
      simp only [szL, List.length_cons]
      omega
end
theorem layL_app : ∀ (l r : List Rx) (n : Nat), layL n (l ++ r) = layL n l ++ layL (n + szL l) r
  | [], r, n => by simp [szL, layL]
  | k :: l, r, n => by rw [List.cons_append, layL, layL_app l r, layL, szL, List.append_assoc, Nat.add_assoc]
theorem layL_one (n : Nat) (k : Rx) : layL n [k] = lay n k := by rw [layL, layL, List.append_nil]
theorem layL_take {ks : List Rx} {j : Nat} (h : j < ks.length) (n : Nat) : layL n (ks.take (j + 1)) = layL n (ks.take j) ++ lay (n + szL (ks.take j)) (nth ks j) := by
  rw [take_nth h, layL_app, layL_one]
/-- All but the last one of some ways: the i-th one jumps to f i. -/
def pre (f : Nat → Nat) (n i : Nat) : List Rx → List St
  | [] => []
  | k :: r => St.split (n + 1) (n + 2 + sz k) :: (lay (n + 1) k ++ St.jump (f i) :: pre f (n + 2 + sz k) (i + 1) r)
/-- How many steps these are. -/
def szW : List Rx → Nat
  | [] => 0
  | k :: r => 2 + sz k + szW r
theorem szW_app : ∀ (l r : List Rx), szW (l ++ r) = szW l + szW r
  | [], r => by simp [szW]
  | k :: l, r => by simp only [List.cons_append, szW]; rw [szW_app l r]; omega
theorem szW_eq : ∀ l : List Rx, szW l = szL l + 2 * l.length
  | [] => rfl
  | k :: l => by rw [szW, szL, List.length_cons, szW_eq l]; omega
theorem pre_len (f : Nat → Nat) : ∀ (l : List Rx) (n i : Nat), (pre f n i l).length = szW l
  | [], n, i => rfl
  | k :: l, n, i => by rw [pre, szW, List.length_cons, List.length_append, List.length_cons, lay_len, pre_len f l]; omega
theorem pre_snoc (f : Nat → Nat) (k : Rx) : ∀ (l : List Rx) (n i : Nat), pre f n i (l ++ [k]) = pre f n i l ++ St.split (n + szW l + 1) (n + szW l + 2 + sz k) :: (lay (n + szW l + 1) k ++ [St.jump (f (i + l.length))])
  | [], n, i => by simp [pre, szW]
  | x :: l, n, i => by
    rw [List.cons_append, pre, pre_snoc f k l, pre, szW, List.length_cons]
    have e : n + 2 + sz x + szW l = n + (2 + sz x + szW l) := by omega
    have e2 : i + 1 + l.length = i + (l.length + 1) := by omega
    rw [e, e2]
    simp
theorem pre_congr {f g : Nat → Nat} : ∀ (l : List Rx) (n i : Nat), (∀ j, i ≤ j → j < i + l.length → f j = g j) → pre f n i l = pre g n i l
  | [], n, i, _ => rfl
  | k :: l, n, i, h => by
    rw [pre, pre, h i (Nat.le_refl _) (by simp), pre_congr l (n + 2 + sz k) (i + 1) fun j h1 h2 => h j (by omega) (by simp at h2 ⊢; omega)]
theorem ways_pre (e : Nat) (k : Rx) : ∀ (l : List Rx) (n i : Nat), ways n e (l ++ [k]) = pre (fun _ => e) n i l ++ lay (n + szW l) k
  | [], n, i => by simp [ways, pre, szW]
  | x :: l, n, i => by
    rw [List.cons_append, ways, if_neg (by simp), ways_pre e k l (n + 2 + sz x) (i + 1), pre, szW]
    have e1 : n + 2 + sz x + szW l = n + (2 + sz x + szW l) := by omega
    rw [e1]
    simp
theorem last_split {ks : List Rx} (h : 0 < ks.length) : ks = ks.take (ks.length - 1) ++ [nth ks (ks.length - 1)] := by
  have := take_nth (ks := ks) (j := ks.length - 1) (by omega)
  rw [show ks.length - 1 + 1 = ks.length by omega, List.take_length] at this
  exact this
theorem ways_eq {ks : List Rx} (h : 0 < ks.length) (n e : Nat) : ways n e ks = pre (fun _ => e) n 0 (ks.take (ks.length - 1)) ++ lay (n + szW (ks.take (ks.length - 1))) (nth ks (ks.length - 1)) := by
  conv => lhs; rw [last_split h]
  exact ways_pre e _ _ n 0
/-- Where the jumps lie. -/
def jpos (n : Nat) : List Rx → List Nat
  | [] => []
  | k :: r => (n + 1 + sz k) :: jpos (n + 2 + sz k) r
theorem jpos_len : ∀ (l : List Rx) (n : Nat), (jpos n l).length = l.length
  | [], n => rfl
  | k :: l, n => by rw [jpos, List.length_cons, jpos_len l, List.length_cons]
theorem jpos_snoc (k : Rx) : ∀ (l : List Rx) (n : Nat), jpos n (l ++ [k]) = jpos n l ++ [n + szW l + 1 + sz k]
  | [], n => by simp [jpos, szW]
  | x :: l, n => by
    rw [List.cons_append, jpos, jpos_snoc k l, jpos, szW]
    have e : n + 2 + sz x + szW l = n + (2 + sz x + szW l) := by omega
    rw [e]; rfl
theorem jpos_get : ∀ (l : List Rx) (n j : Nat), j < l.length → ∃ p, (jpos n l)[j]? = some p ∧ n ≤ p ∧ p < n + szW l ∧ ∀ (f g : Nat → Nat) (i e : Nat), g (i + j) = e → (∀ m, m ≠ i + j → g m = f m) → (pre f n i l).set (p - n) (St.jump e) = pre g n i l ∧ (pre f n i l)[p - n]? = some (St.jump (f (i + j)))
  | k :: l, n, 0, _ => by
    refine ⟨n + 1 + sz k, rfl, by omega, by rw [szW]; omega, fun f g i e hg hf => ?_⟩
    have e1 : n + 1 + sz k - n = (St.split (n + 1) (n + 2 + sz k) :: lay (n + 1) k).length := by rw [List.length_cons, lay_len]; omega
    have e2 : ∀ f, pre f n i (k :: l) = (St.split (n + 1) (n + 2 + sz k) :: lay (n + 1) k) ++ St.jump (f i) :: pre f (n + 2 + sz k) (i + 1) l := fun f => by rw [pre]; simp
    rw [e1, e2, e2, List.set_append_right _ _ (Nat.le_refl _), Nat.sub_self, List.set_cons_zero, ← hg, Nat.add_zero, pre_congr (f := f) (g := g) l (n + 2 + sz k) (i + 1) fun j h1 h2 => (hf j (by omega)).symm]
    exact ⟨rfl, by rw [List.getElem?_append_right (Nat.le_refl _), Nat.sub_self]; rfl⟩
  | k :: l, n, j + 1, h => by
    obtain ⟨p, h1, h2, h3, h4⟩ := jpos_get l (n + 2 + sz k) j (by simpa using h)
    refine ⟨p, h1, by omega, by rw [szW]; omega, fun f g i e hg hf => ?_⟩
    have e2 : ∀ f, pre f n i (k :: l) = (St.split (n + 1) (n + 2 + sz k) :: (lay (n + 1) k ++ [St.jump (f i)])) ++ pre f (n + 2 + sz k) (i + 1) l := fun f => by rw [pre]; simp
    have hl : (St.split (n + 1) (n + 2 + sz k) :: (lay (n + 1) k ++ [St.jump (f i)])).length = 2 + sz k := by simp [lay_len]; omega
    obtain ⟨q1, q2⟩ := h4 f g (i + 1) e (by rw [← hg]; congr 1; omega) (fun m hm => hf m (by omega))
    have e3 : p - n - (2 + sz k) = p - (n + 2 + sz k) := by omega
    rw [e2, e2, List.set_append_right _ _ (by rw [hl]; omega), hl, e3, q1, hf i (by omega)]
    refine ⟨rfl, ?_⟩
    rw [← hf i (by omega), List.getElem?_append_right (by simp [lay_len]; omega)]
    have hl2 : (St.split (n + 1) (n + 2 + sz k) :: (lay (n + 1) k ++ [St.jump (g i)])).length = 2 + sz k := by simp [lay_len]; omega
    rw [hl2, e3, q2]
    congr 3; omega
end Rx

/-- May a step be in a program of n? -/
def okIdx (i : Int) (n : Nat) : Bool := decide (0 ≤ i) && decide (i < n)
def St.bare (s : St) : Bool := s.a == 0 && s.b == 0 && s.c == 0 && s.d == 0
def St.ok (s : St) (n : Nat) : Bool :=
  if s.op = 1 then s.x == 0 && s.y == 0
  else s.bare && (if s.op = 2 then okIdx s.x n && okIdx s.y n else if s.op = 3 then okIdx s.x n && s.y == 0 else if s.op = 4 then s.x == 0 && s.y == 0 else false)
def lastOp (l : List St) : Int := (l.getLastD St.nil).op
/-- Are steps a program? -/
def progOk (l : List St) : Bool := decide (1 ≤ l.length) && decide (l.length ≤ 40) && l.all (fun s => s.ok l.length) && decide (lastOp l ≠ 1)
/-- The program of a tree. -/
def progOf (t : Rx) : List St := Rx.lay 0 t ++ [St.mat]
theorem okIdx_yes {i n : Nat} (h : i < n) : okIdx (i : Int) n = true := by simp [okIdx]; omega
def GoodS (N : Nat) (s : St) : Prop := s.ok N = true ∧ s.op ≠ 4
theorem good_byte (N a b c d : Nat) : GoodS N (St.byte a b c d) := ⟨by simp [St.ok, St.byte], by simp [St.byte]⟩
theorem good_split {N x y : Nat} (hx : x < N) (hy : y < N) : GoodS N (St.split x y) := ⟨by simp [St.ok, St.split, St.bare, okIdx_yes hx, okIdx_yes hy], by simp [St.split]⟩
theorem good_jump {N x : Nat} (hx : x < N) : GoodS N (St.jump x) := ⟨by simp [St.ok, St.jump, St.bare, okIdx_yes hx], by simp [St.jump]⟩
mutual
theorem lay_good : ∀ (t : Rx) (n N : Nat), n + Rx.sz t < N → ∀ s ∈ Rx.lay n t, GoodS N s
  | .mk op a b c d ks, n, N, h => by
    rw [Rx.sz] at h
    rw [Rx.lay]
    split at h
    · rw [if_pos (by assumption)]
      intro s hs
      rw [List.mem_singleton] at hs; subst hs; exact good_byte N a b c d
    · rw [if_neg (by assumption)]
      split at h
      · rw [if_pos (by assumption)]
        exact waysS_good ks n _ N (by omega) (by omega)
      · rw [if_neg (by assumption)]
        split at h
        · rw [if_pos (by assumption)]
          have := layL_good ks (n + 1) N (by omega)
          intro s hs
          rw [List.mem_cons, List.mem_append, List.mem_singleton] at hs
          rcases hs with rfl | hs | rfl
          · exact good_split (by omega) (by omega)
          · exact this s hs
          · exact good_jump (by omega)
        · rw [if_neg (by assumption)]
          split at h
          · rw [if_pos (by assumption)]
            have := layL_good ks n N (by omega)
            intro s hs
            rw [List.mem_append, List.mem_singleton] at hs
            rcases hs with hs | rfl
            · exact this s hs
            · exact good_split (by omega) (by omega)
          · rw [if_neg (by assumption)]
            split at h
            · rw [if_pos (by assumption)]
              have := layL_good ks (n + 1) N (by omega)
              intro s hs
              rw [List.mem_cons] at hs
              rcases hs with rfl | hs
              · exact good_split (by omega) (by omega)
              · exact this s hs
            · rw [if_neg (by assumption)]
              exact layL_good ks n N h
theorem layL_good : ∀ (ks : List Rx) (n N : Nat), n + Rx.szL ks < N → ∀ s ∈ Rx.layL n ks, GoodS N s
  | [], n, N, h => by intro s hs; rw [Rx.layL] at hs; cases hs
  | k :: r, n, N, h => by
    rw [Rx.szL] at h
    intro s hs
    rw [Rx.layL, List.mem_append] at hs
    rcases hs with hs | hs
    · exact lay_good k n N (by omega) s hs
    · exact layL_good r (n + Rx.sz k) N (by omega) s hs
theorem waysS_good : ∀ (ks : List Rx) (n e N : Nat), n + (Rx.szL ks + 2 * (ks.length - 1)) < N → e < N → ∀ s ∈ Rx.ways n e ks, GoodS N s
  | [], n, e, N, h, he => by intro s hs; rw [Rx.ways] at hs; cases hs
  | k :: r, n, e, N, h, he => by
    intro s hs
    rw [Rx.ways] at hs
    rcases r with _ | ⟨k2, r2⟩
    · rw [if_pos (by rfl)] at hs
      exact lay_good k n N (by simp [Rx.szL] at h; omega) s hs
    · simp only [Rx.szL, List.length_cons] at h
      rw [if_neg (by simp), List.mem_cons, List.mem_append, List.mem_cons] at hs
      rcases hs with rfl | hs | rfl | hs
      · exact good_split (by omega) (by omega)
      · exact lay_good k (n + 1) N (by omega) s hs
      · exact good_jump he
      · exact waysS_good (k2 :: r2) (n + 2 + Rx.sz k) e N (by simp only [Rx.szL, List.length_cons]; omega) he s hs
end
theorem prog_len (t : Rx) : (progOf t).length = Rx.sz t + 1 := by rw [progOf, List.length_append, Rx.lay_len]; rfl
/-- A tree's program may be one. -/
theorem prog_ok {t : Rx} (h : Rx.sz t + 1 ≤ 40) : progOk (progOf t) = true := by
  have hg := lay_good t 0 (Rx.sz t + 1) (by omega)
  have hl : lastOp (progOf t) = 4 := by simp [lastOp, progOf, St.mat]
  rw [progOk, hl, prog_len]
  have ha : (progOf t).all (fun s => s.ok (Rx.sz t + 1)) = true := by
    rw [List.all_eq_true]
    intro s hs
    rw [progOf, List.mem_append, List.mem_singleton] at hs
    rcases hs with hs | rfl
    · exact (hg s hs).1
    · simp [St.ok, St.mat, St.bare]
  rw [ha]
  simp; omega

end Go.Proofs.YtonfmbnankihbaaDoor
namespace Go.Proofs.YtonfmbnankihbaaDoor
open Go.RowKit

def cells7 (s : St) : List Value := [.int .i64 s.op, .int .u64 (s.a : Int), .int .u64 (s.b : Int), .int .u64 (s.c : Int), .int .u64 (s.d : Int), .int .i64 s.x, .int .i64 s.y]
def sc (L : List St) : List Value := L.flatMap cells7
theorem sc_len : ∀ L : List St, (sc L).length = L.length * 7
  | [] => rfl
  | x :: r => by have := sc_len r; simp only [sc, List.flatMap_cons, List.length_append, List.length_cons] at this ⊢; rw [this]; simp [cells7]; omega
theorem sc_app (L M : List St) : sc (L ++ M) = sc L ++ sc M := by simp [sc]
theorem sc_one (s : St) : sc [s] = cells7 s := by simp [sc]
def nthS (L : List St) (j : Nat) : St := L.getD j St.nil
theorem nthS_eq {L : List St} {j : Nat} (h : j < L.length) : nthS L j = L[j] := by simp [nthS, List.getD, List.getElem?_eq_getElem h]
/-- Cell i of a step. -/
def cellS (s : St) (i : Nat) : Value := (cells7 s).getD i Go.undef
theorem cells7_get (s : St) {i : Nat} (h : i < 7) : (cells7 s)[i]? = some (cellS s i) := by
  match i, h with
  | 0, _ => rfl
  | 1, _ => rfl
  | 2, _ => rfl
  | 3, _ => rfl
  | 4, _ => rfl
  | 5, _ => rfl
  | 6, _ => rfl
theorem sc_get : ∀ (L : List St) (j i : Nat), j < L.length → i < 7 → (sc L)[j * 7 + i]? = some (cellS (nthS L j) i)
  | x :: r, 0, i, _, hi => by
    show (cells7 x ++ sc r)[0 * 7 + i]? = _
    rw [Nat.zero_mul, Nat.zero_add, List.getElem?_append_left (by simp [cells7]; omega), cells7_get x hi]; rfl
  | x :: r, j + 1, i, hj, hi => by
    show (cells7 x ++ sc r)[(j + 1) * 7 + i]? = _
    rw [List.getElem?_append_right (by simp [cells7]; omega)]
    have := sc_get r j i (by simpa using hj) hi
    rw [show (j + 1) * 7 + i - (cells7 x).length = j * 7 + i by simp [cells7]; omega, this]
    rfl
/-- A store into a field of a step. -/
theorem sc_set (f : St → Int → St) (i : Nat) (hf : ∀ (s : St) (z : Int), (cells7 s).set i (.int .i64 z) = cells7 (f s z)) (hi : i < 7) (z : Int) : ∀ (L : List St) (j : Nat), j < L.length → (sc L).set (j * 7 + i) (.int .i64 z) = sc (L.set j (f (nthS L j) z))
  | x :: r, 0, _ => by
    show (cells7 x ++ sc r).set (0 * 7 + i) _ = _
    rw [Nat.zero_mul, Nat.zero_add, List.set_append_left _ _ (by simp [cells7]; omega), hf]; rfl
  | x :: r, j + 1, h => by
    show (cells7 x ++ sc r).set ((j + 1) * 7 + i) _ = _
    rw [List.set_append_right _ _ (by simp [cells7]; omega), show (j + 1) * 7 + i - (cells7 x).length = j * 7 + i by simp [cells7]; omega, sc_set f i hf hi z r j (by simpa using h)]
    rfl
def St.setX (s : St) (z : Int) : St := { s with x := z }
def St.setY (s : St) (z : Int) : St := { s with y := z }
theorem sc_setX (L : List St) (j : Nat) (z : Int) (h : j < L.length) : (sc L).set (j * 7 + 5) (.int .i64 z) = sc (L.set j ((nthS L j).setX z)) := sc_set St.setX 5 (fun _ _ => rfl) (by omega) z L j h
theorem sc_setY (L : List St) (j : Nat) (z : Int) (h : j < L.length) : (sc L).set (j * 7 + 6) (.int .i64 z) = sc (L.set j ((nthS L j).setY z)) := sc_set St.setY 6 (fun _ _ => rfl) (by omega) z L j h
theorem Tryd.infoS : (Tryd.prog.info? 48).map (fun i => (i.zero, i.size, i.bytes)) = some (some (.agg #[.int .i64 0, .int .u64 0, .int .u64 0, .int .u64 0, .int .u64 0, .int .i64 0, .int .i64 0]), 7, 56) := by kernel_rfl

/-- A row of steps that one owns. -/
def Steps (base : Nat) (w : World) (v : Value) (L : List St) : Prop := w.ownsRow base 48 7 v L.length (sc L)
theorem Steps.nil (base : Nat) (w : World) : Steps base w (.slice none 0 0) [] := World.ownsRow_nil _ _ _ _
/-- What moves of a world while v grows to v'. -/
structure Moved (w : World) (v : Value) (w' : World) (v' : Value) : Prop where
  os : w'.os = w.os
  tape : w'.tape = w.tape
  output : w'.output = w.output
  size : w.heap.size ≤ w'.heap.size
  block : ∀ k, k < w.heap.size → some k ≠ v.ownBlock → w'.heap[k]? = w.heap[k]?
  own : v'.ownBlock = v.ownBlock ∨ ∃ g, v'.ownBlock = some g ∧ w.heap.size ≤ g
theorem Moved.refl (w : World) (v : Value) : Moved w v w v := ⟨rfl, rfl, rfl, Nat.le_refl _, fun _ _ _ => rfl, .inl rfl⟩
theorem Moved.trans {w w1 w2 : World} {v v1 v2 : Value} (h : Moved w v w1 v1) (k : Moved w1 v1 w2 v2) : Moved w v w2 v2 := by
  refine ⟨k.os.trans h.os, k.tape.trans h.tape, k.output.trans h.output, Nat.le_trans h.size k.size, fun b hb hne => (k.block b (Nat.lt_of_lt_of_le hb h.size) ?_).trans (h.block b hb hne), ?_⟩
  · rcases h.own with e | ⟨g, e, hg⟩
    · rw [e]; exact hne
    · rw [e]; intro e2; injection e2; omega
  · rcases k.own with e | ⟨g, e, hg⟩
    · rcases h.own with e2 | ⟨g, e2, hg⟩
      · exact .inl (e.trans e2)
      · exact .inr ⟨g, e.trans e2, hg⟩
    · exact .inr ⟨g, e, Nat.le_trans h.size hg⟩
theorem Moved.grow {w w1 w2 : World} {v v1 : Value} (h : Moved w v w1 v1) (k : Below w1.heap.size w1 w2) : Moved w v w2 v1 :=
  ⟨k.os.trans h.os, k.tape.trans h.tape, k.output.trans h.output, Nat.le_trans h.size k.size, fun b hb hne => (k.block b (Nat.lt_of_lt_of_le hb h.size)).trans (h.block b hb hne), h.own⟩
theorem Moved.of {w w' : World} (v : Value) (h : Below w.heap.size w w') : Moved w v w' v := (Moved.refl w v).grow h
theorem Moved.below {B : Nat} {w w' : World} {v v' : Value} (h : Moved w v w' v') (hB : B ≤ w.heap.size) (hv : ∀ k, v.ownBlock = some k → B ≤ k) : Below B w w' :=
  ⟨h.os, h.tape, h.output, h.size, fun k hk => h.block k (by omega) (fun e => by have := hv k e.symm; omega)⟩
theorem Steps.low {base : Nat} {w : World} {v : Value} {L : List St} (h : Steps base w v L) : ∀ k, v.ownBlock = some k → base ≤ k := fun k hk => (h.lt k hk).1
theorem Steps.top {base : Nat} {w : World} {v : Value} {L : List St} (h : Steps base w v L) : ∀ k, v.ownBlock = some k → k < w.heap.size := fun k hk => (h.lt k hk).2
theorem Steps.grow {base : Nat} {w w' : World} {v : Value} {L : List St} (h : Steps base w v L) (hb : Below w.heap.size w w') : Steps base w' v L := by
  refine ⟨h.1, ?_⟩
  rcases h.2 with hn | ⟨g, cap, cur, e, hbg, hg, rest⟩
  · exact .inl hn
  · exact .inr ⟨g, cap, cur, e, hbg, (hb.block g (Array.getElem?_eq_some_iff.1 hg).1).trans hg, rest⟩
theorem Steps.form {base : Nat} {w : World} {A : Option Addr} {n cap : Nat} {L : List St} (h : Steps base w (.slice A n cap) L) : n = L.length := by
  rcases h.2 with ⟨e, h0⟩ | ⟨g, cap', cur, e, rest⟩
  · injection e with e1 e2 e3; omega
  · injection e with e1 e2 e3
theorem Steps.form2 {base : Nat} {w : World} {v : Value} {L : List St} (h : Steps base w v L) (hp : 0 < L.length) : ∃ g cap, v = .slice (some ⟨g, 0, none⟩) L.length cap := by
  rcases h.2 with ⟨e, h0⟩ | ⟨g, cap', cur, e, rest⟩
  · omega
  · exact ⟨g, cap', e⟩
theorem Steps.formA {base : Nat} {w : World} {v : Value} {L : List St} (h : Steps base w v L) : ∃ A cap, v = .slice A L.length cap := by
  rcases h.2 with ⟨e, h0⟩ | ⟨g, cap', cur, e, rest⟩
  · exact ⟨none, 0, by rw [e, h0]⟩
  · exact ⟨_, cap', e⟩
theorem Steps.cell {base : Nat} {w : World} {g n cap : Nat} {L : List St} (h : Steps base w (.slice (some ⟨g, 0, none⟩) n cap) L) {j i : Nat} (hj : j < L.length) (hi : i < 7) : w.cell? ⟨g, j * 7 + i, none⟩ = some (cellS (nthS L j) i) := by
  have := h.cells (g := g) rfl (j * 7 + i) _ (sc_get L j i hj hi)
  rw [add0] at this; exact this
theorem Steps.free {base : Nat} {w : World} {g n cap : Nat} {L : List St} (h : Steps base w (.slice (some ⟨g, 0, none⟩) n cap) L) (j : Nat) : w.frozen? ⟨g, j, none⟩ = false := by
  have e := h.form
  subst e
  exact World.ownsRow.frozenAt h j
theorem Steps.putX {base : Nat} {w : World} {g n cap : Nat} {L : List St} (h : Steps base w (.slice (some ⟨g, 0, none⟩) n cap) L) {j : Nat} (hj : j < L.length) (z : Int) : Steps base (w.setCell ⟨g, j * 7 + 5, none⟩ (.int .i64 z)) (.slice (some ⟨g, 0, none⟩) n cap) (L.set j ((nthS L j).setX z)) ∧ Moved w (.slice (some ⟨g, 0, none⟩) n cap) (w.setCell ⟨g, j * 7 + 5, none⟩ (.int .i64 z)) (.slice (some ⟨g, 0, none⟩) n cap) := by
  have e := h.form
  subst e
  obtain ⟨h1, h2⟩ := World.ownsRow.stored h (j * 7 + 5) (.int .i64 z)
  rw [sc_setX L j z hj] at h1
  refine ⟨by unfold Steps; rw [List.length_set]; exact h1, ⟨h2.os, h2.tape, h2.output, h2.size, fun k hk hne => h2.block k hk hne, .inl rfl⟩⟩
theorem Steps.putY {base : Nat} {w : World} {g n cap : Nat} {L : List St} (h : Steps base w (.slice (some ⟨g, 0, none⟩) n cap) L) {j : Nat} (hj : j < L.length) (z : Int) : Steps base (w.setCell ⟨g, j * 7 + 6, none⟩ (.int .i64 z)) (.slice (some ⟨g, 0, none⟩) n cap) (L.set j ((nthS L j).setY z)) ∧ Moved w (.slice (some ⟨g, 0, none⟩) n cap) (w.setCell ⟨g, j * 7 + 6, none⟩ (.int .i64 z)) (.slice (some ⟨g, 0, none⟩) n cap) := by
  have e := h.form
  subst e
  obtain ⟨h1, h2⟩ := World.ownsRow.stored h (j * 7 + 6) (.int .i64 z)
  rw [sc_setY L j z hj] at h1
  refine ⟨by unfold Steps; rw [List.length_set]; exact h1, ⟨h2.os, h2.tape, h2.output, h2.size, fun k hk hne => h2.block k hk hne, .inl rfl⟩⟩
theorem nthS_mid {L M : List St} {s : St} {n : Nat} (h : L.length = n) : nthS (L ++ s :: M) n = s := by subst h; simp [nthS, List.getD]
theorem set_mid {L M : List St} {s s' : St} {n : Nat} (h : L.length = n) : (L ++ s :: M).set n s' = L ++ s' :: M := by subst h; simp
theorem Steps.fixY {base : Nat} {w : World} {g m cap n : Nat} {L M : List St} {s : St} (h : Steps base w (.slice (some ⟨g, 0, none⟩) m cap) (L ++ s :: M)) (hL : L.length = n) (z : Int) {s' : St} (hs : s.setY z = s') :
    Steps base (w.setCell ⟨g, n * 7 + 6, none⟩ (.int .i64 z)) (.slice (some ⟨g, 0, none⟩) m cap) (L ++ s' :: M) ∧ Moved w (.slice (some ⟨g, 0, none⟩) m cap) (w.setCell ⟨g, n * 7 + 6, none⟩ (.int .i64 z)) (.slice (some ⟨g, 0, none⟩) m cap) := by
  have hn : n < (L ++ s :: M).length := by rw [List.length_append, List.length_cons]; omega
  have := h.putY hn z
  rw [nthS_mid hL, set_mid hL, hs] at this
  exact this
/-- append(v, s) of one step, which a literal's row holds. -/
theorem wpList_appS {ops : Array Oper} {rest : List Oper} {o : Oper} {a : Act} {w : World} {Q : Exit → Act → World → Prop} {cs : Array Value} (hgd : o.guard = none) (sl x : Operand) (ho : o.op = .call { callee := .builtin .append, args := #[sl, x], argTypes := #[22, 22] })
    (base : Nat) (v : Value) (L : List St) (n : Nat) (s : St) (g : Nat) (hs : a.eval sl = v) (hx : a.eval x = .slice (some ⟨g, 0, none⟩) 1 1) (hg : w.heap.size = g) (hcs : cs = (cells7 s).toArray) (h : Steps base w v L) (hL : L.length = n) (hn : n ≤ 100000) (hbase : base ≤ w.heap.size)
    (hk : ∀ g' cap' w', Steps base w' (.slice (some ⟨g', 0, none⟩) (n + 1) cap') (L ++ [s]) → Moved w v w' (.slice (some ⟨g', 0, none⟩) (n + 1) cap') → wpList Tryd.prog ops Q rest (a.put o.dst (.slice (some ⟨g', 0, none⟩) (n + 1) cap')) w') : wpList Tryd.prog ops Q (o :: rest) a (w.alloc (.cells cs 48)) := by
  subst hcs
  subst hL
  subst hg
  have B1 : Below w.heap.size w (w.alloc (.cells (cells7 s).toArray 48)) := (Below.refl _ _).alloc (Nat.le_refl _) _
  have hnew := heap_alloc_new w (.cells (cells7 s).toArray 48)
  have h1 : Steps base (w.alloc (.cells (cells7 s).toArray 48)) v L := h.grow B1
  have z1 : (w.alloc (.cells (cells7 s).toArray 48)).heap.size = w.heap.size + 1 := by simp
  generalize w.alloc (.cells (cells7 s).toArray 48) = w1 at *
  obtain ⟨i0, hi, hz0, hz1, hz2⟩ := info_parts Tryd.infoS
  refine wpList_append_own_at (P := Tryd.prog) w1 hgd sl x 22 ho base 48 i0 _ 7 56 Tryd.underlying22 hi hz0 hz1 hz2 rfl (by decide) v L.length (sc L) hs h1 ⟨w.heap.size, 0, none⟩ 1 1 (cells7 s) hx rfl ?_ ?_ (by unfold maxLen; omega) (by omega) (by omega) ?_
  · intro j u hj
    rw [add0, cell_of_row _ w.heap.size j _ _ _ hnew]
    simpa using hj
  · intro u hu
    simp only [cells7, List.mem_cons, List.not_mem_nil, or_false] at hu
    rcases hu with rfl | rfl | rfl | rfl | rfl | rfl | rfl <;> rfl
  · intro v' w' h2 h3 h4 h5
    have hS : Steps base w' v' (L ++ [s]) := by unfold Steps; rw [List.length_append, sc_app, sc_one]; exact h2
    obtain ⟨g', cap', e⟩ := hS.form2 (by simp)
    rw [List.length_append, List.length_singleton] at e
    subst e
    refine hk g' cap' w' hS ?_
    have M1 : Moved w v w1 v := Moved.of v B1
    refine M1.trans ⟨h3.os, h3.tape, h3.output, h3.size, fun k hk hne => h3.block k hk hne, ?_⟩
    rcases h5 with e | e
    · exact .inl e
    · exact .inr ⟨_, e, Nat.le_refl _⟩
/-- A tree lies in blocks that are there. -/
theorem IsRx.in {w : World} {v : Value} {t : Rx} (h : IsRx w v t) : RxIn (fun b => b < w.heap.size) w v t := by
  induction h with
  | node op a b c d ks A cap blk off V hcap hA hp hc hk ih => exact .node op a b c d ks A cap blk off V hcap hA hp (fun h0 => World.block_lt_of_cell? w _ (hc 0 0 h0 (by omega))) hc ih
theorem RxIn.low {B : Nat} {w w' : World} {v : Value} {t : Rx} (h : RxIn (fun b => b < B) w v t) (hb : Below B w w') : RxIn (fun b => b < B) w' v t := h.frame (fun b hq => hb.block b hq) (fun _ _ hq => hq)
/-- A node's box, and what it holds while a row grows that lies elsewhere. -/
theorem Moved.box {w w' : World} {v v' : Value} {B : Nat} {v0 v1 v2 v3 v4 v5 : Value} {ty : TypeId} (h : Moved w v w' v') (hb : w.heap[B]? = some (.cells #[v0, v1, v2, v3, v4, v5] ty (0, 0))) (hne : some B ≠ v.ownBlock) :
    w'.cell? ⟨B, 0, none⟩ = some v0 ∧ w'.cell? ⟨B, 1, none⟩ = some v1 ∧ w'.cell? ⟨B, 2, none⟩ = some v2 ∧ w'.cell? ⟨B, 3, none⟩ = some v3 ∧ w'.cell? ⟨B, 4, none⟩ = some v4 ∧ w'.cell? ⟨B, 5, none⟩ = some v5 := by
  have e2 : w'.heap[B]? = _ := (h.block B (Array.getElem?_eq_some_iff.1 hb).1 hne).trans hb
  refine ⟨?_, ?_, ?_, ?_, ?_, ?_⟩ <;> (rw [cell_of_row _ B _ _ ty (0, 0) e2]; rfl)
theorem Steps.at {base : Nat} {w : World} {g m cap n : Nat} {L M : List St} {s : St} (h : Steps base w (.slice (some ⟨g, 0, none⟩) m cap) (L ++ s :: M)) (hL : L.length = n) : w.cell? ⟨g, n * 7 + 6, none⟩ = some (.int .i64 s.y) ∧ w.cell? ⟨g, n * 7 + 5, none⟩ = some (.int .i64 s.x) ∧ w.frozen? ⟨g, n * 7 + 6, none⟩ = false ∧ w.frozen? ⟨g, n * 7 + 5, none⟩ = false := by
  have hn : n < (L ++ s :: M).length := by rw [List.length_append, List.length_cons]; omega
  have c6 := h.cell (i := 6) hn (by omega)
  have c5 := h.cell (i := 5) hn (by omega)
  rw [nthS_mid hL] at c6 c5
  exact ⟨c6, c5, h.free _, h.free _⟩

end Go.Proofs.YtonfmbnankihbaaDoor
namespace Go.Proofs.YtonfmbnankihbaaDoor
open Go.RowKit Go.Sort

/-- Numbers as cells. -/
def iz (l : List Nat) : List Value := l.map fun k : Nat => Value.int .i64 (k : Int)
theorem iz_app (a b : List Nat) : iz (a ++ b) = iz a ++ iz b := by simp [iz]
theorem iz_len (l : List Nat) : (iz l).length = l.length := by simp [iz]
/-- The places up to k at which a match may end. -/
def endsTo (S : List Nat) (t : Rx) (at_ k : Nat) : List Nat := (List.range k).filter (Rx.aft S t fun j => j == at_)
theorem endsTo_yes {S : List Nat} {t : Rx} {a k : Nat} (h : Rx.aft S t (fun j => j == a) k = true) : endsTo S t a (k + 1) = endsTo S t a k ++ [k] := by
  simp [endsTo, List.range_succ, List.filter_append, h]
theorem endsTo_no {S : List Nat} {t : Rx} {a k : Nat} (h : Rx.aft S t (fun j => j == a) k = false) : endsTo S t a (k + 1) = endsTo S t a k := by
  simp [endsTo, List.range_succ, List.filter_append, h]
theorem endsTo_len (S : List Nat) (t : Rx) (a k : Nat) : (endsTo S t a k).length ≤ k := Nat.le_trans (List.length_filter_le _ _) (by simp)
/-- What Ends is to tell. -/
def ends (S : List Nat) (t : Rx) (z : Int) : List Nat := if Rx.isRex t = true ∧ 0 ≤ z ∧ z ≤ (S.length : Int) then endsTo S t z.toNat (S.length + 1) else []
def MadeInts (w : World) (l : List Nat) (e : Ending) (w' : World) : Prop := ∃ v, e = .returned v ∧ w'.ownsRow w.heap.size 3 1 v l.length (iz l) ∧ Below w.heap.size w w'
theorem Tryd.infoZ : (Tryd.prog.info? 3).map (fun i => (i.zero, i.size, i.bytes)) = some (some (.int .i64 0), 1, 8) := by kernel_rfl
theorem one_iz (k : Nat) : ∀ u ∈ [Value.int .i64 (k : Int)], u.oneCell' = true := by
  intro u hu
  simp only [List.mem_singleton] at hu
  subst hu
  rfl

set_option maxRecDepth 100000 in
set_option maxHeartbeats 2000000 in
theorem rends_none (t : Rx) (v : Value) (z : Int) (s : ByteArray) (w : World) (hcnt : Rx.count t ≤ 1000) (h : IsRx w v t) (hno : ¬ (Rx.isRex t = true ∧ 0 ≤ z ∧ z ≤ (s.size : Int))) :
    Calls Tryd.prog 40 #[v, .string s, .int .i64 z] w fun e w' => e = .returned (.slice none 0 0) ∧ Below w.heap.size w w' := by
  have h0 := h
  cases h with
  | node op a b c d ks A cap blk off V hcap hA hp hc hk =>
    have BX := box6 (w := w) (v0 := .int .i64 op) (v1 := .int .u64 (a : Int)) (v2 := .int .u64 (b : Int)) (v3 := .int .u64 (c : Int)) (v4 := .int .u64 (d : Int)) (v5 := .slice A ks.length cap) (ty := 34) (W := _) (Below.refl _ _)
    have CI := Lib.hid (risrex_any 1000 _ _ _ (Nat.le_refl _) hcnt (h0.grown BX.2))
    have BW := Lib.hid BX.2
    clear BX hcap hA hp hc hk h0 hcnt
    generalize ks.length = N at *
    cases hr : Rx.isRex (.mk op a b c d ks)
    · rw [hr] at CI
      clear hr hno
      go_enter Tryd.func40, Tryd.ntmps40
      go_wp2_with fail
      refine CI.out.mono ?_
      rintro e w2 ⟨rfl, b2⟩
      have B := Lib.hid (BW.out.trans (b2.mono BW.out.size))
      clear CI b2 BW
      go_wp2
      go_ret
      exact ⟨rfl, B.out⟩
    · rw [hr] at CI hno
      clear hr
      by_cases hz : z < 0
      · clear hno
        go_enter Tryd.func40, Tryd.ntmps40
        go_wp2_with fail
        refine CI.out.mono ?_
        rintro e w2 ⟨rfl, b2⟩
        have B := Lib.hid (BW.out.trans (b2.mono BW.out.size))
        clear CI b2 BW
        go_wp2
        go_ret
        exact ⟨rfl, B.out⟩
      · have hzd : decide (z > (s.size : Int)) = true := decide_eq_true (by
          rcases Int.lt_or_le (s.size : Int) z with h | h
          · exact h
          · exact absurd ⟨rfl, by omega, h⟩ hno)
        clear hno
        go_enter Tryd.func40, Tryd.ntmps40
        go_wp2_with fail
        refine CI.out.mono ?_
        rintro e w2 ⟨rfl, b2⟩
        have B := Lib.hid (BW.out.trans (b2.mono BW.out.size))
        clear CI b2 BW
        go_wp2
        go_ret
        exact ⟨rfl, B.out⟩

end Go.Proofs.YtonfmbnankihbaaDoor
