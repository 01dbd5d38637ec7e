/-
  What the program's joined and repeated do; steps of the parser's walk. Conditions: at most 1000 kids.
-/
import Derived.Test.YtjnikeiboefnbaaProg
import Derived.Test.YtjnikeiboefnbaaEa
import Derived.Test.YtjnikeiboefnbaaEd
import Derived.Test.YtjnikeiboefnbaaEf
import Derived.Test.YtjnikeiboefnbaaEi
import Derived.Test.YtjnikeiboefnbaaJa
import Derived.Test.YtjnikeiboefnbaaJb
import Derived.Test.YtjnikeiboefnbaaHa
import Derived.Test.YtjnikeiboefnbaaHd
import Derived.Test.YtjnikeiboefnbaaHe
import Derived.Test.YtjnikeiboefnbaaJd
import Derived.Test.YtjnikeiboefnbaaJe
import Derived.Test.YtjnikeiboefnbaaJf
import Derived.Test.YtjnikeiboefnbaaJg
import Derived.Deep.QuietTactic
import Derived.BigQuiet
import Derived.Lib.Bytealg
import Derived.Laws.Externs
import Derived.Laws.AppendOwn
import Derived.Laws.CopyOwn
import Derived.Laws.MakeOwn
import Derived.Laws.OwnMore
import Derived.OwnWalk
import Derived.Maps.AppendAt
import Derived.StillTailTactics
import Derived.WalkKit
import Derived.WalkSpells
import Derived.WalkLawsBesides
import Derived.Lib.Hide
import Derived.Below
import Derived.Lib.QuietBelow
import Derived.Laws.StructEq
import Derived.KernelRfl
import Derived.Deep.RegionHeld3
import Derived.Laws.ResultCell
import Derived.Deep.LoopGhost
namespace Go.Proofs.Ytjnikeiboefnbaa
open Go.RowKit Go.Sort
open Pz

theorem val6_eq {V : Nat → Value} {v0 v1 v2 v3 v4 v5 : Value} (h : val6 V = .agg #[v0, v1, v2, v3, v4, v5]) : V 0 = v0 ∧ V 1 = v1 ∧ V 2 = v2 ∧ V 3 = v3 ∧ V 4 = v4 ∧ V 5 = v5 := by simpa [val6] using h
theorem alloc2 (w : World) (o1 o2 : Obj) : ((w.alloc o1).alloc o2).heap[w.heap.size]? = some o1 ∧ ((w.alloc o1).alloc o2).heap[w.heap.size + 1]? = some o2 ∧ ((w.alloc o1).alloc o2).heap.size = w.heap.size + 2 ∧ Below w.heap.size w ((w.alloc o1).alloc o2) := by
  have e1 := heap_alloc_new w o1
  have b1 : Below w.heap.size w (w.alloc o1) := (Below.refl _ _).alloc (Nat.le_refl _) _
  have z1 : (w.alloc o1).heap.size = w.heap.size + 1 := by simp
  generalize w.alloc o1 = w1 at *
  have e2 := heap_alloc_new w1 o2
  rw [z1] at e2
  exact ⟨(heap_alloc_old w1 _ (by omega)).trans e1, e2, by simp; omega, b1.alloc (by omega) _⟩
theorem alloc3 (w : World) (o1 o2 o3 : Obj) : (((w.alloc o1).alloc o2).alloc o3).heap[w.heap.size]? = some o1 ∧ (((w.alloc o1).alloc o2).alloc o3).heap[w.heap.size + 1]? = some o2 ∧ (((w.alloc o1).alloc o2).alloc o3).heap[w.heap.size + 2]? = some o3 ∧ (((w.alloc o1).alloc o2).alloc o3).heap.size = w.heap.size + 3 ∧ Below w.heap.size w (((w.alloc o1).alloc o2).alloc o3) := by
  obtain ⟨e1, e2, z, b⟩ := alloc2 w o1 o2
  generalize (w.alloc o1).alloc o2 = w2 at *
  have e3 := heap_alloc_new w2 o3
  rw [z] at e3
  exact ⟨(heap_alloc_old w2 _ (by omega)).trans e1, (heap_alloc_old w2 _ (by omega)).trans e2, e3, by simp; omega, b.alloc (by omega) _⟩
/-- Six cells of a node. -/
def c6 (op : Int) (a b c d : Nat) (A : Option Addr) (n cap : Nat) : Array Value := #[.int .i64 op, .int .u64 (a : Int), .int .u64 (b : Int), .int .u64 (c : Int), .int .u64 (d : Int), .slice A n cap]
theorem PRes.yes {w w' : World} {P d j : Nat} {s : ByteArray} {r : Option (Rx × Nat)} {t : Rx} {e : Ending} (h : PRes w P s d r e w') (hr : r = some (t, j)) :
    ∃ op a b c d' A n cap, e = .returned (.tuple #[.agg #[.int .i64 op, .int .u64 ((a : Nat) : Int), .int .u64 ((b : Nat) : Int), .int .u64 ((c : Nat) : Int), .int .u64 ((d' : Nat) : Int), .slice A n cap], .bool true]) ∧ RxIn (fun b => w.heap.size ≤ b) w' (.agg (c6 op a b c d' A n cap)) t ∧ Stp P w w' ∧ Par w' P s j d := by
  subst hr
  obtain ⟨st, ⟨t', j', v, hr, he, hx, hp⟩ | ⟨hr, _⟩⟩ := h
  · injection hr with hr; injection hr with h1 h2
    subst h1 h2
    obtain ⟨op, a, b, c, d', A, n, cap, rfl⟩ := hx.form
    exact ⟨op, a, b, c, d', A, n, cap, he, hx, st, hp⟩
  · cases hr
theorem PRes.no {w w' : World} {P d : Nat} {s : ByteArray} {r : Option (Rx × Nat)} {e : Ending} (h : PRes w P s d r e w') (hr : r = none) :
    e = .returned (.tuple #[.agg #[.int .i64 0, .int .u64 0, .int .u64 0, .int .u64 0, .int .u64 0, .slice none 0 0], .bool false]) ∧ Stp P w w' ∧ ∃ j, Par w' P s j d := by
  subst hr
  obtain ⟨st, ⟨_, _, _, hr, _⟩ | ⟨_, he, hp⟩⟩ := h
  · cases hr
  · exact ⟨he, st, hp⟩
/-- A node in a block of its own. -/
def Row6 (w : World) (g : Nat) (cs : Array Value) : Prop := w.heap[g]? = some (.cells cs 26 (0, 0))
theorem Row6.lt {w : World} {g : Nat} {cs : Array Value} (h : Row6 w g cs) : g < w.heap.size := (Array.getElem?_eq_some_iff.1 h).1
theorem Row6.cells {w : World} {g : Nat} {v0 v1 v2 v3 v4 v5 : Value} (h : Row6 w g #[v0, v1, v2, v3, v4, v5]) : w.cell? ⟨g, 0, none⟩ = some v0 ∧ w.cell? ⟨g, 1, none⟩ = some v1 ∧ w.cell? ⟨g, 2, none⟩ = some v2 ∧ w.cell? ⟨g, 3, none⟩ = some v3 ∧ w.cell? ⟨g, 4, none⟩ = some v4 ∧ w.cell? ⟨g, 5, none⟩ = some v5 := by
  refine ⟨?_, ?_, ?_, ?_, ?_, ?_⟩ <;> (rw [cell_of_row _ g _ _ _ _ h]; rfl)
theorem Row6.stp {P g : Nat} {w w' : World} {cs : Array Value} (h : Row6 w g cs) (hs : Stp P w w') (hne : P < g) : Row6 w' g cs := (hs.block g h.lt (by omega)).trans h
theorem Row6.grow {g : Nat} {w w' : World} {cs : Array Value} (h : Row6 w g cs) (hb : Below w.heap.size w w') : Row6 w' g cs := (hb.block g h.lt).trans h
theorem RxIn.under {w w' : World} {B B' : Nat} {v : Value} {t : Rx} (h : RxIn (fun b => B ≤ b) w v t) (hb : Below w.heap.size w w') (hB : B' ≤ B) : RxIn (fun b => B' ≤ b) w' v t := by
  have h2 : RxIn (fun b => B ≤ b ∧ b < w.heap.size) w v t := h.frame (fun _ _ => rfl) (fun b h1 h2 => ⟨h2, h1⟩)
  exact h2.frame (fun b hq => hb.block b hq.2) (fun b _ hq => by omega)
theorem RxIn.stp {P : Nat} {w w' : World} {B B' : Nat} {v : Value} {t : Rx} (h : RxIn (fun b => B ≤ b) w v t) (hs : Stp P w w') (hP : P < B) (hB : B' ≤ B) : RxIn (fun b => B' ≤ b) w' v t := by
  have h2 : RxIn (fun b => B ≤ b ∧ b < w.heap.size) w v t := h.frame (fun _ _ => rfl) (fun b h1 h2 => ⟨h2, h1⟩)
  exact h2.frame (fun b hq => hs.block b hq.2 (by omega)) (fun b _ hq => by omega)
theorem At.grown {w W W' : World} {P i d : Nat} {s : ByteArray} {row : Array Value} {ty : TypeId} {o : Option Nat} (h : At w P s i d row ty W) (hg : W.grownBy W' o) (ho : ∀ k, o = some k → w.heap.size < k) : At w P s i d row ty W' := by
  have hb : ∀ k, k < W.heap.size → k ≤ w.heap.size → W'.heap[k]? = W.heap[k]? := fun k h1 h2 => hg.block k h1 (fun e => by have := ho k e.symm; omega)
  have h1 := h.big
  have h2 := h.lt
  exact ⟨⟨hg.os.trans h.st.os, hg.tape.trans h.st.tape, hg.output.trans h.st.output, Nat.le_trans h.st.size hg.size, fun k q1 q2 => (hb k (by omega) (by omega)).trans (h.st.block k q1 q2)⟩, h.pa.frame (hb P (by omega) (by omega)), h2, (hb _ (by omega) (Nat.le_refl _)).trans h.r⟩
/-- append(v, x) of one tree: the operation. -/
theorem wpList_appR {ops : Array Oper} {rest : List Oper} {o : Oper} {a : Act} {w : World} {Q : Exit → Act → World → Prop} (hgd : o.guard = none) (s x : Operand) (ho : o.op = .call { callee := .builtin .append, args := #[s, x], argTypes := #[24, 24] })
    (base : Nat) (v : Value) (ts : List Rx) (g : Nat) (hs : a.eval s = v) (hx : a.eval x = .slice (some ⟨g, 0, none⟩) 1 1) (h : Kids base w v ts) (V : Nat → Value) (t : Rx) (hV : ∀ i, i < 6 → w.cell? ⟨g, i, none⟩ = some (V i)) (h1 : ∀ i, i < 6 → (V i).oneCell' = true)
    (ht : RxIn (fun b => base ≤ b ∧ b < w.heap.size ∧ v.ownBlock ≠ some b) w (val6 V) t) (hn : ts.length ≤ 1000) (hbase : base ≤ w.heap.size)
    (hk : ∀ v' w', Kids base w' v' (ts ++ [t]) → w.grownBy w' v.ownBlock → wpList Try.prog ops Q rest (a.put o.dst v') w') : wpList Try.prog ops Q (o :: rest) a w := by
  refine wpList_plain hgd fun K hK => ?_
  obtain ⟨v', w', hr, h2, h3⟩ := run_appR o.type h g V t hV h1 ht hn hbase
  unfold Oper.wp execOp
  simp only [ho, resolve, invoke, builtin, Sem.run_bind, Sem.run_pure, Result.andThen_ok, List.map_toArray, List.map_cons, List.map_nil, hs, hx, hr]
  exact hK _ _ (hk v' w' h2 h3)
theorem joined_two {op : Int} {ts : List Rx} (h : ¬ ts.length = 1) : joined op ts = .mk op 0 0 0 0 ts := by
  match ts, h with
  | [], _ => rfl
  | [_], h => exact absurd rfl h
  | _ :: _ :: _, _ => rfl

set_option maxRecDepth 100000 in
set_option maxHeartbeats 2000000 in
theorem joined_any (op : Int) (ts : List Rx) (base : Nat) (A : Option Addr) (n cap : Nat) (w : World) (hk : Kids base w (.slice A n cap) ts) (hn : ts.length ≤ 1000) :
    Calls Try.prog 31 #[.int .i64 op, .slice A n cap] w fun e w' => ∃ op' a b c d A' n' cap', e = .returned (.agg #[.int .i64 op', .int .u64 ((a : Nat) : Int), .int .u64 ((b : Nat) : Int), .int .u64 ((c : Nat) : Int), .int .u64 ((d : Nat) : Int), .slice A' n' cap']) ∧ RxIn (fun b => base ≤ b) w' (.agg (c6 op' a b c d A' n' cap')) (joined op ts) ∧ Below w.heap.size w w' := by
  by_cases h1 : ts.length = 1
  · obtain ⟨t, rfl⟩ := List.length_eq_one_iff.1 h1
    obtain ⟨rfl, g, V, rfl, hc, hx⟩ := hk.one
    obtain ⟨op', a, b, c, d, A', n', cap', hv⟩ := hx.form
    obtain ⟨e0, e1, e2, e3, e4, e5⟩ := val6_eq hv
    have hgl : g < w.heap.size := World.block_lt_of_cell? w _ (hc 0 (by omega))
    have c0 := hc 0 (by omega)
    have c1 := hc 1 (by omega)
    have c2 := hc 2 (by omega)
    have c3 := hc 3 (by omega)
    have c4 := hc 4 (by omega)
    have c5 := hc 5 (by omega)
    rw [e0] at c0
    rw [e1] at c1
    rw [e2] at c2
    rw [e3] at c3
    rw [e4] at c4
    rw [e5] at c5
    have B := Lib.hid (((Below.refl w.heap.size w)).alloc (Nat.le_refl _) (.cells #[.int .i64 op', .int .u64 (a : Int), .int .u64 (b : Int), .int .u64 (c : Int), .int .u64 (d : Int), .slice A' n' cap'] 26))
    rw [hv] at hx
    have X := Lib.hid (hx.under B.out (Nat.le_refl _))
    have HH := Lib.hid (heap_alloc_new w (.cells #[.int .i64 op', .int .u64 (a : Int), .int .u64 (b : Int), .int .u64 (c : Int), .int .u64 (d : Int), .slice A' n' cap'] 26))
    clear hc hv e0 e1 e2 e3 e4 e5 hx h1 hn hk
    go_enter Try.func31, Try.ntmps31
    go_wp2
    exact bodyPost_ret (results_cell_row rfl _ _ w.heap.size 26 _ (0, 0) _ rfl HH.out Try.underlying26 rfl Try.size6) rfl ⟨op', a, b, c, d, A', n', cap', rfl, X.out, B.out⟩
  · obtain ⟨rfl, hx⟩ := hk.node op
    have e : Hid (joined op ts = .mk op 0 0 0 0 ts) := joined_two h1
    have h1z : ((ts.length : Int) == 1) = false := by simp; omega
    have B := Lib.hid (((Below.refl w.heap.size w)).alloc (Nat.le_refl _) (.cells #[.int .i64 op, .int .u64 0, .int .u64 0, .int .u64 0, .int .u64 0, .slice A ts.length cap] 26))
    have X := Lib.hid (hx.under B.out (Nat.le_refl _))
    have HH := Lib.hid (heap_alloc_new w (.cells #[.int .i64 op, .int .u64 0, .int .u64 0, .int .u64 0, .int .u64 0, .slice A ts.length cap] 26))
    clear hx h1 hk
    generalize hN : ts.length = N at *
    clear hN
    go_enter Try.func31, Try.ntmps31
    go_wp2
    exact bodyPost_ret (results_cell_row rfl _ _ w.heap.size 26 _ (0, 0) _ rfl HH.out Try.underlying26 rfl Try.size6) rfl ⟨op, 0, 0, 0, 0, A, N, cap, rfl, by rw [e.out]; exact X.out, B.out⟩

set_option maxRecDepth 100000 in
set_option maxHeartbeats 2000000 in
theorem repeated_any (op : Int) (t : Rx) (base : Nat) (o : Int) (a b c d : Nat) (A : Option Addr) (n cap : Nat) (w : World) (hb : base ≤ w.heap.size) (hx : RxIn (fun b => base ≤ b) w (.agg (c6 o a b c d A n cap)) t) :
    Calls Try.prog 44 #[.int .i64 op, .agg #[.int .i64 o, .int .u64 (a : Int), .int .u64 (b : Int), .int .u64 (c : Int), .int .u64 (d : Int), .slice A n cap]] w fun e w' => ∃ A' n' cap', e = .returned (.agg #[.int .i64 op, .int .u64 0, .int .u64 0, .int .u64 0, .int .u64 0, .slice A' n' cap']) ∧ RxIn (fun b => base ≤ b) w' (.agg (c6 op 0 0 0 0 A' n' cap')) (rep op t) ∧ Below w.heap.size w w' := by
  obtain ⟨_, e2, e3, z, B⟩ := alloc3 w (.cells #[.int .i64 o, .int .u64 (a : Int), .int .u64 (b : Int), .int .u64 (c : Int), .int .u64 (d : Int), .slice A n cap] 26) (.cells #[.int .i64 op, .int .u64 0, .int .u64 0, .int .u64 0, .int .u64 0, .slice (some ⟨w.heap.size + 2, 0, none⟩) 1 1] 26) (.cells #[.int .i64 o, .int .u64 (a : Int), .int .u64 (b : Int), .int .u64 (c : Int), .int .u64 (d : Int), .slice A n cap] 26)
  have X := hx.under B (Nat.le_refl _)
  have HH := Lib.hid e2
  have BB := Lib.hid B
  have RX : Hid (RxIn (fun b => base ≤ b) (((w.alloc (.cells #[.int .i64 o, .int .u64 (a : Int), .int .u64 (b : Int), .int .u64 (c : Int), .int .u64 (d : Int), .slice A n cap] 26)).alloc (.cells #[.int .i64 op, .int .u64 0, .int .u64 0, .int .u64 0, .int .u64 0, .slice (some ⟨w.heap.size + 2, 0, none⟩) 1 1] 26)).alloc (.cells #[.int .i64 o, .int .u64 (a : Int), .int .u64 (b : Int), .int .u64 (c : Int), .int .u64 (d : Int), .slice A n cap] 26)) (.agg (c6 op 0 0 0 0 (some ⟨w.heap.size + 2, 0, none⟩) 1 1)) (rep op t)) := by
    generalize ((w.alloc (.cells #[.int .i64 o, .int .u64 (a : Int), .int .u64 (b : Int), .int .u64 (c : Int), .int .u64 (d : Int), .slice A n cap] 26)).alloc (.cells #[.int .i64 op, .int .u64 0, .int .u64 0, .int .u64 0, .int .u64 0, .slice (some ⟨w.heap.size + 2, 0, none⟩) 1 1] 26)).alloc (.cells #[.int .i64 o, .int .u64 (a : Int), .int .u64 (b : Int), .int .u64 (c : Int), .int .u64 (d : Int), .slice A n cap] 26) = W at *
    refine RxIn.node op 0 0 0 0 [t] (some ⟨w.heap.size + 2, 0, none⟩) 1 (w.heap.size + 2) 0 (fun _ i => (c6 o a b c d A n cap).getD i Go.undef) (Nat.le_refl _) (fun e => by cases e) (fun _ => rfl) (fun _ => by omega) (fun j i hj hi => ?_) (fun j hj => ?_)
    · obtain rfl : j = 0 := by simpa using hj
      obtain ⟨q0, q1, q2, q3, q4, q5⟩ := Row6.cells e3
      match i, hi with
      | 0, _ => exact q0
      | 1, _ => exact q1
      | 2, _ => exact q2
      | 3, _ => exact q3
      | 4, _ => exact q4
      | 5, _ => exact q5
    · obtain rfl : j = 0 := by simpa using hj
      exact X
  clear e2 e3 z B X hx
  go_enter Try.func44, Try.ntmps44
  go_wp2
  exact bodyPost_ret (results_cell_row rfl _ _ (w.heap.size + 1) 26 _ (0, 0) _ rfl HH.out Try.underlying26 rfl Try.size6) rfl ⟨_, _, _, rfl, RX.out, BB.out⟩

end Go.Proofs.Ytjnikeiboefnbaa
