/-
  Steps in memory: a row that one owns, appended to, written into; what moves of a world while it grows. Conditions: lengths fit.
-/
import Derived.Test.YtjnikeiboefnbaaProg
import Derived.Test.YtjnikeiboefnbaaEa
import Derived.Test.YtjnikeiboefnbaaEd
import Derived.Test.YtjnikeiboefnbaaEf
import Derived.Test.YtjnikeiboefnbaaEi
import Derived.Test.YtjnikeiboefnbaaJa
import Derived.Test.YtjnikeiboefnbaaJb
import Derived.Test.YtjnikeiboefnbaaHa
import Derived.Test.YtjnikeiboefnbaaHd
import Derived.Test.YtjnikeiboefnbaaHe
import Derived.Test.YtjnikeiboefnbaaJd
import Derived.Test.YtjnikeiboefnbaaJe
import Derived.Test.YtjnikeiboefnbaaJf
import Derived.Test.YtjnikeiboefnbaaJg
import Derived.Test.YtjnikeiboefnbaaJh
import Derived.Test.YtjnikeiboefnbaaUa
import Derived.Maps.AppendAt
import Derived.Laws.AppendOwn
import Derived.Deep.LoopGhost
import Derived.Deep.QuietTactic
import Derived.BigQuiet
import Derived.Lib.Bytealg
import Derived.Laws.Externs
import Derived.Laws.CopyOwn
import Derived.Laws.MakeOwn
import Derived.Laws.OwnMore
import Derived.OwnWalk
import Derived.StillTailTactics
import Derived.WalkKit
import Derived.WalkSpells
import Derived.WalkLawsBesides
import Derived.Lib.Hide
import Derived.Below
import Derived.Lib.QuietBelow
import Derived.Laws.StructEq
import Derived.KernelRfl
import Derived.Deep.RegionHeld3
import Derived.Laws.ResultCell
namespace Go.Proofs.Ytjnikeiboefnbaa
open Go.RowKit

def cells7 (s : St) : List Value := [.int .i64 s.op, .int .u64 (s.a : Int), .int .u64 (s.b : Int), .int .u64 (s.c : Int), .int .u64 (s.d : Int), .int .i64 s.x, .int .i64 s.y]
def sc (L : List St) : List Value := L.flatMap cells7
theorem sc_len : ∀ L : List St, (sc L).length = L.length * 7
  | [] => rfl
  | x :: r => by have := sc_len r; simp only [sc, List.flatMap_cons, List.length_append, List.length_cons] at this ⊢; rw [this]; simp [cells7]; omega
theorem sc_app (L M : List St) : sc (L ++ M) = sc L ++ sc M := by simp [sc]
theorem sc_one (s : St) : sc [s] = cells7 s := by simp [sc]
def nthS (L : List St) (j : Nat) : St := L.getD j St.nil
theorem nthS_eq {L : List St} {j : Nat} (h : j < L.length) : nthS L j = L[j] := by simp [nthS, List.getD, List.getElem?_eq_getElem h]
/-- Cell i of a step. -/
def cellS (s : St) (i : Nat) : Value := (cells7 s).getD i Go.undef
theorem cells7_get (s : St) {i : Nat} (h : i < 7) : (cells7 s)[i]? = some (cellS s i) := by
  match i, h with
  | 0, _ => rfl
  | 1, _ => rfl
  | 2, _ => rfl
  | 3, _ => rfl
  | 4, _ => rfl
  | 5, _ => rfl
  | 6, _ => rfl
theorem sc_get : ∀ (L : List St) (j i : Nat), j < L.length → i < 7 → (sc L)[j * 7 + i]? = some (cellS (nthS L j) i)
  | x :: r, 0, i, _, hi => by
    show (cells7 x ++ sc r)[0 * 7 + i]? = _
    rw [Nat.zero_mul, Nat.zero_add, List.getElem?_append_left (by simp [cells7]; omega), cells7_get x hi]; rfl
  | x :: r, j + 1, i, hj, hi => by
    show (cells7 x ++ sc r)[(j + 1) * 7 + i]? = _
    rw [List.getElem?_append_right (by simp [cells7]; omega)]
    have := sc_get r j i (by simpa using hj) hi
    rw [show (j + 1) * 7 + i - (cells7 x).length = j * 7 + i by simp [cells7]; omega, this]
    rfl
/-- A store into a field of a step. -/
theorem sc_set (f : St → Int → St) (i : Nat) (hf : ∀ (s : St) (z : Int), (cells7 s).set i (.int .i64 z) = cells7 (f s z)) (hi : i < 7) (z : Int) : ∀ (L : List St) (j : Nat), j < L.length → (sc L).set (j * 7 + i) (.int .i64 z) = sc (L.set j (f (nthS L j) z))
  | x :: r, 0, _ => by
    show (cells7 x ++ sc r).set (0 * 7 + i) _ = _
    rw [Nat.zero_mul, Nat.zero_add, List.set_append_left _ _ (by simp [cells7]; omega), hf]; rfl
  | x :: r, j + 1, h => by
    show (cells7 x ++ sc r).set ((j + 1) * 7 + i) _ = _
    rw [List.set_append_right _ _ (by simp [cells7]; omega), show (j + 1) * 7 + i - (cells7 x).length = j * 7 + i by simp [cells7]; omega, sc_set f i hf hi z r j (by simpa using h)]
    rfl
def St.setX (s : St) (z : Int) : St := { s with x := z }
def St.setY (s : St) (z : Int) : St := { s with y := z }
theorem sc_setX (L : List St) (j : Nat) (z : Int) (h : j < L.length) : (sc L).set (j * 7 + 5) (.int .i64 z) = sc (L.set j ((nthS L j).setX z)) := sc_set St.setX 5 (fun _ _ => rfl) (by omega) z L j h
theorem sc_setY (L : List St) (j : Nat) (z : Int) (h : j < L.length) : (sc L).set (j * 7 + 6) (.int .i64 z) = sc (L.set j ((nthS L j).setY z)) := sc_set St.setY 6 (fun _ _ => rfl) (by omega) z L j h
theorem Try.infoS : (Try.prog.info? 33).map (fun i => (i.zero, i.size, i.bytes)) = some (some (.agg #[.int .i64 0, .int .u64 0, .int .u64 0, .int .u64 0, .int .u64 0, .int .i64 0, .int .i64 0]), 7, 56) := by kernel_rfl

/-- A row of steps that one owns. -/
def Steps (base : Nat) (w : World) (v : Value) (L : List St) : Prop := w.ownsRow base 33 7 v L.length (sc L)
theorem Steps.nil (base : Nat) (w : World) : Steps base w (.slice none 0 0) [] := World.ownsRow_nil _ _ _ _
/-- What moves of a world while v grows to v'. -/
structure Moved (w : World) (v : Value) (w' : World) (v' : Value) : Prop where
  os : w'.os = w.os
  tape : w'.tape = w.tape
  output : w'.output = w.output
  size : w.heap.size ≤ w'.heap.size
  block : ∀ k, k < w.heap.size → some k ≠ v.ownBlock → w'.heap[k]? = w.heap[k]?
  own : v'.ownBlock = v.ownBlock ∨ ∃ g, v'.ownBlock = some g ∧ w.heap.size ≤ g
theorem Moved.refl (w : World) (v : Value) : Moved w v w v := ⟨rfl, rfl, rfl, Nat.le_refl _, fun _ _ _ => rfl, .inl rfl⟩
theorem Moved.trans {w w1 w2 : World} {v v1 v2 : Value} (h : Moved w v w1 v1) (k : Moved w1 v1 w2 v2) : Moved w v w2 v2 := by
  refine ⟨k.os.trans h.os, k.tape.trans h.tape, k.output.trans h.output, Nat.le_trans h.size k.size, fun b hb hne => (k.block b (Nat.lt_of_lt_of_le hb h.size) ?_).trans (h.block b hb hne), ?_⟩
  · rcases h.own with e | ⟨g, e, hg⟩
    · rw [e]; exact hne
    · rw [e]; intro e2; injection e2; omega
  · rcases k.own with e | ⟨g, e, hg⟩
    · rcases h.own with e2 | ⟨g, e2, hg⟩
      · exact .inl (e.trans e2)
      · exact .inr ⟨g, e.trans e2, hg⟩
    · exact .inr ⟨g, e, Nat.le_trans h.size hg⟩
theorem Moved.grow {w w1 w2 : World} {v v1 : Value} (h : Moved w v w1 v1) (k : Below w1.heap.size w1 w2) : Moved w v w2 v1 :=
  ⟨k.os.trans h.os, k.tape.trans h.tape, k.output.trans h.output, Nat.le_trans h.size k.size, fun b hb hne => (k.block b (Nat.lt_of_lt_of_le hb h.size)).trans (h.block b hb hne), h.own⟩
theorem Moved.of {w w' : World} (v : Value) (h : Below w.heap.size w w') : Moved w v w' v := (Moved.refl w v).grow h
theorem Moved.below {B : Nat} {w w' : World} {v v' : Value} (h : Moved w v w' v') (hB : B ≤ w.heap.size) (hv : ∀ k, v.ownBlock = some k → B ≤ k) : Below B w w' :=
  ⟨h.os, h.tape, h.output, h.size, fun k hk => h.block k (by omega) (fun e => by have := hv k e.symm; omega)⟩
theorem Steps.low {base : Nat} {w : World} {v : Value} {L : List St} (h : Steps base w v L) : ∀ k, v.ownBlock = some k → base ≤ k := fun k hk => (h.lt k hk).1
theorem Steps.top {base : Nat} {w : World} {v : Value} {L : List St} (h : Steps base w v L) : ∀ k, v.ownBlock = some k → k < w.heap.size := fun k hk => (h.lt k hk).2
theorem Steps.grow {base : Nat} {w w' : World} {v : Value} {L : List St} (h : Steps base w v L) (hb : Below w.heap.size w w') : Steps base w' v L := by
  refine ⟨h.1, ?_⟩
  rcases h.2 with hn | ⟨g, cap, cur, e, hbg, hg, rest⟩
  · exact .inl hn
  · exact .inr ⟨g, cap, cur, e, hbg, (hb.block g (Array.getElem?_eq_some_iff.1 hg).1).trans hg, rest⟩
theorem Steps.form {base : Nat} {w : World} {A : Option Addr} {n cap : Nat} {L : List St} (h : Steps base w (.slice A n cap) L) : n = L.length := by
  rcases h.2 with ⟨e, h0⟩ | ⟨g, cap', cur, e, rest⟩
  · injection e with e1 e2 e3; omega
  · injection e with e1 e2 e3
theorem Steps.form2 {base : Nat} {w : World} {v : Value} {L : List St} (h : Steps base w v L) (hp : 0 < L.length) : ∃ g cap, v = .slice (some ⟨g, 0, none⟩) L.length cap := by
  rcases h.2 with ⟨e, h0⟩ | ⟨g, cap', cur, e, rest⟩
  · omega
  · exact ⟨g, cap', e⟩
theorem Steps.formA {base : Nat} {w : World} {v : Value} {L : List St} (h : Steps base w v L) : ∃ A cap, v = .slice A L.length cap := by
  rcases h.2 with ⟨e, h0⟩ | ⟨g, cap', cur, e, rest⟩
  · exact ⟨none, 0, by rw [e, h0]⟩
  · exact ⟨_, cap', e⟩
theorem Steps.cell {base : Nat} {w : World} {g n cap : Nat} {L : List St} (h : Steps base w (.slice (some ⟨g, 0, none⟩) n cap) L) {j i : Nat} (hj : j < L.length) (hi : i < 7) : w.cell? ⟨g, j * 7 + i, none⟩ = some (cellS (nthS L j) i) := by
  have := h.cells (g := g) rfl (j * 7 + i) _ (sc_get L j i hj hi)
  rw [add0] at this; exact this
theorem Steps.free {base : Nat} {w : World} {g n cap : Nat} {L : List St} (h : Steps base w (.slice (some ⟨g, 0, none⟩) n cap) L) (j : Nat) : w.frozen? ⟨g, j, none⟩ = false := by
  have e := h.form
  subst e
  exact World.ownsRow.frozenAt h j
theorem Steps.putX {base : Nat} {w : World} {g n cap : Nat} {L : List St} (h : Steps base w (.slice (some ⟨g, 0, none⟩) n cap) L) {j : Nat} (hj : j < L.length) (z : Int) : Steps base (w.setCell ⟨g, j * 7 + 5, none⟩ (.int .i64 z)) (.slice (some ⟨g, 0, none⟩) n cap) (L.set j ((nthS L j).setX z)) ∧ Moved w (.slice (some ⟨g, 0, none⟩) n cap) (w.setCell ⟨g, j * 7 + 5, none⟩ (.int .i64 z)) (.slice (some ⟨g, 0, none⟩) n cap) := by
  have e := h.form
  subst e
  obtain ⟨h1, h2⟩ := World.ownsRow.stored h (j * 7 + 5) (.int .i64 z)
  rw [sc_setX L j z hj] at h1
  refine ⟨by unfold Steps; rw [List.length_set]; exact h1, ⟨h2.os, h2.tape, h2.output, h2.size, fun k hk hne => h2.block k hk hne, .inl rfl⟩⟩
theorem Steps.putY {base : Nat} {w : World} {g n cap : Nat} {L : List St} (h : Steps base w (.slice (some ⟨g, 0, none⟩) n cap) L) {j : Nat} (hj : j < L.length) (z : Int) : Steps base (w.setCell ⟨g, j * 7 + 6, none⟩ (.int .i64 z)) (.slice (some ⟨g, 0, none⟩) n cap) (L.set j ((nthS L j).setY z)) ∧ Moved w (.slice (some ⟨g, 0, none⟩) n cap) (w.setCell ⟨g, j * 7 + 6, none⟩ (.int .i64 z)) (.slice (some ⟨g, 0, none⟩) n cap) := by
  have e := h.form
  subst e
  obtain ⟨h1, h2⟩ := World.ownsRow.stored h (j * 7 + 6) (.int .i64 z)
  rw [sc_setY L j z hj] at h1
  refine ⟨by unfold Steps; rw [List.length_set]; exact h1, ⟨h2.os, h2.tape, h2.output, h2.size, fun k hk hne => h2.block k hk hne, .inl rfl⟩⟩
theorem nthS_mid {L M : List St} {s : St} {n : Nat} (h : L.length = n) : nthS (L ++ s :: M) n = s := by subst h; simp [nthS, List.getD]
theorem set_mid {L M : List St} {s s' : St} {n : Nat} (h : L.length = n) : (L ++ s :: M).set n s' = L ++ s' :: M := by subst h; simp
theorem Steps.fixY {base : Nat} {w : World} {g m cap n : Nat} {L M : List St} {s : St} (h : Steps base w (.slice (some ⟨g, 0, none⟩) m cap) (L ++ s :: M)) (hL : L.length = n) (z : Int) {s' : St} (hs : s.setY z = s') :
    Steps base (w.setCell ⟨g, n * 7 + 6, none⟩ (.int .i64 z)) (.slice (some ⟨g, 0, none⟩) m cap) (L ++ s' :: M) ∧ Moved w (.slice (some ⟨g, 0, none⟩) m cap) (w.setCell ⟨g, n * 7 + 6, none⟩ (.int .i64 z)) (.slice (some ⟨g, 0, none⟩) m cap) := by
  have hn : n < (L ++ s :: M).length := by rw [List.length_append, List.length_cons]; omega
  have := h.putY hn z
  rw [nthS_mid hL, set_mid hL, hs] at this
  exact this
/-- append(v, s) of one step, which a literal's row holds. -/
theorem wpList_appS {ops : Array Oper} {rest : List Oper} {o : Oper} {a : Act} {w : World} {Q : Exit → Act → World → Prop} {cs : Array Value} (hgd : o.guard = none) (sl x : Operand) (ho : o.op = .call { callee := .builtin .append, args := #[sl, x], argTypes := #[29, 29] })
    (base : Nat) (v : Value) (L : List St) (n : Nat) (s : St) (g : Nat) (hs : a.eval sl = v) (hx : a.eval x = .slice (some ⟨g, 0, none⟩) 1 1) (hg : w.heap.size = g) (hcs : cs = (cells7 s).toArray) (h : Steps base w v L) (hL : L.length = n) (hn : n ≤ 100000) (hbase : base ≤ w.heap.size)
    (hk : ∀ g' cap' w', Steps base w' (.slice (some ⟨g', 0, none⟩) (n + 1) cap') (L ++ [s]) → Moved w v w' (.slice (some ⟨g', 0, none⟩) (n + 1) cap') → wpList Try.prog ops Q rest (a.put o.dst (.slice (some ⟨g', 0, none⟩) (n + 1) cap')) w') : wpList Try.prog ops Q (o :: rest) a (w.alloc (.cells cs 33)) := by
  subst hcs
  subst hL
  subst hg
  have B1 : Below w.heap.size w (w.alloc (.cells (cells7 s).toArray 33)) := (Below.refl _ _).alloc (Nat.le_refl _) _
  have hnew := heap_alloc_new w (.cells (cells7 s).toArray 33)
  have h1 : Steps base (w.alloc (.cells (cells7 s).toArray 33)) v L := h.grow B1
  have z1 : (w.alloc (.cells (cells7 s).toArray 33)).heap.size = w.heap.size + 1 := by simp
  generalize w.alloc (.cells (cells7 s).toArray 33) = w1 at *
  obtain ⟨i0, hi, hz0, hz1, hz2⟩ := info_parts Try.infoS
  refine wpList_append_own_at (P := Try.prog) w1 hgd sl x 29 ho base 33 i0 _ 7 56 Try.underlying29 hi hz0 hz1 hz2 rfl (by decide) v L.length (sc L) hs h1 ⟨w.heap.size, 0, none⟩ 1 1 (cells7 s) hx rfl ?_ ?_ (by unfold maxLen; omega) (by omega) (by omega) ?_
  · intro j u hj
    rw [add0, cell_of_row _ w.heap.size j _ _ _ hnew]
    simpa using hj
  · intro u hu
    simp only [cells7, List.mem_cons, List.not_mem_nil, or_false] at hu
    rcases hu with rfl | rfl | rfl | rfl | rfl | rfl | rfl <;> rfl
  · intro v' w' h2 h3 h4 h5
    have hS : Steps base w' v' (L ++ [s]) := by unfold Steps; rw [List.length_append, sc_app, sc_one]; exact h2
    obtain ⟨g', cap', e⟩ := hS.form2 (by simp)
    rw [List.length_append, List.length_singleton] at e
    subst e
    refine hk g' cap' w' hS ?_
    have M1 : Moved w v w1 v := Moved.of v B1
    refine M1.trans ⟨h3.os, h3.tape, h3.output, h3.size, fun k hk hne => h3.block k hk hne, ?_⟩
    rcases h5 with e | e
    · exact .inl e
    · exact .inr ⟨_, e, Nat.le_refl _⟩
/-- A tree lies in blocks that are there. -/
theorem IsRx.in {w : World} {v : Value} {t : Rx} (h : IsRx w v t) : RxIn (fun b => b < w.heap.size) w v t := by
  induction h with
  | node op a b c d ks A cap blk off V hcap hA hp hc hk ih => exact .node op a b c d ks A cap blk off V hcap hA hp (fun h0 => World.block_lt_of_cell? w _ (hc 0 0 h0 (by omega))) hc ih
theorem RxIn.low {B : Nat} {w w' : World} {v : Value} {t : Rx} (h : RxIn (fun b => b < B) w v t) (hb : Below B w w') : RxIn (fun b => b < B) w' v t := h.frame (fun b hq => hb.block b hq) (fun _ _ hq => hq)
/-- A node's box, and what it holds while a row grows that lies elsewhere. -/
theorem Moved.box {w w' : World} {v v' : Value} {B : Nat} {v0 v1 v2 v3 v4 v5 : Value} {ty : TypeId} (h : Moved w v w' v') (hb : w.heap[B]? = some (.cells #[v0, v1, v2, v3, v4, v5] ty (0, 0))) (hne : some B ≠ v.ownBlock) :
    w'.cell? ⟨B, 0, none⟩ = some v0 ∧ w'.cell? ⟨B, 1, none⟩ = some v1 ∧ w'.cell? ⟨B, 2, none⟩ = some v2 ∧ w'.cell? ⟨B, 3, none⟩ = some v3 ∧ w'.cell? ⟨B, 4, none⟩ = some v4 ∧ w'.cell? ⟨B, 5, none⟩ = some v5 := by
  have e2 : w'.heap[B]? = _ := (h.block B (Array.getElem?_eq_some_iff.1 hb).1 hne).trans hb
  refine ⟨?_, ?_, ?_, ?_, ?_, ?_⟩ <;> (rw [cell_of_row _ B _ _ ty (0, 0) e2]; rfl)
theorem Steps.at {base : Nat} {w : World} {g m cap n : Nat} {L M : List St} {s : St} (h : Steps base w (.slice (some ⟨g, 0, none⟩) m cap) (L ++ s :: M)) (hL : L.length = n) : w.cell? ⟨g, n * 7 + 6, none⟩ = some (.int .i64 s.y) ∧ w.cell? ⟨g, n * 7 + 5, none⟩ = some (.int .i64 s.x) ∧ w.frozen? ⟨g, n * 7 + 6, none⟩ = false ∧ w.frozen? ⟨g, n * 7 + 5, none⟩ = false := by
  have hn : n < (L ++ s :: M).length := by rw [List.length_append, List.length_cons]; omega
  have c6 := h.cell (i := 6) hn (by omega)
  have c5 := h.cell (i := 5) hn (by omega)
  rw [nthS_mid hL] at c6 c5
  exact ⟨c6, c5, h.free _, h.free _⟩

end Go.Proofs.Ytjnikeiboefnbaa
