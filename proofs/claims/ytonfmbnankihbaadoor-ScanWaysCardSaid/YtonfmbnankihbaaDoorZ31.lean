/-
  Rows of places in memory beside a row of steps, each of which grows. Conditions: lengths fit.
  What the program's appendWays does, of what appendTree does to each kid. Conditions: at most 1000 steps, 1000 kids.
-/
import Derived.Test.YtonfmbnankihbaaDoorProg
import Derived.Test.YtonfmbnankihbaaDoorZ01
import Derived.Test.YtonfmbnankihbaaDoorZ02
import Derived.Test.YtonfmbnankihbaaDoorZ03
import Derived.Test.YtonfmbnankihbaaDoorZ06
import Derived.Test.YtonfmbnankihbaaDoorZ07
import Derived.Test.YtonfmbnankihbaaDoorZ12
import Derived.Test.YtonfmbnankihbaaDoorZ09
import Derived.Test.YtonfmbnankihbaaDoorZ11
import Derived.Test.YtonfmbnankihbaaDoorZ13
import Derived.Test.YtonfmbnankihbaaDoorZ14
import Derived.Test.YtonfmbnankihbaaDoorZ30
import Derived.StillTailTactics
import Derived.WalkKit
import Derived.WalkSpells
import Derived.WalkLawsBesides
import Derived.Lib.Hide
import Derived.Below
import Derived.BigQuiet
import Derived.Lib.QuietBelow
import Derived.Laws.StructEq
import Derived.KernelRfl
import Derived.Deep.RegionHeld3
import Derived.Deep.LoopGhost
import Derived.Maps.AppendAt
import Derived.Laws.MakeOwn
import Derived.Laws.OwnMore
import Derived.OwnWalk
import Derived.Laws.AppendOwn
import Derived.Laws.CopyOwn
import Derived.Deep.QuietTactic
import Derived.Lib.Bytealg
import Derived.Laws.Externs
import Derived.Laws.ResultCell
import Derived.Deep.Cut
namespace Go.Proofs.YtonfmbnankihbaaDoor
open Go.RowKit

/-- A row of places that one owns. -/
def Js (base : Nat) (w : World) (v : Value) (l : List Nat) : Prop := w.ownsRow base 3 1 v l.length (iz l)
theorem Js.nil (base : Nat) (w : World) : Js base w (.slice none 0 0) [] := World.ownsRow_nil _ _ _ _
/-- Two rows that lie apart. -/
def Apt (v u : Value) : Prop := ∀ g, v.ownBlock = some g → u.ownBlock ≠ some g
theorem Apt.symm {v u : Value} (h : Apt v u) : Apt u v := fun g h1 h2 => h g h2 h1
theorem Js.kept {base : Nat} {w w' : World} {j v v' : Value} {l : List Nat} (h : Js base w j l) (hm : Moved w v w' v') (ha : Apt j v) : Js base w' j l ∧ Apt j v' := by
  have hlt := World.ownsRow.lt h
  refine ⟨⟨h.1, ?_⟩, fun g hg e => ?_⟩
  · rcases h.2 with hn | ⟨g, cap, cur, e, hbg, hg, rest⟩
    · exact .inl hn
    · exact .inr ⟨g, cap, cur, e, hbg, (hm.block g (Array.getElem?_eq_some_iff.1 hg).1 (fun e2 => ha g (by rw [e]; rfl) e2.symm)).trans hg, rest⟩
  · rcases hm.own with e2 | ⟨g2, e2, h2⟩
    · rw [e2] at e; exact ha g hg e
    · rw [e2] at e; injection e with e; have := (hlt g hg).2; omega
theorem Steps.kept {base : Nat} {w w' : World} {j v v' : Value} {L : List St} (h : Steps base w j L) (hm : Moved w v w' v') (ha : Apt j v) : Steps base w' j L ∧ Apt j v' := by
  have hlt := World.ownsRow.lt h
  refine ⟨⟨h.1, ?_⟩, fun g hg e => ?_⟩
  · rcases h.2 with hn | ⟨g, cap, cur, e, hbg, hg, rest⟩
    · exact .inl hn
    · exact .inr ⟨g, cap, cur, e, hbg, (hm.block g (Array.getElem?_eq_some_iff.1 hg).1 (fun e2 => ha g (by rw [e]; rfl) e2.symm)).trans hg, rest⟩
  · rcases hm.own with e2 | ⟨g2, e2, h2⟩
    · rw [e2] at e; exact ha g hg e
    · rw [e2] at e; injection e with e; have := (hlt g hg).2; omega
/-- Beside v, a row in newer blocks grows. -/
theorem Moved.aside {w W W' : World} {v V j j' : Value} (h : Moved w v W V) (hm : Moved W j W' j') (hj : ∀ g, j.ownBlock = some g → w.heap.size ≤ g) : Moved w v W' V :=
  ⟨hm.os.trans h.os, hm.tape.trans h.tape, hm.output.trans h.output, Nat.le_trans h.size hm.size, fun k hk hne => (hm.block k (Nat.lt_of_lt_of_le hk h.size) (fun e => by have := hj k e.symm; omega)).trans (h.block k hk hne), h.own⟩
theorem Js.low {base : Nat} {w : World} {v : Value} {l : List Nat} (h : Js base w v l) : ∀ k, v.ownBlock = some k → base ≤ k := fun k hk => (World.ownsRow.lt h k hk).1
theorem Js.form2 {base : Nat} {w : World} {v : Value} {l : List Nat} (h : Js base w v l) (hp : 0 < l.length) : ∃ g cap, v = .slice (some ⟨g, 0, none⟩) l.length cap := by
  rcases h.2 with ⟨e, h0⟩ | ⟨g, cap', cur, e, rest⟩
  · omega
  · exact ⟨g, cap', e⟩
theorem Js.cell {base : Nat} {w : World} {g n cap : Nat} {l : List Nat} (h : Js base w (.slice (some ⟨g, 0, none⟩) n cap) l) {j p : Nat} (hj : l[j]? = some p) : w.cell? ⟨g, j, none⟩ = some (.int .i64 (p : Int)) := by
  have := World.ownsRow.cells h (g := g) rfl j (.int .i64 (p : Int)) (by simp [iz, hj])
  rw [add0] at this; exact this
/-- append(v, x) of one place, which a literal's row holds. -/
theorem wpList_appJ {ops : Array Oper} {rest : List Oper} {o : Oper} {a : Act} {w : World} {Q : Exit → Act → World → Prop} (hgd : o.guard = none) (sl x : Operand) (ho : o.op = .call { callee := .builtin .append, args := #[sl, x], argTypes := #[38, 38] })
    (base : Nat) (v : Value) (l : List Nat) (n : Nat) (p : Nat) (z : Int) (g : Nat) (hs : a.eval sl = v) (hx : a.eval x = .slice (some ⟨g, 0, none⟩) 1 1) (hg : w.heap.size = g) (hz : z = (p : Int)) (h : Js base w v l) (hL : l.length = n) (hn : n ≤ 100000) (hbase : base ≤ w.heap.size)
    (hk : ∀ g' cap' w', Js base w' (.slice (some ⟨g', 0, none⟩) (n + 1) cap') (l ++ [p]) → Moved w v w' (.slice (some ⟨g', 0, none⟩) (n + 1) cap') → wpList Tryd.prog ops Q rest (a.put o.dst (.slice (some ⟨g', 0, none⟩) (n + 1) cap')) w') : wpList Tryd.prog ops Q (o :: rest) a (w.alloc (.cells #[.int .i64 z] 3)) := by
  subst hL
  subst hg
  subst hz
  have B1 : Below w.heap.size w (w.alloc (.cells #[.int .i64 (p : Int)] 3)) := (Below.refl _ _).alloc (Nat.le_refl _) _
  have hnew := heap_alloc_new w (.cells #[.int .i64 (p : Int)] 3)
  have h1 : Js base (w.alloc (.cells #[.int .i64 (p : Int)] 3)) v l := (h.kept (v := .bool true) (v' := .bool true) (Moved.of _ B1) (fun _ _ e => by cases e)).1
  have z1 : (w.alloc (.cells #[.int .i64 (p : Int)] 3)).heap.size = w.heap.size + 1 := by simp
  generalize w.alloc (.cells #[.int .i64 (p : Int)] 3) = w1 at *
  obtain ⟨i0, hi, hz0, hz1, hz2⟩ := info_parts Tryd.infoZ
  refine wpList_append_own_at (P := Tryd.prog) w1 hgd sl x 38 ho base 3 i0 _ 1 8 Tryd.underlying38 hi hz0 hz1 hz2 rfl (by decide) v l.length (iz l) hs h1 ⟨w.heap.size, 0, none⟩ 1 1 [.int .i64 (p : Int)] hx rfl ?_ ?_ (by unfold maxLen; omega) (by omega) (by omega) ?_
  · intro j u hj
    rw [add0, cell_of_row _ w.heap.size j _ _ _ hnew]
    simpa using hj
  · intro u hu
    rw [List.mem_singleton] at hu
    subst hu; rfl
  · intro v' w' h2 h3 h4 h5
    have hS : Js base w' v' (l ++ [p]) := by unfold Js; rw [List.length_append, iz_app]; exact h2
    obtain ⟨g', cap', e⟩ := hS.form2 (by simp)
    rw [List.length_append, List.length_singleton] at e
    subst e
    refine hk g' cap' w' hS ?_
    have M1 : Moved w v w1 v := Moved.of v B1
    refine M1.trans ⟨h3.os, h3.tape, h3.output, h3.size, fun k hk hne => h3.block k hk hne, ?_⟩
    rcases h5 with e | e
    · exact .inl e
    · exact .inr ⟨_, e, Nat.le_refl _⟩
/-- A patched jump. -/
theorem Steps.fixX {base : Nat} {w : World} {g m cap n p : Nat} {L P R P' : List St} {s : St} (h : Steps base w (.slice (some ⟨g, 0, none⟩) m cap) (L ++ P ++ R)) (hL : L.length = n) (hp : n ≤ p) (hs : P[p - n]? = some s) (z : Int) (hP : P.set (p - n) (s.setX z) = P') :
    w.cell? ⟨g, p * 7 + 5, none⟩ = some (.int .i64 s.x) ∧ w.frozen? ⟨g, p * 7 + 5, none⟩ = false ∧ p < m ∧ Steps base (w.setCell ⟨g, p * 7 + 5, none⟩ (.int .i64 z)) (.slice (some ⟨g, 0, none⟩) m cap) (L ++ P' ++ R) ∧ Moved w (.slice (some ⟨g, 0, none⟩) m cap) (w.setCell ⟨g, p * 7 + 5, none⟩ (.int .i64 z)) (.slice (some ⟨g, 0, none⟩) m cap) := by
  have hlt : p - n < P.length := by
    rcases Nat.lt_or_ge (p - n) P.length with h | h
    · exact h
    · rw [List.getElem?_eq_none h] at hs; cases hs
  have hn : p < (L ++ P ++ R).length := by rw [List.length_append, List.length_append]; omega
  have hget : nthS (L ++ P ++ R) p = s := by
    simp only [nthS, List.getD]
    rw [List.getElem?_append_left (by rw [List.length_append]; omega), List.getElem?_append_right (by omega), hL, hs]; rfl
  have hset : (L ++ P ++ R).set p (s.setX z) = L ++ P' ++ R := by
    rw [List.set_append_left _ _ (by rw [List.length_append]; omega), List.set_append_right _ _ (by omega), hL, hP]
  have c5 := h.cell (i := 5) hn (by omega)
  have := h.putX hn z
  rw [hget] at c5 this
  rw [hset] at this
  exact ⟨c5, h.free _, by rw [h.form]; exact hn, this⟩

end Go.Proofs.YtonfmbnankihbaaDoor
namespace Go.Proofs.YtonfmbnankihbaaDoor
open Go.RowKit

/-- A row of steps and a row of places, each grown apart from the other. -/
structure Two (base : Nat) (w : World) (v : Value) (wr : World) (lv jv : Value) (L : List St) (js : List Nat) : Prop where
  moved : Moved w v wr lv
  steps : Steps base wr lv L
  jumps : Js w.heap.size wr jv js
  apart : Apt jv lv
theorem Two.stepL {base : Nat} {w wr W : World} {v lv jv lv' : Value} {L L' : List St} {js : List Nat} (h : Two base w v wr lv jv L js) (hm : Moved wr lv W lv') (hs : Steps base W lv' L') : Two base w v W lv' jv L' js := by
  obtain ⟨h1, h2⟩ := h.jumps.kept hm h.apart
  exact ⟨h.moved.trans hm, hs, h1, h2⟩
theorem Two.stepJ {base : Nat} {w wr W : World} {v lv jv jv' : Value} {L : List St} {js js' : List Nat} (h : Two base w v wr lv jv L js) (hm : Moved wr jv W jv') (hs : Js w.heap.size W jv' js') : Two base w v W lv jv' L js' := by
  obtain ⟨h1, h2⟩ := h.steps.kept hm h.apart.symm
  exact ⟨h.moved.aside hm h.jumps.low, h1, hs, h2.symm⟩
theorem Moved.tree {base : Nat} {w W : World} {v V tv : Value} {t : Rx} (hm : Moved w v W V) (hb : base ≤ w.heap.size) (hlow : ∀ k, v.ownBlock = some k → base ≤ k) (h : RxIn (fun b => b < base) w tv t) : RxIn (fun b => b < base) W tv t := h.low (hm.below hb hlow)

set_option maxRecDepth 100000 in
set_option maxHeartbeats 8000000 in
theorem ways6_any (base : Nat) (ks : List Rx) (hT : ∀ j, j < ks.length → Lays 33 base (Rx.nth ks j)) (hp : 1 ≤ ks.length) (hkn : ks.length ≤ 1000) (blk off kcap : Nat) (hkc : ks.length ≤ kcap) (V : Nat → Nat → Value) (L : List St) (A : Option Addr) (n cap : Nat) (w : World) (hL : L.length = n) (hn : n + (Rx.szL ks + 2 * (ks.length - 1)) ≤ 1000) (hb : base ≤ w.heap.size) (hq : blk < base)
    (hc : ∀ j i, j < ks.length → i < 6 → w.cell? ⟨blk, off + j * 6 + i, none⟩ = some (V j i)) (hk : ∀ j, j < ks.length → RxIn (fun b => b < base) w (val6 (V j)) (Rx.nth ks j)) (hs : Steps base w (.slice A n cap) L) :
    Calls Tryd.prog 46 #[.slice A n cap, .slice (some ⟨blk, off, none⟩) ks.length kcap] w (LayPost base w (.slice A n cap) n L (Rx.ways n (n + (Rx.szL ks + 2 * (ks.length - 1))) ks)) := by
  have hlow := hs.low
  have HC : Hid (∀ W v', Moved w (.slice A n cap) W v' → ∀ j, j < ks.length → ∃ op a b c d XA xn xcap, (W.cell? ⟨blk, off + j * 6, none⟩ = some (.int .i64 op) ∧ W.cell? ⟨blk, off + j * 6 + 1, none⟩ = some (.int .u64 ((a : Nat) : Int)) ∧ W.cell? ⟨blk, off + j * 6 + 2, none⟩ = some (.int .u64 ((b : Nat) : Int)) ∧ W.cell? ⟨blk, off + j * 6 + 3, none⟩ = some (.int .u64 ((c : Nat) : Int)) ∧ W.cell? ⟨blk, off + j * 6 + 4, none⟩ = some (.int .u64 ((d : Nat) : Int)) ∧ W.cell? ⟨blk, off + j * 6 + 5, none⟩ = some (.slice XA xn xcap)) ∧ RxIn (fun b => b < base) W (.agg #[.int .i64 op, .int .u64 (a : Int), .int .u64 (b : Int), .int .u64 (c : Int), .int .u64 (d : Int), .slice XA xn xcap]) (Rx.nth ks j)) := fun W v' hm j hj => by
    have hB : Below base w W := hm.below hb hlow
    have c : ∀ i, i < 6 → W.cell? ⟨blk, off + j * 6 + i, none⟩ = some (V j i) := fun i hi => (hB.cell hq).trans (hc j i hj hi)
    obtain ⟨op, xa, xb, xc, xd, XA, xn, xcap, e⟩ := (hk j hj).form
    obtain ⟨e0, e1, e2, e3, e4, e5⟩ := val6_eq e
    refine ⟨op, xa, xb, xc, xd, XA, xn, xcap, ⟨?_, ?_, ?_, ?_, ?_, ?_⟩, by rw [← e]; exact (hk j hj).low hB⟩
    · rw [← e0]; exact c 0 (by omega)
    · rw [← e1]; exact c 1 (by omega)
    · rw [← e2]; exact c 2 (by omega)
    · rw [← e3]; exact c 3 (by omega)
    · rw [← e4]; exact c 4 (by omega)
    · rw [← e5]; exact c 5 (by omega)
  have TT := Lib.hid hT
  have SUM : Hid (∀ j, j < ks.length → Rx.szW (ks.take j) + 2 + Rx.sz (Rx.nth ks j) ≤ Rx.szL ks + 2 * ks.length ∧ (j + 1 < ks.length → Rx.szW (ks.take j) + 2 + Rx.sz (Rx.nth ks j) ≤ Rx.szL ks + 2 * (ks.length - 1))) := fun j hj => by
    have h1 := Rx.szL_take hj
    have h2 := Rx.szL_sum ks (j + 1)
    have h3 : (ks.take j).length = j := by rw [List.length_take]; omega
    rw [Rx.szW_eq, h3]
    omega
  have LAST : Hid (Rx.szW (ks.take (ks.length - 1)) + Rx.sz (Rx.nth ks (ks.length - 1)) = Rx.szL ks + 2 * (ks.length - 1)) := by
    have h1 := Rx.szL_take (ks := ks) (j := ks.length - 1) (by omega)
    rw [show ks.length - 1 + 1 = ks.length by omega, List.take_length] at h1
    show _ = _
    have h3 : (ks.take (ks.length - 1)).length = ks.length - 1 := by rw [List.length_take]; omega
    rw [Rx.szW_eq, h3]
    omega
  have STEP : Hid (∀ j, j < ks.length → Rx.pre (fun _ => 0) n 0 (ks.take (j + 1)) = Rx.pre (fun _ => 0) n 0 (ks.take j) ++ St.split (n + Rx.szW (ks.take j) + 1) (n + Rx.szW (ks.take j) + 2 + Rx.sz (Rx.nth ks j)) :: (Rx.lay (n + Rx.szW (ks.take j) + 1) (Rx.nth ks j) ++ [St.jump 0]) ∧ Rx.jpos n (ks.take (j + 1)) = Rx.jpos n (ks.take j) ++ [n + Rx.szW (ks.take j) + 1 + Rx.sz (Rx.nth ks j)] ∧ Rx.szW (ks.take (j + 1)) = Rx.szW (ks.take j) + 2 + Rx.sz (Rx.nth ks j)) := fun j hj => by
    rw [Rx.take_nth hj, Rx.pre_snoc, Rx.jpos_snoc, Rx.szW_app]
    exact ⟨rfl, rfl, by simp [Rx.szW]; omega⟩
  have PL : Hid (∀ f j, (L ++ Rx.pre f n 0 (ks.take j)).length = n + Rx.szW (ks.take j)) := fun f j => by rw [List.length_append, hL, Rx.pre_len]
  have JL : Hid (∀ j, j ≤ ks.length → (Rx.jpos n (ks.take j)).length = j) := fun j hj => by rw [Rx.jpos_len, List.length_take]; omega
  have JG : Hid (∀ j, j < ks.length - 1 → ∃ p, (Rx.jpos n (ks.take (ks.length - 1)))[j]? = some p ∧ n ≤ p ∧ ∀ (f g : Nat → Nat) (e : Nat), g j = e → (∀ m, m ≠ j → g m = f m) → (Rx.pre f n 0 (ks.take (ks.length - 1))).set (p - n) (St.jump e) = Rx.pre g n 0 (ks.take (ks.length - 1)) ∧ (Rx.pre f n 0 (ks.take (ks.length - 1)))[p - n]? = some (St.jump (f j))) := fun j hj => by
    obtain ⟨p, h1, h2, h3, h4⟩ := Rx.jpos_get (ks.take (ks.length - 1)) n j (by rw [List.length_take]; omega)
    refine ⟨p, h1, h2, fun f g e hg hf => ?_⟩
    have := h4 f g 0 e (by rw [Nat.zero_add]; exact hg) (fun m hm => hf m (by omega))
    rw [Nat.zero_add] at this
    exact this
  have WE : Hid (∀ e, Rx.ways n e ks = Rx.pre (fun _ => e) n 0 (ks.take (ks.length - 1)) ++ Rx.lay (n + Rx.szW (ks.take (ks.length - 1))) (Rx.nth ks (ks.length - 1))) := fun e => Rx.ways_eq (by omega) n e
  have WL : Hid (∀ e, (Rx.ways n e ks).length = Rx.szL ks + 2 * (ks.length - 1)) := fun e => Rx.ways_len ks n e
  have CG : Hid (∀ f g : Nat → Nat, (∀ j, j < ks.length - 1 → f j = g j) → Rx.pre f n 0 (ks.take (ks.length - 1)) = Rx.pre g n 0 (ks.take (ks.length - 1))) := fun f g h => Rx.pre_congr _ n 0 fun j _ h2 => h j (by rw [List.length_take] at h2; omega)
  have H0 : Hid (Two base w (.slice A n cap) w (.slice A n cap) (.slice none 0 0) (L ++ Rx.pre (fun _ => 0) n 0 (ks.take 0)) (Rx.jpos n (ks.take 0))) := by
    refine ⟨Moved.refl _ _, ?_, ?_, fun g h => by cases h⟩
    · rw [List.take_zero, Rx.pre, List.append_nil]; exact hs
    · rw [List.take_zero, Rx.jpos]; exact Js.nil _ _
  obtain ⟨N, hN⟩ : ∃ N, ks.length = N + 1 := ⟨ks.length - 1, by omega⟩
  obtain ⟨S, hS⟩ : ∃ S, Rx.szL ks = S := ⟨_, rfl⟩
  have LAYL := Lib.hid (fun m t => Rx.lay_len t m)
  have hLL := Lib.hid hL
  rw [hN] at HC SUM LAST STEP JL JG WE WL CG TT hkn hkc hn ⊢
  rw [hS] at SUM LAST WL hn ⊢
  simp only [Nat.add_sub_cancel] at SUM LAST JG WE WL CG hn ⊢
  clear hT hL hc hk hs hS hq hp
  go_enter Tryd.func46, Tryd.ntmps46
  go_wp2_with fail
  go_loopw [0, 5, 19] (fun l j i wr => ∃ (k : Nat) (A1 : Option Addr) (m1 cap1 : Nat) (AJ : Option Addr) (capJ : Nat), k ≤ N ∧ l = .slice A1 m1 cap1 ∧ m1 = n + Rx.szW (ks.take k) ∧ j = .slice AJ k capJ ∧ i = .int .i64 (k : Int) ∧ Hid (Two base w (.slice A n cap) wr (.slice A1 m1 cap1) (.slice AJ k capJ) (L ++ Rx.pre (fun _ => 0) n 0 (ks.take k)) (Rx.jpos n (ks.take k)))) (fun _ _ i _ => N - (intOf i).toNat)
  case atStart => exact ⟨0, A, n, cap, none, 0, by omega, rfl, by simp [Rx.szW], rfl, rfl, H0.out⟩
  case round =>
    obtain ⟨k, A1, m1, cap1, AJ, capJ, hk, rfl, hm1, rfl, rfl, H⟩ := hrel
    clear H0
    by_cases hkN : k < N
    · have hkz : (k : Int) < (N : Int) := by omega
      obtain ⟨op, xa, xb, xc, xd, XA, xn, xcap, ⟨c0, c1, c2, c3, c4, c5⟩, X⟩ := HC.out wr _ H.out.moved k (by omega)
      have hsum := (SUM.out k (by omega)).2 (by omega)
      have hwr : w.heap.size ≤ wr.heap.size := H.out.moved.size
      have BX := Lib.hid (Boxed.of (by omega : base ≤ wr.heap.size) H.out.steps X)
      have LT := Lib.hid (fun W V => Boxed.later (W := W) (V := V) BX.out (by omega) H.out.steps.top H.out.steps.low)
      have P1 := Lib.hid (PL.out (fun _ => 0) k)
      have J1 := Lib.hid (JL.out k (by omega))
      have T1 := Lib.hid (TT.out k (by omega))
      obtain ⟨E1, E2, E3⟩ := STEP.out k (by omega)
      have EQ1 := Lib.hid E1
      have EQ2 := Lib.hid E2
      have EQ3 := Lib.hid E3
      have ZL := Lib.hid (LAYL.out (m1 + 1) (Rx.nth ks k))
      clear E1 E2 E3 X SUM LAST STEP JG WE WL CG PL JL LAYL HC TT
      obtain ⟨K, hK⟩ : ∃ K, Rx.szW (ks.take k) = K := ⟨_, rfl⟩
      obtain ⟨Z, hZ⟩ : ∃ Z, Rx.sz (Rx.nth ks k) = Z := ⟨_, rfl⟩
      rw [hK] at hm1 hsum EQ1 EQ2 EQ3 P1
      rw [hZ] at hsum EQ1 EQ2 EQ3 ZL
      rw [← hm1] at P1 EQ1 EQ2
      have hm2 : m1 + Z + 2 ≤ 1000 := by omega
      have HM := Lib.hid hm1
      clear hK hm1 hsum
      go_wp2_with (at_builtin; go_must (refine wpList_appS rfl (.tmp 25) (.tmp 29) rfl base (.slice A1 m1 cap1) _ m1 ⟨2, 0, 0, 0, 0, (m1 : Int) + 1, 0⟩ (wr.heap.size + 1) rfl rfl BX.out.size rfl BX.out.steps P1.out (by omega) (by have := BX.out.size; omega) ?_); (intro g1 cap1' w1 S1 M1); (have H1 := Lib.hid ((H.out.stepL BX.out.moved BX.out.steps).stepL M1 S1)); (obtain ⟨⟨q0, q1, q2, q3, q4, q5⟩, X1, Z1⟩ := LT.out _ _ M1); (replace X1 := Lib.hid X1); (clear M1 S1 c0 c1 c2 c3 c4 c5))
      refine (T1.out _ _ _ _ _ _ (by rw [List.length_append, P1.out]; rfl) (by rw [hZ]; omega) Z1 X1.out H1.out.steps).mono ?_
      rintro e w2 ⟨A2, m2, cap2, hm, rfl, S2, M2⟩
      rw [ZL.out] at hm
      subst hm
      have H2 := Lib.hid (H1.out.stepL M2 S2)
      have L2 : Hid ((L ++ Rx.pre (fun _ => 0) n 0 (ks.take k) ++ [(⟨2, 0, 0, 0, 0, (m1 : Int) + 1, 0⟩ : St)] ++ Rx.lay (m1 + 1) (Rx.nth ks k)).length = m1 + 1 + Z) := by show _ = _; rw [List.length_append, List.length_append, P1.out, ZL.out]; rfl
      have hw2 : base ≤ w2.heap.size ∧ w.heap.size ≤ w2.heap.size := by have := H2.out.moved.size; omega
      clear S2 M2 H1 q0 q1 q2 q3 q4 q5 T1 X1 LT BX
      go_wp2_with (first
        | (at_builtin; (refine wpList_appJ rfl (.tmp 34) (.tmp 37) rfl w.heap.size (.slice AJ k capJ) _ k (m1 + 1 + Z) _ w2.heap.size rfl rfl rfl (by go_num) H2.out.jumps J1.out (by omega) hw2.2 ?_); (intro g3 cap3 w3 S3 M3); (have H3 := Lib.hid (H2.out.stepJ M3 S3)); (clear S3 M3); (have hw3 : base ≤ w3.heap.size := by (have := H3.out.moved.size; omega)))
        | (at_builtin; go_must (refine wpList_appS rfl (.tmp 39) (.tmp 41) rfl base _ _ (m1 + 1 + Z) ⟨3, 0, 0, 0, 0, 0, 0⟩ w3.heap.size rfl rfl rfl rfl H3.out.steps L2.out (by omega) hw3 ?_); (intro g4 cap4 w4 S4 M4); go_must (have H4 := H3.out.stepL M4 S4); (simp only [List.append_assoc, List.cons_append, List.nil_append] at H4); (rw [← List.append_assoc] at H4); (replace H4 := Lib.hid H4); (clear S4 M4); go_must (obtain ⟨hc, _, hf, _⟩ := H4.out.steps.at P1.out); (dsimp only at hc)))
      obtain ⟨S5, M5⟩ := H4.out.steps.fixY P1.out ((m1 : Int) + 1 + Z + 1) (s' := St.split (m1 + 1) (m1 + 2 + Z)) (by simp [St.setY, St.split]; omega)
      have H5 := H4.out.stepL M5 S5
      refine ⟨⟨k + 1, some ⟨g4, 0, none⟩, m1 + 1 + Z + 1, cap4, some ⟨g3, 0, none⟩, cap3, by omega, rfl, by rw [EQ3.out]; have := HM.out; omega, rfl, by go_num, ?_⟩, by simp [intOf]; omega⟩
      rw [EQ1.out, EQ2.out, ← List.append_assoc]
      exact H5
    · obtain rfl : k = N := by omega
      have hkz : ¬ (k : Int) < (k : Int) := by omega
      obtain ⟨op, xa, xb, xc, xd, XA, xn, xcap, ⟨c0, c1, c2, c3, c4, c5⟩, X⟩ := HC.out wr _ H.out.moved k (by omega)
      replace X := Lib.hid X
      have hwr : base ≤ wr.heap.size := by have := H.out.moved.size; omega
      have P1 := Lib.hid (PL.out (fun _ => 0) k)
      have T1 := Lib.hid (TT.out k (by omega))
      have ZL := Lib.hid (LAYL.out m1 (Rx.nth ks k))
      have hlast := LAST.out
      clear SUM LAST STEP PL JL LAYL HC TT
      obtain ⟨K, hK⟩ : ∃ K, Rx.szW (ks.take k) = K := ⟨_, rfl⟩
      obtain ⟨Z, hZ⟩ : ∃ Z, Rx.sz (Rx.nth ks k) = Z := ⟨_, rfl⟩
      rw [hK] at hm1 hlast P1 WE
      rw [hZ] at hlast ZL
      rw [← hm1] at P1 WE
      have hm2 : m1 + Z ≤ 1000 := by omega
      have HM : Hid (n + (S + 2 * k) = m1 + Z) := by show _ = _; omega
      rw [HM.out]
      clear hK hm1 hlast hn
      go_wp2_with fail
      refine (T1.out _ _ _ _ _ _ P1.out (by rw [hZ]; omega) hwr X.out H.out.steps).mono ?_
      rintro e w2 ⟨A2, m2, cap2, hm, rfl, S2, M2⟩
      rw [ZL.out] at hm
      subst hm
      have H2 := Lib.hid (H.out.stepL M2 S2)
      clear S2 M2 H T1 X c0 c1 c2 c3 c4 c5
      have C0 : Hid (Rx.pre (fun _ => 0) n 0 (ks.take k) = Rx.pre (fun x => if x < 0 then m1 + Z else 0) n 0 (ks.take k)) := CG.out _ _ (fun _ _ => by simp)
      go_wp2_with fail
      go_loopw [58] (fun i wr => ∃ j : Nat, j ≤ k ∧ i = .int .i64 (j : Int) ∧ Hid (Two base w (.slice A n cap) wr (.slice A2 (m1 + Z) cap2) (.slice AJ k capJ) (L ++ Rx.pre (fun x => if x < j then m1 + Z else 0) n 0 (ks.take k) ++ Rx.lay m1 (Rx.nth ks k)) (Rx.jpos n (ks.take k)))) (fun i _ => k - (intOf i).toNat)
      case atStart => exact ⟨0, by omega, rfl, by rw [← C0.out]; exact H2.out⟩
      case round =>
        obtain ⟨j, hj, rfl, H⟩ := hrel
        clear H2 C0
        by_cases hjk : j < k
        · have hjz : (j : Int) < (k : Int) := by omega
          obtain ⟨p, p1, p2, p3⟩ := JG.out j hjk
          obtain ⟨r1, r2⟩ := p3 (fun x => if x < j then m1 + Z else 0) (fun x => if x < j + 1 then m1 + Z else 0) (m1 + Z) (by simp) (fun m hm => by
            by_cases h : m < j
            · rw [if_pos h, if_pos (by omega)]
            · rw [if_neg h, if_neg (by omega)])
          have hlen := H.out.jumps.1
          have hJp : 0 < (Rx.jpos n (ks.take k)).length := by
            rcases Nat.eq_zero_or_pos (Rx.jpos n (ks.take k)).length with h | h
            · rw [List.eq_nil_of_length_eq_zero h] at p1; cases p1
            · exact h
          obtain ⟨gj, capj, ej⟩ := H.out.jumps.form2 hJp
          injection ej with ej1 ej2 ej3
          subst ej1
          subst ej3
          clear ej2 hJp hlen
          have hSp : 0 < (L ++ Rx.pre (fun x => if x < j then m1 + Z else 0) n 0 (ks.take k) ++ Rx.lay m1 (Rx.nth ks k)).length := by
            rcases Nat.lt_or_ge (p - n) (Rx.pre (fun x => if x < j then m1 + Z else 0) n 0 (ks.take k)).length with h | h
            · rw [List.length_append, List.length_append]; omega
            · rw [List.getElem?_eq_none h] at r2; cases r2
          obtain ⟨gs, caps, es⟩ := H.out.steps.form2 hSp
          injection es with es1 es2 es3
          subst es1
          subst es3
          clear es2 hSp
          have cj := H.out.jumps.cell p1
          obtain ⟨c5, f5, hpm, S3, M3⟩ := H.out.steps.fixX hLL.out p2 r2 ((m1 : Int) + Z) (P' := Rx.pre (fun x => if x < j + 1 then m1 + Z else 0) n 0 (ks.take k)) r1
          have H3 := Lib.hid (H.out.stepL M3 S3)
          rw [if_neg (Nat.lt_irrefl j)] at c5
          dsimp only [St.jump] at c5
          clear S3 M3 H p1 p3 r1 r2 p2 JG WE WL CG
          go_wp2
          go_roundw
          case rel => exact ⟨j + 1, by omega, by go_num, H3.out⟩
          case measure => simp [intOf]; omega
        · obtain rfl : j = k := by omega
          have hjz : ¬ (j : Int) < (j : Int) := by omega
          have CE := Lib.hid (CG.out (fun x => if x < j then m1 + Z else 0) (fun _ => m1 + Z) (fun x hx => if_pos hx))
          clear JG
          go_wp2
          go_ret
          refine ⟨A2, m1 + Z, cap2, by rw [WL.out, HM.out], rfl, ?_, H.out.moved⟩
          rw [WE.out, HM.out, ← List.append_assoc, ← CE.out]
          exact H.out.steps

end Go.Proofs.YtonfmbnankihbaaDoor
