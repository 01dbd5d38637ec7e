/-
  Rows of places in memory beside a row of steps, each of which grows. Conditions: lengths fit.
-/
import Derived.Test.YtjnikeiboefnbaaProg
import Derived.Test.YtjnikeiboefnbaaEa
import Derived.Test.YtjnikeiboefnbaaEd
import Derived.Test.YtjnikeiboefnbaaEf
import Derived.Test.YtjnikeiboefnbaaJa
import Derived.Test.YtjnikeiboefnbaaJb
import Derived.Test.YtjnikeiboefnbaaHa
import Derived.Test.YtjnikeiboefnbaaEo
import Derived.Test.YtjnikeiboefnbaaHd
import Derived.Test.YtjnikeiboefnbaaHe
import Derived.Test.YtjnikeiboefnbaaJd
import Derived.Test.YtjnikeiboefnbaaJe
import Derived.Test.YtjnikeiboefnbaaJg
import Derived.Test.YtjnikeiboefnbaaJh
import Derived.Test.YtjnikeiboefnbaaHi
import Derived.Test.YtjnikeiboefnbaaUa
import Derived.Test.YtjnikeiboefnbaaUb
import Derived.Test.YtjnikeiboefnbaaUc
import Derived.Test.YtjnikeiboefnbaaUd
import Derived.Laws.AppendOwn
import Derived.Maps.AppendAt
import Derived.Deep.LoopGhost
import Derived.Deep.QuietTactic
import Derived.BigQuiet
import Derived.Lib.Bytealg
import Derived.Laws.Externs
import Derived.Laws.CopyOwn
import Derived.Laws.MakeOwn
import Derived.Laws.OwnMore
import Derived.OwnWalk
import Derived.StillTailTactics
import Derived.WalkKit
import Derived.WalkSpells
import Derived.WalkLawsBesides
import Derived.Lib.Hide
import Derived.Below
import Derived.Lib.QuietBelow
import Derived.Laws.StructEq
import Derived.KernelRfl
import Derived.Deep.RegionHeld3
import Derived.Deep.Cut
import Derived.Laws.ResultCell
namespace Go.Proofs.Ytjnikeiboefnbaa
open Go.RowKit

/-- A row of places that one owns. -/
def Js (base : Nat) (w : World) (v : Value) (l : List Nat) : Prop := w.ownsRow base 3 1 v l.length (iz l)
theorem Js.nil (base : Nat) (w : World) : Js base w (.slice none 0 0) [] := World.ownsRow_nil _ _ _ _
/-- Two rows that lie apart. -/
def Apt (v u : Value) : Prop := ∀ g, v.ownBlock = some g → u.ownBlock ≠ some g
theorem Apt.symm {v u : Value} (h : Apt v u) : Apt u v := fun g h1 h2 => h g h2 h1
theorem Js.kept {base : Nat} {w w' : World} {j v v' : Value} {l : List Nat} (h : Js base w j l) (hm : Moved w v w' v') (ha : Apt j v) : Js base w' j l ∧ Apt j v' := by
  have hlt := World.ownsRow.lt h
  refine ⟨⟨h.1, ?_⟩, fun g hg e => ?_⟩
  · rcases h.2 with hn | ⟨g, cap, cur, e, hbg, hg, rest⟩
    · exact .inl hn
    · exact .inr ⟨g, cap, cur, e, hbg, (hm.block g (Array.getElem?_eq_some_iff.1 hg).1 (fun e2 => ha g (by rw [e]; rfl) e2.symm)).trans hg, rest⟩
  · rcases hm.own with e2 | ⟨g2, e2, h2⟩
    · rw [e2] at e; exact ha g hg e
    · rw [e2] at e; injection e with e; have := (hlt g hg).2; omega
theorem Steps.kept {base : Nat} {w w' : World} {j v v' : Value} {L : List St} (h : Steps base w j L) (hm : Moved w v w' v') (ha : Apt j v) : Steps base w' j L ∧ Apt j v' := by
  have hlt := World.ownsRow.lt h
  refine ⟨⟨h.1, ?_⟩, fun g hg e => ?_⟩
  · rcases h.2 with hn | ⟨g, cap, cur, e, hbg, hg, rest⟩
    · exact .inl hn
    · exact .inr ⟨g, cap, cur, e, hbg, (hm.block g (Array.getElem?_eq_some_iff.1 hg).1 (fun e2 => ha g (by rw [e]; rfl) e2.symm)).trans hg, rest⟩
  · rcases hm.own with e2 | ⟨g2, e2, h2⟩
    · rw [e2] at e; exact ha g hg e
    · rw [e2] at e; injection e with e; have := (hlt g hg).2; omega
/-- Beside v, a row in newer blocks grows. -/
theorem Moved.aside {w W W' : World} {v V j j' : Value} (h : Moved w v W V) (hm : Moved W j W' j') (hj : ∀ g, j.ownBlock = some g → w.heap.size ≤ g) : Moved w v W' V :=
  ⟨hm.os.trans h.os, hm.tape.trans h.tape, hm.output.trans h.output, Nat.le_trans h.size hm.size, fun k hk hne => (hm.block k (Nat.lt_of_lt_of_le hk h.size) (fun e => by have := hj k e.symm; omega)).trans (h.block k hk hne), h.own⟩
theorem Js.low {base : Nat} {w : World} {v : Value} {l : List Nat} (h : Js base w v l) : ∀ k, v.ownBlock = some k → base ≤ k := fun k hk => (World.ownsRow.lt h k hk).1
theorem Js.form2 {base : Nat} {w : World} {v : Value} {l : List Nat} (h : Js base w v l) (hp : 0 < l.length) : ∃ g cap, v = .slice (some ⟨g, 0, none⟩) l.length cap := by
  rcases h.2 with ⟨e, h0⟩ | ⟨g, cap', cur, e, rest⟩
  · omega
  · exact ⟨g, cap', e⟩
theorem Js.cell {base : Nat} {w : World} {g n cap : Nat} {l : List Nat} (h : Js base w (.slice (some ⟨g, 0, none⟩) n cap) l) {j p : Nat} (hj : l[j]? = some p) : w.cell? ⟨g, j, none⟩ = some (.int .i64 (p : Int)) := by
  have := World.ownsRow.cells h (g := g) rfl j (.int .i64 (p : Int)) (by simp [iz, hj])
  rw [add0] at this; exact this
/-- append(v, x) of one place, which a literal's row holds. -/
theorem wpList_appJ {ops : Array Oper} {rest : List Oper} {o : Oper} {a : Act} {w : World} {Q : Exit → Act → World → Prop} (hgd : o.guard = none) (sl x : Operand) (ho : o.op = .call { callee := .builtin .append, args := #[sl, x], argTypes := #[56, 56] })
    (base : Nat) (v : Value) (l : List Nat) (n : Nat) (p : Nat) (z : Int) (g : Nat) (hs : a.eval sl = v) (hx : a.eval x = .slice (some ⟨g, 0, none⟩) 1 1) (hg : w.heap.size = g) (hz : z = (p : Int)) (h : Js base w v l) (hL : l.length = n) (hn : n ≤ 100000) (hbase : base ≤ w.heap.size)
    (hk : ∀ g' cap' w', Js base w' (.slice (some ⟨g', 0, none⟩) (n + 1) cap') (l ++ [p]) → Moved w v w' (.slice (some ⟨g', 0, none⟩) (n + 1) cap') → wpList Try.prog ops Q rest (a.put o.dst (.slice (some ⟨g', 0, none⟩) (n + 1) cap')) w') : wpList Try.prog ops Q (o :: rest) a (w.alloc (.cells #[.int .i64 z] 3)) := by
  subst hL
  subst hg
  subst hz
  have B1 : Below w.heap.size w (w.alloc (.cells #[.int .i64 (p : Int)] 3)) := (Below.refl _ _).alloc (Nat.le_refl _) _
  have hnew := heap_alloc_new w (.cells #[.int .i64 (p : Int)] 3)
  have h1 : Js base (w.alloc (.cells #[.int .i64 (p : Int)] 3)) v l := (h.kept (v := .bool true) (v' := .bool true) (Moved.of _ B1) (fun _ _ e => by cases e)).1
  have z1 : (w.alloc (.cells #[.int .i64 (p : Int)] 3)).heap.size = w.heap.size + 1 := by simp
  generalize w.alloc (.cells #[.int .i64 (p : Int)] 3) = w1 at *
  obtain ⟨i0, hi, hz0, hz1, hz2⟩ := info_parts Try.infoZ
  refine wpList_append_own_at (P := Try.prog) w1 hgd sl x 56 ho base 3 i0 _ 1 8 Try.underlying56 hi hz0 hz1 hz2 rfl (by decide) v l.length (iz l) hs h1 ⟨w.heap.size, 0, none⟩ 1 1 [.int .i64 (p : Int)] hx rfl ?_ ?_ (by unfold maxLen; omega) (by omega) (by omega) ?_
  · intro j u hj
    rw [add0, cell_of_row _ w.heap.size j _ _ _ hnew]
    simpa using hj
  · intro u hu
    rw [List.mem_singleton] at hu
    subst hu; rfl
  · intro v' w' h2 h3 h4 h5
    have hS : Js base w' v' (l ++ [p]) := by unfold Js; rw [List.length_append, iz_app]; exact h2
    obtain ⟨g', cap', e⟩ := hS.form2 (by simp)
    rw [List.length_append, List.length_singleton] at e
    subst e
    refine hk g' cap' w' hS ?_
    have M1 : Moved w v w1 v := Moved.of v B1
    refine M1.trans ⟨h3.os, h3.tape, h3.output, h3.size, fun k hk hne => h3.block k hk hne, ?_⟩
    rcases h5 with e | e
    · exact .inl e
    · exact .inr ⟨_, e, Nat.le_refl _⟩
/-- A patched jump. -/
theorem Steps.fixX {base : Nat} {w : World} {g m cap n p : Nat} {L P R P' : List St} {s : St} (h : Steps base w (.slice (some ⟨g, 0, none⟩) m cap) (L ++ P ++ R)) (hL : L.length = n) (hp : n ≤ p) (hs : P[p - n]? = some s) (z : Int) (hP : P.set (p - n) (s.setX z) = P') :
    w.cell? ⟨g, p * 7 + 5, none⟩ = some (.int .i64 s.x) ∧ w.frozen? ⟨g, p * 7 + 5, none⟩ = false ∧ p < m ∧ Steps base (w.setCell ⟨g, p * 7 + 5, none⟩ (.int .i64 z)) (.slice (some ⟨g, 0, none⟩) m cap) (L ++ P' ++ R) ∧ Moved w (.slice (some ⟨g, 0, none⟩) m cap) (w.setCell ⟨g, p * 7 + 5, none⟩ (.int .i64 z)) (.slice (some ⟨g, 0, none⟩) m cap) := by
  have hlt : p - n < P.length := by
    rcases Nat.lt_or_ge (p - n) P.length with h | h
    · exact h
    · rw [List.getElem?_eq_none h] at hs; cases hs
  have hn : p < (L ++ P ++ R).length := by rw [List.length_append, List.length_append]; omega
  have hget : nthS (L ++ P ++ R) p = s := by
    simp only [nthS, List.getD]
    rw [List.getElem?_append_left (by rw [List.length_append]; omega), List.getElem?_append_right (by omega), hL, hs]; rfl
  have hset : (L ++ P ++ R).set p (s.setX z) = L ++ P' ++ R := by
    rw [List.set_append_left _ _ (by rw [List.length_append]; omega), List.set_append_right _ _ (by omega), hL, hP]
  have c5 := h.cell (i := 5) hn (by omega)
  have := h.putX hn z
  rw [hget] at c5 this
  rw [hset] at this
  exact ⟨c5, h.free _, by rw [h.form]; exact hn, this⟩

end Go.Proofs.Ytjnikeiboefnbaa
