/-
  Matchers in memory: a slice that reads as a list of matchers, one that a call has made, appended to, cut; a matcher in a cell of its own. Conditions: lengths fit.
-/
import Derived.Test.YtjmojjjgifkkiaaDoorYa
import Derived.Test.YtjmojjjgifkkiaaDoorZ02
import Derived.Test.YtjmojjjgifkkiaaDoorZ26
import Derived.BigQuiet
import Derived.Laws.OwnMore
namespace Go.Proofs.YtjmojjjgifkkiaaDoor
open Go.RowKit

theorem box3 {w : World} {v0 v1 v2 : Value} {ty : TypeId} {W : World} (h : Below (w.heap.size + 1) (w.alloc (.cells #[v0, v1, v2] ty)) W) :
    (W.cell? ⟨w.heap.size, 0, none⟩ = some v0 ∧ W.cell? ⟨w.heap.size, 1, none⟩ = some v1 ∧ W.cell? ⟨w.heap.size, 2, none⟩ = some v2) ∧ Below w.heap.size w W := by
  have e := heap_alloc_new w (.cells #[v0, v1, v2] ty)
  have e2 : W.heap[w.heap.size]? = _ := (h.block w.heap.size (by omega)).trans e
  refine ⟨⟨?_, ?_, ?_⟩, ((Below.refl _ _).alloc (Nat.le_refl _) _).trans (h.mono (by omega))⟩ <;> (rw [cell_of_row _ w.heap.size _ _ ty (0, 0) e2]; rfl)
/-- Matchers as cells. -/
def mc (l : List Mat) : List Value := l.flatMap fun m => [.int .i64 m.k, .string m.n, .string m.v]
theorem mc_len (l : List Mat) : (mc l).length = l.length * 3 := by
  induction l with
  | nil => rfl
  | cons x r ih => simp [mc] at ih ⊢; omega
theorem mc_app (a b : List Mat) : mc (a ++ b) = mc a ++ mc b := by simp [mc]
theorem mc_get : ∀ (l : List Mat) (j : Nat), j < l.length → (mc l)[j * 3]? = some (.int .i64 (Mat.nth l j).k) ∧ (mc l)[j * 3 + 1]? = some (.string (Mat.nth l j).n) ∧ (mc l)[j * 3 + 2]? = some (.string (Mat.nth l j).v)
  | [], j, h => by simp at h
  | x :: r, 0, _ => by simp [mc, Mat.nth]
  | x :: r, j + 1, h => by
    have ih := mc_get r j (by simpa using h)
    have e : mc (x :: r) = .int .i64 x.k :: .string x.n :: .string x.v :: mc r := rfl
    have e1 : (j + 1) * 3 = j * 3 + 1 + 1 + 1 := by omega
    rw [e, e1]
    simpa [Mat.nth] using ih
/-- The slice at address a reads as these matchers. -/
def IsMats (w : World) (a : Option Addr) (l : List Mat) : Prop :=
  0 < l.length → ∃ b off, a = some ⟨b, off, none⟩ ∧ ∀ j, j < l.length → w.cell? ⟨b, off + j * 3, none⟩ = some (.int .i64 (Mat.nth l j).k) ∧ w.cell? ⟨b, off + j * 3 + 1, none⟩ = some (.string (Mat.nth l j).n) ∧ w.cell? ⟨b, off + j * 3 + 2, none⟩ = some (.string (Mat.nth l j).v)
theorem IsMats.below {w w' : World} {a : Option Addr} {l : List Mat} (h : IsMats w a l) (hb : Below w.heap.size w w') : IsMats w' a l := by
  intro hp
  obtain ⟨b, off, e, hc⟩ := h hp
  refine ⟨b, off, e, fun j hj => ?_⟩
  obtain ⟨h1, h2, h3⟩ := hc j hj
  exact ⟨(hb.cell (World.block_lt_of_cell? w _ h1)).trans h1, (hb.cell (World.block_lt_of_cell? w _ h2)).trans h2, (hb.cell (World.block_lt_of_cell? w _ h3)).trans h3⟩
theorem IsMats.nil (w : World) (a : Option Addr) : IsMats w a [] := fun h => absurd h (by simp)
theorem own_mats {w : World} {base n cap : Nat} {A : Option Addr} {l : List Mat} (h : w.ownsRow base 26 3 (.slice A n cap) n (mc l)) : IsMats w A l ∧ l.length = n := by
  have hl : l.length = n := by have := h.1; rw [mc_len] at this; omega
  refine ⟨fun hp => ?_, hl⟩
  rcases h.2 with ⟨_, e⟩ | ⟨g, c, cur, e, _⟩
  · omega
  · injection e with e1 e2 e3
    subst e1
    refine ⟨g, 0, rfl, fun j hj => ?_⟩
    have g1 := h.cellAt (g := g) (j * 3) (by omega)
    have g2 := h.cellAt (g := g) (j * 3 + 1) (by omega)
    have g3 := h.cellAt (g := g) (j * 3 + 2) (by omega)
    obtain ⟨e1, e2, e3⟩ := mc_get l j hj
    exact ⟨by rw [Nat.zero_add, g1, e1], by rw [Nat.zero_add, g2, e2], by rw [Nat.zero_add, g3, e3]⟩
theorem Tryd.infoM : (Tryd.prog.info? 26).map (fun i => (i.zero, i.size, i.bytes)) = some (some (.agg #[.int .i64 0, .string ⟨#[]⟩, .string ⟨#[]⟩]), 3, 40) := by kernel_rfl
theorem mc_one (l : List Mat) : ∀ u ∈ mc l, u.oneCell' = true := by
  intro u hu
  simp only [mc, List.mem_flatMap] at hu
  obtain ⟨x, _, hx⟩ := hu
  simp at hx
  rcases hx with rfl | rfl | rfl <;> rfl
theorem mats_cells {w : World} {ad : Addr} {l : List Mat} (hr : IsMats w (some ad) l) : ∀ j u, (mc l)[j]? = some u → w.cell? (ad.add j) = some u := by
  intro j u hu
  have hj : j < (mc l).length := by
    rcases Nat.lt_or_ge j (mc l).length with h1 | h1
    · exact h1
    · rw [List.getElem?_eq_none h1] at hu; cases hu
  rw [mc_len] at hj
  obtain ⟨b, off, e, hc⟩ := hr (by omega)
  injection e with e
  subst e
  have e2 : (⟨b, off, none⟩ : Addr).add j = ⟨b, off + j, none⟩ := by unfold Addr.add; split <;> simp_all
  rw [e2]
  obtain ⟨c1, c2, c3⟩ := hc (j / 3) (by omega)
  obtain ⟨g1, g2, g3⟩ := mc_get l (j / 3) (by omega)
  have h3 : j % 3 = 0 ∨ j % 3 = 1 ∨ j % 3 = 2 := by omega
  rcases h3 with hp | hp | hp
  · have ej : j / 3 * 3 = j := by omega
    rw [ej] at c1 g1
    rw [c1, ← g1, hu]
  · have ej : j / 3 * 3 + 1 = j := by omega
    rw [ej] at g2
    rw [Nat.add_assoc, ej] at c2
    rw [c2, ← g2, hu]
  · have ej : j / 3 * 3 + 2 = j := by omega
    rw [ej] at g3
    rw [Nat.add_assoc, ej] at c3
    rw [c3, ← g3, hu]
/-- append(v, l...) of matchers: v is one's own, l is read. -/
theorem wp_appM {o : Oper} {a : Act} {w : World} {K : Act → World → Prop} {Q : Exit → Act → World → Prop} (s x : Operand) (ho : o.op = .call { callee := .builtin .append, args := #[s, x], argTypes := #[31, 31] })
    (base : Nat) (v : Value) (n : Nat) (xs : List Mat) (hs : a.eval s = v) (hown : w.ownsRow base 26 3 v n (mc xs)) (A : Option Addr) (L c : Nat) (l : List Mat) (hx : a.eval x = .slice A L c) (hL : l.length = L) (hA : A = none → c = 0) (hr : IsMats w A l)
    (hlen : n + L ≤ 1099511627776) (hbase : base ≤ w.heap.size)
    (h : ∀ v' w', w'.ownsRow base 26 3 v' (n + L) (mc (xs ++ l)) → w.grownBy w' v.ownBlock → K (a.put o.dst v') w') : o.wp Tryd.prog a w K Q := by
  obtain ⟨i0, hi, hz0, hz1, hz2⟩ := info_parts Tryd.infoM
  subst hL
  rcases A with _ | ad
  · obtain rfl := hA rfl
    have hl0 : l = [] := by
      rcases Nat.eq_zero_or_pos l.length with h0 | h0
      · exact List.eq_nil_of_length_eq_zero h0
      · obtain ⟨_, _, e, _⟩ := hr h0; cases e
    subst hl0
    have hrun := run_append_owned_none (P := Tryd.prog) (w := w) base 31 o.type 26 i0 3 Tryd.underlying31 hi v n _ hown
    have hx' : a.eval x = .slice none 0 0 := hx
    unfold Oper.wp
    simp [execOp, ho, resolve, invoke, builtin, hs, hx', hrun, Result.andThen]
    exact h v w (by simpa using hown) (World.grownBy.refl w _)
  · refine wp_append_own w s x 31 ho base 26 i0 (.agg #[.int .i64 0, .string ⟨#[]⟩, .string ⟨#[]⟩]) 3 40 Tryd.underlying31 hi hz0 hz1 hz2 rfl (by decide) v n _ hs hown ad l.length c (mc l) hx (mc_len l) (mats_cells hr) (mc_one l) (by unfold maxLen; omega) (by omega) hbase ?_
    intro v' w' h1 h2 _
    exact h v' w' (by rw [mc_app]; exact h1) h2
theorem wpList_appM {ops : Array Oper} {rest : List Oper} {o : Oper} {a : Act} {w : World} {Q : Exit → Act → World → Prop} (hgd : o.guard = none) (s x : Operand) (ho : o.op = .call { callee := .builtin .append, args := #[s, x], argTypes := #[31, 31] })
    (base : Nat) (v : Value) (n : Nat) (xs : List Mat) (hs : a.eval s = v) (hown : w.ownsRow base 26 3 v n (mc xs)) (A : Option Addr) (L c : Nat) (l : List Mat) (hx : a.eval x = .slice A L c) (hL : l.length = L) (hA : A = none → c = 0) (hr : IsMats w A l)
    (hlen : n + L ≤ 1099511627776) (hbase : base ≤ w.heap.size)
    (h : ∀ v' w', w'.ownsRow base 26 3 v' (n + L) (mc (xs ++ l)) → w.grownBy w' v.ownBlock → wpList Tryd.prog ops Q rest (a.put o.dst v') w') : wpList Tryd.prog ops Q (o :: rest) a w :=
  wpList_plain hgd fun _ hK => wp_appM s x ho base v n xs hs hown A L c l hx hL hA hr hlen hbase fun v' w' h1 h2 => hK _ _ (h v' w' h1 h2)
theorem mcut_lo (W : World) (g k c m : Nat) (hm : m ≤ c) : (Instr.slice 31 (.slice (some ⟨g, 0, none⟩) k c) none (some (.int .i64 (m : Int))) none).run Tryd.prog W = .ok (.slice (some ⟨g, 0, none⟩) m c) W := by
  obtain ⟨i0, hi, hz0, hz1, hz2⟩ := info_parts Tryd.infoM
  simp [Instr.slice, Instr.sliceBounds, Instr.sliceBound, run_underlying Tryd.underlying31, asIntOf, sizeOf, typeInfo, hi, go_sem]
  intro h; omega
theorem mcut_hi (W : World) (g k c m : Nat) (hm : m ≤ k) : (Instr.slice 31 (.slice (some ⟨g, 0, none⟩) k c) (some (.int .i64 (m : Int))) none none).run Tryd.prog W = .ok (.slice (some (if c = m then ⟨g, 0, none⟩ else ⟨g, m * 3, none⟩)) (k - m) (c - m)) W := by
  obtain ⟨i0, hi, hz0, hz1, hz2⟩ := info_parts Tryd.infoM
  simp [Instr.slice, Instr.sliceBounds, Instr.sliceBound, run_underlying Tryd.underlying31, asIntOf, sizeOf, typeInfo, hi, hz1, go_sem]
  by_cases hc : c = m
  · simp [hc]; intro h; omega
  · simp [hc]; intro h; omega
theorem Mat.nth_take {l : List Mat} {m j : Nat} (h : j < m) : Mat.nth (l.take m) j = Mat.nth l j := by simp [Mat.nth, List.getD, h]
theorem Mat.nth_drop (l : List Mat) (m j : Nat) : Mat.nth (l.drop m) j = Mat.nth l (m + j) := by simp [Mat.nth, List.getD, List.getElem?_drop]
theorem mats_take {w : World} {A : Option Addr} {l : List Mat} (h : IsMats w A l) (m : Nat) : IsMats w A (l.take m) := fun hp => by
  obtain ⟨b, off, e, hc⟩ := h (by simp at hp; omega)
  refine ⟨b, off, e, fun j hj => ?_⟩
  have hj' : j < m ∧ j < l.length := by simp at hj; omega
  rw [Mat.nth_take hj'.1]
  exact hc j hj'.2
theorem mats_drop {w : World} {g c : Nat} {l : List Mat} (h : IsMats w (some ⟨g, 0, none⟩) l) (m : Nat) (hc : l.length ≤ c) : IsMats w (some (if c = m then ⟨g, 0, none⟩ else ⟨g, m * 3, none⟩)) (l.drop m) := fun hp => by
  have hm : m < l.length := by simp at hp; omega
  obtain ⟨b, off, e, hx⟩ := h (by omega)
  injection e with e; injection e with e1 e2
  subst e1 e2
  rw [if_neg (by omega)]
  refine ⟨g, m * 3, rfl, fun j hj => ?_⟩
  have := hx (m + j) (by simp at hj; omega)
  rw [Mat.nth_drop]
  have q1 : 0 + (m + j) * 3 = m * 3 + j * 3 := by omega
  rw [q1] at this
  exact this
theorem lit_mat (w : World) (x : Mat) : IsMats (w.alloc (.cells #[.int .i64 x.k, .string x.n, .string x.v] 26)) (some ⟨w.heap.size, 0, none⟩) [x] := fun _ => ⟨w.heap.size, 0, rfl, fun j hj => by
  obtain rfl : j = 0 := by simpa using hj
  rw [cell_of_row _ w.heap.size _ _ 26 (0, 0) (heap_alloc_new w _), cell_of_row _ w.heap.size _ _ 26 (0, 0) (heap_alloc_new w _), cell_of_row _ w.heap.size _ _ 26 (0, 0) (heap_alloc_new w _)]
  simp [Mat.nth]⟩
/-- A slice of matchers that a call has made. -/
def MadeMats (w : World) (l : List Mat) (v : Value) (w' : World) : Prop := w'.ownsRow w.heap.size 26 3 v l.length (mc l)
theorem own_formM {w : World} {base n : Nat} {v : Value} {l : List Mat} (h : w.ownsRow base 26 3 v n (mc l)) : ∃ A c, v = .slice A n c ∧ n ≤ c ∧ (A = none → c = 0) ∧ IsMats w A l ∧ l.length = n := by
  rcases h.2 with ⟨rfl, rfl⟩ | ⟨g, cap, cur, rfl, _, _, hc, _⟩
  · obtain ⟨h1, h2⟩ := own_mats h
    exact ⟨_, _, rfl, Nat.le_refl _, fun _ => rfl, h1, h2⟩
  · obtain ⟨h1, h2⟩ := own_mats h
    exact ⟨_, _, rfl, hc, (fun e => by cases e), h1, h2⟩
end Go.Proofs.YtjmojjjgifkkiaaDoor
