/-
  Slices of labels appended to and cut. Conditions: lengths fit.
-/
import Derived.Test.YtbfpcolbkfcanaaMu
import Derived.Test.YtbfpcolbkfcanaaRh
import Derived.Laws.OwnMore
namespace Go.Proofs.Ytbfpcolbkfcanaa
open Go.RowKit La

theorem Try.infoL : (Try.prog.info? 23).map (fun i => (i.zero, i.size, i.bytes)) = some (some (.agg #[.string ⟨#[]⟩, .string ⟨#[]⟩]), 2, 32) := by kernel_rfl
theorem lc_one (l : List Lab) : ∀ u ∈ lc l, u.oneCell' = true := by
  intro u hu
  simp only [lc, List.mem_flatMap] at hu
  obtain ⟨x, _, hx⟩ := hu
  simp at hx
  rcases hx with rfl | rfl <;> rfl
theorem labs_cells {w : World} {ad : Addr} {l : List Lab} (hr : IsLabs w (some ad) l) : ∀ j u, (lc l)[j]? = some u → w.cell? (ad.add j) = some u := by
  intro j u hu
  have hj : j < (lc l).length := by
    rcases Nat.lt_or_ge j (lc l).length with h1 | h1
    · exact h1
    · rw [List.getElem?_eq_none h1] at hu; cases hu
  rw [lc_len] at hj
  obtain ⟨b, off, e, hc⟩ := hr (by omega)
  injection e with e
  subst e
  have e2 : (⟨b, off, none⟩ : Addr).add j = ⟨b, off + j, none⟩ := by unfold Addr.add; split <;> simp_all
  rw [e2]
  obtain ⟨c1, c2⟩ := hc (j / 2) (by omega)
  obtain ⟨g1, g2⟩ := lc_get l (j / 2) (by omega)
  by_cases hp : j % 2 = 0
  · have ej : j / 2 * 2 = j := by omega
    rw [ej] at c1 g1
    rw [c1, ← g1, hu]
  · have ej : j / 2 * 2 + 1 = j := by omega
    rw [ej] at g2
    rw [Nat.add_assoc, ej] at c2
    rw [c2, ← g2, hu]
/-- append(v, l...) of labels: v is one's own, l is read. -/
theorem wp_appL {o : Oper} {a : Act} {w : World} {K : Act → World → Prop} {Q : Exit → Act → World → Prop} (s x : Operand) (ho : o.op = .call { callee := .builtin .append, args := #[s, x], argTypes := #[24, 24] })
    (base : Nat) (v : Value) (n : Nat) (xs : List Lab) (hs : a.eval s = v) (hown : w.ownsRow base 23 2 v n (lc xs)) (A : Option Addr) (L c : Nat) (l : List Lab) (hx : a.eval x = .slice A L c) (hL : l.length = L) (hA : A = none → c = 0) (hr : IsLabs w A l)
    (hlen : n + L ≤ 1099511627776) (hbase : base ≤ w.heap.size)
    (h : ∀ v' w', w'.ownsRow base 23 2 v' (n + L) (lc (xs ++ l)) → w.grownBy w' v.ownBlock → K (a.put o.dst v') w') : o.wp Try.prog a w K Q := by
  obtain ⟨i0, hi, hz0, hz1, hz2⟩ := info_parts Try.infoL
  subst hL
  rcases A with _ | ad
  · obtain rfl := hA rfl
    have hl0 : l = [] := by
      rcases Nat.eq_zero_or_pos l.length with h0 | h0
      · exact List.eq_nil_of_length_eq_zero h0
      · obtain ⟨_, _, e, _⟩ := hr h0; cases e
    subst hl0
    have hrun := run_append_owned_none (P := Try.prog) (w := w) base 24 o.type 23 i0 2 Try.underlying24 hi v n _ hown
    have hx' : a.eval x = .slice none 0 0 := hx
    unfold Oper.wp
    simp [execOp, ho, resolve, invoke, builtin, hs, hx', hrun, Result.andThen]
    exact h v w (by simpa using hown) (World.grownBy.refl w _)
  · refine wp_append_own w s x 24 ho base 23 i0 (.agg #[.string ⟨#[]⟩, .string ⟨#[]⟩]) 2 32 Try.underlying24 hi hz0 hz1 hz2 rfl (by decide) v n _ hs hown ad l.length c (lc l) hx (lc_len l) (labs_cells hr) (lc_one l) (by unfold maxLen; omega) (by omega) hbase ?_
    intro v' w' h1 h2 _
    exact h v' w' (by rw [lc_app]; exact h1) h2
theorem wpList_appL {ops : Array Oper} {rest : List Oper} {o : Oper} {a : Act} {w : World} {Q : Exit → Act → World → Prop} (hgd : o.guard = none) (s x : Operand) (ho : o.op = .call { callee := .builtin .append, args := #[s, x], argTypes := #[24, 24] })
    (base : Nat) (v : Value) (n : Nat) (xs : List Lab) (hs : a.eval s = v) (hown : w.ownsRow base 23 2 v n (lc xs)) (A : Option Addr) (L c : Nat) (l : List Lab) (hx : a.eval x = .slice A L c) (hL : l.length = L) (hA : A = none → c = 0) (hr : IsLabs w A l)
    (hlen : n + L ≤ 1099511627776) (hbase : base ≤ w.heap.size)
    (h : ∀ v' w', w'.ownsRow base 23 2 v' (n + L) (lc (xs ++ l)) → w.grownBy w' v.ownBlock → wpList Try.prog ops Q rest (a.put o.dst v') w') : wpList Try.prog ops Q (o :: rest) a w :=
  wpList_plain hgd fun _ hK => wp_appL s x ho base v n xs hs hown A L c l hx hL hA hr hlen hbase fun v' w' h1 h2 => hK _ _ (h v' w' h1 h2)
theorem lcut_lo (W : World) (g k c m : Nat) (hm : m ≤ c) : (Instr.slice 24 (.slice (some ⟨g, 0, none⟩) k c) none (some (.int .i64 (m : Int))) none).run Try.prog W = .ok (.slice (some ⟨g, 0, none⟩) m c) W := by
  obtain ⟨i0, hi, hz0, hz1, hz2⟩ := info_parts Try.infoL
  simp [Instr.slice, Instr.sliceBounds, Instr.sliceBound, run_underlying Try.underlying24, asIntOf, sizeOf, typeInfo, hi, go_sem]
  intro h; omega
theorem lcut_hi (W : World) (g k c m : Nat) (hm : m ≤ k) : (Instr.slice 24 (.slice (some ⟨g, 0, none⟩) k c) (some (.int .i64 (m : Int))) none none).run Try.prog W = .ok (.slice (some (if c = m then ⟨g, 0, none⟩ else ⟨g, m * 2, none⟩)) (k - m) (c - m)) W := by
  obtain ⟨i0, hi, hz0, hz1, hz2⟩ := info_parts Try.infoL
  simp [Instr.slice, Instr.sliceBounds, Instr.sliceBound, run_underlying Try.underlying24, asIntOf, sizeOf, typeInfo, hi, hz1, go_sem]
  by_cases hc : c = m
  · simp [hc]; intro h; omega
  · simp [hc]; intro h; omega
theorem nth_take {l : List Lab} {m j : Nat} (h : j < m) : nth (l.take m) j = nth l j := by simp [nth, List.getD, h]
theorem nth_drop (l : List Lab) (m j : Nat) : nth (l.drop m) j = nth l (m + j) := by simp [nth, List.getD, List.getElem?_drop]
theorem labs_take {w : World} {A : Option Addr} {l : List Lab} (h : IsLabs w A l) (m : Nat) : IsLabs w A (l.take m) := fun hp => by
  obtain ⟨b, off, e, hc⟩ := h (by simp at hp; omega)
  refine ⟨b, off, e, fun j hj => ?_⟩
  have hj' : j < m ∧ j < l.length := by simp at hj; omega
  rw [nth_take hj'.1]
  exact hc j hj'.2
theorem labs_drop {w : World} {g c : Nat} {l : List Lab} (h : IsLabs w (some ⟨g, 0, none⟩) l) (m : Nat) (hc : l.length ≤ c) : IsLabs w (some (if c = m then ⟨g, 0, none⟩ else ⟨g, m * 2, none⟩)) (l.drop m) := fun hp => by
  have hm : m < l.length := by simp at hp; omega
  obtain ⟨b, off, e, hx⟩ := h (by omega)
  injection e with e; injection e with e1 e2
  subst e1 e2
  rw [if_neg (by omega)]
  refine ⟨g, m * 2, rfl, fun j hj => ?_⟩
  have := hx (m + j) (by simp at hj; omega)
  rw [nth_drop]
  have q1 : 0 + (m + j) * 2 = m * 2 + j * 2 := by omega
  rw [q1] at this
  exact this
theorem own_baseL {w : World} {b1 b2 n e s : Nat} {v : Value} {xs : List Value} (h : w.ownsRow b2 e s v n xs) (hb : b1 ≤ b2) : w.ownsRow b1 e s v n xs := by
  refine ⟨h.1, ?_⟩
  rcases h.2 with hn | ⟨g, cap, cur, e, hg, rest⟩
  · exact .inl hn
  · exact .inr ⟨g, cap, cur, e, by omega, rest⟩
theorem own_geL {w : World} {base e s n : Nat} {v : Value} {xs : List Value} (h : w.ownsRow base e s v n xs) : ∀ g, v.ownBlock = some g → base ≤ g := fun g hg => (h.lt g hg).1
theorem own_keepL {w1 w2 : World} {base e s n : Nat} {v : Value} {xs : List Value} (h : w1.ownsRow base e s v n xs) (hb : Below w1.heap.size w1 w2) : w2.ownsRow base e s v n xs := by
  refine ⟨h.1, ?_⟩
  rcases h.2 with hn | ⟨g, cap, cur, rfl, hbg, hg, rest⟩
  · exact .inl hn
  · exact .inr ⟨g, cap, cur, rfl, hbg, (hb.block g (Array.getElem?_eq_some_iff.1 hg).1).trans hg, rest⟩
theorem lit_lab (w : World) (x : Lab) : IsLabs (w.alloc (.cells #[.string x.1, .string x.2] 23)) (some ⟨w.heap.size, 0, none⟩) [x] := fun _ => ⟨w.heap.size, 0, rfl, fun j hj => by
  obtain rfl : j = 0 := by simpa using hj
  rw [cell_of_row _ w.heap.size _ _ 23 (0, 0) (heap_alloc_new w _), cell_of_row _ w.heap.size _ _ 23 (0, 0) (heap_alloc_new w _)]
  simp [nth]⟩
/-- A slice of labels that a call has made. -/
def MadeLabs (w : World) (ls : List Lab) (v : Value) (w' : World) : Prop := w'.ownsRow w.heap.size 23 2 v ls.length (lc ls)
theorem own_formL {w : World} {base n : Nat} {v : Value} {l : List Lab} (h : w.ownsRow base 23 2 v n (lc l)) : ∃ A c, v = .slice A n c ∧ n ≤ c ∧ (A = none → c = 0) ∧ IsLabs w A l ∧ l.length = n := by
  rcases h.2 with ⟨rfl, rfl⟩ | ⟨g, cap, cur, rfl, _, _, hc, _⟩
  · obtain ⟨h1, h2⟩ := own_labs h
    exact ⟨_, _, rfl, Nat.le_refl _, fun _ => rfl, h1, h2⟩
  · obtain ⟨h1, h2⟩ := own_labs h
    exact ⟨_, _, rfl, hc, (fun e => by cases e), h1, h2⟩
end Go.Proofs.Ytbfpcolbkfcanaa
