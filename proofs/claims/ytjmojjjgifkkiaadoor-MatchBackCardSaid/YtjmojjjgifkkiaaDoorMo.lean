/-
  Slices of bytes cut; GetText of a slice of known length; a result that is a struct, beside two more. Conditions: lengths fit.
-/
import Derived.Test.YtjmojjjgifkkiaaDoorZ27
import Derived.Test.YtjmojjjgifkkiaaDoorZ30
import Derived.Test.YtjmojjjgifkkiaaDoorZ26
import Derived.Laws.ResultCell
namespace Go.Proofs.YtjmojjjgifkkiaaDoor
open Go.RowKit La

/-- Where a slice of bytes begins that is cut at p. -/
def cutA (b off cap p : Nat) : Option Addr := some (if cap = p then ⟨b, off, none⟩ else ⟨b, off + p, none⟩)
theorem bcut (W : World) (b off n cap p : Nat) (hp : p ≤ n) : (Instr.slice 38 (.slice (some ⟨b, off, none⟩) n cap) (some (.int .i64 (p : Int))) none none).run Tryd.prog W = .ok (.slice (cutA b off cap p) (n - p) (cap - p)) W := by
  obtain ⟨i0, hi, hz0, hz1, hz2⟩ := info_parts Tryd.info5
  unfold cutA
  simp [Instr.slice, Instr.sliceBounds, Instr.sliceBound, run_underlying Tryd.underlying38, asIntOf, sizeOf, typeInfo, hi, hz1, go_sem]
  by_cases hc : cap = p
  · simp [hc]; intro h; omega
  · simp [hc]; intro h; omega
theorem bcut_is {W : World} {b off cap : Nat} {l : List Nat} (h : IsBytes W (some ⟨b, off, none⟩) l) (p : Nat) (hc : l.length ≤ cap) : IsBytes W (cutA b off cap p) (l.drop p) := by
  refine ⟨drop_byte h.1 p, fun hp => ?_⟩
  have hl : p < l.length := by simp at hp; omega
  obtain ⟨b', off', e, hx⟩ := h.2 (by omega)
  injection e with e; injection e with e1 e2
  subst e1 e2
  unfold cutA
  rw [if_neg (by omega)]
  refine ⟨b, off + p, rfl, fun j hj => ?_⟩
  have := hx (p + j) (by simp at hj; omega)
  rw [Nat.add_assoc, this]
  simp [List.getD, List.getElem?_drop]
theorem gtext_at (l : List Nat) (L : Nat) (hL : l.length = L) (a : Option Addr) (cap : Nat) (most : Int) (w : World) (hl : L ≤ 1048576) (hcap : L ≤ cap) (hm : -9223372036854775808 ≤ most ∧ most ≤ 9223372036854775807) (hb : IsBytes w a l) :
    Calls Tryd.prog 80 #[.slice a L cap, .int .i64 most] w fun e w' => e = .returned (textRes (Vm.getText l most)) ∧ w = w' := by subst hL; exact gtext_any l a cap most w (by omega) hcap hm hb
theorem rgtext_at (l : List Nat) (L : Nat) (hL : l.length = L) (a : Option Addr) (cap : Nat) (most : Int) (w : World) (hl : L ≤ 1048576) (hcap : L ≤ cap) (hm : -9223372036854775808 ≤ most ∧ most ≤ 9223372036854775807) (hb : IsBytes w a l) :
    Calls Tryd.prog 55 #[.slice a L cap, .int .i64 most] w fun e w' => e = .returned (textRes (Vm.getText l most)) ∧ w = w' := by subst hL; exact rgtext_any l a cap most w (by omega) hcap hm hb
theorem results_ctt {fn : Func} {p t u : Tmp} {ty : TypeId} (h : fn.results = #[.cell p ty, .tmp t, .tmp u]) (tmps : Array Value) (P : Program) (w : World) :
    (results fn tmps).run P w = ((asAddr (tmps.getD p undef)).run P w).andThen fun a w1 => ((loadVar ty a).run P w1).andThen fun v w2 => .ok (.tuple #[v, tmps.getD t undef, tmps.getD u undef]) w2 := by
  simp only [results, h]
  simp [Sem.run_bind, Result.andThen]
set_option maxRecDepth 100000 in
/-- append(v, l...) of bytes: v is one's own, l is read. -/
theorem wp_appB {o : Oper} {a : Act} {w : World} {K : Act → World → Prop} {Q : Exit → Act → World → Prop} (s x : Operand) (ho : o.op = .call { callee := .builtin .append, args := #[s, x], argTypes := #[38, 38] })
    (base : Nat) (v : Value) (n : Nat) (xs : List Nat) (hs : a.eval s = v) (hown : w.ownsRow base 5 1 v n (by8 xs)) (A : Option Addr) (L c : Nat) (l : List Nat) (hx : a.eval x = .slice A L c) (hn : xs.length = n) (hL : l.length = L) (hA : A = none → c = 0) (hi : IsBytes w A l)
    (hlen : n + L ≤ 1099511627776) (hbase : base ≤ w.heap.size)
    (h : ∀ v' w', w'.ownsRow base 5 1 v' (n + L) (by8 (xs ++ l)) → w.grownBy w' v.ownBlock → K (a.put o.dst v') w') : o.wp Tryd.prog a w K Q := by
  obtain ⟨i0, hi0, hz0, hz1, hz2⟩ := info_parts Tryd.info5
  subst hL hn
  rcases A with _ | ad
  · obtain rfl := hA rfl
    have hl0 : l = [] := by
      rcases Nat.eq_zero_or_pos l.length with h0 | h0
      · exact List.eq_nil_of_length_eq_zero h0
      · obtain ⟨_, _, e, _⟩ := hi.2 h0; cases e
    subst hl0
    have hrun := run_append_owned_none (P := Tryd.prog) (w := w) base 38 o.type 5 i0 1 Tryd.underlying38 hi0 v _ _ hown
    have hx' : a.eval x = .slice none 0 0 := hx
    unfold Oper.wp
    simp [execOp, ho, resolve, invoke, builtin, hs, hx', hrun, Result.andThen]
    exact h v w (by simpa using hown) (World.grownBy.refl w _)
  · have hcells : ∀ j u, (by8 l)[j]? = some u → w.cell? (ad.add j) = some u := by
      intro j u hu
      by_cases hj : j < l.length
      · obtain ⟨b, off, e, hc⟩ := hi.2 (by omega)
        injection e with e
        subst e
        have e2 : (⟨b, off, none⟩ : Addr).add j = ⟨b, off + j, none⟩ := by unfold Addr.add; split <;> simp_all
        rw [e2, hc j hj, ← hu]
        simp [by8, List.getElem?_eq_getElem hj]
      · rw [List.getElem?_eq_none (by simp [by8]; omega)] at hu; cases hu
    refine wp_append_own w s x 38 ho base 5 i0 (.int .u8 0) 1 1 Tryd.underlying38 hi0 hz0 hz1 hz2 rfl (by decide) v _ _ hs hown ad l.length c (by8 l) hx (by simp [by8]) hcells (by8_one l) (by unfold maxLen; omega) (by omega) hbase ?_
    intro v' w' h1 h2 _
    exact h v' w' (by rw [by8_app]; exact h1) h2
end Go.Proofs.YtjmojjjgifkkiaaDoor
