/-
  Appending bytes that are there to a slice that a call has made, as a law for the walk; the readers' contracts at a length that is named apart. No conditions.
-/
import Derived.Test.YtlpmkgmnmbagnaaVv
import Derived.Laws.AppendOwnNone
namespace Go.Proofs.Ytlpmkgmnmbagnaa
open Go.RowKit

theorem mem_of_getD {l : List Nat} (h : ∀ j, l.getD j 0 < 256) : ∀ x ∈ l, x < 256 := by
  intro x hx
  obtain ⟨j, hj, rfl⟩ := List.getElem_of_mem hx
  have := h j
  simpa [List.getD, List.getElem?_eq_getElem hj] using this
theorem by8_one (l : List Nat) : ∀ u ∈ by8 l, u.oneCell' = true := by
  intro u hu
  simp only [by8, List.mem_map] at hu
  obtain ⟨_, _, rfl⟩ := hu
  rfl

theorem wpList_app {ops : Array Oper} {rest : List Oper} {o : Oper} {a : Act} {Q : Exit → Act → World → Prop} (w : World) (hgd : o.guard = none) (s x : Operand)
    (ho : o.op = .call { callee := .builtin .append, args := #[s, x], argTypes := #[25, 25] })
    (base : Nat) (v : Value) (xs l : List Nat) (n L : Nat) (hn : xs.length = n) (hL : l.length = L) (hs : a.eval s = v) (hown : w.ownsRow base 5 1 v n (by8 xs)) (A : Option Addr) (c : Nat)
    (hx : a.eval x = .slice A L c) (hA : A = none → c = 0) (hi : IsBytes w A l) (hlen : n + L ≤ 140737488355328) (hbase : base ≤ w.heap.size)
    (h : ∀ v' w', w'.ownsRow base 5 1 v' (n + L) (by8 (xs ++ l)) → w.grownBy w' v.ownBlock → wpList Try.prog ops Q rest (a.put o.dst v') w') : wpList Try.prog ops Q (o :: rest) a w := by
  obtain ⟨i0, hi0, hz0, hz1, hz2⟩ := info_parts Try.info5
  subst hL hn
  have hml : xs.length + l.length ≤ maxLen := by unfold maxLen; omega
  rcases A with _ | ad
  · obtain rfl := hA rfl
    have hl0 : l.length = 0 := by
      rcases Nat.eq_zero_or_pos l.length with h0 | h0
      · exact h0
      · obtain ⟨b, off, e, _⟩ := hi.2 h0; cases e
    obtain rfl : l = [] := List.eq_nil_of_length_eq_zero hl0
    refine wpList_append_own_none hgd s x 25 ho base 5 i0 1 Try.underlying25 hi0 v _ _ hs hown hx ?_
    exact h v w (by simpa using hown) (World.grownBy.refl w _)
  · have hcells : ∀ j u, (by8 l)[j]? = some u → w.cell? (ad.add j) = some u := by
      intro j u hu
      by_cases hj : j < l.length
      · obtain ⟨b, off, e, hc⟩ := hi.2 (by omega)
        injection e with e
        subst e
        have e2 : (⟨b, off, none⟩ : Addr).add j = ⟨b, off + j, none⟩ := by unfold Addr.add; split <;> simp_all
        rw [e2, hc j hj, ← hu]
        simp [by8, List.getElem?_eq_getElem hj]
      · rw [List.getElem?_eq_none (by simp [by8]; omega)] at hu; cases hu
    refine wpList_append_own w hgd s x 25 ho base 5 i0 (.int .u8 0) 1 1 Try.underlying25 hi0 hz0 hz1 hz2 rfl (by decide) v _ _ hs hown ad l.length c (by8 l) hx (by simp [by8]) hcells (by8_one l) hml (by omega) hbase ?_
    intro v' w' h1 h2 _
    exact h v' w' (by rw [by8_app]; exact h1) h2

theorem get_at (l : List Nat) (L : Nat) (hL : l.length = L) (a : Option Addr) (cap : Nat) (w : World) (hl : L ≤ maxLen) (hb : IsBytes w a l) :
    Calls Try.prog 9 #[.slice a L cap] w fun e w' => e = .returned (getRes (Vm.dec l)) ∧ w = w' := by subst hL; exact get_any l a cap w hl hb
theorem gtext_at (l : List Nat) (L : Nat) (hL : l.length = L) (a : Option Addr) (cap : Nat) (most : Int) (w : World) (hl : L ≤ 140737488351232) (hcap : L ≤ cap) (hm : -9223372036854775808 ≤ most ∧ most ≤ 9223372036854775807) (hb : IsBytes w a l) :
    Calls Try.prog 17 #[.slice a L cap, .int .i64 most] w fun e w' => e = .returned (textRes (Vm.getText l most)) ∧ w = w' := by subst hL; exact gtext_any l a cap most w hl hcap hm hb
theorem gword_at (l : List Nat) (L : Nat) (hL : l.length = L) (a : Option Addr) (cap : Nat) (w : World) (hl : L ≤ maxLen) (hcap : L ≤ cap) (hb : IsBytes w a l) :
    Calls Try.prog 19 #[.slice a L cap] w fun e w' => e = .returned (wordRes l) ∧ w = w' := by subst hL; exact gword_any l a cap w hl hcap hb

theorem strOf_text (s : ByteArray) : strOf (textL s) = s := by
  have h : (strOf (textL s)).data.toList = s.data.toList := by
    rw [strOf, strOfNums_data, textL, List.map_map, List.map_map]
    conv => rhs; rw [← List.map_id s.data.toList]
    exact List.map_congr_left fun x _ => by simp
  exact WideShapes.bytes_inj h

end Go.Proofs.Ytlpmkgmnmbagnaa
