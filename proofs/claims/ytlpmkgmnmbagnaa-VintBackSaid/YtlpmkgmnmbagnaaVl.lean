/-
  From what the calls of vint have made to what a law asks of it: a slice that a call has made, as a string, and as bytes that are read again; the closed sentence VintRuns as a contract. No conditions.
-/
import Derived.Test.YtlpmkgmnmbagnaaVs
namespace Go.Proofs.Ytlpmkgmnmbagnaa
open Go.RowKit

theorem own_len {w : World} {base n : Nat} {v : Value} {l : List Nat} (h : w.ownsRow base 5 1 v n (by8 l)) : l.length = n := by
  have := h.1; simpa [by8] using this
/-- The shape of a slice that a call has made. -/
theorem own_form {w : World} {base n : Nat} {v : Value} {l : List Nat} (h : w.ownsRow base 5 1 v n (by8 l)) : ∃ A cap, v = .slice A n cap ∧ n ≤ cap := by
  rcases h.2 with ⟨rfl, rfl⟩ | ⟨g, cap, cur, rfl, _, _, hc, _⟩
  · exact ⟨_, _, rfl, by omega⟩
  · exact ⟨_, _, rfl, hc⟩
theorem own_is {w : World} {base n cap : Nat} {A : Option Addr} {l : List Nat} (h : w.ownsRow base 5 1 (.slice A n cap) n (by8 l)) (hb : ∀ x ∈ l, x < 256) : IsBytes w A l := by
  have hl := own_len h
  refine ⟨Vm.getD_lt hb, fun hp => ?_⟩
  rcases h.2 with ⟨_, e⟩ | ⟨g, c, cur, e, _⟩
  · omega
  · injection e with e1 e2 e3
    subst e1
    refine ⟨g, 0, rfl, fun j hj => ?_⟩
    have := h.cellAt (g := g) j (by omega)
    rw [Nat.zero_add, this]
    simp [by8, List.getElem?_eq_getElem hj]
theorem is_conv {w : World} {A : Option Addr} {c : Nat} {l : List Nat} (h : IsBytes w A l) : (convert 25 9 (.slice A l.length c)).run Try.prog w = .ok (.string (strOf l)) w := by
  by_cases h0 : l.length = 0
  · obtain rfl : l = [] := List.eq_nil_of_length_eq_zero h0
    exact cut_none (l := []) (k := 0)
  · obtain ⟨b, off, rfl, hc⟩ := h.2 (by omega)
    have := cut_string (k := 0) (n := l.length) (c := c) hc (by omega)
    simpa using this
theorem own_conv {w : World} {base n : Nat} {v : Value} {l : List Nat} (h : w.ownsRow base 5 1 v n (by8 l)) (hb : ∀ x ∈ l, x < 256) : (convert 25 9 v).run Try.prog w = .ok (.string (strOf l)) w := by
  obtain ⟨A, cap, rfl, _⟩ := own_form h
  have hi := own_is h hb
  have hl := own_len h
  subst hl
  exact is_conv hi
theorem lit_is (w : World) (g : Nat) (l : List Nat) (hb : ∀ x ∈ l, x < 256) (cs : Array Value) (h : cs = (by8 l).toArray) (hg : w.heap.size = g) : IsBytes (w.alloc (.cells cs 5)) (some ⟨g, 0, none⟩) l := by
  subst h
  refine ⟨Vm.getD_lt hb, fun _ => ⟨g, 0, rfl, fun j hj => ?_⟩⟩
  rw [World.cell?_alloc_at _ _ _ _ hg.symm]
  simp [by8, List.getElem?_eq_getElem hj]
theorem below_two (w : World) (a b : Obj) : Below w.heap.size w ((w.alloc a).alloc b) := ((Below.refl _ _).alloc (Nat.le_refl _) a).alloc (by simp) b

set_option maxRecDepth 100000 in
set_option maxHeartbeats 400000 in
theorem runs_any (w : World) : Calls Try.prog 3 #[] w fun e w' => e = .returned (.bool true) ∧ Below w.heap.size w w' := by
  have D1 : Hid (Vm.dec [172, 2, 9] = some (300, 2)) := by exact (by decide : Vm.dec [172, 2, 9] = some (300, 2))
  have D2 : Hid (Vm.dec [128, 0] = none) := by exact (by decide : Vm.dec [128, 0] = none)
  go_enter Try.func3, Try.ntmps3
  go_wp2_with fail
  refine (get_any [172, 2, 9] _ _ _ (by unfold maxLen; simp) (lit_is w _ [172, 2, 9] (by decide) _ rfl rfl)).mono ?_
  rw [D1.out]
  rintro e w' ⟨rfl, rfl⟩
  simp only [getRes]
  go_wp2_with fail
  refine (get_any [128, 0] _ _ _ (by unfold maxLen; simp) (lit_is _ _ [128, 0] (by decide) _ rfl (by simp))).mono ?_
  rw [D2.out]
  rintro e w' ⟨rfl, rfl⟩
  simp only [getRes]
  have hb1 := below_two w (.cells (by8 [172, 2, 9]).toArray 5) (.cells (by8 [128, 0]).toArray 5)
  generalize (w.alloc (.cells (by8 [172, 2, 9]).toArray 5)).alloc (.cells (by8 [128, 0]).toArray 5) = w1 at hb1 ⊢
  go_wp2_with fail
  refine (put_any 300 _ (by unfold Vm.Fits; omega)).mono ?_
  rintro e w2 ⟨v, rfl, ho, hb2⟩
  have c1 : (convert 25 9 v).run Try.prog w2 = .ok (.string ⟨#[172, 2]⟩) w2 := own_conv ho (Vm.put_byte (by unfold Vm.Fits; omega))
  have hb3 := hb1.trans (hb2.mono hb1.size)
  clear ho hb1 hb2
  go_wp2_with fail
  refine (ptext_any ⟨#[97, 98]⟩ _ (by decide)).mono ?_
  rintro e w3 ⟨v3, rfl, ho, hb2⟩
  have c2 : (convert 25 9 v3).run Try.prog w3 = .ok (.string ⟨#[2, 97, 98]⟩) w3 := own_conv ho (by decide)
  have hb4 := hb3.trans (hb2.mono hb3.size)
  clear ho hb3 hb2
  go_wp2
  go_ret
  exact ⟨rfl, hb4⟩

end Go.Proofs.Ytlpmkgmnmbagnaa
