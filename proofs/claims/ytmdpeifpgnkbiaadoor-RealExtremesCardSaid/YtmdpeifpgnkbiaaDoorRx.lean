/-
  What the reference's Extreme does: the least, or the greatest, of any values, NaNs aside (Fm.IsExt). Conditions: words have 64 bits; the length fits.
-/
import Derived.Test.YtmdpeifpgnkbiaaDoorRl
namespace Go.Proofs.YtmdpeifpgnkbiaaDoor
open Go.RowKit

namespace Fm
/-- The place of the best of the first k values; none yet. -/
def Best (g : Bool) (l : List Nat) (k : Nat) (at_ : Int) : Prop :=
  (at_ = -1 ∧ ∀ j, j < k → isN (l.getD j 0) = true) ∨
  ∃ m : Nat, at_ = (m : Int) ∧ m < k ∧ isN (l.getD m 0) = false ∧ ∀ j, j < k → isN (l.getD j 0) = false → if g then key (l.getD j 0) ≤ key (l.getD m 0) else key (l.getD m 0) ≤ key (l.getD j 0)
theorem Best.skip {g : Bool} {l : List Nat} {k : Nat} {t : Int} (h : Best g l k t) (hn : isN (l.getD k 0) = true) : Best g l (k + 1) t := by
  rcases h with ⟨rfl, h⟩ | ⟨m, rfl, h1, h2, h3⟩
  · refine .inl ⟨rfl, fun j hj => ?_⟩
    by_cases hjk : j < k
    · exact h j hjk
    · obtain rfl : j = k := by omega
      exact hn
  · refine .inr ⟨m, rfl, by omega, h2, fun j hj hj2 => ?_⟩
    by_cases hjk : j < k
    · exact h3 j hjk hj2
    · obtain rfl : j = k := by omega
      rw [hn] at hj2; cases hj2
theorem Best.new {g : Bool} {l : List Nat} {k : Nat} (h : Best g l k (-1)) (hn : isN (l.getD k 0) = false) : Best g l (k + 1) (k : Int) := by
  rcases h with ⟨_, h⟩ | ⟨m, e, _⟩
  · refine .inr ⟨k, rfl, by omega, hn, fun j hj hj2 => ?_⟩
    by_cases hjk : j < k
    · rw [h j hjk] at hj2; cases hj2
    · obtain rfl : j = k := by omega
      split <;> exact Nat.le_refl _
  · omega
theorem Best.over {g : Bool} {l : List Nat} {k m : Nat} (h : Best g l k (m : Int)) (hn : isN (l.getD k 0) = false) (hlt : if g then key (l.getD m 0) < key (l.getD k 0) else key (l.getD k 0) < key (l.getD m 0)) : Best g l (k + 1) (k : Int) := by
  rcases h with ⟨e, _⟩ | ⟨m', e, h1, h2, h3⟩
  · omega
  · obtain rfl : m = m' := by omega
    refine .inr ⟨k, rfl, by omega, hn, fun j hj hj2 => ?_⟩
    by_cases hjk : j < k
    · have := h3 j hjk hj2
      cases g <;> simp at this hlt ⊢ <;> omega
    · obtain rfl : j = k := by omega
      split <;> exact Nat.le_refl _
theorem Best.stay {g : Bool} {l : List Nat} {k m : Nat} (h : Best g l k (m : Int)) (hge : if g then key (l.getD k 0) ≤ key (l.getD m 0) else key (l.getD m 0) ≤ key (l.getD k 0)) : Best g l (k + 1) (m : Int) := by
  rcases h with ⟨e, _⟩ | ⟨m', e, h1, h2, h3⟩
  · omega
  · obtain rfl : m = m' := by omega
    refine .inr ⟨m, rfl, by omega, h2, fun j hj hj2 => ?_⟩
    by_cases hjk : j < k
    · exact h3 j hjk hj2
    · obtain rfl : j = k := by omega
      exact hge
theorem mem_getD {l : List Nat} {j : Nat} (h : j < l.length) : l.getD j 0 ∈ l := by
  simp [List.getD, List.getElem?_eq_getElem h]
theorem Best.found {g : Bool} {l : List Nat} {m : Nat} (h : Best g l l.length (m : Int)) : IsExt g l (l.getD m 0) true := by
  rcases h with ⟨e, _⟩ | ⟨m', e, h1, h2, h3⟩
  · omega
  · obtain rfl : m = m' := by omega
    refine .inr (.inr ⟨mem_getD h1, h2, rfl, fun x hx hx2 => ?_⟩)
    obtain ⟨j, hj, rfl⟩ := List.getElem_of_mem hx
    have e : l.getD j 0 = l[j] := by simp [List.getD, List.getElem?_eq_getElem hj]
    rw [← e] at hx2 ⊢
    exact h3 j hj hx2
theorem Best.none {g : Bool} {l : List Nat} (h : Best g l l.length (-1)) (hl : 0 < l.length) : IsExt g l nan true := by
  rcases h with ⟨_, h⟩ | ⟨m', e, _⟩
  · refine .inr (.inl ⟨fun e => by rw [e] at hl; simp at hl, fun x hx => ?_, rfl, rfl⟩)
    obtain ⟨j, hj, rfl⟩ := List.getElem_of_mem hx
    have e : l.getD j 0 = l[j] := by simp [List.getD, List.getElem?_eq_getElem hj]
    rw [← e]
    exact h j hj
  · omega
end Fm

section
attribute [local go_sem] Fm.order_eql Fm.order_neq Fm.order_lss Fm.order_gtr Fm.lt_or_eq
set_option maxRecDepth 100000 in
set_option maxHeartbeats 1000000 in
theorem rext_any (l : List Nat) (A : Option Addr) (cap : Nat) (g : Bool) (w : World) (hl : l.length ≤ 1099511627776) (hw : ∀ x ∈ l, Fm.W x) (ha : IsRow1 w A (fl64 l)) :
    Calls Tryd.prog 34 #[.slice A l.length cap, .bool g] w fun e w' => (∃ m ok, Fm.IsExt g l m ok ∧ e = .returned (.tuple #[.float .f64 m, .bool ok])) ∧ ∃ n, w' = w.drewN n := by
  have HA := Lib.hid ha
  have HW := Lib.hid hw
  clear ha hw
  generalize hn : l.length = n at *
  have HN := Lib.hid hn
  clear hn
  go_enter Tryd.func34, Tryd.ntmps34
  go_wp2
  go_loopw [6, 7] (fun t i wr => ∃ (k : Nat) (at_ : Int), k ≤ n ∧ t = .int .i64 at_ ∧ i = .int .i64 (k : Int) ∧ Fm.Best g l k at_ ∧ ∃ q, wr = w.drewN q) (fun _ i _ => n - (intOf i).toNat)
  case atStart => exact ⟨0, -1, by omega, rfl, rfl, .inl ⟨rfl, fun j hj => by omega⟩, 0, rfl⟩
  case round =>
    obtain ⟨k, at_, hk, rfl, rfl, HBB, hq⟩ := hrel
    have HQ := Lib.hid hq
    have HB := Lib.hid HBB
    clear hq HBB
    by_cases hkn : k < n
    · obtain ⟨b, off, rfl, hc⟩ := HA.out (by rw [fl64_len, HN.out]; omega)
      have HC : Hid (∀ j, j < n → wr.cell? ⟨b, off + j, none⟩ = some (.float .f64 (l.getD j 0))) := fun j hj => by
        obtain ⟨q, rfl⟩ := HQ.out
        exact fl64_cell hc (by rw [HN.out]; exact hj)
      clear hc
      have c0 := HC.out k hkn
      have wk : Fm.W (l.getD k 0) := HW.out _ (Fm.mem_getD (by rw [HN.out]; exact hkn))
      cases hi : Fm.isN (l.getD k 0)
      · have q0 : Fm.eq (l.getD k 0) (l.getD k 0) = true := by rw [Fm.eq_self, hi]; rfl
        by_cases hneg : at_ = -1
        · subst hneg
          have R := HB.out.new hi
          generalize l.getD k 0 = x at c0 q0
          clear hi wk
          go_wp2
          go_quiet (fail)
          go_wp2
          go_quiet (fail)
          go_wp2
          go_roundw
          case rel => exact ⟨k + 1, (k : Int), by omega, rfl, by go_num, R, by obtain ⟨q, rfl⟩ := HQ.out; exact ⟨_, World.drewN_drewN _ _ _⟩⟩
          case measure => simp [intOf]; omega
        · obtain ⟨m, hm, hmk⟩ : ∃ m : Nat, at_ = (m : Int) ∧ m < k := by
            rcases HB.out with ⟨h, _⟩ | ⟨m, h1, h2, _⟩
            · exact absurd h hneg
            · exact ⟨m, h1, h2⟩
          subst hm
          clear hneg
          have c1 := HC.out m (by omega)
          have wm : Fm.W (l.getD m 0) := HW.out _ (Fm.mem_getD (by rw [HN.out]; omega))
          have n1 : decide ((m : Int) < 0) = false := decide_eq_false (by omega)
          cases g
          · have RL : ∀ W, Calls Tryd.prog 25 #[.float .f64 (l.getD k 0), .float .f64 (l.getD m 0)] W fun e w' => e = .returned (.bool (Fm.less (l.getD k 0) (l.getD m 0))) ∧ w' = W := fun W => rless_any _ _ wk wm W
            have hlk := Fm.less_key wk wm
            cases hlt : Fm.less (l.getD k 0) (l.getD m 0)
            · have R := HB.out.stay (by rw [hlt] at hlk; have := of_decide_eq_false hlk.symm; show _ ≤ _; omega)
              rw [hlt] at RL
              have HRL := Lib.hid RL
              clear hlk hlt wk wm hi RL
              generalize l.getD k 0 = x at *
              generalize l.getD m 0 = y at *
              go_wp2
              go_quiet (fail)
              have HQ2 : Hid (∃ q, wr.drewN nq = w.drewN q) := by obtain ⟨q, rfl⟩ := HQ.out; exact ⟨_, World.drewN_drewN _ _ _⟩
              replace c0 : (wr.drewN nq).cell? ⟨b, off + k, none⟩ = some (.float .f64 x) := c0
              replace c1 : (wr.drewN nq).cell? ⟨b, off + m, none⟩ = some (.float .f64 y) := c1
              generalize wr.drewN nq = wq at c0 c1 HQ2 ⊢
              go_wp2
              go_quiet ((go_at_call 25; exact Calls.quiet_of_same (HRL.out _)))
              go_wp2
              go_roundw
              case rel => exact ⟨k + 1, (m : Int), by omega, rfl, by go_num, R, by obtain ⟨q, rfl⟩ := HQ2.out; exact ⟨_, World.drewN_drewN _ _ _⟩⟩
              case measure => simp [intOf]; omega
            · have R := HB.out.over hi (by rw [hlt] at hlk; have := of_decide_eq_true hlk.symm; show _ < _; omega)
              rw [hlt] at RL
              have HRL := Lib.hid RL
              clear hlk hlt wk wm hi RL
              generalize l.getD k 0 = x at *
              generalize l.getD m 0 = y at *
              go_wp2
              go_quiet (fail)
              have HQ2 : Hid (∃ q, wr.drewN nq = w.drewN q) := by obtain ⟨q, rfl⟩ := HQ.out; exact ⟨_, World.drewN_drewN _ _ _⟩
              replace c0 : (wr.drewN nq).cell? ⟨b, off + k, none⟩ = some (.float .f64 x) := c0
              replace c1 : (wr.drewN nq).cell? ⟨b, off + m, none⟩ = some (.float .f64 y) := c1
              generalize wr.drewN nq = wq at c0 c1 HQ2 ⊢
              go_wp2
              go_quiet ((go_at_call 25; exact Calls.quiet_of_same (HRL.out _)))
              go_wp2
              go_roundw
              case rel => exact ⟨k + 1, (k : Int), by omega, rfl, by go_num, R, by obtain ⟨q, rfl⟩ := HQ2.out; exact ⟨_, World.drewN_drewN _ _ _⟩⟩
              case measure => simp [intOf]; omega
          · have RL : ∀ W, Calls Tryd.prog 25 #[.float .f64 (l.getD m 0), .float .f64 (l.getD k 0)] W fun e w' => e = .returned (.bool (Fm.less (l.getD m 0) (l.getD k 0))) ∧ w' = W := fun W => rless_any _ _ wm wk W
            have hlk := Fm.less_key wm wk
            cases hlt : Fm.less (l.getD m 0) (l.getD k 0)
            · have R := HB.out.stay (by rw [hlt] at hlk; have := of_decide_eq_false hlk.symm; show _ ≤ _; omega)
              rw [hlt] at RL
              have HRL := Lib.hid RL
              clear hlk hlt wk wm hi RL
              generalize l.getD k 0 = x at *
              generalize l.getD m 0 = y at *
              go_wp2
              go_quiet (fail)
              have HQ2 : Hid (∃ q, wr.drewN nq = w.drewN q) := by obtain ⟨q, rfl⟩ := HQ.out; exact ⟨_, World.drewN_drewN _ _ _⟩
              replace c0 : (wr.drewN nq).cell? ⟨b, off + k, none⟩ = some (.float .f64 x) := c0
              replace c1 : (wr.drewN nq).cell? ⟨b, off + m, none⟩ = some (.float .f64 y) := c1
              generalize wr.drewN nq = wq at c0 c1 HQ2 ⊢
              go_wp2
              go_quiet ((go_at_call 25; exact Calls.quiet_of_same (HRL.out _)))
              go_wp2
              go_roundw
              case rel => exact ⟨k + 1, (m : Int), by omega, rfl, by go_num, R, by obtain ⟨q, rfl⟩ := HQ2.out; exact ⟨_, World.drewN_drewN _ _ _⟩⟩
              case measure => simp [intOf]; omega
            · have R := HB.out.over hi (by rw [hlt] at hlk; have := of_decide_eq_true hlk.symm; show _ < _; omega)
              rw [hlt] at RL
              have HRL := Lib.hid RL
              clear hlk hlt wk wm hi RL
              generalize l.getD k 0 = x at *
              generalize l.getD m 0 = y at *
              go_wp2
              go_quiet (fail)
              have HQ2 : Hid (∃ q, wr.drewN nq = w.drewN q) := by obtain ⟨q, rfl⟩ := HQ.out; exact ⟨_, World.drewN_drewN _ _ _⟩
              replace c0 : (wr.drewN nq).cell? ⟨b, off + k, none⟩ = some (.float .f64 x) := c0
              replace c1 : (wr.drewN nq).cell? ⟨b, off + m, none⟩ = some (.float .f64 y) := c1
              generalize wr.drewN nq = wq at c0 c1 HQ2 ⊢
              go_wp2
              go_quiet ((go_at_call 25; exact Calls.quiet_of_same (HRL.out _)))
              go_wp2
              go_roundw
              case rel => exact ⟨k + 1, (k : Int), by omega, rfl, by go_num, R, by obtain ⟨q, rfl⟩ := HQ2.out; exact ⟨_, World.drewN_drewN _ _ _⟩⟩
              case measure => simp [intOf]; omega
      · have R := HB.out.skip hi
        have q0 : Fm.eq (l.getD k 0) (l.getD k 0) = false := by rw [Fm.eq_self, hi]; rfl
        generalize l.getD k 0 = x at c0 q0
        clear hi wk
        go_wp2
        go_quiet (fail)
        go_wp2
        go_roundw
        case rel => exact ⟨k + 1, at_, by omega, rfl, by go_num, R, by obtain ⟨q, rfl⟩ := HQ.out; exact ⟨q + nq, World.drewN_drewN _ _ _⟩⟩
        case measure => simp [intOf]; omega
    · obtain rfl : k = n := by omega
      by_cases hneg : at_ = -1
      · subst hneg
        have f3 : ∀ W, (callFunc 39 #[.int .u64 9221120237041090561]).run Tryd.prog W = .ok (.value (.float .f64 9221120237041090561)) W := fun W => ffrom W 9221120237041090561
        by_cases h0 : k = 0
        · subst h0
          have HE : Hid (Fm.IsExt g l 0 false) := .inl ⟨List.eq_nil_of_length_eq_zero HN.out, rfl, rfl⟩
          go_wp2
          go_ret2
          exact ⟨⟨0, false, HE.out, rfl⟩, HQ.out⟩
        · have HE : Hid (Fm.IsExt g l Fm.nan true) := by
            have := HB.out
            rw [← HN.out] at this
            exact this.none (by rw [HN.out]; omega)
          have hk0 : (0 : Int) < (k : Int) := by omega
          go_wp2
          go_ret2
          exact ⟨⟨Fm.nan, true, HE.out, rfl⟩, HQ.out⟩
      · obtain ⟨m, hm, hmk⟩ : ∃ m : Nat, at_ = (m : Int) ∧ m < k := by
          rcases HB.out with ⟨h, _⟩ | ⟨m, h1, h2, _⟩
          · exact absurd h hneg
          · exact ⟨m, h1, h2⟩
        subst hm
        have HE : Hid (Fm.IsExt g l (l.getD m 0) true) := by
          have := HB.out
          rw [← HN.out] at this
          exact this.found
        obtain ⟨b, off, rfl, hc⟩ := HA.out (by rw [fl64_len, HN.out]; omega)
        have c0 : wr.cell? ⟨b, off + m, none⟩ = some (.float .f64 (l.getD m 0)) := by
          obtain ⟨q, rfl⟩ := HQ.out
          exact fl64_cell hc (by rw [HN.out]; exact hmk)
        clear hc hneg
        generalize l.getD m 0 = x at *
        go_wp2
        go_ret2
        exact ⟨⟨x, true, HE.out, rfl⟩, HQ.out⟩
end
end Go.Proofs.YtmdpeifpgnkbiaaDoor
