/-
  Rows of the program's and of the reference's read; where an id's row stands. Conditions: lengths fit.
-/
import Derived.Test.YtlbhiiciajfphaaBc
namespace Go.Proofs.Ytlbhiiciajfphaa
open Go.RowKit Go.Sort

/-- The slice at address A reads as these rows. -/
def IsRw (w : World) (A : Option Addr) (l : List Rw) : Prop :=
  0 < l.length → ∃ b off, A = some ⟨b, off, none⟩ ∧ ∀ j, j < l.length → w.cell? ⟨b, off + j * 2, none⟩ = some (.int .u64 (Qu.nr l j).1) ∧ w.cell? ⟨b, off + j * 2 + 1, none⟩ = some (.int .i64 (Qu.nr l j).2)
theorem IsRw.below {w w' : World} {A : Option Addr} {l : List Rw} (h : IsRw w A l) (hb : Below w.heap.size w w') : IsRw w' A l := by
  intro hp
  obtain ⟨b, off, e, hc⟩ := h hp
  refine ⟨b, off, e, fun j hj => ?_⟩
  obtain ⟨h1, h2⟩ := hc j hj
  exact ⟨(hb.cell (World.block_lt_of_cell? w _ h1)).trans h1, (hb.cell (World.block_lt_of_cell? w _ h2)).trans h2⟩
theorem own_rw {w : World} {base n cap : Nat} {A : Option Addr} {l : List Rw} (h : w.ownsRow base 56 2 (.slice A n cap) n (fl pc l)) : IsRw w A l ∧ l.length = n := by
  have hl : l.length = n := by have := h.1; rw [fl_len pc2] at this; omega
  refine ⟨fun hp => ?_, hl⟩
  rcases h.2 with ⟨_, e⟩ | ⟨g, c, cur, e, _⟩
  · omega
  · injection e with e1 e2 e3
    subst e1
    refine ⟨g, 0, rfl, fun j hj => ?_⟩
    have g1 := h.cellAt (g := g) (j * 2) (by omega)
    have g2 := h.cellAt (g := g) (j * 2 + 1) (by omega)
    have e1 := fl_get pc2 l j 0 hj (by omega)
    have e2 := fl_get pc2 l j 1 hj (by omega)
    exact ⟨by rw [Nat.zero_add, g1]; exact e1, by rw [Nat.zero_add, g2]; exact e2⟩
set_option maxRecDepth 100000 in
theorem find1_any (r : Rw) (id : Int) (B : Nat) (w : World) (hc : w.cell? ⟨B, 0, none⟩ = some (.int .i64 id)) :
    Calls Try.prog 33 #[pv r, .pointer (some ⟨B, 0, none⟩)] w fun e w' => e = .returned (.bool (r.2 == id)) ∧ Below w.heap.size w w' := by
  obtain ⟨r1, r2⟩ := r
  unfold pv
  have B0 : Hid (Below w.heap.size w (w.alloc (.cells #[.int .u64 r1, .int .i64 r2] 56))) := (Below.refl _ _).alloc (Nat.le_refl _) _
  obtain ⟨c0, c1⟩ := box2 (w := w) (v0 := .int .u64 r1) (v1 := .int .i64 r2) (ty := 56) (Below.refl _ _)
  have c2 : (w.alloc (.cells #[.int .u64 r1, .int .i64 r2] 56)).cell? ⟨B, 0, none⟩ = some (.int .i64 id) := (B0.out.cell (World.block_lt_of_cell? w _ hc)).trans hc
  clear hc
  go_enter Try.func33, Try.ntmps33
  go_wp2
  go_ret
  exact ⟨rfl, B0.out⟩
set_option maxRecDepth 100000 in
set_option maxHeartbeats 4000000 in
theorem index_any (l : List Rw) (id : Int) (A : Option Addr) (N cap B : Nat) (w : World) (hN : l.length = N) (hl : N ≤ 1099511627776) (ha : IsRw w A l) (hc : w.cell? ⟨B, 0, none⟩ = some (.int .i64 id)) :
    Calls Try.prog 32 #[.slice A N cap, .func (.func 33) #[] #[.pointer (some ⟨B, 0, none⟩)]] w fun e w' =>
      e = .returned (.int .i64 (if Qu.fx id l < N then (Qu.fx id l : Int) else -1)) ∧ Below w.heap.size w w' := by
  have HA := Lib.hid ha
  have HN := Lib.hid hN
  have HC := Lib.hid hc
  have LB := Lib.hid (World.block_lt_of_cell? w _ hc)
  clear ha hN hc
  obtain ⟨z, hz⟩ : ∃ z, (if Qu.fx id l < N then (Qu.fx id l : Int) else -1) = z := ⟨_, rfl⟩
  rw [hz]
  have HZ := Lib.hid hz
  clear hz
  go_enter Try.func32, Try.ntmps32
  go_wp2
  go_loopw [8] (fun i wr => ∃ k : Nat, k ≤ N ∧ i = .int .i64 (k : Int) ∧ Hid (Below w.heap.size w wr ∧ ∀ j, j < k → (Qu.nr l j).2 ≠ id)) (fun i _ => N - (intOf i).toNat)
  case atStart => exact ⟨0, by omega, rfl, Below.refl _ _, fun j hj => by omega⟩
  case round =>
    obtain ⟨k, hk, rfl, HI⟩ := hrel
    by_cases hkn : k < N
    · have hk2 : k < l.length := by rw [HN.out]; exact hkn
      obtain ⟨b, off, rfl, hc⟩ := (HA.out.below HI.out.1) (by omega)
      obtain ⟨c0, c1⟩ := hc k hk2
      have hkz : (k : Int) < (N : Int) := by omega
      have C := Lib.hid (find1_any (Qu.nr l k) id B wr ((HI.out.1.cell LB.out).trans HC.out))
      obtain ⟨r, hr⟩ : ∃ r, Qu.nr l k = r := ⟨_, rfl⟩
      rw [hr] at c0 c1 C
      have HR := Lib.hid hr
      clear hr hc HA
      obtain ⟨r1, r2⟩ := r
      unfold pv at C
      go_wp2_with fail
      refine C.out.mono ?_
      rintro e w1 ⟨rfl, b1⟩
      have B1 := Lib.hid (HI.out.1.trans (b1.mono HI.out.1.size))
      have HO := Lib.hid HI.out.2
      clear HI b1 C c0 c1
      by_cases hq : r2 = id
      · have hq' : (r2 == id) = true := by simpa using hq
        rw [hq']
        have R : Hid (z = (k : Int)) := by
          have hf : Qu.fx id l = k := Qu.fx_hit hk2 (by rw [HR.out]; exact hq) HO.out
          show _ = _
          rw [← HZ.out, hf, if_pos hkn]
        clear HO
        go_wp2
        go_ret
        exact ⟨by rw [R.out]; rfl, B1.out⟩
      · have hq' : (r2 == id) = false := by simpa using hq
        rw [hq']
        have R : Hid (∀ j, j < k + 1 → (Qu.nr l j).2 ≠ id) := fun j hj => by
          rcases Nat.lt_or_ge j k with h1 | h1
          · exact HO.out j h1
          · obtain rfl : j = k := by omega
            rw [HR.out]; exact hq
        clear HO
        go_wp2
        go_round
        case rel => exact ⟨k + 1, by omega, by go_num, B1.out, R.out⟩
        case measure => simp [intOf]; omega
    · obtain rfl : k = N := by omega
      have R : Hid (z = -1) := by
        have hf : Qu.fx id l = l.length := Qu.fx_miss fun j hj => HI.out.2 j (by have := HN.out; omega)
        show _ = _
        rw [← HZ.out, hf, HN.out, if_neg (by omega)]
      have B1 := Lib.hid HI.out.1
      clear HI HA
      go_wp2
      go_ret
      exact ⟨by rw [R.out]; rfl, B1.out⟩
set_option maxRecDepth 100000 in
theorem find_any (l : List Rw) (id : Int) (b : Nat) (A : Option Addr) (N cap : Nat) (w : World) (hN : l.length = N) (hl : N ≤ 1099511627776) (hv : w.cell? ⟨b, 0, none⟩ = some (.slice A N cap)) (ha : IsRw w A l) :
    Calls Try.prog 26 #[.pointer (some ⟨b, 0, none⟩), .int .i64 id] w fun e w' =>
      e = .returned (.int .i64 (if Qu.fx id l < N then (Qu.fx id l : Int) else -1)) ∧ Below w.heap.size w w' := by
  have B0 : Hid (Below w.heap.size w (w.alloc (.cells #[.int .i64 id] 3))) := (Below.refl _ _).alloc (Nat.le_refl _) _
  have c2 : (w.alloc (.cells #[.int .i64 id] 3)).cell? ⟨b, 0, none⟩ = some (.slice A N cap) := (B0.out.cell (World.block_lt_of_cell? w _ hv)).trans hv
  have c3 : (w.alloc (.cells #[.int .i64 id] 3)).cell? ⟨w.heap.size, 0, none⟩ = some (.int .i64 id) := by rw [cell_of_row _ w.heap.size _ _ 3 (0, 0) Array.getElem?_push_size]; rfl
  have C := Lib.hid (index_any l id A N cap w.heap.size (w.alloc (.cells #[.int .i64 id] 3)) hN hl (ha.below B0.out) c3)
  generalize (if Qu.fx id l < N then (Qu.fx id l : Int) else -1) = z at *
  clear hv ha c3 hN
  go_enter Try.func26, Try.ntmps26
  go_wp2_with fail
  refine C.out.mono ?_
  rintro e w1 ⟨rfl, b1⟩
  have B1 := Lib.hid (B0.out.trans (b1.mono B0.out.size))
  clear C b1 B0 c2
  go_wp2
  go_ret
  exact ⟨rfl, B1.out⟩
end Go.Proofs.Ytlbhiiciajfphaa
