/-
  What Is and the reference's IsSet do: they tell whether labels are a label set. Conditions: lengths fit.
-/
import Derived.Test.YtbfpcolbkfcanaaMn
namespace Go.Proofs.Ytbfpcolbkfcanaa
open Go.RowKit La

/-- Texts that a machine can hold. -/
def Small (ls : List Lab) : Prop := ∀ x ∈ ls, x.1.size ≤ 140737488351232 ∧ x.2.size ≤ 140737488351232
theorem okAt_eq {ls : List Lab} {k : Nat} : okAt ls k = (name (nth ls k).1 && value (nth ls k).2 && (decide (k = 0) || lt (nth ls (k - 1)).1 (nth ls k).1)) := rfl

theorem below_drewN {B : Nat} {a w : World} (h : Below B a w) (q : Nat) : Below B a (w.drewN q) := ⟨h.os, h.tape, h.output, h.size, h.block⟩
theorem cell_alloc_old {w : World} {a : Addr} {v : Value} (h : w.cell? a = some v) (o : Obj) : (w.alloc o).cell? a = some v := ((Below.refl w.heap.size w).alloc (Nat.le_refl _) o).cell (World.block_lt_of_cell? w _ h) ▸ h

set_option maxRecDepth 100000 in
set_option maxHeartbeats 2000000 in
theorem is_any (ls : List Lab) (A : Option Addr) (cap : Nat) (w : World) (hl : ls.length ≤ 1099511627776) (hs : Small ls) (ha : IsLabs w A ls) :
    Calls Try.prog 11 #[.slice A ls.length cap] w fun e w' => e = .returned (.bool (isSet ls)) ∧ Below w.heap.size w w' := by
  have HA := Lib.hid ha
  have HS := Lib.hid hs
  have NO := Lib.hid (isSet_no (ls := ls))
  have BAD := Lib.hid (fun k => isSet_bad (ls := ls) (k := k))
  have YES := Lib.hid (isSet_iff (ls := ls)).2
  have OK := Lib.hid (fun k => okAt_eq (ls := ls) (k := k))
  clear ha hs
  obtain ⟨N, hN⟩ : ∃ N, ls.length = N := ⟨_, rfl⟩
  rw [hN] at hl ⊢
  rw [hN] at NO BAD YES
  have HN := Lib.hid hN
  clear hN
  by_cases h1 : N < 1
  · have R : Hid (isSet ls = false) := NO.out (by omega)
    go_enter Try.func11, Try.ntmps11
    go_wp2
    go_ret
    exact ⟨by rw [R.out]; rfl, Below.refl _ _⟩
  have h1z : ¬ (N : Int) < 1 := by omega
  by_cases h6 : 6 < N
  · have R : Hid (isSet ls = false) := NO.out (by omega)
    have h6d : decide ((N : Int) > 6) = true := decide_eq_true (by omega)
    go_enter Try.func11, Try.ntmps11
    go_wp2
    go_ret
    exact ⟨by rw [R.out]; rfl, Below.refl _ _⟩
  have h6d : decide ((N : Int) > 6) = false := decide_eq_false (by omega)
  go_enter Try.func11, Try.ntmps11
  go_wp2
  clear h6d
  go_loopw [15] (fun i wr => ∃ k : Nat, k ≤ N ∧ i = .int .i64 (k : Int) ∧ Hid (Below w.heap.size w wr ∧ ∀ j, j < k → okAt ls j = true)) (fun i _ => N - (intOf i).toNat)
  case atStart => exact ⟨0, by omega, rfl, Below.refl _ _, fun j hj => by omega⟩
  case round =>
    obtain ⟨k, hk, rfl, HI⟩ := hrel
    by_cases hkn : k < N
    · obtain ⟨b, off, rfl, hc⟩ := (HA.out.below HI.out.1) (by rw [HN.out]; omega)
      obtain ⟨c1, c2⟩ := hc k (by rw [HN.out]; exact hkn)
      have hkz : (k : Int) < (N : Int) := by omega
      have sz := HS.out _ (nth_mem (ls := ls) (j := k) (by rw [HN.out]; exact hkn))
      have NM := Lib.hid (fun W => name_any (nth ls k).1 W sz.1)
      have VL := Lib.hid (fun W => value_any (nth ls k).2 W)
      have BL := Lib.hid HI.out.1
      have AL := Lib.hid HI.out.2
      have BK := Lib.hid (BAD.out k hkn)
      have OKk := Lib.hid (OK.out k)
      have PV : Hid (∀ m, k = m + 1 → wr.cell? ⟨b, off + m * 2, none⟩ = some (.string (nth ls m).1)) := fun m hm => (hc m (by rw [HN.out]; omega)).1
      clear hc sz HI
      obtain ⟨x, hx⟩ : ∃ x, (nth ls k).1 = x := ⟨_, rfl⟩
      obtain ⟨y, hy⟩ : ∃ y, (nth ls k).2 = y := ⟨_, rfl⟩
      rw [hx] at c1 NM OKk
      rw [hy] at c2 VL OKk
      clear hy
      have HX := Lib.hid hx
      clear hx
      cases hn : name x
      · have R : Hid (isSet ls = false) := BK.out (by rw [OKk.out, hn]; rfl)
        rw [hn] at NM
        clear hn
        go_wp2_with fail
        refine (NM.out _).mono ?_
        rintro e w' ⟨rfl, rfl⟩
        go_wp2
        go_ret
        exact ⟨by rw [R.out]; rfl, BL.out.alloc BL.out.size _⟩
      rw [hn] at NM
      cases hv : value y
      · have R : Hid (isSet ls = false) := BK.out (by rw [OKk.out, hn, hv]; rfl)
        rw [hv] at VL
        clear hn hv
        go_wp2_with fail
        refine (NM.out _).mono ?_
        rintro e w' ⟨rfl, rfl⟩
        go_wp2_with fail
        refine (VL.out _).mono ?_
        rintro e w' ⟨rfl, rfl⟩
        go_wp2
        go_ret
        exact ⟨by rw [R.out]; rfl, BL.out.alloc BL.out.size _⟩
      rw [hv] at VL
      rw [hn, hv] at OKk
      clear hn hv
      cases k with
      | zero =>
        have R : Hid (okAt ls 0 = true) := by show _ = _; rw [OKk.out]; rfl
        simp only [Nat.zero_mul, Nat.add_zero] at c1 c2
        clear hkz PV
        go_wp2_with fail
        refine (NM.out _).mono ?_
        rintro e w' ⟨rfl, rfl⟩
        go_wp2_with fail
        refine (VL.out _).mono ?_
        rintro e w' ⟨rfl, rfl⟩
        go_wp2_with fail
        go_quiet (fail)
        have B2 := Lib.hid (below_drewN (BL.out.alloc BL.out.size (.cells #[.string x, .string y] 23)) nq)
        clear c1 c2 BL
        go_wp2
        go_roundw
        case rel => exact ⟨1, by omega, by go_num, B2.out, fun j hj => by obtain rfl : j = 0 := by omega
                                                                          exact R.out⟩
        case measure => simp [intOf]; omega
      | succ m =>
        have c0 := PV.out m rfl
        obtain ⟨z, hz⟩ : ∃ z, (nth ls m).1 = z := ⟨_, rfl⟩
        rw [hz] at c0
        have OKm : Hid (okAt ls (m + 1) = lt z x) := by
          show _ = _
          rw [OKk.out]
          simp only [Nat.add_sub_cancel, hz]
          simp
        clear PV hz OKk HX
        have hk0 : decide ((m : Int) + 1 > 0) = true := decide_eq_true (by omega)
        have hmz : (m : Int) < (N : Int) := by omega
        have c3 := cell_alloc_old c0 (.cells #[.string x, .string y] 23)
        cases hlt : Op.bytesLess z.toList x.toList
        · have R : Hid (isSet ls = false) := BK.out (by rw [OKm.out]; exact hlt)
          go_wp2_with fail
          refine (NM.out _).mono ?_
          rintro e w' ⟨rfl, rfl⟩
          go_wp2_with fail
          refine (VL.out _).mono ?_
          rintro e w' ⟨rfl, rfl⟩
          go_wp2_with fail
          go_quiet (fail)
          have B2 := Lib.hid (below_drewN (BL.out.alloc BL.out.size (.cells #[.string x, .string y] 23)) nq)
          clear c0 c1 c2 c3 BL
          go_wp2
          go_ret
          exact ⟨by rw [R.out]; rfl, B2.out⟩
        · have R : Hid (okAt ls (m + 1) = true) := by show _ = _; rw [OKm.out]; exact hlt
          go_wp2_with fail
          refine (NM.out _).mono ?_
          rintro e w' ⟨rfl, rfl⟩
          go_wp2_with fail
          refine (VL.out _).mono ?_
          rintro e w' ⟨rfl, rfl⟩
          go_wp2_with fail
          go_quiet (fail)
          have B2 := Lib.hid (below_drewN (BL.out.alloc BL.out.size (.cells #[.string x, .string y] 23)) nq)
          clear c0 c1 c2 c3 BL
          go_wp2
          go_roundw
          case rel => exact ⟨m + 2, by omega, by go_num, B2.out, fun j hj => by
            by_cases hjm : j = m + 1
            · rw [hjm]; exact R.out
            · exact AL.out j (by omega)⟩
          case measure => simp [intOf]; omega
    · obtain rfl : k = N := by omega
      have hkz : ¬ (k : Int) < (k : Int) := by omega
      have R : Hid (isSet ls = true) := YES.out ⟨by omega, by omega, HI.out.2⟩
      have B := Lib.hid HI.out.1
      clear HI
      go_wp2
      go_ret
      exact ⟨by rw [R.out]; rfl, B.out⟩
end Go.Proofs.Ytbfpcolbkfcanaa
