/-
  What SameLabels does: it tells whether two lists of labels are the same. Conditions: lengths fit.
-/
import Derived.Test.YtbfpcolbkfcanaaMt
namespace Go.Proofs.Ytbfpcolbkfcanaa
open Go.RowKit La

theorem lab_neq (w : World) (a b c d : ByteArray) : (binOp .neq 23 (.agg #[.string a, .string b]) (.agg #[.string c, .string d])).run Try.prog w = .ok (.bool (!decide ((a, b) = (c, d)))) w := by
  have hs : Try.prog.stoodInHeld 23 = false := by kernel_rfl
  rw [run_neq_struct, run_equalIn_agg _ 9999 _ _ _ (by kernel_rfl) hs]
  simp only [Program.fieldsOf, Try.underlying23]
  go_simp
  have i1 : (a.toList = c.toList) = (a = c) := propext ⟨toL_inj, fun h => by rw [h]⟩
  have i2 : (b.toList = d.toList) = (b = d) := propext ⟨toL_inj, fun h => by rw [h]⟩
  simp only [i1, i2]
  by_cases h1 : a = c <;> by_cases h2 : b = d <;> simp [h1, h2]

set_option maxRecDepth 100000 in
set_option maxHeartbeats 400000 in
theorem samelabs_any (xs ys : List Lab) (A B : Option Addr) (ca cb : Nat) (w : World) (hx : xs.length ≤ 1099511627776) (hy : ys.length ≤ 1099511627776) (ha : IsLabs w A xs) (hb : IsLabs w B ys) :
    Calls Try.prog 23 #[.slice A xs.length ca, .slice B ys.length cb] w fun e w' => e = .returned (.bool (decide (xs = ys))) ∧ Below w.heap.size w w' := by
  have HA := Lib.hid ha
  have HB := Lib.hid hb
  clear ha hb
  by_cases hl : xs.length = ys.length
  · have HE : Hid ((∀ j, j < xs.length → nth xs j = nth ys j) → xs = ys) := fun h => ext_nth hl h
    have HLX : Hid (xs.length = ys.length) := hl
    generalize hn : ys.length = n at *
    rw [hl] at hx ⊢
    have HN := Lib.hid hn
    clear hl hn
    go_enter Try.func23, Try.ntmps23
    go_wp2
    go_loopw [5] (fun i wr => ∃ k : Nat, k ≤ n ∧ i = .int .i64 (k : Int) ∧ Hid ((∀ j, j < k → nth xs j = nth ys j) ∧ Below w.heap.size w wr)) (fun i _ => n - (intOf i).toNat)
    case atStart => exact ⟨0, by omega, rfl, fun j hj => by omega, Below.refl _ _⟩
    case round =>
      obtain ⟨k, hk, rfl, HI⟩ := hrel
      by_cases hkn : k < n
      · have hkz : (k : Int) < (n : Int) := by omega
        obtain ⟨b1, o1, rfl, h1⟩ := (HA.out.below HI.out.2) (by rw [HLX.out]; omega)
        obtain ⟨b2, o2, rfl, h2⟩ := (HB.out.below HI.out.2) (by rw [HN.out]; omega)
        obtain ⟨c1, c2⟩ := h1 k (by rw [HLX.out]; exact hkn)
        obtain ⟨d1, d2⟩ := h2 k (by rw [HN.out]; exact hkn)
        clear h1 h2
        have AL := Lib.hid HI.out.1
        have BL := Lib.hid HI.out.2
        clear HI
        have NE := fun W => lab_neq W (nth xs k).1 (nth xs k).2 (nth ys k).1 (nth ys k).2
        by_cases e : nth xs k = nth ys k
        · have HE2 := Lib.hid e
          simp only [e, decide_true, Bool.not_true] at NE
          rw [e] at c1 c2
          clear e
          generalize (nth ys k).1 = x at *
          generalize (nth ys k).2 = y at *
          go_wp2_with fail
          go_quiet (fail)
          have B2 := Lib.hid (below_drewN BL.out nq)
          clear c1 c2 d1 d2 NE BL
          go_wp2
          go_roundw
          case rel => exact ⟨k + 1, by omega, by go_num, fun j hj => by
            by_cases hjk : j < k
            · exact AL.out j hjk
            · obtain rfl : j = k := by omega
              exact HE2.out, B2.out⟩
          case measure => simp [intOf]; omega
        · have HNE : Hid (decide (xs = ys) = false) := by show _ = _; rw [decide_eq_false_iff_not]; intro h; exact e (by rw [h])
          have e2 : decide (((nth xs k).1, (nth xs k).2) = ((nth ys k).1, (nth ys k).2)) = false := decide_eq_false e
          simp only [e2, Bool.not_false] at NE
          clear e e2
          generalize (nth xs k).1 = x at *
          generalize (nth xs k).2 = y at *
          generalize (nth ys k).1 = x' at *
          generalize (nth ys k).2 = y' at *
          go_wp2_with fail
          go_quiet (fail)
          have B2 := Lib.hid (below_drewN BL.out nq)
          clear c1 c2 d1 d2 NE BL
          go_wp2
          go_ret
          exact ⟨by rw [HNE.out]; rfl, B2.out⟩
      · obtain rfl : k = n := by omega
        have HT : Hid (decide (xs = ys) = true) := by show _ = _; rw [decide_eq_true_iff]; exact HE.out (by rw [HLX.out]; exact HI.out.1)
        have B := Lib.hid HI.out.2
        have hkz : ¬ (k : Int) < (k : Int) := by omega
        clear HI
        go_wp2
        go_ret
        exact ⟨by rw [HT.out]; rfl, B.out⟩
  · have HNE : Hid (decide (xs = ys) = false) := by show _ = _; rw [decide_eq_false_iff_not]; intro h; exact hl (by rw [h])
    generalize xs.length = m at *
    generalize ys.length = n at *
    have ne2 : ((m : Int) != (n : Int)) = true := by simp; omega
    go_enter Try.func23, Try.ntmps23
    go_wp2
    go_ret
    exact ⟨by rw [HNE.out]; rfl, Below.refl _ _⟩
end Go.Proofs.Ytbfpcolbkfcanaa
