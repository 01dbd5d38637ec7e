/-
  What slices.symMergeCmpFunc does to a row of ints whose first, or whose second part is one number. Conditions as in XQi.
-/
import Derived.Test.YtmdpeifpgnkbiaaDoorQi
import Derived.Test.YtmdpeifpgnkbiaaDoorQr
namespace Go.Proofs.YtmdpeifpgnkbiaaDoor
open Go.RowKit
section
variable {B n : Nat} {c : FuncId} {cb : Array Value} {cf : Nat → Nat → Int} {S : (Nat → Nat) → World → Prop} {R : Nat → Nat → Prop}
set_option maxRecDepth 100000 in
set_option maxHeartbeats 2000000 in
theorem merge_left (T : SortW B n c cb cf S) (O : So.Ord R (ltf cf)) (cap a m b : Nat) (d : Nat → Nat) (w : World) (hS : S d w) (hm : m = a + 1) (h1 : m ≤ b) (h3 : b ≤ n) (hs : So.Sorted R d m b) (hx : So.Cross d a m b) :
    Calls Tryd.prog 59 #[.slice (some ⟨B, 0, none⟩) n cap, .int .i64 (a : Int), .int .i64 (m : Int), .int .i64 (b : Int), .func (.func c) #[] cb] w fun e w' => e = .returned (.tuple #[]) ∧ ∃ d', S d' w' ∧ So.Via a b d d' ∧ So.Sorted R d' a b := by
  have HT := Lib.hid T
  have HO := Lib.hid O
  have hn := T.len
  have eg := T.enters
  have HS := Lib.hid hS
  have HSO : Hid (So.Sorted R d (a + 1) b) := hm ▸ hs
  have HX : Hid (So.Cross d a (a + 1) b) := hm ▸ hx
  clear T hS O hs hx
  have em : (m : Int) - (a : Int) = 1 := by omega
  have HM := Lib.hid hm
  have am1 : a < m := by omega
  have am2 : m ≤ a + 1 := by omega
  clear hm
  go_enter Tryd.func59, Tryd.ntmps59
  go_wp2
  go_loopw [10, 11] (fun vi vj wr => ∃ i j : Nat, vi = .int .i64 (i : Int) ∧ vj = .int .i64 (j : Int) ∧ a + 1 ≤ i ∧ i ≤ j ∧ j ≤ b ∧ Hid (So.BsL R d a b i j) ∧ Hid (S d wr)) (fun vi vj _ => (intOf vj).toNat - (intOf vi).toNat)
  case atStart => exact ⟨m, b, rfl, rfl, by omega, by omega, by omega, by rw [HM.out]; exact So.BsL.start (by omega), HS⟩
  case round =>
    obtain ⟨i, j, rfl, rfl, p1, p2, p3, HB, HI⟩ := hrel
    clear HS
    by_cases hij : i < j
    · have hijz : (i : Int) < (j : Int) := by omega
      obtain ⟨h, hh⟩ : ∃ h, h = (i + j) / 2 := ⟨_, rfl⟩
      have eh : ((i : Int) + (j : Int)) / 2 = (h : Int) := by omega
      have q1 : i ≤ h := by omega
      have q2 : h < j := by omega
      clear hh
      have ch : ∀ q, (wr.drewN q).cell? ⟨B, h, none⟩ = some (.int .i64 ((d h : Nat) : Int)) := fun q => HT.out.cell (HT.out.drew HI.out q) h (by omega)
      have ca : ∀ q, (wr.drewN q).cell? ⟨B, a, none⟩ = some (.int .i64 ((d a : Nat) : Int)) := fun q => HT.out.cell (HT.out.drew HI.out q) a (by omega)
      have CM := Lib.hid (fun q => HT.out.cmp (HT.out.drew HI.out q) h a (by omega) (by omega))
      have SQ := Lib.hid (fun q => HT.out.drew HI.out q)
      clear HI
      cases hl : ltf cf (d h) (d a)
      · have BN := Lib.hid (HB.out.no HO.out HSO.out HX.out h q1 q2 hl)
        have hd : decide (cf (d h) (d a) < 0) = false := hl
        have hv : ¬ cf (d h) (d a) < 0 := of_decide_eq_false hl
        clear hl HB
        generalize d h = x at *
        generalize d a = y at *
        go_wp2_with fail
        go_quiet ((go_at_fn c; exact Calls.quiet_of (CM.out _)))
        have S2 := Lib.hid (SQ.out nq)
        clear ch ca CM SQ
        generalize wr.drewN nq = w2 at *
        go_wp2
        go_roundw
        case rel => exact ⟨i, h, rfl, rfl, p1, q1, by omega, BN, S2⟩
        case measure => simp [intOf] <;> omega
      · have BN := Lib.hid (HB.out.yes HO.out HSO.out HX.out h q1 q2 hl)
        have hd : decide (cf (d h) (d a) < 0) = true := hl
        have hv : cf (d h) (d a) < 0 := of_decide_eq_true hl
        clear hl HB
        generalize d h = x at *
        generalize d a = y at *
        go_wp2_with fail
        go_quiet ((go_at_fn c; exact Calls.quiet_of (CM.out _)))
        have S2 := Lib.hid (SQ.out nq)
        clear ch ca CM SQ
        generalize wr.drewN nq = w2 at *
        go_wp2
        go_roundw
        case rel => exact ⟨h + 1, j, by go_num, rfl, by omega, by omega, p3, BN, S2⟩
        case measure => simp [intOf] <;> omega
    · obtain rfl : i = j := by omega
      have hijz : ¬ (i : Int) < (i : Int) := by omega
      have SO := Lib.hid (So.shl_sorted HSO.out HB.out)
      have VI := Lib.hid (So.shl_via d a b (i - 1) (by omega) (by omega))
      obtain ⟨z, rfl⟩ : ∃ z, i = z + 1 := ⟨i - 1, by omega⟩
      rw [Nat.add_sub_cancel] at SO VI
      clear HB HSO HX
      go_wp2
      go_loopw [13] (fun vk wr2 => ∃ k : Nat, vk = .int .i64 (k : Int) ∧ a ≤ k ∧ k ≤ z ∧ Hid (S (So.shl d a k) wr2)) (fun vk _ => z - (intOf vk).toNat)
      case atStart => exact ⟨a, rfl, Nat.le_refl _, by omega, by show S _ _; rw [So.shl_start]; exact HI.out⟩
      case round =>
        clear HI
        obtain ⟨k, rfl, r1, r2, HI⟩ := hrel
        by_cases hkz : k < z
        · have hkzz : (k : Int) < (z : Int) := by omega
          have P1 : Hid (S (So.shl d a (k + 1)) ((wr.setCell ⟨B, k, none⟩ (.int .i64 ((So.shl d a k (k + 1) : Nat) : Int))).setCell ⟨B, k + 1, none⟩ (.int .i64 ((So.shl d a k k : Nat) : Int))).drew) := by
            show S _ _
            rw [← So.shl_step d a k r1]
            exact HT.out.drew (HT.out.put HI.out k (k + 1) (by omega) (by omega)) 1
          have cp := HT.out.cell HI.out k (by omega)
          have cq := HT.out.cell HI.out (k + 1) (by omega)
          have fp := HT.out.free HI.out k (by omega)
          have fq := HT.out.free HI.out (k + 1) (by omega)
          obtain ⟨u, cu⟩ := HT.out.two HI.out k (k + 1) (by omega) (by omega) (.int .i64 ((So.shl d a k (k + 1) : Nat) : Int))
          generalize So.shl d a k (k + 1) = x at *
          generalize So.shl d a k k = y at *
          clear HI
          go_wp2_with fail
          go_region
          generalize ((wr.setCell ⟨B, k, none⟩ (.int .i64 (x : Int))).setCell ⟨B, k + 1, none⟩ (.int .i64 (y : Int))).drew = w3 at *
          clear cp cq fp fq cu
          go_wp2
          go_roundw
          case rel => exact ⟨k + 1, by go_num, by omega, by omega, P1⟩
          case measure => simp [intOf] <;> omega
        · obtain rfl : k = z := by omega
          go_wp2
          (try simp only [Exit.inBlock, Exit.then])
          refine bodyPost_ret (results_none rfl _ _ _) rfl ?_
          exact ⟨rfl, _, HI.out, VI.out, SO.out⟩
set_option maxRecDepth 100000 in
set_option maxHeartbeats 2000000 in
theorem merge_right (T : SortW B n c cb cf S) (O : So.Ord R (ltf cf)) (cap a m b : Nat) (d : Nat → Nat) (w : World) (hS : S d w) (h0 : a + 1 < m) (hb : b = m + 1) (h3 : b ≤ n) (hs : So.Sorted R d a m) (hx : So.Cross d a m b) :
    Calls Tryd.prog 59 #[.slice (some ⟨B, 0, none⟩) n cap, .int .i64 (a : Int), .int .i64 (m : Int), .int .i64 (b : Int), .func (.func c) #[] cb] w fun e w' => e = .returned (.tuple #[]) ∧ ∃ d', S d' w' ∧ So.Via a b d d' ∧ So.Sorted R d' a b := by
  have HT := Lib.hid T
  have HO := Lib.hid O
  have hn := T.len
  have eg := T.enters
  have HS := Lib.hid hS
  have HSO := Lib.hid hs
  have HX : Hid (So.Cross d a m (m + 1)) := hb ▸ hx
  clear T hS O hs hx
  have em : ((m : Int) - (a : Int) == 1) = false := by rw [beq_eq_false_iff_ne]; omega
  have eb : (b : Int) - (m : Int) = 1 := by omega
  have HM := Lib.hid hb
  have am1 : m < b := by omega
  have am2 : b ≤ m + 1 := by omega
  clear hb
  go_enter Tryd.func59, Tryd.ntmps59
  go_wp2
  go_loopw [14, 15] (fun vi vj wr => ∃ i j : Nat, vi = .int .i64 (i : Int) ∧ vj = .int .i64 (j : Int) ∧ a ≤ i ∧ i ≤ j ∧ j ≤ m ∧ Hid (So.BsR R d a m i j) ∧ Hid (S d wr)) (fun vi vj _ => (intOf vj).toNat - (intOf vi).toNat)
  case atStart => exact ⟨a, m, rfl, rfl, by omega, by omega, by omega, So.BsR.start (by omega), HS⟩
  case round =>
    obtain ⟨i, j, rfl, rfl, p1, p2, p3, HB, HI⟩ := hrel
    clear HS
    by_cases hij : i < j
    · have hijz : (i : Int) < (j : Int) := by omega
      obtain ⟨h, hh⟩ : ∃ h, h = (i + j) / 2 := ⟨_, rfl⟩
      have eh : ((i : Int) + (j : Int)) / 2 = (h : Int) := by omega
      have q1 : i ≤ h := by omega
      have q2 : h < j := by omega
      clear hh
      have ch : ∀ q, (wr.drewN q).cell? ⟨B, h, none⟩ = some (.int .i64 ((d h : Nat) : Int)) := fun q => HT.out.cell (HT.out.drew HI.out q) h (by omega)
      have ca : ∀ q, (wr.drewN q).cell? ⟨B, m, none⟩ = some (.int .i64 ((d m : Nat) : Int)) := fun q => HT.out.cell (HT.out.drew HI.out q) m (by omega)
      have CM := Lib.hid (fun q => HT.out.cmp (HT.out.drew HI.out q) m h (by omega) (by omega))
      have SQ := Lib.hid (fun q => HT.out.drew HI.out q)
      clear HI
      cases hl : ltf cf (d m) (d h)
      · have BN := Lib.hid (HB.out.no HO.out HSO.out HX.out h q1 q2 hl)
        have hd : decide (cf (d m) (d h) < 0) = false := hl
        have hv : ¬ cf (d m) (d h) < 0 := of_decide_eq_false hl
        clear hl HB
        generalize d h = x at *
        generalize d m = y at *
        go_wp2_with fail
        go_quiet ((go_at_fn c; exact Calls.quiet_of (CM.out _)))
        have S2 := Lib.hid (SQ.out nq)
        clear ch ca CM SQ
        generalize wr.drewN nq = w2 at *
        go_wp2
        go_roundw
        case rel => exact ⟨h + 1, j, by go_num, rfl, by omega, by omega, p3, BN, S2⟩
        case measure => simp [intOf] <;> omega
      · have BN := Lib.hid (HB.out.yes HO.out HSO.out HX.out h q1 q2 hl)
        have hd : decide (cf (d m) (d h) < 0) = true := hl
        have hv : cf (d m) (d h) < 0 := of_decide_eq_true hl
        clear hl HB
        generalize d h = x at *
        generalize d m = y at *
        go_wp2_with fail
        go_quiet ((go_at_fn c; exact Calls.quiet_of (CM.out _)))
        have S2 := Lib.hid (SQ.out nq)
        clear ch ca CM SQ
        generalize wr.drewN nq = w2 at *
        go_wp2
        go_roundw
        case rel => exact ⟨i, h, rfl, rfl, p1, q1, by omega, BN, S2⟩
        case measure => simp [intOf] <;> omega
    · obtain rfl : i = j := by omega
      have hijz : ¬ (i : Int) < (i : Int) := by omega
      have SO : Hid (So.Sorted R (So.shr d m i) a b) := by rw [HM.out]; exact So.shr_sorted HSO.out HB.out
      have VI : Hid (So.Via a b d (So.shr d m i)) := by rw [HM.out]; exact So.shr_via d a m (m - i) i (by omega) p1
      clear HB HSO HX
      go_wp2
      go_loopw [17] (fun vk wr2 => ∃ k : Nat, vk = .int .i64 (k : Int) ∧ i ≤ k ∧ k ≤ m ∧ Hid (S (So.shr d m k) wr2)) (fun vk _ => (intOf vk).toNat)
      case atStart => exact ⟨m, rfl, by omega, Nat.le_refl _, by show S _ _; rw [So.shr_start]; exact HI.out⟩
      case round =>
        clear HI
        obtain ⟨k1, rfl, r1, r2, HI⟩ := hrel
        by_cases hkz : i < k1
        · obtain ⟨k, rfl⟩ : ∃ k, k1 = k + 1 := ⟨k1 - 1, by omega⟩
          have hkzz : (i : Int) < (k : Int) + 1 := by omega
          have hkzd : decide ((k : Int) + 1 > (i : Int)) = true := decide_eq_true (by omega)
          have P1 : Hid (S (So.shr d m k) ((wr.setCell ⟨B, k + 1, none⟩ (.int .i64 ((So.shr d m (k + 1) k : Nat) : Int))).setCell ⟨B, k, none⟩ (.int .i64 ((So.shr d m (k + 1) (k + 1) : Nat) : Int))).drew) := by
            show S _ _
            rw [← So.shr_step d m k (by omega)]
            exact HT.out.drew (HT.out.put HI.out (k + 1) k (by omega) (by omega)) 1
          have cp := HT.out.cell HI.out k (by omega)
          have cq := HT.out.cell HI.out (k + 1) (by omega)
          have fp := HT.out.free HI.out k (by omega)
          have fq := HT.out.free HI.out (k + 1) (by omega)
          obtain ⟨u, cu⟩ := HT.out.two HI.out (k + 1) k (by omega) (by omega) (.int .i64 ((So.shr d m (k + 1) k : Nat) : Int))
          generalize So.shr d m (k + 1) k = x at *
          generalize So.shr d m (k + 1) (k + 1) = y at *
          clear HI
          go_wp2_with fail
          go_region
          generalize ((wr.setCell ⟨B, k + 1, none⟩ (.int .i64 (x : Int))).setCell ⟨B, k, none⟩ (.int .i64 (y : Int))).drew = w3 at *
          clear cp cq fp fq cu
          go_wp2
          go_roundw
          case rel => exact ⟨k, by go_num, by omega, by omega, P1⟩
          case measure => simp [intOf] <;> omega
        · obtain rfl : i = k1 := by omega
          have hkzz : ¬ (i : Int) < (i : Int) := by omega
          go_wp2
          (try simp only [Exit.inBlock, Exit.then])
          refine bodyPost_ret (results_none rfl _ _ _) rfl ?_
          exact ⟨rfl, _, HI.out, VI.out, SO.out⟩
end
end Go.Proofs.YtmdpeifpgnkbiaaDoor
