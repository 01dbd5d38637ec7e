/-
  What slices.insertionSortCmpFunc, pdqsortCmpFunc and SortFunc do to a row of labels with Make's comparison: they sort it by names. Conditions: no more than 6 labels.
-/
import Derived.Test.YtbfpcolbkfcanaaMi
namespace Go.Proofs.Ytbfpcolbkfcanaa
open Go.RowKit La Go.Sort

section
variable {base B n cap : Nat} {ls : List Lab} {w0 : World}
set_option maxRecDepth 100000 in
set_option maxHeartbeats 4000000 in
theorem ins_labs (d : Nat → Nat) (w : World) (hn : n ≤ 6) (hS : LabS base B n cap ls w0 d w) (ha : So.Asc d 0 n) :
    Calls Try.prog 53 #[.slice (some ⟨B, 0, none⟩) n cap, .int .i64 0, .int .i64 (n : Int), .func (.func 35) #[] #[]] w fun e w' => e = .returned (.tuple #[]) ∧ ∃ d', LabS base B n cap ls w0 d' w' ∧ So.Via 0 n d d' ∧ So.Sorted (RP ls) d' 0 n := by
  have HO := Lib.hid (rp_ord ls)
  have HS := Lib.hid hS
  have HAS := Lib.hid ha
  have eg : ∀ args w, (callFunc 35 args).run Try.prog w = .ok (.enter 35 args) w := enters_of Try.func35 (by kernel_rfl) rfl
  have mixed : Try.prog.follows .mixedOrders = true := by kernel_rfl
  clear hS ha
  go_enter Try.func53, Try.ntmps53
  go_wp2
  go_loopw [8] (fun vi wr => ∃ i : Nat, vi = .int .i64 (i : Int) ∧ 0 < i ∧ i ≤ n + 1 ∧ Hid (∃ d', LabS base B n cap ls w0 d' wr ∧ So.Via 0 (min i n) d d' ∧ So.Sorted (RP ls) d' 0 (min i n))) (fun vi _ => n + 1 - (intOf vi).toNat)
  case atStart => exact ⟨1, by go_num, by omega, by omega, d, HS.out, .refl, fun i j _ _ _ => by omega⟩
  case round =>
    obtain ⟨i, rfl, hai, hib, HI⟩ := hrel
    clear HS
    by_cases hlt : i < n
    · have hltz : (i : Int) < (n : Int) := by omega
      have HI' : Hid (∃ d', LabS base B n cap ls w0 d' wr ∧ So.Ins (RP ls) d d' 0 i i) := by
        obtain ⟨d', s', v', o'⟩ := HI.out
        rw [Nat.min_eq_left (by omega)] at v' o'
        exact ⟨d', s', So.Ins.start v' o' (fun k k1 k2 => HAS.out k i k1 k2 hlt)⟩
      clear HI
      go_wp2
      go_loopw [9] (fun vj wr2 => ∃ j : Nat, vj = .int .i64 (j : Int) ∧ j ≤ i ∧ Hid (∃ d', LabS base B n cap ls w0 d' wr2 ∧ So.Ins (RP ls) d d' 0 i j)) (fun vj _ => (intOf vj).toNat)
      case atStart => exact ⟨i, rfl, Nat.le_refl _, HI'⟩
      case round =>
        clear HI'
        obtain ⟨j, rfl, hji, HJ⟩ := hrel
        obtain ⟨dj, sj, ij⟩ := HJ.out
        have SJ := Lib.hid sj
        have IJ := Lib.hid ij
        clear HJ sj ij
        by_cases hja : 0 < j
        · obtain ⟨k, rfl⟩ : ∃ k, j = k + 1 := ⟨j - 1, by omega⟩
          obtain ⟨ck1, ck2⟩ := SJ.out.cell k (by omega)
          obtain ⟨cj1, cj2⟩ := SJ.out.cell (k + 1) (by omega)
          replace ck1 := cell_regrown ck1
          replace ck2 := cell_regrown ck2
          replace cj1 := cell_regrown cj1
          replace cj2 := cell_regrown cj2
          have CM : Hid (∀ q os, Calls Try.prog 35 #[.agg #[.string (nth ls (dj (k + 1))).1, .string (nth ls (dj (k + 1))).2], .agg #[.string (nth ls (dj k)).1, .string (nth ls (dj k)).2]] (grow (redrawn wr q) os) fun e w'' => e = .returned (.int .i64 (cmpS (nth ls (dj (k + 1))).1 (nth ls (dj k)).1)) ∧ ∃ p : Regrown, w'' = grow (redrawn wr p.d) p.os) :=
            fun q os => Calls.regrown_of (make1_any _ _ _)
          have CL := cmpS_lt (nth ls (dj (k + 1))).1 (nth ls (dj k)).1
          have hkz : (k : Int) < (n : Int) := by omega
          have hkz1 : (k : Int) + 1 < (n : Int) := by omega
          have hkz0 : (0 : Int) ≤ (k : Int) + 1 := by omega
          have wk : IntKind.i64.wrap (k : Int) = (k : Int) := by rw [IntKind.wrap_i64]; omega
          cases hl : ltP ls (dj (k + 1)) (dj k)
          · have SO := Lib.hid (IJ.out.stop HO.out (Nat.zero_le _) hji (.inr hl))
            have VI := Lib.hid IJ.out.via
            have hv : ¬ cmpS (nth ls (dj (k + 1))).1 (nth ls (dj k)).1 < 0 := of_decide_eq_false (CL.trans hl)
            have hd : decide (cmpS (nth ls (dj (k + 1))).1 (nth ls (dj k)).1 < 0) = false := CL.trans hl
            clear hl IJ CL
            have hjad : decide ((k : Int) + 1 > 0) = true := decide_eq_true (by omega)
            have GR := Lib.hid (fun q os => SJ.out.grow (below_regrown wr q os))
            generalize (nth ls (dj (k + 1))).1 = x1 at *
            generalize (nth ls (dj (k + 1))).2 = x2 at *
            generalize (nth ls (dj k)).1 = y1 at *
            generalize (nth ls (dj k)).2 = y2 at *
            go_wp2_with fail
            refine wp_region_quiet_below (by assumption) (by kernel_rfl) ?_
            repeat (quiet_step (exact CM.out _ _))
            refine wpQuiet_nil ?_
            intro _ hw'
            obtain ⟨⟨dq, osq⟩, hw''⟩ := hw'
            subst hw''
            have S2 := Lib.hid (GR.out dq osq)
            clear ck1 ck2 cj1 cj2 CM SJ GR
            generalize grow (redrawn wr dq) osq = w2 at *
            go_wp2
            go_roundw
            case rel => exact ⟨i + 1, by go_num, by omega, by omega, dj, S2.out, by rw [Nat.min_eq_left (by omega)]; exact VI.out, by rw [Nat.min_eq_left (by omega)]; exact SO.out⟩
            case measure => simp [intOf] <;> omega
          · have IS := Lib.hid (IJ.out.swap HO.out (by omega) hji hl)
            have hv : cmpS (nth ls (dj (k + 1))).1 (nth ls (dj k)).1 < 0 := of_decide_eq_true (CL.trans hl)
            have hd : decide (cmpS (nth ls (dj (k + 1))).1 (nth ls (dj k)).1 < 0) = true := CL.trans hl
            clear hl IJ CL
            have hjad : decide ((k : Int) + 1 > 0) = true := decide_eq_true (by omega)
            have GR := Lib.hid (fun q os => SJ.out.grow (below_regrown wr q os))
            have PS : Hid (∀ w2, LabS base B n cap ls w0 dj w2 → LabS base B n cap ls w0 (So.sw dj (k + 1) k) ((((w2.setCell ⟨B, (k + 1) * 2, none⟩ (.string (nth ls (dj k)).1)).setCell ⟨B, (k + 1) * 2 + 1, none⟩ (.string (nth ls (dj k)).2)).setCell ⟨B, k * 2, none⟩ (.string (nth ls (dj (k + 1))).1)).setCell ⟨B, k * 2 + 1, none⟩ (.string (nth ls (dj (k + 1))).2)).drew) := fun w2 h => (h.put (k + 1) k (by omega) (by omega)).drew1
            generalize (nth ls (dj (k + 1))).1 = x1 at *
            generalize (nth ls (dj (k + 1))).2 = x2 at *
            generalize (nth ls (dj k)).1 = y1 at *
            generalize (nth ls (dj k)).2 = y2 at *
            go_wp2_with fail
            refine wp_region_quiet_below (by assumption) (by kernel_rfl) ?_
            repeat (quiet_step (exact CM.out _ _))
            refine wpQuiet_nil ?_
            intro _ hw'
            obtain ⟨⟨dq, osq⟩, hw''⟩ := hw'
            subst hw''
            have S2 := GR.out dq osq
            have P2 := Lib.hid (PS.out _ S2)
            have f1 := S2.free (k * 2)
            have f2 := S2.free (k * 2 + 1)
            have f3 := S2.free ((k + 1) * 2)
            have f4 := S2.free ((k + 1) * 2 + 1)
            replace ck1 := ck1 dq osq
            replace ck2 := ck2 dq osq
            replace cj1 := cj1 dq osq
            replace cj2 := cj2 dq osq
            clear CM SJ GR PS S2
            generalize grow (redrawn wr dq) osq = w2 at *
            go_wp2_with fail
            go_region
            generalize ((((w2.setCell ⟨B, (k + 1) * 2, none⟩ (.string y1)).setCell ⟨B, (k + 1) * 2 + 1, none⟩ (.string y2)).setCell ⟨B, k * 2, none⟩ (.string x1)).setCell ⟨B, k * 2 + 1, none⟩ (.string x2)).drew = w3 at *
            clear ck1 ck2 cj1 cj2 f1 f2 f3 f4
            go_wp2
            go_roundw
            case rel => exact ⟨k, by go_num, by omega, _, P2.out, IS.out⟩
            case measure => simp [intOf] <;> omega
        · obtain rfl : j = 0 := by omega
          have SO := Lib.hid (IJ.out.stop HO.out (Nat.zero_le _) hji (.inl rfl))
          have VI := Lib.hid IJ.out.via
          clear IJ
          go_wp2_with fail
          go_quiet (fail)
          have S2 := Lib.hid (SJ.out.grow (below_drewN (Below.refl _ _) nq))
          clear SJ
          generalize wr.drewN nq = w2 at *
          go_wp2
          go_roundw
          case rel => exact ⟨i + 1, by go_num, by omega, by omega, dj, S2.out, by rw [Nat.min_eq_left (by omega)]; exact VI.out, by rw [Nat.min_eq_left (by omega)]; exact SO.out⟩
          case measure => simp [intOf] <;> omega
    · obtain hib' : i = n ∨ i = n + 1 := by omega
      have hltz : ¬ (i : Int) < (n : Int) := by omega
      go_wp2
      go_end0
      refine ⟨rfl, ?_⟩
      obtain ⟨d', s', v', o'⟩ := HI.out
      rw [Nat.min_eq_right (by omega)] at v' o'
      exact ⟨d', s', v', o'⟩
set_option maxRecDepth 100000 in
set_option maxHeartbeats 1000000 in
theorem pdq_labs (d : Nat → Nat) (w : World) (r : Int) (hn : n ≤ 6) (hS : LabS base B n cap ls w0 d w) (ha : So.Asc d 0 n) :
    Calls Try.prog 46 #[.slice (some ⟨B, 0, none⟩) n cap, .int .i64 0, .int .i64 (n : Int), .int .i64 r, .func (.func 35) #[] #[]] w fun e w' => e = .returned (.tuple #[]) ∧ ∃ d', LabS base B n cap ls w0 d' w' ∧ So.Via 0 n d d' ∧ So.Sorted (RP ls) d' 0 n := by
  have C := Lib.hid (ins_labs d w hn hS ha)
  have h1 : (n : Int) ≤ 12 := by omega
  clear hS ha
  go_enter Try.func46, Try.ntmps46
  go_wp2
  refine wp_loop_rounds 1 ?_
  rw [rounds_succ]
  go_wp2_with fail
  refine C.out.mono ?_
  rintro e w' ⟨rfl, h⟩
  have H := Lib.hid h
  clear C h
  go_wp2
  (try simp only [Exit.inBlock, Exit.then])
  refine bodyPost_ret (results_none rfl _ _ _) rfl ?_
  exact ⟨rfl, H.out⟩
set_option maxRecDepth 100000 in
set_option maxHeartbeats 1000000 in
theorem sortfunc_labs (d : Nat → Nat) (w : World) (hn : n ≤ 6) (hS : LabS base B n cap ls w0 d w) (ha : So.Asc d 0 n) :
    Calls Try.prog 34 #[.slice (some ⟨B, 0, none⟩) n cap, .func (.func 35) #[] #[]] w fun e w' => e = .returned (.tuple #[]) ∧ ∃ d', LabS base B n cap ls w0 d' w' ∧ So.Via 0 n d d' ∧ So.Sorted (RP ls) d' 0 n := by
  have C := Lib.hid (fun r => pdq_labs d w r hn hS ha)
  have L := Lib.hid (len_any (n : Int) w (by omega) (by omega))
  clear hS ha
  go_enter Try.func34, Try.ntmps34
  go_wp2_with fail
  refine L.out.mono ?_
  rintro e w' ⟨⟨r, rfl⟩, rfl⟩
  clear L
  go_wp2_with fail
  refine (C.out r).mono ?_
  rintro e w' ⟨rfl, h⟩
  have H := Lib.hid h
  clear C h
  go_wp2
  go_end0
  exact ⟨rfl, H.out⟩
end
set_option maxRecDepth 100000 in
set_option maxHeartbeats 1000000 in
theorem ins_nil (w : World) : Calls Try.prog 53 #[.slice none 0 0, .int .i64 0, .int .i64 0, .func (.func 35) #[] #[]] w fun e w' => e = .returned (.tuple #[]) ∧ w' = w := by
  go_enter Try.func53, Try.ntmps53
  go_wp2
  refine wp_loop_rounds 1 ?_
  rw [rounds_succ]
  go_wp2
  go_end0
  exact ⟨rfl, rfl⟩
set_option maxRecDepth 100000 in
set_option maxHeartbeats 1000000 in
theorem pdq_nil (w : World) (r : Int) : Calls Try.prog 46 #[.slice none 0 0, .int .i64 0, .int .i64 0, .int .i64 r, .func (.func 35) #[] #[]] w fun e w' => e = .returned (.tuple #[]) ∧ w' = w := by
  have C := Lib.hid (ins_nil w)
  go_enter Try.func46, Try.ntmps46
  go_wp2
  refine wp_loop_rounds 1 ?_
  rw [rounds_succ]
  go_wp2_with fail
  refine C.out.mono ?_
  rintro e w' ⟨rfl, rfl⟩
  go_wp2
  (try simp only [Exit.inBlock, Exit.then])
  refine bodyPost_ret (results_none rfl _ _ _) rfl ?_
  exact ⟨rfl, rfl⟩
set_option maxRecDepth 100000 in
set_option maxHeartbeats 1000000 in
theorem sortfunc_nil (w : World) : Calls Try.prog 34 #[.slice none 0 0, .func (.func 35) #[] #[]] w fun e w' => e = .returned (.tuple #[]) ∧ w' = w := by
  have C := Lib.hid (fun r => pdq_nil w r)
  have L := Lib.hid (len_any 0 w (by omega) (by omega))
  go_enter Try.func34, Try.ntmps34
  go_wp2_with fail
  refine L.out.mono ?_
  rintro e w' ⟨⟨r, rfl⟩, rfl⟩
  clear L
  go_wp2_with fail
  refine (C.out r).mono ?_
  rintro e w' ⟨rfl, rfl⟩
  go_wp2
  go_end0
  exact ⟨rfl, rfl⟩
end Go.Proofs.Ytbfpcolbkfcanaa
