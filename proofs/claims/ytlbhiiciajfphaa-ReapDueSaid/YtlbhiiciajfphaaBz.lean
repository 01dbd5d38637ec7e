/-
  ReapDue as a contract. Conditions: none.
-/
import Derived.Test.YtlbhiiciajfphaaBx
namespace Go.Proofs.Ytlbhiiciajfphaa
open Go.RowKit Go.Sort

/-- What ReapDue's first loop keeps. -/
def DqI (W : World) (b : Nat) (I D : List Int) (k : Nat) (wr : World) : Prop := ∃ l v, Qs W wr b l v ∧ Qu.Kq I D k l
set_option maxRecDepth 100000 in
set_option maxHeartbeats 8000000 in
theorem due13_law (W : World) (I D : List Int) (A B : Option Addr) (ca cb : Nat) (now : Int) (hA : IsZ W A I) (hB : IsU W B D) :
    Calls Try.prog 5 #[.slice A I.length ca, .slice B D.length cb, .int .u64 now] W fun e W' => e = .returned (.bool true) ∧ Below W.heap.size W W' := by
  obtain ⟨N, hN⟩ : ∃ N, I.length = N := ⟨_, rfl⟩
  obtain ⟨M, hM⟩ : ∃ M, D.length = M := ⟨_, rfl⟩
  have HN := Lib.hid hN
  have HM := Lib.hid hM
  have HA := Lib.hid hA
  have HB := Lib.hid hB
  rw [hN, hM]
  clear hN hM hA hB
  by_cases hb : 60 < N
  · have hz2 : (60 : Int) < (N : Int) := by omega
    have C := Lib.hid (runs13_any W)
    go_enter Try.func5, Try.ntmps5
    go_wp2_with fail
    refine C.out.mono ?_
    rintro e w1 ⟨rfl, b1⟩
    have B := Lib.hid b1
    clear C b1
    go_wp2
    go_ret
    exact ⟨rfl, B.out⟩
  have hz2 : ¬ (60 : Int) < (N : Int) := by omega
  by_cases hb2 : M < N
  · have hz3 : (M : Int) < (N : Int) := by omega
    have C := Lib.hid (runs13_any W)
    go_enter Try.func5, Try.ntmps5
    go_wp2_with fail
    refine C.out.mono ?_
    rintro e w1 ⟨rfl, b1⟩
    have B := Lib.hid b1
    clear C b1
    go_wp2
    go_ret
    exact ⟨rfl, B.out⟩
  have hz3 : ¬ (M : Int) < (N : Int) := by omega
  have hb : N ≤ 60 := by omega
  have hNM : N ≤ M := by omega
  clear hb2
  have WH : Hid (∀ V, Below W.heap.size W V → ∀ x, Calls Try.prog 17 #[.slice A N ca, .slice B M cb, .int .i64 x] V fun e w' => e = .returned (.int .u64 (Qu.wh I D N x)) ∧ w' = V) := fun V hV x =>
    when_any I D x A B ca cb M N V HN.out HM.out hNM (by omega) (HA.out.below hV) (HB.out.below hV)
  have C0 := Lib.hid (qnew_any W)
  go_enter Try.func5, Try.ntmps5
  go_wp2_with fail
  refine C0.out.mono ?_
  rintro e w1 ⟨b, rfl, h1⟩
  have T0 := Lib.hid h1
  clear C0 h1
  go_wp2
  go_loopw [8] (fun i wr => ∃ k : Nat, k ≤ N ∧ i = .int .i64 (k : Int) ∧ Hid (DqI W b I D k wr)) (fun i _ => N - (intOf i).toNat)
  case atStart => exact ⟨0, by omega, rfl, [], _, T0.out, Qu.Kq.nil I D⟩
  case round =>
    obtain ⟨k, hk, rfl, HP⟩ := hrel
    obtain ⟨l, v, hq, hkq⟩ := HP.out
    have HQ := Lib.hid hq
    have KQ := Lib.hid hkq
    clear hq hkq HP T0
    by_cases hkn : k < N
    · clear WH
      obtain ⟨g, off, rfl, -⟩ := HA.out (by rw [HN.out]; omega)
      obtain ⟨g2, off2, rfl, -⟩ := HB.out (by rw [HM.out]; omega)
      have x1 := isZ_at (HA.out.below HQ.out.bel) (j := k) (by rw [HN.out]; exact hkn)
      have x2 := isU_at (HB.out.below HQ.out.bel) (j := k) (by rw [HM.out]; omega)
      have hkz : (k : Int) < (N : Int) := by omega
      have hkm : (k : Int) < (M : Int) := by omega
      have hkm2 : k < M := by omega
      have K1 : Hid (Qu.Kq I D (k + 1) (Qu.put (nz I k) (nz D k) l)) := KQ.out.step (by rw [HN.out]; exact hkn)
      have C1 := Lib.hid (qput_any (HQ.out.below ((Below.refl _ _).drew)) (nz I k) (nz D k) (by have := KQ.out.len; omega))
      clear HQ KQ
      generalize Qu.put (nz I k) (nz D k) l = l' at *
      generalize nz I k = y1 at *
      generalize nz D k = y2 at *
      go_upto_region 9 with fail
      go_still_tail 9, (by kernel_rfl)
      repeat still_step
      change wpList _ _ _ _ _ (wr.drew)
      clear x1 x2
      generalize wr.drew = wd at *
      go_wp2_with fail
      refine C1.out.mono ?_
      rintro e w2 ⟨rfl, v2, h2, -, -⟩
      have R : Hid (DqI W b I D (k + 1) w2) := ⟨l', v2, h2, K1.out⟩
      clear C1 h2 K1
      go_wp2
      go_roundw
      case rel => exact ⟨k + 1, by omega, by go_num, R⟩
      case measure => simp [intOf]; omega
    · obtain rfl : k = N := by omega
      have hkz : ¬ (k : Int) < (k : Int) := by omega
      have KN : Hid (Qu.Kq I D I.length l) := by show Qu.Kq _ _ _ _; rw [HN.out]; exact KQ.out
      have C1 := Lib.hid (qlen_any HQ.out.at_)
      go_wp2_with fail
      refine C1.out.mono ?_
      rintro e w2 ⟨rfl, rfl⟩
      have C2 := Lib.hid (qdue_s HQ.out now rfl rfl)
      clear C1
      go_wp2_with fail
      refine C2.out.mono ?_
      rintro e w3 ⟨A3, c3, v3, rfl, iz, h3⟩
      have HZ := Lib.hid iz
      have H3 := Lib.hid h3
      clear C2 iz h3 HQ KQ
      obtain ⟨d, hd⟩ : ∃ d, Qu.ids (Qu.ripe now l) = d := ⟨_, rfl⟩
      obtain ⟨L, hL⟩ : ∃ L, d.length = L := ⟨_, rfl⟩
      have hLr : (Qu.ripe now l).length = L := by rw [← hL, ← hd, Qu.ids_len]
      have DUE : Hid (∀ j, j < L → nz d j ∈ I ∧ Qu.wh I D k (nz d j) ≤ now) := fun j hj => by
        have := KN.out.due (now := now) (k := j) (by omega)
        rwa [hd, HN.out] at this
      have ORD : Hid (∀ j, j < L → 0 < j → Qu.wh I D k (nz d (j - 1)) < Qu.wh I D k (nz d j) ∨ Qu.wh I D k (nz d (j - 1)) = Qu.wh I D k (nz d j) ∧ nz d (j - 1) < nz d j) := fun j hj h0 => by
        have := KN.out.order (now := now) (k := j) (by omega) h0
        rwa [hd, HN.out] at this
      have STAY : Hid (∀ x ∈ I, Qu.has x (Qu.late now l) = !decide (x ∈ d) ∧ (Qu.has x (Qu.late now l) = true → Qu.dueAt x (Qu.late now l) = Qu.wh I D k x ∧ now < Qu.wh I D k x)) := fun x hx => by
        have := KN.out.stay (now := now) hx
        rwa [hd, HN.out] at this
      have LEN : Hid (l.length = L + (Qu.late now l).length ∧ L ≤ 60) := by
        have h1 := Qu.late_len now l
        have h2 := KN.out.len
        rw [HN.out] at h2
        exact ⟨by omega, by omega⟩
      have LATE : Hid (Qu.ripe now (Qu.late now l) = [] ∧ Qu.late now (Qu.late now l) = Qu.late now l) := Qu.ripe_none fun r hr => KN.out.srt.late_mem hr
      rw [hd] at HZ
      rw [hd, hL]
      clear KN hLr
      have HL := Lib.hid hL
      have hLb : L ≤ 60 := LEN.out.2
      clear hd hL
      obtain ⟨lt, hlt⟩ : ∃ lt, Qu.late now l = lt := ⟨_, rfl⟩
      rw [hlt] at H3 STAY LEN LATE
      clear hlt
      go_wp2
      go_loopw [11] (fun i wr => ∃ j : Nat, j ≤ L ∧ i = .int .i64 (j : Int) ∧ Hid (Below w3.heap.size w3 wr)) (fun i _ => L - (intOf i).toNat)
      case atStart => exact ⟨0, by omega, rfl, Below.refl _ _⟩
      case round =>
        obtain ⟨j, hj, rfl, BW⟩ := hrel
        have BWW : Hid (Below W.heap.size W wr) := H3.out.bel.trans (BW.out.mono H3.out.bel.size)
        by_cases hjn : j < L
        · clear STAY LEN LATE
          obtain ⟨gd, offd, rfl, -⟩ := HZ.out (by rw [HL.out]; omega)
          have x1 := isZ_at (HZ.out.below BW.out) (j := j) (by rw [HL.out]; exact hjn)
          have hjz : (j : Int) < (L : Int) := by omega
          have CA := Lib.hid (has_s I (nz d j) A k ca wr HN.out (by omega) (HA.out.below BWW.out) (d := true) (decide_eq_true (DUE.out j hjn).1))
          have CB := Lib.hid (WH.out wr BWW.out (nz d j))
          have hle : ¬ now < Qu.wh I D k (nz d j) := by have := (DUE.out j hjn).2; omega
          have OR := Lib.hid (ORD.out j hjn)
          clear ORD DUE
          go_wp2_with fail
          refine CA.out.mono ?_
          rintro e u1 ⟨rfl, rfl⟩
          clear CA
          go_wp2_with fail
          refine CB.out.mono ?_
          rintro e u2 ⟨rfl, rfl⟩
          clear CB
          by_cases h0 : j = 0
          · subst h0
            go_wp2
            go_roundw
            case rel => exact ⟨1, by omega, by go_num, BW⟩
            case measure => simp [intOf]; omega
          · have hj0 : (j == 0) = false := by simpa using h0
            have hjz0 : ¬ (j : Int) = 0 := by omega
            have hw : IntKind.i64.wrap ((j : Int) - 1) = (j : Int) - 1 := by rw [IntKind.wrap_i64]; omega
            have hb1 : (0 : Int) ≤ (j : Int) - 1 := by omega
            have hb2 : (j : Int) - 1 < (L : Int) := by omega
            have htn : ((j : Int) - 1).toNat = j - 1 := by omega
            have hw2 : wrap64 ((j : Int) - 1) = (j : Int) - 1 := by unfold wrap64; omega
            have f1 : (1 : Int) ≤ (j : Int) := by omega
            have f2 : 1 ≤ j := by omega
            have f3 : 0 < j := by omega
            have f5 : (j : Int) < (L : Int) + 1 := by omega
            have f6 : ¬ ((j : Int) - 1 < 0) := by omega
            have f7 : ¬ ((L : Int) ≤ (j : Int) - 1) := by omega
            have f8 : j - 1 < L := by omega
            have x0 := isZ_at (HZ.out.below BW.out) (j := j - 1) (by rw [HL.out]; omega)
            have NW : Hid (∀ q, Below w3.heap.size w3 (u2.drewN q)) := fun q => below_drewN BW.out q
            rcases OR.out (by omega) with hq | ⟨hq, hq2⟩
            · have q1 : ¬ Qu.wh I D k (nz d j) < Qu.wh I D k (nz d (j - 1)) := by omega
              have q2 : (Qu.wh I D k (nz d (j - 1)) == Qu.wh I D k (nz d j)) = false := by simp; omega
              clear OR
              go_wp2_with fail
              go_quiet ((go_at_call 17; exact Calls.quiet_of_same (WH.out _ (below_drewN BWW.out _) _)))
              generalize Qu.wh I D k (nz d j) = b1 at *
              generalize Qu.wh I D k (nz d (j - 1)) = a1 at *
              go_wp2_with fail
              have NX : Below w3.heap.size w3 (u2.drewN nq) := NW.out nq
              have X0 : Hid (∀ V, Below w3.heap.size w3 V → V.cell? ⟨gd, offd + (j - 1), none⟩ = some (.int .i64 (nz d (j - 1))) ∧ V.cell? ⟨gd, offd + j, none⟩ = some (.int .i64 (nz d j))) := fun V hV => ⟨isZ_at (HZ.out.below hV) (j := j - 1) (by rw [HL.out]; omega), isZ_at (HZ.out.below hV) (j := j) (by rw [HL.out]; exact hjn)⟩
              generalize u2.drewN nq = wq at *
              have NR : Hid (Below w3.heap.size w3 wq.drew) := NX.drew
              refine wp_region_held_drew (S := fun V => Below w3.heap.size w3 V) (by kernel_rfl) NX.drew (fun hHeld => ?_)
              refine held_take 0 93 (v := (.int .u64 a1)) rfl rfl (by kernel_rfl) (by kernel_rfl) (by kernel_rfl) (by rfl) (fun _ _ _ h => h) (by assumption) ?_ ?_
              · intro W hW
                go_simp
              simp only [List.setIfInBounds_toArray, List.set_cons_zero, List.set_cons_succ]
              refine held_take 1 94 (v := (.int .u64 b1)) rfl rfl (by kernel_rfl) (by kernel_rfl) (by kernel_rfl) (by rfl) (fun _ _ _ h => h) (by assumption) ?_ ?_
              · intro W hW
                go_simp
              simp only [List.setIfInBounds_toArray, List.set_cons_zero, List.set_cons_succ]
              refine held_take 2 95 (v := (.bool false)) rfl rfl (by kernel_rfl) (by kernel_rfl) (by kernel_rfl) (by rfl) (fun _ _ _ h => h) (by assumption) ?_ ?_
              · intro W hW
                go_simp
              simp only [List.setIfInBounds_toArray, List.set_cons_zero, List.set_cons_succ]
              refine held_take 3 96 (v := (.bool false)) rfl rfl (by kernel_rfl) (by kernel_rfl) (by kernel_rfl) (by rfl) (fun _ _ _ h => h) (by assumption) ?_ ?_
              · intro W hW
                go_simp
              simp only [List.setIfInBounds_toArray, List.set_cons_zero, List.set_cons_succ]
              refine held_take 4 97 (v := (.int .u64 a1)) rfl rfl (by kernel_rfl) (by kernel_rfl) (by kernel_rfl) (by rfl) (fun _ _ _ h => h) (by assumption) ?_ ?_
              · intro W hW
                go_simp
              simp only [List.setIfInBounds_toArray, List.set_cons_zero, List.set_cons_succ]
              refine held_take 5 98 (v := (.int .u64 b1)) rfl rfl (by kernel_rfl) (by kernel_rfl) (by kernel_rfl) (by rfl) (fun _ _ _ h => h) (by assumption) ?_ ?_
              · intro W hW
                go_simp
              simp only [List.setIfInBounds_toArray, List.set_cons_zero, List.set_cons_succ]
              refine held_take 6 99 (v := (.bool false)) rfl rfl (by kernel_rfl) (by kernel_rfl) (by kernel_rfl) (by rfl) (fun _ _ _ h => h) (by assumption) ?_ ?_
              · intro W hW
                go_simp
              simp only [List.setIfInBounds_toArray, List.set_cons_zero, List.set_cons_succ]
              refine held_take 7 100 (v := (.bool false)) rfl rfl (by kernel_rfl) (by kernel_rfl) (by kernel_rfl) (by rfl) (fun _ _ _ h => h) (by assumption) ?_ ?_
              · intro W hW
                go_simp
              simp only [List.setIfInBounds_toArray, List.set_cons_zero, List.set_cons_succ]
              refine held_skip 8 101 rfl rfl (by kernel_rfl) (by kernel_rfl) (by kernel_rfl) (by rfl) (fun _ _ _ h => h) (by assumption) ?_
              simp only [List.setIfInBounds_toArray, List.set_cons_zero, List.set_cons_succ]
              refine held_skip 9 102 rfl rfl (by kernel_rfl) (by kernel_rfl) (by kernel_rfl) (by rfl) (fun _ _ _ h => h) (by assumption) ?_
              simp only [List.setIfInBounds_toArray, List.set_cons_zero, List.set_cons_succ]
              refine held_skip 10 103 rfl rfl (by kernel_rfl) (by kernel_rfl) (by kernel_rfl) (by rfl) (fun _ _ _ h => h) (by assumption) ?_
              simp only [List.setIfInBounds_toArray, List.set_cons_zero, List.set_cons_succ]
              refine held_skip 11 104 rfl rfl (by kernel_rfl) (by kernel_rfl) (by kernel_rfl) (by rfl) (fun _ _ _ h => h) (by assumption) ?_
              simp only [List.setIfInBounds_toArray, List.set_cons_zero, List.set_cons_succ]
              refine held_skip 12 105 rfl rfl (by kernel_rfl) (by kernel_rfl) (by kernel_rfl) (by rfl) (fun _ _ _ h => h) (by assumption) ?_
              simp only [List.setIfInBounds_toArray, List.set_cons_zero, List.set_cons_succ]
              refine held_skip 13 106 rfl rfl (by kernel_rfl) (by kernel_rfl) (by kernel_rfl) (by rfl) (fun _ _ _ h => h) (by assumption) ?_
              simp only [List.setIfInBounds_toArray, List.set_cons_zero, List.set_cons_succ]
              refine held_skip 14 107 rfl rfl (by kernel_rfl) (by kernel_rfl) (by kernel_rfl) (by rfl) (fun _ _ _ h => h) (by assumption) ?_
              simp only [List.setIfInBounds_toArray, List.set_cons_zero, List.set_cons_succ]
              refine held_skip 15 108 rfl rfl (by kernel_rfl) (by kernel_rfl) (by kernel_rfl) (by rfl) (fun _ _ _ h => h) (by assumption) ?_
              simp only [List.setIfInBounds_toArray, List.set_cons_zero, List.set_cons_succ]
              refine held_skip 16 109 rfl rfl (by kernel_rfl) (by kernel_rfl) (by kernel_rfl) (by rfl) (fun _ _ _ h => h) (by assumption) ?_
              simp only [List.setIfInBounds_toArray, List.set_cons_zero, List.set_cons_succ]
              refine held_skip 17 110 rfl rfl (by kernel_rfl) (by kernel_rfl) (by kernel_rfl) (by rfl) (fun _ _ _ h => h) (by assumption) ?_
              simp only [List.setIfInBounds_toArray, List.set_cons_zero, List.set_cons_succ]
              refine held_take 18 111 (v := (.bool false)) rfl rfl (by kernel_rfl) (by kernel_rfl) (by kernel_rfl) (by rfl) (fun _ _ _ h => h) (by assumption) ?_ ?_
              · intro W hW
                go_simp
              simp only [List.setIfInBounds_toArray, List.set_cons_zero, List.set_cons_succ]
              refine held_take 19 112 (v := (.bool false)) rfl rfl (by kernel_rfl) (by kernel_rfl) (by kernel_rfl) (by rfl) (fun _ _ _ h => h) (by assumption) ?_ ?_
              · intro W hW
                go_simp
              simp only [List.setIfInBounds_toArray, List.set_cons_zero, List.set_cons_succ]
              refine wpAnyH_done (by kernel_rfl) ?_ _
              go_wp2
              go_roundw
              case rel => exact ⟨j + 1, by omega, by go_num, NR⟩
              case measure => simp [intOf]; omega
            · have q3 : ¬ nz d j ≤ nz d (j - 1) := by omega
              clear OR
              go_wp2_with fail
              go_quiet ((go_at_call 17; exact Calls.quiet_of_same (WH.out _ (below_drewN BWW.out _) _)))
              rw [hq]
              clear hq
              generalize Qu.wh I D k (nz d j) = b1 at *
              go_wp2_with fail
              have NX : Below w3.heap.size w3 (u2.drewN nq) := NW.out nq
              have X0 : Hid (∀ V, Below w3.heap.size w3 V → V.cell? ⟨gd, offd + (j - 1), none⟩ = some (.int .i64 (nz d (j - 1))) ∧ V.cell? ⟨gd, offd + j, none⟩ = some (.int .i64 (nz d j))) := fun V hV => ⟨isZ_at (HZ.out.below hV) (j := j - 1) (by rw [HL.out]; omega), isZ_at (HZ.out.below hV) (j := j) (by rw [HL.out]; exact hjn)⟩
              generalize u2.drewN nq = wq at *
              have NR : Hid (Below w3.heap.size w3 wq.drew) := NX.drew
              refine wp_region_held_drew (S := fun V => Below w3.heap.size w3 V) (by kernel_rfl) NX.drew (fun hHeld => ?_)
              refine held_take 0 93 (v := (.int .u64 b1)) rfl rfl (by kernel_rfl) (by kernel_rfl) (by kernel_rfl) (by rfl) (fun _ _ _ h => h) (by assumption) ?_ ?_
              · intro W hW
                go_simp
              simp only [List.setIfInBounds_toArray, List.set_cons_zero, List.set_cons_succ]
              refine held_take 1 94 (v := (.int .u64 b1)) rfl rfl (by kernel_rfl) (by kernel_rfl) (by kernel_rfl) (by rfl) (fun _ _ _ h => h) (by assumption) ?_ ?_
              · intro W hW
                go_simp
              simp only [List.setIfInBounds_toArray, List.set_cons_zero, List.set_cons_succ]
              refine held_take 2 95 (v := (.bool false)) rfl rfl (by kernel_rfl) (by kernel_rfl) (by kernel_rfl) (by rfl) (fun _ _ _ h => h) (by assumption) ?_ ?_
              · intro W hW
                go_simp
              simp only [List.setIfInBounds_toArray, List.set_cons_zero, List.set_cons_succ]
              refine held_take 3 96 (v := (.bool false)) rfl rfl (by kernel_rfl) (by kernel_rfl) (by kernel_rfl) (by rfl) (fun _ _ _ h => h) (by assumption) ?_ ?_
              · intro W hW
                go_simp
              simp only [List.setIfInBounds_toArray, List.set_cons_zero, List.set_cons_succ]
              refine held_take 4 97 (v := (.int .u64 b1)) rfl rfl (by kernel_rfl) (by kernel_rfl) (by kernel_rfl) (by rfl) (fun _ _ _ h => h) (by assumption) ?_ ?_
              · intro W hW
                go_simp
              simp only [List.setIfInBounds_toArray, List.set_cons_zero, List.set_cons_succ]
              refine held_take 5 98 (v := (.int .u64 b1)) rfl rfl (by kernel_rfl) (by kernel_rfl) (by kernel_rfl) (by rfl) (fun _ _ _ h => h) (by assumption) ?_ ?_
              · intro W hW
                go_simp
              simp only [List.setIfInBounds_toArray, List.set_cons_zero, List.set_cons_succ]
              refine held_take 6 99 (v := (.bool true)) rfl rfl (by kernel_rfl) (by kernel_rfl) (by kernel_rfl) (by rfl) (fun _ _ _ h => h) (by assumption) ?_ ?_
              · intro W hW
                go_simp
              simp only [List.setIfInBounds_toArray, List.set_cons_zero, List.set_cons_succ]
              refine held_take 7 100 (v := (.bool true)) rfl rfl (by kernel_rfl) (by kernel_rfl) (by kernel_rfl) (by rfl) (fun _ _ _ h => h) (by assumption) ?_ ?_
              · intro W hW
                go_simp
              simp only [List.setIfInBounds_toArray, List.set_cons_zero, List.set_cons_succ]
              refine held_take 8 101 (v := (.slice (some ⟨gd, offd, none⟩) L c3)) rfl rfl (by kernel_rfl) (by kernel_rfl) (by kernel_rfl) (by rfl) (fun _ _ _ h => h) (by assumption) ?_ ?_
              · intro W hW
                go_simp
              simp only [List.setIfInBounds_toArray, List.set_cons_zero, List.set_cons_succ]
              refine held_take 9 102 (v := (.int .i64 (j : Int))) rfl rfl (by kernel_rfl) (by kernel_rfl) (by kernel_rfl) (by rfl) (fun _ _ _ h => h) (by assumption) ?_ ?_
              · intro W hW
                go_simp
              simp only [List.setIfInBounds_toArray, List.set_cons_zero, List.set_cons_succ]
              refine held_take 10 103 (v := (.int .i64 ((j : Int) - 1))) rfl rfl (by kernel_rfl) (by kernel_rfl) (by kernel_rfl) (by rfl) (fun _ _ _ h => h) (by assumption) ?_ ?_
              · intro W hW
                go_simp
              simp only [List.setIfInBounds_toArray, List.set_cons_zero, List.set_cons_succ]
              refine held_take 11 104 (v := (.pointer (some ⟨gd, offd + (j - 1), none⟩))) rfl rfl (by kernel_rfl) (by kernel_rfl) (by kernel_rfl) (by rfl) (fun _ _ _ h => h) (by assumption) ?_ ?_
              · intro W hW
                go_simp
              simp only [List.setIfInBounds_toArray, List.set_cons_zero, List.set_cons_succ]
              refine held_take 12 105 (v := (.int .i64 (nz d (j - 1)))) rfl rfl (by kernel_rfl) (by kernel_rfl) (by kernel_rfl) (by rfl) (fun _ _ _ h => h) (by assumption) ?_ ?_
              · intro W hW
                obtain ⟨k0, k1⟩ := X0.out W hW
                go_simp
              simp only [List.setIfInBounds_toArray, List.set_cons_zero, List.set_cons_succ]
              refine held_take 13 106 (v := (.slice (some ⟨gd, offd, none⟩) L c3)) rfl rfl (by kernel_rfl) (by kernel_rfl) (by kernel_rfl) (by rfl) (fun _ _ _ h => h) (by assumption) ?_ ?_
              · intro W hW
                go_simp
              simp only [List.setIfInBounds_toArray, List.set_cons_zero, List.set_cons_succ]
              refine held_take 14 107 (v := (.int .i64 (j : Int))) rfl rfl (by kernel_rfl) (by kernel_rfl) (by kernel_rfl) (by rfl) (fun _ _ _ h => h) (by assumption) ?_ ?_
              · intro W hW
                go_simp
              simp only [List.setIfInBounds_toArray, List.set_cons_zero, List.set_cons_succ]
              refine held_take 15 108 (v := (.pointer (some ⟨gd, offd + j, none⟩))) rfl rfl (by kernel_rfl) (by kernel_rfl) (by kernel_rfl) (by rfl) (fun _ _ _ h => h) (by assumption) ?_ ?_
              · intro W hW
                go_simp
              simp only [List.setIfInBounds_toArray, List.set_cons_zero, List.set_cons_succ]
              refine held_take 16 109 (v := (.int .i64 (nz d j))) rfl rfl (by kernel_rfl) (by kernel_rfl) (by kernel_rfl) (by rfl) (fun _ _ _ h => h) (by assumption) ?_ ?_
              · intro W hW
                obtain ⟨k0, k1⟩ := X0.out W hW
                go_simp
              simp only [List.setIfInBounds_toArray, List.set_cons_zero, List.set_cons_succ]
              refine held_take 17 110 (v := (.bool false)) rfl rfl (by kernel_rfl) (by kernel_rfl) (by kernel_rfl) (by rfl) (fun _ _ _ h => h) (by assumption) ?_ ?_
              · intro W hW
                go_simp
              simp only [List.setIfInBounds_toArray, List.set_cons_zero, List.set_cons_succ]
              refine held_take 18 111 (v := (.bool false)) rfl rfl (by kernel_rfl) (by kernel_rfl) (by kernel_rfl) (by rfl) (fun _ _ _ h => h) (by assumption) ?_ ?_
              · intro W hW
                go_simp
              simp only [List.setIfInBounds_toArray, List.set_cons_zero, List.set_cons_succ]
              refine held_take 19 112 (v := (.bool false)) rfl rfl (by kernel_rfl) (by kernel_rfl) (by kernel_rfl) (by rfl) (fun _ _ _ h => h) (by assumption) ?_ ?_
              · intro W hW
                go_simp
              simp only [List.setIfInBounds_toArray, List.set_cons_zero, List.set_cons_succ]
              refine wpAnyH_done (by kernel_rfl) ?_ _
              go_wp2
              go_roundw
              case rel => exact ⟨j + 1, by omega, by go_num, NR⟩
              case measure => simp [intOf]; omega
        · obtain rfl : j = L := by omega
          have hjz : ¬ (j : Int) < (j : Int) := by omega
          have BE : Hid (Below W.heap.size W w3) := H3.out.bel
          clear DUE ORD
          have hlw : IntKind.i64.wrap ((l.length : Int) - (j : Int)) = (lt.length : Int) := by have := LEN.out.1; have := H3.out.at_.sm; rw [IntKind.wrap_i64]; omega
          go_wp2
          go_loopw [14] (fun i wr => ∃ m : Nat, m ≤ k ∧ i = .int .i64 (m : Int) ∧ Hid (Below w3.heap.size w3 wr)) (fun i _ => k - (intOf i).toNat)
          case atStart => exact ⟨0, by omega, rfl, BW⟩
          case round =>
            obtain ⟨m, hm, rfl, BZ⟩ := hrel
            clear BW BWW
            have BZW : Hid (Below W.heap.size W wr) := H3.out.bel.trans (BZ.out.mono H3.out.bel.size)
            by_cases hmn : m < k
            · clear LEN LATE
              obtain ⟨gi, offi, rfl, -⟩ := HA.out (by rw [HN.out]; omega)
              have x1 := isZ_at (HA.out.below BZW.out) (j := m) (by rw [HN.out]; exact hmn)
              have hmz : (m : Int) < (k : Int) := by omega
              have HX : Hid (nz I m ∈ I) := by show _ ∈ _; rw [nz_eq (by rw [HN.out]; exact hmn)]; exact List.getElem_mem _
              have ST := Lib.hid (STAY.out _ HX.out)
              have CQ := Lib.hid (qat_any (H3.out.below BZ.out).at_ (nz I m))
              have WB : Hid (∀ V, Below wr.heap.size wr V → Below w3.heap.size w3 V ∧ V.cell? ⟨gi, offi + m, none⟩ = some (.int .i64 (nz I m)) ∧
                  (Calls Try.prog 16 #[.slice A3 j c3, .int .i64 (nz I m)] V fun e w' => e = .returned (.bool (decide (nz I m ∈ d))) ∧ w' = V) ∧
                  (Calls Try.prog 17 #[.slice (some ⟨gi, offi, none⟩) k ca, .slice B M cb, .int .i64 (nz I m)] V fun e w' => e = .returned (.int .u64 (Qu.wh I D k (nz I m))) ∧ w' = V)) := fun V hV => by
                have h3 := BZ.out.trans (hV.mono BZ.out.size)
                have h4 : Below W.heap.size W V := H3.out.bel.trans (h3.mono H3.out.bel.size)
                exact ⟨h3, isZ_at (HA.out.below h4) (j := m) (by rw [HN.out]; exact hmn), has_s d (nz I m) A3 j c3 V HL.out (by omega) (HZ.out.below h3) rfl, WH.out V h4 _⟩
              clear STAY HX
              go_wp2_with fail
              refine CQ.out.mono ?_
              rintro e w5 ⟨rfl, b5⟩
              obtain ⟨b6, x2, ch, cw⟩ := WB.out w5 b5
              have CH := Lib.hid ch
              have CW := Lib.hid cw
              have R := Lib.hid b6
              clear CQ WB ch cw b5 b6 x1
              cases hd : decide (nz I m ∈ d) with
              | true =>
                have e1 : Qu.has (nz I m) lt = false := by rw [ST.out.1, hd]; rfl
                rw [hd] at CH
                rw [e1]
                clear ST hd e1 CW
                generalize Qu.dueAt (nz I m) lt = dd at *
                generalize nz I m = x at *
                go_wp2_with fail
                refine CH.out.mono ?_
                rintro e w6 ⟨rfl, rfl⟩
                clear CH
                go_wp2
                go_roundw
                case rel => exact ⟨m + 1, by omega, by go_num, R⟩
                case measure => simp [intOf]; omega
              | false =>
                have e1 : Qu.has (nz I m) lt = true := by rw [ST.out.1, hd]; rfl
                obtain ⟨e2, e3⟩ := ST.out.2 e1
                rw [hd] at CH
                rw [e1, e2]
                clear ST hd e1 e2
                generalize Qu.wh I D k (nz I m) = dd at *
                generalize nz I m = x at *
                have e4 : ¬ dd ≤ now := by omega
                go_wp2_with fail
                refine CH.out.mono ?_
                rintro e w6 ⟨rfl, rfl⟩
                clear CH
                go_wp2_with fail
                refine CW.out.mono ?_
                rintro e w7 ⟨rfl, rfl⟩
                clear CW
                go_wp2
                go_roundw
                case rel => exact ⟨m + 1, by omega, by go_num, R⟩
                case measure => simp [intOf]; omega
            · obtain rfl : m = k := by omega
              have hmz : ¬ (m : Int) < (m : Int) := by omega
              have h4 := H3.out.below BZ.out
              have C4 := Lib.hid (qlen_any h4.at_)
              have C5 := Lib.hid (qdue_s h4 now (l' := lt) (r := []) (by rw [LATE.out.1]; rfl) LATE.out.2)
              clear STAY LATE WH HA HB HZ h4
              generalize lt.length = q at *
              generalize l.length = p at *
              go_wp2_with fail
              refine C4.out.mono ?_
              rintro e w5 ⟨rfl, rfl⟩
              clear C4
              go_wp2_with fail
              refine C5.out.mono ?_
              rintro e w6 ⟨A6, c6, v6, rfl, -, h6⟩
              have BL := Lib.hid h6.bel
              have C6 := Lib.hid (runs13_any w6)
              clear C5 h6
              go_wp2_with fail
              refine C6.out.mono ?_
              rintro e w7 ⟨rfl, b7⟩
              have R := Lib.hid (BL.out.trans (b7.mono BL.out.size))
              clear C6 b7
              go_wp2
              go_ret
              exact ⟨rfl, R.out⟩
end Go.Proofs.Ytlbhiiciajfphaa
