/-
  LabelsTurned as a contract: true, whatever the arguments. Conditions: the slice is as a machine has it.
-/
import Derived.Test.YtbfpcolbkfcanaaNg
import Derived.BigRegion
import Derived.Lib.QuietBelow
namespace Go.Proofs.Ytbfpcolbkfcanaa
open Go.RowKit La Go.Sort

set_option maxRecDepth 100000 in
set_option maxHeartbeats 8000000 in
theorem turned_law (ls : List Lab) (z : Int) (A : Option Addr) (cap : Nat) (w : World) (hcap : ls.length ≤ cap) (hA : A = none → cap = 0) (ha : IsLabs w A ls) :
    Calls Try.prog 6 #[.slice A ls.length cap, .int .i64 z] w fun e w' => e = .returned (.bool true) ∧ Below w.heap.size w w' := by
  have RU := Lib.hid (fun W => runs_any W)
  have CW := Lib.hid (weight_any ls A cap w ha)
  have HA := Lib.hid (fun W (hW : Below w.heap.size w W) => ha.below hW)
  have HA0 := Lib.hid hA
  have CM0 := Lib.hid (fun W (h : Few ls) hW => make_any ls A cap W (by have := h.1; omega) h.small hA (HA.out W hW))
  have MU := Lib.hid (fun r s => mk_unique (ls := ls) (r := r) (s := s))
  have mixed : Try.prog.follows .mixedOrders = true := by kernel_rfl
  clear ha hA
  obtain ⟨N, hN⟩ : ∃ N, ls.length = N := ⟨_, rfl⟩
  rw [hN] at hcap CW CM0 ⊢
  have HN := Lib.hid hN
  clear hN
  go_enter Try.func6, Try.ntmps6
  go_wp2_with fail
  refine CW.out.mono ?_
  rintro e w1 ⟨⟨rr, rfl, hr⟩, b1⟩
  have HR := Lib.hid hr
  clear CW hr
  by_cases hr3 : 300 < rr
  · have hrd : decide ((rr : Int) > 300) = true := decide_eq_true (by omega)
    go_wp2_with fail
    refine (RU.out _).mono ?_
    rintro e w' ⟨rfl, b⟩
    have B := Lib.hid (b1.trans (b.mono b1.size))
    clear b RU b1
    go_wp2
    go_ret
    exact ⟨rfl, B.out⟩
  have hrd : decide ((rr : Int) > 300) = false := decide_eq_false (by omega)
  have HF := Lib.hid (HR.out (by omega))
  have hN3 : N ≤ 300 := by have := HF.out.1; rw [HN.out] at this; exact this
  have SM := Lib.hid HF.out.small
  have CM := Lib.hid (fun W hW => CM0.out W HF.out hW)
  have B1 := Lib.hid b1
  obtain ⟨H, hH⟩ : ∃ H, N / 2 = H := ⟨_, rfl⟩
  have hqz : IntKind.i64.wrap ((N : Int).tdiv 2) = (H : Int) := by
    rw [IntKind.wrap_i64, Int.tdiv_eq_ediv_of_nonneg (by omega)]; omega
  clear HR HF CM0 b1
  by_cases hz0 : z < 0
  · obtain ⟨p, hp⟩ : ∃ p : Nat, p = 0 := ⟨_, rfl⟩
    have hpN : p ≤ N := by omega
    obtain ⟨A1, A0, S1, i1, n1, S0, i0, n0⟩ := cut_labs (A := A) (cap := cap) (p := p) HN.out hpN hcap HA0.out
    have I1 := Lib.hid i1
    have I0 := Lib.hid i0
    have N1 := Lib.hid n1
    have N0 := Lib.hid n0
    clear i1 n1 i0 n0
    have e1 : ∀ {W : World}, Below w1.heap.size w1 W → Below w.heap.size w W := fun h => B1.out.trans (h.mono B1.out.size)
    have hpz : (p : Int) = 0 := by omega
    simp only [hpz] at S1 S0
    clear hpz hp
    go_wp2_with fail
    refine wp_region_held_drew (S := fun W => Below w1.heap.size w1 W) (by kernel_rfl) ((Below.refl _ _).drew) (fun hHeld => ?_)
    refine held_take 0 24 (v := (.slice A N cap)) rfl rfl (by kernel_rfl) (by kernel_rfl) (by kernel_rfl) (by rfl) (fun _ _ _ h => h) (by assumption) ?_ ?_
    · intro W hW
      go_simp
    simp only [List.setIfInBounds_toArray, List.set_cons_zero, List.set_cons_succ]
    refine held_take 1 25 (v := (.int .i64 0)) rfl rfl (by kernel_rfl) (by kernel_rfl) (by kernel_rfl) (by rfl) (fun _ _ _ h => h) (by assumption) ?_ ?_
    · intro W hW
      go_simp
    simp only [List.setIfInBounds_toArray, List.set_cons_zero, List.set_cons_succ]
    refine held_take 2 26 (v := (.slice A1 (N - p) (cap - p))) rfl rfl (by kernel_rfl) (by kernel_rfl) (by kernel_rfl) (by rfl) (fun _ _ _ h => h) (by assumption) ?_ ?_
    · intro W hW
      have sl := S1 W
      go_simp
    simp only [List.setIfInBounds_toArray, List.set_cons_zero, List.set_cons_succ]
    refine held_take 4 28 (v := (.slice A N cap)) rfl rfl (by kernel_rfl) (by kernel_rfl) (by kernel_rfl) (by rfl) (fun _ _ _ h => h) (by assumption) ?_ ?_
    · intro W hW
      go_simp
    simp only [List.setIfInBounds_toArray, List.set_cons_zero, List.set_cons_succ]
    refine held_take 5 29 (v := (.int .i64 0)) rfl rfl (by kernel_rfl) (by kernel_rfl) (by kernel_rfl) (by rfl) (fun _ _ _ h => h) (by assumption) ?_ ?_
    · intro W hW
      go_simp
    simp only [List.setIfInBounds_toArray, List.set_cons_zero, List.set_cons_succ]
    refine held_take 6 30 (v := (.slice A0 p cap)) rfl rfl (by kernel_rfl) (by kernel_rfl) (by kernel_rfl) (by rfl) (fun _ _ _ h => h) (by assumption) ?_ ?_
    · intro W hW
      have sl := S0 W
      go_simp
    simp only [List.setIfInBounds_toArray, List.set_cons_zero, List.set_cons_succ]
    refine held_op 3 rfl (by kernel_rfl) (by rfl) ?_
    refine wp_appL (.const (.slice none 0 0)) (.tmp 26) rfl w1.heap.size (.slice none 0 0) 0 [] rfl (World.ownsRow_nil _ _ _ _) A1 (N - p) (cap - p) (ls.drop p) rfl (by rw [List.length_drop, HN.out]) N1.out (I1.out w1.drew (HA.out w1.drew (e1 (Below.refl _ _).drew))) (by omega) (Nat.le_refl _) ?_
    intro v2 w2 o2 g2
    have d2 : Below w1.heap.size w1 w2 := ((Below.refl _ _).drew).grown g2 (Nat.le_refl _) (fun _ h => by cases h)
    refine ⟨d2, ?_⟩
    show wpAnyH _ _ _ _ _ _ _ ⟨Array.setIfInBounds _ 27 v2, _⟩ _
    simp only [List.setIfInBounds_toArray, List.set_cons_zero, List.set_cons_succ]
    refine held_op 7 rfl (by kernel_rfl) (by rfl) ?_
    refine wp_appL (.tmp 27) (.tmp 30) rfl w1.heap.size v2 (0 + (N - p)) ([] ++ ls.drop p) rfl o2 A0 p cap (ls.take p) rfl (by rw [List.length_take, HN.out]; omega) N0.out (I0.out w2 (HA.out w2 (e1 d2))) (by omega) d2.size ?_
    intro v3 w3 o3 g3
    have d3 : Below w1.heap.size w1 w3 := d2.grown g3 d2.size (own_geL o2)
    refine ⟨d3, ?_⟩
    show wpAnyH _ _ _ _ _ _ _ ⟨Array.setIfInBounds _ 31 v3, _⟩ _
    simp only [List.setIfInBounds_toArray, List.set_cons_zero, List.set_cons_succ]
    have o3' : w3.ownsRow w1.heap.size 23 2 v3 N (lc (ls.drop p ++ ls.take p)) := by
      have e : 0 + (N - p) + p = N := by omega
      rw [e, List.nil_append] at o3
      exact o3
    have OR : Hid (∃ r : List Lab, r.length = N ∧ r.Perm ls ∧ w3.ownsRow w1.heap.size 23 2 v3 N (lc r) ∧ Below w1.heap.size w1 w3) := ⟨ls.drop p ++ ls.take p, by rw [List.length_append, List.length_drop, List.length_take, HN.out]; omega, by
      refine List.perm_append_comm.trans ?_
      rw [List.take_append_drop], o3', d3⟩
    clear o2 o3 o3' g2 g3 d2
    refine held_take 8 5 (v := v3) rfl rfl (by kernel_rfl) (by kernel_rfl) (by kernel_rfl) (by rfl) (fun _ _ _ h => h) (by assumption) ?_ ?_
    · intro W hW
      go_simp
    simp only [List.setIfInBounds_toArray, List.set_cons_zero, List.set_cons_succ]
    refine wpAnyH_done (by kernel_rfl) ?_ _
    clear d3 hHeld S1 S0
    clear I1 I0 N1 N0
    go_wp2
    go_loopw [6] (fun i wr => ∃ k : Nat, k ≤ N ∧ i = .int .i64 (k : Int) ∧ Hid (∃ r : List Lab, r.length = N ∧ r.Perm ls ∧ wr.ownsRow w1.heap.size 23 2 v3 N (lc r) ∧ Below w1.heap.size w1 wr)) (fun i _ => N - (intOf i).toNat)
    case atStart => exact ⟨0, by omega, rfl, OR⟩
    case round =>
      clear OR
      obtain ⟨k, hk, rfl, HI⟩ := hrel
      obtain ⟨r, hrl, hrp, ro, rb⟩ := HI.out
      clear HI
      by_cases hlt : k < H
      · have hltz : (k : Int) < (H : Int) := by omega
        rcases ro.2 with ⟨_, e0⟩ | ⟨B, c, cur, rfl, _⟩
        · omega
        obtain ⟨j, hj⟩ : ∃ j, j + k + 1 = N := ⟨N - 1 - k, by omega⟩
        have hw1 : IntKind.i64.wrap ((N : Int) - 1) = (N : Int) - 1 := by rw [IntKind.wrap_i64]; omega
        have hw2 : IntKind.i64.wrap ((N : Int) - 1 - (k : Int)) = (j : Int) := by rw [IntKind.wrap_i64]; omega
        have hkN : (k : Int) < (N : Int) := by omega
        have hjN : (j : Int) < (N : Int) := by omega
        obtain ⟨ck1, ck2⟩ := row_cells ro k (by omega)
        obtain ⟨cj1, cj2⟩ := row_cells ro j (by omega)
        have f1 := ro.frozenAt (g := B) (k * 2)
        have f2 := ro.frozenAt (g := B) (k * 2 + 1)
        have f3 := ro.frozenAt (g := B) (j * 2)
        have f4 := ro.frozenAt (g := B) (j * 2 + 1)
        have SW := Lib.hid (swap_row ro hrl hrp rb rb.size k j (by omega) (by omega))
        have hne : j ≠ k := by omega
        clear ro rb hrp
        generalize (nth r k).1 = x1 at *
        generalize (nth r k).2 = x2 at *
        generalize (nth r j).1 = y1 at *
        generalize (nth r j).2 = y2 at *
        go_wp2_with fail
        go_region
        generalize ((((wr.setCell ⟨B, k * 2, none⟩ (.string y1)).setCell ⟨B, k * 2 + 1, none⟩ (.string y2)).setCell ⟨B, j * 2, none⟩ (.string x1)).setCell ⟨B, j * 2 + 1, none⟩ (.string x2)).drew = w5 at *
        clear ck1 ck2 cj1 cj2 f1 f2 f3 f4 hw1 hw2
        go_wp2
        go_roundw
        case rel =>
          obtain ⟨r', q1, q2, q3, q4, _⟩ := SW.out
          exact ⟨k + 1, by omega, by go_num, r', q1, q2, q3, q4⟩
        case measure => simp [intOf]; omega
      · have hltz : ¬ (k : Int) < (H : Int) := by omega
        have dW := e1 rb
        obtain ⟨A5, c5, rfl, _, hA5, i5, _⟩ := own_formL ro
        have HP := Lib.hid hrp
        have CM2 := Lib.hid (fun W (hW : Below wr.heap.size wr W) => make_any r A5 c5 W (by omega) (fun x hx => SM.out x (hrp.mem_iff.1 hx)) hA5 (i5.below hW))
        rw [hrl] at CM2
        clear ro hA5 i5 hrp hrl rb hqz
        go_wp2_with fail
        refine (CM.out wr dW).mono ?_
        rintro e w6 ⟨⟨o, r6, v6, m6, rfl, q6⟩, b6⟩
        have d6 := dW.trans (b6.mono dW.size)
        have M6 := Lib.hid m6
        clear m6 CM
        cases o with
        | none =>
          obtain rfl := q6
          go_wp2_with fail
          refine (CM2.out w6 b6).mono ?_
          rintro e w7 ⟨⟨o7, r7, v7, m7, rfl, q7⟩, b7⟩
          obtain rfl := MU.out _ _ M6.out (mk_perm HP.out m7)
          obtain rfl := q7
          have d7 := d6.trans (b7.mono d6.size)
          clear m7 b7 d6 b6 dW CM2
          have SL := Lib.hid (samelabs_any [] [] none none 0 0 w7 (by simp) (by simp) (fun h => by simp at h) (fun h => by simp at h))
          simp only [List.length_nil] at SL
          go_wp2_with fail
          refine SL.out.mono ?_
          rintro e w8 ⟨rfl, b8⟩
          have d8 := d7.trans (b8.mono d7.size)
          clear b8 SL d7
          go_wp2
          refine wp_loop_rounds 1 ?_
          rw [rounds_succ]
          by_cases hN0 : (0 : Int) < (N : Int)
          · go_wp2_with fail
            refine (RU.out _).mono ?_
            rintro e w' ⟨rfl, b⟩
            have B := Lib.hid (d8.trans (b.mono d8.size))
            clear b RU d8
            go_wp2
            go_ret
            exact ⟨rfl, B.out⟩
          · go_wp2_with fail
            refine (RU.out _).mono ?_
            rintro e w' ⟨rfl, b⟩
            have B := Lib.hid (d8.trans (b.mono d8.size))
            clear b RU d8
            go_wp2
            go_ret
            exact ⟨rfl, B.out⟩
        | some s =>
          obtain ⟨rfl, o6⟩ := q6
          go_wp2_with fail
          refine (CM2.out w6 b6).mono ?_
          rintro e w7 ⟨⟨o7, r7, v7, m7, rfl, q7⟩, b7⟩
          obtain rfl := MU.out _ _ M6.out (mk_perm HP.out m7)
          obtain ⟨rfl, o7⟩ := q7
          have d7 := d6.trans (b7.mono d6.size)
          obtain ⟨A6, c6, rfl, _, _, i6, _⟩ := own_formL (own_keepL o6 b7)
          obtain ⟨A7, c7, rfl, _, _, i7, _⟩ := own_formL o7
          have hsl : s.length = N := by have := M6.out.1.length_eq; rw [HN.out] at this; exact this
          have SL := Lib.hid (samelabs_any s s A6 A7 c6 c7 w7 (by omega) (by omega) i6 i7)
          have dt : decide (s = s) = true := by simp
          have LS := Lib.hid (fun W (hW : Below w7.heap.size w7 W) => i6.below hW)
          have IS := Lib.hid (fun W hW => is_any s A6 c6 W (by omega) (fun x hx => SM.out x (M6.out.1.mem_iff.1 hx)) (LS.out W hW))
          have GT := Lib.hid (fun W n hW => get_labs s n A6 c6 W (by omega) (LS.out W hW))
          rw [dt] at SL
          rw [M6.out.2] at IS
          rw [hsl] at SL IS GT ⊢
          have GV : Hid (∀ j, j < N → getL s (nth ls j).1 = (nth ls j).2) := fun j hj => getL_mem (set_pw M6.out.2) (M6.out.1.mem_iff.2 (nth_mem (by rw [HN.out]; exact hj)))
          clear m7 b7 d6 b6 dW CM2 o6 o7 i6 i7 dt LS hsl
          go_wp2_with fail
          refine SL.out.mono ?_
          rintro e w8 ⟨rfl, b8⟩
          have d8 := d7.trans (b8.mono d7.size)
          clear SL
          have neN : ((N : Int) != (N : Int)) = false := by simp
          go_wp2_with fail
          refine (IS.out w8 b8).mono ?_
          rintro e w9 ⟨rfl, b9⟩
          have h9 := b8.trans (b9.mono b8.size)
          have D7 := Lib.hid d7
          clear b8 b9 IS d7 d8 neN
          go_wp2
          go_loopw [11] (fun i wx => ∃ k : Nat, k ≤ N ∧ i = .int .i64 (k : Int) ∧ Hid (Below w7.heap.size w7 wx)) (fun i _ => N - (intOf i).toNat)
          case atStart => exact ⟨0, by omega, rfl, h9⟩
          case round =>
            obtain ⟨k2, hk2, rfl, HX⟩ := hrel
            by_cases hk2N : k2 < N
            · have hk2z : (k2 : Int) < (N : Int) := by omega
              obtain ⟨b, off, hAe, hcc⟩ := (HA.out wr (D7.out.trans (HX.out.mono D7.out.size))) (by rw [HN.out]; omega)
              obtain ⟨c1, c2⟩ := hcc k2 (by rw [HN.out]; exact hk2N)
              have gv := GV.out k2 hk2N
              clear hcc
              subst hAe
              generalize (nth ls k2).1 = n1 at *
              generalize (nth ls k2).2 = v1 at *
              have cg1 := cell_regrown c1
              have cg2 := cell_regrown c2
              have CG : Hid (∀ d os, Calls Try.prog 19 #[.slice A6 N c6, .string n1] (grow (redrawn wr d) os) fun e w'' => e = .returned (.string v1) ∧ ∃ p : Regrown, w'' = grow (redrawn wr p.d) p.os) := fun d os => Calls.regrown_of (by rw [← gv]; exact GT.out _ n1 (HX.out.trans ((below_regrown wr d os).mono HX.out.size)))
              have BW : Hid (∀ d os, Below w7.heap.size w7 (grow (redrawn wr d) os)) := fun d os => HX.out.trans ((below_regrown wr d os).mono HX.out.size)
              have nev : (v1.toList == v1.toList) = true := by simp
              clear gv HX c1 c2
              go_wp2_with fail
              refine wp_region_quiet_below (by assumption) (by kernel_rfl) ?_
              repeat (quiet_step (exact CG.out _ _))
              refine wpQuiet_nil ?_
              intro _ hw'
              obtain ⟨⟨dq, osq⟩, hw''⟩ := hw'
              subst hw''
              have B3 := Lib.hid (BW.out dq osq)
              clear cg1 cg2 CG BW
              generalize grow (redrawn wr dq) osq = w11 at *
              go_wp2
              go_roundw
              case rel => exact ⟨k2 + 1, by omega, by go_num, B3⟩
              case measure => simp [intOf]; omega
            · obtain rfl : k2 = N := by omega
              have hk2z : ¬ (k2 : Int) < (k2 : Int) := by omega
              have dX := D7.out.trans (HX.out.mono D7.out.size)
              clear HX GT GV
              go_wp2_with fail
              refine (RU.out _).mono ?_
              rintro e w' ⟨rfl, b⟩
              have B := Lib.hid (dX.trans (b.mono dX.size))
              clear b RU dX
              go_wp2
              go_ret
              exact ⟨rfl, B.out⟩
  by_cases hzN : z > (N : Int)
  · obtain ⟨p, hp⟩ : ∃ p : Nat, p = 0 := ⟨_, rfl⟩
    have hpN : p ≤ N := by omega
    have hzd : decide (z > (N : Int)) = true := decide_eq_true hzN
    obtain ⟨A1, A0, S1, i1, n1, S0, i0, n0⟩ := cut_labs (A := A) (cap := cap) (p := p) HN.out hpN hcap HA0.out
    have I1 := Lib.hid i1
    have I0 := Lib.hid i0
    have N1 := Lib.hid n1
    have N0 := Lib.hid n0
    clear i1 n1 i0 n0
    have e1 : ∀ {W : World}, Below w1.heap.size w1 W → Below w.heap.size w W := fun h => B1.out.trans (h.mono B1.out.size)
    have hpz : (p : Int) = 0 := by omega
    simp only [hpz] at S1 S0
    clear hpz hp
    go_wp2_with fail
    refine wp_region_held_drew (S := fun W => Below w1.heap.size w1 W) (by kernel_rfl) ((Below.refl _ _).drew) (fun hHeld => ?_)
    refine held_take 0 24 (v := (.slice A N cap)) rfl rfl (by kernel_rfl) (by kernel_rfl) (by kernel_rfl) (by rfl) (fun _ _ _ h => h) (by assumption) ?_ ?_
    · intro W hW
      go_simp
    simp only [List.setIfInBounds_toArray, List.set_cons_zero, List.set_cons_succ]
    refine held_take 1 25 (v := (.int .i64 0)) rfl rfl (by kernel_rfl) (by kernel_rfl) (by kernel_rfl) (by rfl) (fun _ _ _ h => h) (by assumption) ?_ ?_
    · intro W hW
      go_simp
    simp only [List.setIfInBounds_toArray, List.set_cons_zero, List.set_cons_succ]
    refine held_take 2 26 (v := (.slice A1 (N - p) (cap - p))) rfl rfl (by kernel_rfl) (by kernel_rfl) (by kernel_rfl) (by rfl) (fun _ _ _ h => h) (by assumption) ?_ ?_
    · intro W hW
      have sl := S1 W
      go_simp
    simp only [List.setIfInBounds_toArray, List.set_cons_zero, List.set_cons_succ]
    refine held_take 4 28 (v := (.slice A N cap)) rfl rfl (by kernel_rfl) (by kernel_rfl) (by kernel_rfl) (by rfl) (fun _ _ _ h => h) (by assumption) ?_ ?_
    · intro W hW
      go_simp
    simp only [List.setIfInBounds_toArray, List.set_cons_zero, List.set_cons_succ]
    refine held_take 5 29 (v := (.int .i64 0)) rfl rfl (by kernel_rfl) (by kernel_rfl) (by kernel_rfl) (by rfl) (fun _ _ _ h => h) (by assumption) ?_ ?_
    · intro W hW
      go_simp
    simp only [List.setIfInBounds_toArray, List.set_cons_zero, List.set_cons_succ]
    refine held_take 6 30 (v := (.slice A0 p cap)) rfl rfl (by kernel_rfl) (by kernel_rfl) (by kernel_rfl) (by rfl) (fun _ _ _ h => h) (by assumption) ?_ ?_
    · intro W hW
      have sl := S0 W
      go_simp
    simp only [List.setIfInBounds_toArray, List.set_cons_zero, List.set_cons_succ]
    refine held_op 3 rfl (by kernel_rfl) (by rfl) ?_
    refine wp_appL (.const (.slice none 0 0)) (.tmp 26) rfl w1.heap.size (.slice none 0 0) 0 [] rfl (World.ownsRow_nil _ _ _ _) A1 (N - p) (cap - p) (ls.drop p) rfl (by rw [List.length_drop, HN.out]) N1.out (I1.out w1.drew (HA.out w1.drew (e1 (Below.refl _ _).drew))) (by omega) (Nat.le_refl _) ?_
    intro v2 w2 o2 g2
    have d2 : Below w1.heap.size w1 w2 := ((Below.refl _ _).drew).grown g2 (Nat.le_refl _) (fun _ h => by cases h)
    refine ⟨d2, ?_⟩
    show wpAnyH _ _ _ _ _ _ _ ⟨Array.setIfInBounds _ 27 v2, _⟩ _
    simp only [List.setIfInBounds_toArray, List.set_cons_zero, List.set_cons_succ]
    refine held_op 7 rfl (by kernel_rfl) (by rfl) ?_
    refine wp_appL (.tmp 27) (.tmp 30) rfl w1.heap.size v2 (0 + (N - p)) ([] ++ ls.drop p) rfl o2 A0 p cap (ls.take p) rfl (by rw [List.length_take, HN.out]; omega) N0.out (I0.out w2 (HA.out w2 (e1 d2))) (by omega) d2.size ?_
    intro v3 w3 o3 g3
    have d3 : Below w1.heap.size w1 w3 := d2.grown g3 d2.size (own_geL o2)
    refine ⟨d3, ?_⟩
    show wpAnyH _ _ _ _ _ _ _ ⟨Array.setIfInBounds _ 31 v3, _⟩ _
    simp only [List.setIfInBounds_toArray, List.set_cons_zero, List.set_cons_succ]
    have o3' : w3.ownsRow w1.heap.size 23 2 v3 N (lc (ls.drop p ++ ls.take p)) := by
      have e : 0 + (N - p) + p = N := by omega
      rw [e, List.nil_append] at o3
      exact o3
    have OR : Hid (∃ r : List Lab, r.length = N ∧ r.Perm ls ∧ w3.ownsRow w1.heap.size 23 2 v3 N (lc r) ∧ Below w1.heap.size w1 w3) := ⟨ls.drop p ++ ls.take p, by rw [List.length_append, List.length_drop, List.length_take, HN.out]; omega, by
      refine List.perm_append_comm.trans ?_
      rw [List.take_append_drop], o3', d3⟩
    clear o2 o3 o3' g2 g3 d2
    refine held_take 8 5 (v := v3) rfl rfl (by kernel_rfl) (by kernel_rfl) (by kernel_rfl) (by rfl) (fun _ _ _ h => h) (by assumption) ?_ ?_
    · intro W hW
      go_simp
    simp only [List.setIfInBounds_toArray, List.set_cons_zero, List.set_cons_succ]
    refine wpAnyH_done (by kernel_rfl) ?_ _
    clear d3 hHeld S1 S0
    clear I1 I0 N1 N0
    go_wp2
    go_loopw [6] (fun i wr => ∃ k : Nat, k ≤ N ∧ i = .int .i64 (k : Int) ∧ Hid (∃ r : List Lab, r.length = N ∧ r.Perm ls ∧ wr.ownsRow w1.heap.size 23 2 v3 N (lc r) ∧ Below w1.heap.size w1 wr)) (fun i _ => N - (intOf i).toNat)
    case atStart => exact ⟨0, by omega, rfl, OR⟩
    case round =>
      clear OR
      obtain ⟨k, hk, rfl, HI⟩ := hrel
      obtain ⟨r, hrl, hrp, ro, rb⟩ := HI.out
      clear HI
      by_cases hlt : k < H
      · have hltz : (k : Int) < (H : Int) := by omega
        rcases ro.2 with ⟨_, e0⟩ | ⟨B, c, cur, rfl, _⟩
        · omega
        obtain ⟨j, hj⟩ : ∃ j, j + k + 1 = N := ⟨N - 1 - k, by omega⟩
        have hw1 : IntKind.i64.wrap ((N : Int) - 1) = (N : Int) - 1 := by rw [IntKind.wrap_i64]; omega
        have hw2 : IntKind.i64.wrap ((N : Int) - 1 - (k : Int)) = (j : Int) := by rw [IntKind.wrap_i64]; omega
        have hkN : (k : Int) < (N : Int) := by omega
        have hjN : (j : Int) < (N : Int) := by omega
        obtain ⟨ck1, ck2⟩ := row_cells ro k (by omega)
        obtain ⟨cj1, cj2⟩ := row_cells ro j (by omega)
        have f1 := ro.frozenAt (g := B) (k * 2)
        have f2 := ro.frozenAt (g := B) (k * 2 + 1)
        have f3 := ro.frozenAt (g := B) (j * 2)
        have f4 := ro.frozenAt (g := B) (j * 2 + 1)
        have SW := Lib.hid (swap_row ro hrl hrp rb rb.size k j (by omega) (by omega))
        have hne : j ≠ k := by omega
        clear ro rb hrp
        generalize (nth r k).1 = x1 at *
        generalize (nth r k).2 = x2 at *
        generalize (nth r j).1 = y1 at *
        generalize (nth r j).2 = y2 at *
        go_wp2_with fail
        go_region
        generalize ((((wr.setCell ⟨B, k * 2, none⟩ (.string y1)).setCell ⟨B, k * 2 + 1, none⟩ (.string y2)).setCell ⟨B, j * 2, none⟩ (.string x1)).setCell ⟨B, j * 2 + 1, none⟩ (.string x2)).drew = w5 at *
        clear ck1 ck2 cj1 cj2 f1 f2 f3 f4 hw1 hw2
        go_wp2
        go_roundw
        case rel =>
          obtain ⟨r', q1, q2, q3, q4, _⟩ := SW.out
          exact ⟨k + 1, by omega, by go_num, r', q1, q2, q3, q4⟩
        case measure => simp [intOf]; omega
      · have hltz : ¬ (k : Int) < (H : Int) := by omega
        have dW := e1 rb
        obtain ⟨A5, c5, rfl, _, hA5, i5, _⟩ := own_formL ro
        have HP := Lib.hid hrp
        have CM2 := Lib.hid (fun W (hW : Below wr.heap.size wr W) => make_any r A5 c5 W (by omega) (fun x hx => SM.out x (hrp.mem_iff.1 hx)) hA5 (i5.below hW))
        rw [hrl] at CM2
        clear ro hA5 i5 hrp hrl rb hqz
        go_wp2_with fail
        refine (CM.out wr dW).mono ?_
        rintro e w6 ⟨⟨o, r6, v6, m6, rfl, q6⟩, b6⟩
        have d6 := dW.trans (b6.mono dW.size)
        have M6 := Lib.hid m6
        clear m6 CM
        cases o with
        | none =>
          obtain rfl := q6
          go_wp2_with fail
          refine (CM2.out w6 b6).mono ?_
          rintro e w7 ⟨⟨o7, r7, v7, m7, rfl, q7⟩, b7⟩
          obtain rfl := MU.out _ _ M6.out (mk_perm HP.out m7)
          obtain rfl := q7
          have d7 := d6.trans (b7.mono d6.size)
          clear m7 b7 d6 b6 dW CM2
          have SL := Lib.hid (samelabs_any [] [] none none 0 0 w7 (by simp) (by simp) (fun h => by simp at h) (fun h => by simp at h))
          simp only [List.length_nil] at SL
          go_wp2_with fail
          refine SL.out.mono ?_
          rintro e w8 ⟨rfl, b8⟩
          have d8 := d7.trans (b8.mono d7.size)
          clear b8 SL d7
          go_wp2
          refine wp_loop_rounds 1 ?_
          rw [rounds_succ]
          by_cases hN0 : (0 : Int) < (N : Int)
          · go_wp2_with fail
            refine (RU.out _).mono ?_
            rintro e w' ⟨rfl, b⟩
            have B := Lib.hid (d8.trans (b.mono d8.size))
            clear b RU d8
            go_wp2
            go_ret
            exact ⟨rfl, B.out⟩
          · go_wp2_with fail
            refine (RU.out _).mono ?_
            rintro e w' ⟨rfl, b⟩
            have B := Lib.hid (d8.trans (b.mono d8.size))
            clear b RU d8
            go_wp2
            go_ret
            exact ⟨rfl, B.out⟩
        | some s =>
          obtain ⟨rfl, o6⟩ := q6
          go_wp2_with fail
          refine (CM2.out w6 b6).mono ?_
          rintro e w7 ⟨⟨o7, r7, v7, m7, rfl, q7⟩, b7⟩
          obtain rfl := MU.out _ _ M6.out (mk_perm HP.out m7)
          obtain ⟨rfl, o7⟩ := q7
          have d7 := d6.trans (b7.mono d6.size)
          obtain ⟨A6, c6, rfl, _, _, i6, _⟩ := own_formL (own_keepL o6 b7)
          obtain ⟨A7, c7, rfl, _, _, i7, _⟩ := own_formL o7
          have hsl : s.length = N := by have := M6.out.1.length_eq; rw [HN.out] at this; exact this
          have SL := Lib.hid (samelabs_any s s A6 A7 c6 c7 w7 (by omega) (by omega) i6 i7)
          have dt : decide (s = s) = true := by simp
          have LS := Lib.hid (fun W (hW : Below w7.heap.size w7 W) => i6.below hW)
          have IS := Lib.hid (fun W hW => is_any s A6 c6 W (by omega) (fun x hx => SM.out x (M6.out.1.mem_iff.1 hx)) (LS.out W hW))
          have GT := Lib.hid (fun W n hW => get_labs s n A6 c6 W (by omega) (LS.out W hW))
          rw [dt] at SL
          rw [M6.out.2] at IS
          rw [hsl] at SL IS GT ⊢
          have GV : Hid (∀ j, j < N → getL s (nth ls j).1 = (nth ls j).2) := fun j hj => getL_mem (set_pw M6.out.2) (M6.out.1.mem_iff.2 (nth_mem (by rw [HN.out]; exact hj)))
          clear m7 b7 d6 b6 dW CM2 o6 o7 i6 i7 dt LS hsl
          go_wp2_with fail
          refine SL.out.mono ?_
          rintro e w8 ⟨rfl, b8⟩
          have d8 := d7.trans (b8.mono d7.size)
          clear SL
          have neN : ((N : Int) != (N : Int)) = false := by simp
          go_wp2_with fail
          refine (IS.out w8 b8).mono ?_
          rintro e w9 ⟨rfl, b9⟩
          have h9 := b8.trans (b9.mono b8.size)
          have D7 := Lib.hid d7
          clear b8 b9 IS d7 d8 neN
          go_wp2
          go_loopw [11] (fun i wx => ∃ k : Nat, k ≤ N ∧ i = .int .i64 (k : Int) ∧ Hid (Below w7.heap.size w7 wx)) (fun i _ => N - (intOf i).toNat)
          case atStart => exact ⟨0, by omega, rfl, h9⟩
          case round =>
            obtain ⟨k2, hk2, rfl, HX⟩ := hrel
            by_cases hk2N : k2 < N
            · have hk2z : (k2 : Int) < (N : Int) := by omega
              obtain ⟨b, off, hAe, hcc⟩ := (HA.out wr (D7.out.trans (HX.out.mono D7.out.size))) (by rw [HN.out]; omega)
              obtain ⟨c1, c2⟩ := hcc k2 (by rw [HN.out]; exact hk2N)
              have gv := GV.out k2 hk2N
              clear hcc
              subst hAe
              generalize (nth ls k2).1 = n1 at *
              generalize (nth ls k2).2 = v1 at *
              have cg1 := cell_regrown c1
              have cg2 := cell_regrown c2
              have CG : Hid (∀ d os, Calls Try.prog 19 #[.slice A6 N c6, .string n1] (grow (redrawn wr d) os) fun e w'' => e = .returned (.string v1) ∧ ∃ p : Regrown, w'' = grow (redrawn wr p.d) p.os) := fun d os => Calls.regrown_of (by rw [← gv]; exact GT.out _ n1 (HX.out.trans ((below_regrown wr d os).mono HX.out.size)))
              have BW : Hid (∀ d os, Below w7.heap.size w7 (grow (redrawn wr d) os)) := fun d os => HX.out.trans ((below_regrown wr d os).mono HX.out.size)
              have nev : (v1.toList == v1.toList) = true := by simp
              clear gv HX c1 c2
              go_wp2_with fail
              refine wp_region_quiet_below (by assumption) (by kernel_rfl) ?_
              repeat (quiet_step (exact CG.out _ _))
              refine wpQuiet_nil ?_
              intro _ hw'
              obtain ⟨⟨dq, osq⟩, hw''⟩ := hw'
              subst hw''
              have B3 := Lib.hid (BW.out dq osq)
              clear cg1 cg2 CG BW
              generalize grow (redrawn wr dq) osq = w11 at *
              go_wp2
              go_roundw
              case rel => exact ⟨k2 + 1, by omega, by go_num, B3⟩
              case measure => simp [intOf]; omega
            · obtain rfl : k2 = N := by omega
              have hk2z : ¬ (k2 : Int) < (k2 : Int) := by omega
              have dX := D7.out.trans (HX.out.mono D7.out.size)
              clear HX GT GV
              go_wp2_with fail
              refine (RU.out _).mono ?_
              rintro e w' ⟨rfl, b⟩
              have B := Lib.hid (dX.trans (b.mono dX.size))
              clear b RU dX
              go_wp2
              go_ret
              exact ⟨rfl, B.out⟩
  obtain ⟨p, rfl⟩ : ∃ p : Nat, z = (p : Int) := ⟨z.toNat, by omega⟩
  have hpN : p ≤ N := by omega
  have hzd : decide ((p : Int) > (N : Int)) = false := decide_eq_false (by omega)
  obtain ⟨A1, A0, S1, i1, n1, S0, i0, n0⟩ := cut_labs (A := A) (cap := cap) (p := p) HN.out hpN hcap HA0.out
  have I1 := Lib.hid i1
  have I0 := Lib.hid i0
  have N1 := Lib.hid n1
  have N0 := Lib.hid n0
  clear i1 n1 i0 n0
  have e1 : ∀ {W : World}, Below w1.heap.size w1 W → Below w.heap.size w W := fun h => B1.out.trans (h.mono B1.out.size)
  
  go_wp2_with fail
  refine wp_region_held_drew (S := fun W => Below w1.heap.size w1 W) (by kernel_rfl) ((Below.refl _ _).drew) (fun hHeld => ?_)
  refine held_take 0 24 (v := (.slice A N cap)) rfl rfl (by kernel_rfl) (by kernel_rfl) (by kernel_rfl) (by rfl) (fun _ _ _ h => h) (by assumption) ?_ ?_
  · intro W hW
    go_simp
  simp only [List.setIfInBounds_toArray, List.set_cons_zero, List.set_cons_succ]
  refine held_take 1 25 (v := (.int .i64 (p : Int))) rfl rfl (by kernel_rfl) (by kernel_rfl) (by kernel_rfl) (by rfl) (fun _ _ _ h => h) (by assumption) ?_ ?_
  · intro W hW
    go_simp
  simp only [List.setIfInBounds_toArray, List.set_cons_zero, List.set_cons_succ]
  refine held_take 2 26 (v := (.slice A1 (N - p) (cap - p))) rfl rfl (by kernel_rfl) (by kernel_rfl) (by kernel_rfl) (by rfl) (fun _ _ _ h => h) (by assumption) ?_ ?_
  · intro W hW
    have sl := S1 W
    go_simp
  simp only [List.setIfInBounds_toArray, List.set_cons_zero, List.set_cons_succ]
  refine held_take 4 28 (v := (.slice A N cap)) rfl rfl (by kernel_rfl) (by kernel_rfl) (by kernel_rfl) (by rfl) (fun _ _ _ h => h) (by assumption) ?_ ?_
  · intro W hW
    go_simp
  simp only [List.setIfInBounds_toArray, List.set_cons_zero, List.set_cons_succ]
  refine held_take 5 29 (v := (.int .i64 (p : Int))) rfl rfl (by kernel_rfl) (by kernel_rfl) (by kernel_rfl) (by rfl) (fun _ _ _ h => h) (by assumption) ?_ ?_
  · intro W hW
    go_simp
  simp only [List.setIfInBounds_toArray, List.set_cons_zero, List.set_cons_succ]
  refine held_take 6 30 (v := (.slice A0 p cap)) rfl rfl (by kernel_rfl) (by kernel_rfl) (by kernel_rfl) (by rfl) (fun _ _ _ h => h) (by assumption) ?_ ?_
  · intro W hW
    have sl := S0 W
    go_simp
  simp only [List.setIfInBounds_toArray, List.set_cons_zero, List.set_cons_succ]
  refine held_op 3 rfl (by kernel_rfl) (by rfl) ?_
  refine wp_appL (.const (.slice none 0 0)) (.tmp 26) rfl w1.heap.size (.slice none 0 0) 0 [] rfl (World.ownsRow_nil _ _ _ _) A1 (N - p) (cap - p) (ls.drop p) rfl (by rw [List.length_drop, HN.out]) N1.out (I1.out w1.drew (HA.out w1.drew (e1 (Below.refl _ _).drew))) (by omega) (Nat.le_refl _) ?_
  intro v2 w2 o2 g2
  have d2 : Below w1.heap.size w1 w2 := ((Below.refl _ _).drew).grown g2 (Nat.le_refl _) (fun _ h => by cases h)
  refine ⟨d2, ?_⟩
  show wpAnyH _ _ _ _ _ _ _ ⟨Array.setIfInBounds _ 27 v2, _⟩ _
  simp only [List.setIfInBounds_toArray, List.set_cons_zero, List.set_cons_succ]
  refine held_op 7 rfl (by kernel_rfl) (by rfl) ?_
  refine wp_appL (.tmp 27) (.tmp 30) rfl w1.heap.size v2 (0 + (N - p)) ([] ++ ls.drop p) rfl o2 A0 p cap (ls.take p) rfl (by rw [List.length_take, HN.out]; omega) N0.out (I0.out w2 (HA.out w2 (e1 d2))) (by omega) d2.size ?_
  intro v3 w3 o3 g3
  have d3 : Below w1.heap.size w1 w3 := d2.grown g3 d2.size (own_geL o2)
  refine ⟨d3, ?_⟩
  show wpAnyH _ _ _ _ _ _ _ ⟨Array.setIfInBounds _ 31 v3, _⟩ _
  simp only [List.setIfInBounds_toArray, List.set_cons_zero, List.set_cons_succ]
  have o3' : w3.ownsRow w1.heap.size 23 2 v3 N (lc (ls.drop p ++ ls.take p)) := by
    have e : 0 + (N - p) + p = N := by omega
    rw [e, List.nil_append] at o3
    exact o3
  have OR : Hid (∃ r : List Lab, r.length = N ∧ r.Perm ls ∧ w3.ownsRow w1.heap.size 23 2 v3 N (lc r) ∧ Below w1.heap.size w1 w3) := ⟨ls.drop p ++ ls.take p, by rw [List.length_append, List.length_drop, List.length_take, HN.out]; omega, by
    refine List.perm_append_comm.trans ?_
    rw [List.take_append_drop], o3', d3⟩
  clear o2 o3 o3' g2 g3 d2
  refine held_take 8 5 (v := v3) rfl rfl (by kernel_rfl) (by kernel_rfl) (by kernel_rfl) (by rfl) (fun _ _ _ h => h) (by assumption) ?_ ?_
  · intro W hW
    go_simp
  simp only [List.setIfInBounds_toArray, List.set_cons_zero, List.set_cons_succ]
  refine wpAnyH_done (by kernel_rfl) ?_ _
  clear d3 hHeld S1 S0
  clear I1 I0 N1 N0
  go_wp2
  go_loopw [6] (fun i wr => ∃ k : Nat, k ≤ N ∧ i = .int .i64 (k : Int) ∧ Hid (∃ r : List Lab, r.length = N ∧ r.Perm ls ∧ wr.ownsRow w1.heap.size 23 2 v3 N (lc r) ∧ Below w1.heap.size w1 wr)) (fun i _ => N - (intOf i).toNat)
  case atStart => exact ⟨0, by omega, rfl, OR⟩
  case round =>
    clear OR
    obtain ⟨k, hk, rfl, HI⟩ := hrel
    obtain ⟨r, hrl, hrp, ro, rb⟩ := HI.out
    clear HI
    by_cases hlt : k < H
    · have hltz : (k : Int) < (H : Int) := by omega
      rcases ro.2 with ⟨_, e0⟩ | ⟨B, c, cur, rfl, _⟩
      · omega
      obtain ⟨j, hj⟩ : ∃ j, j + k + 1 = N := ⟨N - 1 - k, by omega⟩
      have hw1 : IntKind.i64.wrap ((N : Int) - 1) = (N : Int) - 1 := by rw [IntKind.wrap_i64]; omega
      have hw2 : IntKind.i64.wrap ((N : Int) - 1 - (k : Int)) = (j : Int) := by rw [IntKind.wrap_i64]; omega
      have hkN : (k : Int) < (N : Int) := by omega
      have hjN : (j : Int) < (N : Int) := by omega
      obtain ⟨ck1, ck2⟩ := row_cells ro k (by omega)
      obtain ⟨cj1, cj2⟩ := row_cells ro j (by omega)
      have f1 := ro.frozenAt (g := B) (k * 2)
      have f2 := ro.frozenAt (g := B) (k * 2 + 1)
      have f3 := ro.frozenAt (g := B) (j * 2)
      have f4 := ro.frozenAt (g := B) (j * 2 + 1)
      have SW := Lib.hid (swap_row ro hrl hrp rb rb.size k j (by omega) (by omega))
      have hne : j ≠ k := by omega
      clear ro rb hrp
      generalize (nth r k).1 = x1 at *
      generalize (nth r k).2 = x2 at *
      generalize (nth r j).1 = y1 at *
      generalize (nth r j).2 = y2 at *
      go_wp2_with fail
      go_region
      generalize ((((wr.setCell ⟨B, k * 2, none⟩ (.string y1)).setCell ⟨B, k * 2 + 1, none⟩ (.string y2)).setCell ⟨B, j * 2, none⟩ (.string x1)).setCell ⟨B, j * 2 + 1, none⟩ (.string x2)).drew = w5 at *
      clear ck1 ck2 cj1 cj2 f1 f2 f3 f4 hw1 hw2
      go_wp2
      go_roundw
      case rel =>
        obtain ⟨r', q1, q2, q3, q4, _⟩ := SW.out
        exact ⟨k + 1, by omega, by go_num, r', q1, q2, q3, q4⟩
      case measure => simp [intOf]; omega
    · have hltz : ¬ (k : Int) < (H : Int) := by omega
      have dW := e1 rb
      obtain ⟨A5, c5, rfl, _, hA5, i5, _⟩ := own_formL ro
      have HP := Lib.hid hrp
      have CM2 := Lib.hid (fun W (hW : Below wr.heap.size wr W) => make_any r A5 c5 W (by omega) (fun x hx => SM.out x (hrp.mem_iff.1 hx)) hA5 (i5.below hW))
      rw [hrl] at CM2
      clear ro hA5 i5 hrp hrl rb hqz
      go_wp2_with fail
      refine (CM.out wr dW).mono ?_
      rintro e w6 ⟨⟨o, r6, v6, m6, rfl, q6⟩, b6⟩
      have d6 := dW.trans (b6.mono dW.size)
      have M6 := Lib.hid m6
      clear m6 CM
      cases o with
      | none =>
        obtain rfl := q6
        go_wp2_with fail
        refine (CM2.out w6 b6).mono ?_
        rintro e w7 ⟨⟨o7, r7, v7, m7, rfl, q7⟩, b7⟩
        obtain rfl := MU.out _ _ M6.out (mk_perm HP.out m7)
        obtain rfl := q7
        have d7 := d6.trans (b7.mono d6.size)
        clear m7 b7 d6 b6 dW CM2
        have SL := Lib.hid (samelabs_any [] [] none none 0 0 w7 (by simp) (by simp) (fun h => by simp at h) (fun h => by simp at h))
        simp only [List.length_nil] at SL
        go_wp2_with fail
        refine SL.out.mono ?_
        rintro e w8 ⟨rfl, b8⟩
        have d8 := d7.trans (b8.mono d7.size)
        clear b8 SL d7
        go_wp2
        refine wp_loop_rounds 1 ?_
        rw [rounds_succ]
        by_cases hN0 : (0 : Int) < (N : Int)
        · go_wp2_with fail
          refine (RU.out _).mono ?_
          rintro e w' ⟨rfl, b⟩
          have B := Lib.hid (d8.trans (b.mono d8.size))
          clear b RU d8
          go_wp2
          go_ret
          exact ⟨rfl, B.out⟩
        · go_wp2_with fail
          refine (RU.out _).mono ?_
          rintro e w' ⟨rfl, b⟩
          have B := Lib.hid (d8.trans (b.mono d8.size))
          clear b RU d8
          go_wp2
          go_ret
          exact ⟨rfl, B.out⟩
      | some s =>
        obtain ⟨rfl, o6⟩ := q6
        go_wp2_with fail
        refine (CM2.out w6 b6).mono ?_
        rintro e w7 ⟨⟨o7, r7, v7, m7, rfl, q7⟩, b7⟩
        obtain rfl := MU.out _ _ M6.out (mk_perm HP.out m7)
        obtain ⟨rfl, o7⟩ := q7
        have d7 := d6.trans (b7.mono d6.size)
        obtain ⟨A6, c6, rfl, _, _, i6, _⟩ := own_formL (own_keepL o6 b7)
        obtain ⟨A7, c7, rfl, _, _, i7, _⟩ := own_formL o7
        have hsl : s.length = N := by have := M6.out.1.length_eq; rw [HN.out] at this; exact this
        have SL := Lib.hid (samelabs_any s s A6 A7 c6 c7 w7 (by omega) (by omega) i6 i7)
        have dt : decide (s = s) = true := by simp
        have LS := Lib.hid (fun W (hW : Below w7.heap.size w7 W) => i6.below hW)
        have IS := Lib.hid (fun W hW => is_any s A6 c6 W (by omega) (fun x hx => SM.out x (M6.out.1.mem_iff.1 hx)) (LS.out W hW))
        have GT := Lib.hid (fun W n hW => get_labs s n A6 c6 W (by omega) (LS.out W hW))
        rw [dt] at SL
        rw [M6.out.2] at IS
        rw [hsl] at SL IS GT ⊢
        have GV : Hid (∀ j, j < N → getL s (nth ls j).1 = (nth ls j).2) := fun j hj => getL_mem (set_pw M6.out.2) (M6.out.1.mem_iff.2 (nth_mem (by rw [HN.out]; exact hj)))
        clear m7 b7 d6 b6 dW CM2 o6 o7 i6 i7 dt LS hsl
        go_wp2_with fail
        refine SL.out.mono ?_
        rintro e w8 ⟨rfl, b8⟩
        have d8 := d7.trans (b8.mono d7.size)
        clear SL
        have neN : ((N : Int) != (N : Int)) = false := by simp
        go_wp2_with fail
        refine (IS.out w8 b8).mono ?_
        rintro e w9 ⟨rfl, b9⟩
        have h9 := b8.trans (b9.mono b8.size)
        have D7 := Lib.hid d7
        clear b8 b9 IS d7 d8 neN
        go_wp2
        go_loopw [11] (fun i wx => ∃ k : Nat, k ≤ N ∧ i = .int .i64 (k : Int) ∧ Hid (Below w7.heap.size w7 wx)) (fun i _ => N - (intOf i).toNat)
        case atStart => exact ⟨0, by omega, rfl, h9⟩
        case round =>
          obtain ⟨k2, hk2, rfl, HX⟩ := hrel
          by_cases hk2N : k2 < N
          · have hk2z : (k2 : Int) < (N : Int) := by omega
            obtain ⟨b, off, hAe, hcc⟩ := (HA.out wr (D7.out.trans (HX.out.mono D7.out.size))) (by rw [HN.out]; omega)
            obtain ⟨c1, c2⟩ := hcc k2 (by rw [HN.out]; exact hk2N)
            have gv := GV.out k2 hk2N
            clear hcc
            subst hAe
            generalize (nth ls k2).1 = n1 at *
            generalize (nth ls k2).2 = v1 at *
            have cg1 := cell_regrown c1
            have cg2 := cell_regrown c2
            have CG : Hid (∀ d os, Calls Try.prog 19 #[.slice A6 N c6, .string n1] (grow (redrawn wr d) os) fun e w'' => e = .returned (.string v1) ∧ ∃ p : Regrown, w'' = grow (redrawn wr p.d) p.os) := fun d os => Calls.regrown_of (by rw [← gv]; exact GT.out _ n1 (HX.out.trans ((below_regrown wr d os).mono HX.out.size)))
            have BW : Hid (∀ d os, Below w7.heap.size w7 (grow (redrawn wr d) os)) := fun d os => HX.out.trans ((below_regrown wr d os).mono HX.out.size)
            have nev : (v1.toList == v1.toList) = true := by simp
            clear gv HX c1 c2
            go_wp2_with fail
            refine wp_region_quiet_below (by assumption) (by kernel_rfl) ?_
            repeat (quiet_step (exact CG.out _ _))
            refine wpQuiet_nil ?_
            intro _ hw'
            obtain ⟨⟨dq, osq⟩, hw''⟩ := hw'
            subst hw''
            have B3 := Lib.hid (BW.out dq osq)
            clear cg1 cg2 CG BW
            generalize grow (redrawn wr dq) osq = w11 at *
            go_wp2
            go_roundw
            case rel => exact ⟨k2 + 1, by omega, by go_num, B3⟩
            case measure => simp [intOf]; omega
          · obtain rfl : k2 = N := by omega
            have hk2z : ¬ (k2 : Int) < (k2 : Int) := by omega
            have dX := D7.out.trans (HX.out.mono D7.out.size)
            clear HX GT GV
            go_wp2_with fail
            refine (RU.out _).mono ?_
            rintro e w' ⟨rfl, b⟩
            have B := Lib.hid (dX.trans (b.mono dX.size))
            clear b RU dX
            go_wp2
            go_ret
            exact ⟨rfl, B.out⟩
end Go.Proofs.Ytbfpcolbkfcanaa
