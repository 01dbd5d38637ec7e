/-
  ReapPlays as a contract. Conditions: none.
-/
import Derived.Test.YtlbhiiciajfphaaBs
import Derived.Test.YtlbhiiciajfphaaBv
namespace Go.Proofs.Ytlbhiiciajfphaa
open Go.RowKit Go.Sort

/-- What ReapPlays' loop keeps. -/
def PlI (W : World) (b b2 k : Nat) (wr : World) : Prop := ∃ l v A c, Tw W wr b l v b2 l A c ∧ l.length ≤ k
theorem tw_new {W w1 : World} {b : Nat} (h : Qs W w1 b [] (.slice none 0 0)) : Tw W (w1.alloc (.cells #[.slice none 0 0] 37)) b [] (.slice none 0 0) w1.heap.size [] none 0 := by
  have hh : (w1.alloc (.cells #[.slice none 0 0] 37)).heap[w1.heap.size]? = some (.cells #[.slice none 0 0] 37 (0, 0)) := Array.getElem?_push_size
  refine ⟨h.below ((Below.refl _ _).alloc (Nat.le_refl _) _), ⟨?_, fun j => by rw [World.frozen?, hh]; simp, fun hp => absurd hp (by simp), by simp, fun _ => rfl, (fun a e => by cases e), (fun a e => by cases e), (fun a e => by cases e), by simp, Nat.zero_le _⟩, h.bel.size, fun e => ?_, fun a e => by cases e⟩
  · rw [cell_of_row _ _ _ _ _ _ hh]; rfl
  · have := (h.at_.blocks _ e).2
    omega
set_option maxRecDepth 100000 in
set_option maxHeartbeats 4000000 in
theorem plays13_law (W : World) (S : List StT) (A : Option Addr) (cap : Nat) (id : Int) (hS : IsStps W A S) :
    Calls Try.prog 4 #[.slice A S.length cap, .int .i64 id] W fun e W' => e = .returned (.bool true) ∧ Below W.heap.size W W' := by
  obtain ⟨N, hN⟩ : ∃ N, S.length = N := ⟨_, rfl⟩
  have HN := Lib.hid hN
  have HI0 := Lib.hid hS
  rw [hN]
  clear hN hS
  by_cases hb : 100 < N
  · have hz : ((100 : Nat) : Int) < (N : Int) := by omega
    have hz2 : (100 : Int) < (N : Int) := by omega
    have C := Lib.hid (runs13_any W)
    go_enter Try.func4, Try.ntmps4
    go_wp2_with fail
    refine C.out.mono ?_
    rintro e w1 ⟨rfl, b1⟩
    have B := Lib.hid b1
    clear C b1
    go_wp2
    go_ret
    exact ⟨rfl, B.out⟩
  have hb : N ≤ 100 := by omega
  have hz2 : ¬ (100 : Int) < (N : Int) := by omega
  have C0 := Lib.hid (qnew_any W)
  go_enter Try.func4, Try.ntmps4
  go_wp2_with fail
  refine C0.out.mono ?_
  rintro e w1 ⟨b, rfl, h1⟩
  have T0 := Lib.hid (tw_new h1)
  clear C0 h1
  go_upto_region 6 with fail
  generalize (w1.alloc (.cells #[.slice none 0 0] 37)) = w2 at *
  generalize w1.heap.size = b2 at *
  go_wp2
  go_loopw [7] (fun i wr => ∃ k : Nat, k ≤ N ∧ i = .int .i64 (k : Int) ∧ Hid (PlI W b b2 k wr)) (fun i _ => N - (intOf i).toNat)
  case atStart => exact ⟨0, by omega, rfl, [], _, _, _, T0.out, Nat.le_refl _⟩
  case round =>
    obtain ⟨k, hk, rfl, HP⟩ := hrel
    obtain ⟨l, v, A1, c1, hT, hl⟩ := HP.out
    have HT := Lib.hid hT
    have HL := Lib.hid hl
    clear hT hl HP
    by_cases hkn : k < N
    · obtain ⟨g, off, rfl, hc⟩ := HI0.out (by rw [HN.out]; omega)
      have X := Lib.hid (hc k (by rw [HN.out]; exact hkn))
      obtain ⟨st, hst⟩ : ∃ st, stn S k = st := ⟨_, rfl⟩
      rw [hst] at X
      clear hc hst
      obtain ⟨kd, d, t⟩ := st
      have hkz : (k : Int) < (N : Int) := by omega
      have XW : Hid (∀ V, Below W.heap.size W V → V.cell? ⟨g, off + k * 3, none⟩ = some (.int .u8 kd) ∧ V.cell? ⟨g, off + k * 3 + 1, none⟩ = some (.int .i64 d) ∧ V.cell? ⟨g, off + k * 3 + 2, none⟩ = some (.int .u64 t)) := fun V hV =>
        ⟨(hV.cell (World.block_lt_of_cell? W _ X.out.1)).trans X.out.1, (hV.cell (World.block_lt_of_cell? W _ X.out.2.1)).trans X.out.2.1, (hV.cell (World.block_lt_of_cell? W _ X.out.2.2)).trans X.out.2.2⟩
      have BW : Below W.heap.size W wr := HT.out.q.bel
      clear X
      go_wp2_with fail
      refine wp_region_held_drew (S := fun V => Below W.heap.size W V) (by kernel_rfl) BW.drew (fun hHeld => ?_)
      refine held_take 0 30 (v := (.pointer (some ⟨b, 0, none⟩))) rfl rfl (by kernel_rfl) (by kernel_rfl) (by kernel_rfl) (by rfl) (fun _ _ _ h => h) (by assumption) ?_ ?_
      · intro W' hW
        go_simp
      simp only [List.setIfInBounds_toArray, List.set_cons_zero, List.set_cons_succ]
      refine held_take 1 31 (v := (.pointer (some ⟨b2, 0, none⟩))) rfl rfl (by kernel_rfl) (by kernel_rfl) (by kernel_rfl) (by rfl) (fun _ _ _ h => h) (by assumption) ?_ ?_
      · intro W' hW
        go_simp
      simp only [List.setIfInBounds_toArray, List.set_cons_zero, List.set_cons_succ]
      refine held_take 2 32 (v := (.slice (some ⟨g, off, none⟩) N cap)) rfl rfl (by kernel_rfl) (by kernel_rfl) (by kernel_rfl) (by rfl) (fun _ _ _ h => h) (by assumption) ?_ ?_
      · intro W' hW
        go_simp
      simp only [List.setIfInBounds_toArray, List.set_cons_zero, List.set_cons_succ]
      refine held_take 3 33 (v := (.int .i64 (k : Int))) rfl rfl (by kernel_rfl) (by kernel_rfl) (by kernel_rfl) (by rfl) (fun _ _ _ h => h) (by assumption) ?_ ?_
      · intro W' hW
        go_simp
      simp only [List.setIfInBounds_toArray, List.set_cons_zero, List.set_cons_succ]
      refine held_take 4 34 (v := (.pointer (some ⟨g, off + k * 3, none⟩))) rfl rfl (by kernel_rfl) (by kernel_rfl) (by kernel_rfl) (by rfl) (fun _ _ _ h => h) (by assumption) ?_ ?_
      · intro W' hW
        go_simp
      simp only [List.setIfInBounds_toArray, List.set_cons_zero, List.set_cons_succ]
      refine held_take 5 35 (v := (.agg #[.int .u8 kd, .int .i64 d, .int .u64 t])) rfl rfl (by kernel_rfl) (by kernel_rfl) (by kernel_rfl) (by rfl) (fun _ _ _ h => h) (by assumption) ?_ ?_
      · intro W' hW
        obtain ⟨k0, k1, k2⟩ := XW.out W' hW
        go_simp
      simp only [List.setIfInBounds_toArray, List.set_cons_zero, List.set_cons_succ]
      refine held_call 6 36 (f := 13) (args := #[.pointer (some ⟨b, 0, none⟩), .pointer (some ⟨b2, 0, none⟩), .agg #[.int .u8 kd, .int .i64 d, .int .u64 t]]) rfl rfl (by kernel_rfl) (by rfl) (by go_simp) ?_
      refine (step13_any (HT.out.below ((Below.refl _ _).drew)) kd d t (by have := HL.out; omega)).mono ?_
      rintro e u1 ⟨rfl, v1, A2, c2, h1⟩
      have LL : Hid ((stp kd d t l).length ≤ k + 1) := by have := stp_le kd d t l; have := HL.out; show _ ≤ _; omega
      refine ⟨_, rfl, h1.q.bel, ?_⟩
      have hh1 := Below.refl u1.heap.size u1
      have bel1 := h1.q.bel
      refine held_more (S' := fun V => Below u1.heap.size u1 V) (fun V h => bel1.trans (h.mono bel1.size)) _ _ _ _ ?_
      generalize stp kd d t l = l' at *
      clear hHeld HT HL XW
      have RC : Hid (∀ V, Below u1.heap.size u1 V → V.cell? ⟨b2, 0, none⟩ = some (.slice A2 l'.length c2)) := fun V hV => (h1.r.below hV).c0
      simp only [List.setIfInBounds_toArray, List.set_cons_zero, List.set_cons_succ]
      refine held_take 7 37 (v := (.bool false)) rfl rfl (by kernel_rfl) (by kernel_rfl) (by kernel_rfl) (by rfl) (fun _ _ _ h => h) (by assumption) ?_ ?_
      · intro W' hW
        go_simp
      simp only [List.setIfInBounds_toArray, List.set_cons_zero, List.set_cons_succ]
      refine held_take 8 38 (v := (.bool false)) rfl rfl (by kernel_rfl) (by kernel_rfl) (by kernel_rfl) (by rfl) (fun _ _ _ h => h) (by assumption) ?_ ?_
      · intro W' hW
        go_simp
      simp only [List.setIfInBounds_toArray, List.set_cons_zero, List.set_cons_succ]
      refine held_take 9 39 (v := (.pointer (some ⟨b, 0, none⟩))) rfl rfl (by kernel_rfl) (by kernel_rfl) (by kernel_rfl) (by rfl) (fun _ _ _ h => h) (by assumption) ?_ ?_
      · intro W' hW
        go_simp
      simp only [List.setIfInBounds_toArray, List.set_cons_zero, List.set_cons_succ]
      refine held_take 11 41 (v := (.pointer (some ⟨b2, 0, none⟩))) rfl rfl (by kernel_rfl) (by kernel_rfl) (by kernel_rfl) (by rfl) (fun _ _ _ h => h) (by assumption) ?_ ?_
      · intro W' hW
        go_simp
      simp only [List.setIfInBounds_toArray, List.set_cons_zero, List.set_cons_succ]
      refine held_take 12 42 (v := (.pointer (some ⟨b2, 0, none⟩))) rfl rfl (by kernel_rfl) (by kernel_rfl) (by kernel_rfl) (by rfl) (fun _ _ _ h => h) (by assumption) ?_ ?_
      · intro W' hW
        go_simp
      simp only [List.setIfInBounds_toArray, List.set_cons_zero, List.set_cons_succ]
      refine held_take 13 43 (v := (.pointer (some ⟨b2, 0, none⟩))) rfl rfl (by kernel_rfl) (by kernel_rfl) (by kernel_rfl) (by rfl) (fun _ _ _ h => h) (by assumption) ?_ ?_
      · intro W' hW
        go_simp
      simp only [List.setIfInBounds_toArray, List.set_cons_zero, List.set_cons_succ]
      refine held_take 14 44 (v := (.slice A2 l'.length c2)) rfl rfl (by kernel_rfl) (by kernel_rfl) (by kernel_rfl) (by rfl) (fun _ _ _ h => h) (by assumption) ?_ ?_
      · intro W' hW
        have k0 := RC.out W' hW
        go_simp
      simp only [List.setIfInBounds_toArray, List.set_cons_zero, List.set_cons_succ]
      refine held_take 15 45 (v := (.int .i64 (l'.length : Int))) rfl rfl (by kernel_rfl) (by kernel_rfl) (by kernel_rfl) (by rfl) (fun _ _ _ h => h) (by assumption) ?_ ?_
      · intro W' hW
        go_simp
      simp only [List.setIfInBounds_toArray, List.set_cons_zero, List.set_cons_succ]
      refine held_call 10 40 (f := 10) (args := #[.pointer (some ⟨b, 0, none⟩)]) rfl rfl (by kernel_rfl) (by rfl) (by go_simp) ?_
      refine (qlen_any h1.q.at_).mono ?_
      rintro e u1' ⟨rfl, rfl⟩
      refine ⟨_, rfl, hh1, ?_⟩
      simp only [List.setIfInBounds_toArray, List.set_cons_zero, List.set_cons_succ]
      refine held_take 16 46 (v := (.bool false)) rfl rfl (by kernel_rfl) (by kernel_rfl) (by kernel_rfl) (by rfl) (fun _ _ _ h => h) (by assumption) ?_ ?_
      · intro W' hW
        go_simp
      simp only [List.setIfInBounds_toArray, List.set_cons_zero, List.set_cons_succ]
      refine held_take 17 47 (v := (.bool false)) rfl rfl (by kernel_rfl) (by kernel_rfl) (by kernel_rfl) (by rfl) (fun _ _ _ h => h) (by assumption) ?_ ?_
      · intro W' hW
        go_simp
      simp only [List.setIfInBounds_toArray, List.set_cons_zero, List.set_cons_succ]
      refine wpAnyH_done (by kernel_rfl) ?_ _
      clear RC hh1 bel1
      go_wp2_with fail
      have CF := Lib.hid (qfirst_any h1.q.at_)
      have H1 := Lib.hid h1
      clear h1
      refine CF.out.mono ?_
      rintro e u2 ⟨rfl, b2'⟩
      have h2 := H1.out.below b2'
      have c0 := h2.r.c0
      have R : Hid (PlI W b b2 (k + 1) u2) := ⟨l', v1, A2, c2, h2, LL.out⟩
      clear CF H1 b2'
      cases hl' : l' with
      | nil =>
        rw [hl'] at c0
        clear h2 LL hl'
        unfold Qu.first
        go_wp2
        go_roundw
        case rel => exact ⟨k + 1, by omega, by go_num, R⟩
        case measure => simp [intOf]; omega
      | cons r m =>
        rw [hl'] at h2 c0
        obtain ⟨g3, off3, rfl, -⟩ := h2.r.rd (Nat.succ_pos _)
        obtain ⟨y0, y1⟩ := h2.r.rd.cells (j := 0) (Nat.succ_pos _)
        rw [show off3 + 0 * 2 = off3 by omega, show Qu.nr (r :: m) 0 = r from rfl] at y0 y1
        rw [List.length_cons] at c0
        have hp1 : (0 : Int) < ((m.length + 1 : Nat) : Int) := by omega
        have hp2 : (0 : Int) < (m.length : Int) + 1 := by omega
        have hp3 : 0 < m.length + 1 := by omega
        obtain ⟨r1, r2⟩ := r
        clear h2 LL hl'
        unfold Qu.first
        generalize m.length = M at *
        go_wp2
        go_roundw
        case rel => exact ⟨k + 1, by omega, by go_num, R⟩
        case measure => simp [intOf]; omega
    · obtain rfl : k = N := by omega
      have hkz : ¬ (k : Int) < (k : Int) := by omega
      have C1 := Lib.hid (qat_any HT.out.q.at_ id)
      go_wp2_with fail
      refine C1.out.mono ?_
      rintro e w3 ⟨rfl, b3⟩
      have h3 := HT.out.below b3
      have C2 := Lib.hid (rat_any h3.r id)
      have BE := Lib.hid h3.q.bel
      clear C1 h3 b3 HT
      go_wp2_with fail
      refine C2.out.mono ?_
      rintro e w4 ⟨rfl, rfl⟩
      have C3 := Lib.hid (runs13_any w4)
      clear C2
      generalize Qu.dueAt id l = dd at *
      generalize Qu.has id l = tt at *
      go_wp2_with fail
      refine C3.out.mono ?_
      rintro e w5 ⟨rfl, b5⟩
      have R := Lib.hid (BE.out.trans (b5.mono BE.out.size))
      clear C3 b5
      go_wp2
      go_ret
      exact ⟨rfl, R.out⟩
end Go.Proofs.Ytlbhiiciajfphaa
