/-
  What the library's binary search tells of the program's rows in order. Conditions: lengths fit.
-/
import Derived.Test.YtlbhiiciajfphaaBd
namespace Go.Proofs.Ytlbhiiciajfphaa
open Go.RowKit Go.Sort

set_option maxRecDepth 100000 in
set_option maxHeartbeats 4000000 in
theorem search_any (l : List Rw) (r : Rw) (A : Option Addr) (N cap : Nat) (w : World) (hN : l.length = N) (hl : N ≤ 1099511627776) (ha : IsRw w A l) (hs : Qu.Srt l) :
    Calls Try.prog 19 #[.slice A N cap, pv r, .func (.func 20) #[] #[]] w fun e w' =>
      ∃ u : Value, e = .returned (.tuple #[.int .i64 (Qu.kk l r), u]) ∧ Below w.heap.size w w' := by
  have HA := Lib.hid ha
  have HN := Lib.hid hN
  have HS := Lib.hid hs
  have BX := Lib.hid (fun W (h : Below (w.heap.size + 1) (w.alloc (.cells #[.int .u64 r.1, .int .i64 r.2] 56)) W) => box2 (w := w) (v0 := .int .u64 r.1) (v1 := .int .i64 r.2) (ty := 56) h)
  have B0 : Hid (Below w.heap.size w (w.alloc (.cells #[.int .u64 r.1, .int .i64 r.2] 56))) := (Below.refl _ _).alloc (Nat.le_refl _) _
  have HA := Lib.hid (ha.below B0.out)
  have ES : Hid ((w.alloc (.cells #[.int .u64 r.1, .int .i64 r.2] 56)).heap.size = w.heap.size + 1) := by show _ = _; simp
  have CO := Lib.hid (fun s W => order_any s r W)
  have LT := Lib.hid (fun s => cmpR_lt s r)
  have LO := Lib.hid (fun (x y : Nat) (hxy : x ≤ y) (hy : y < l.length) (h : Qu.lt (Qu.nr l y) r = true) => (show Qu.lt (Qu.nr l x) r = true from by
    rcases Nat.lt_or_ge x y with h1 | h1
    · exact Qu.lt_trans (hs.lt h1 hy) h
    · obtain rfl : x = y := by omega
      exact h))
  have KA := Lib.hid (fun m h1 h2 h3 => Qu.kk_at l r m h1 h2 h3)
  clear ha hN hs
  generalize Qu.kk l r = z at *
  obtain ⟨r1, r2⟩ := r
  unfold pv at *
  dsimp only at *
  go_enter Try.func19, Try.ntmps19
  go_wp2_with fail
  generalize w.alloc (.cells #[.int .u64 r1, .int .i64 r2] 56) = w1 at *
  go_loopw [9, 10] (fun s9 s10 wr => ∃ i j : Nat, s9 = .int .i64 (i : Int) ∧ s10 = .int .i64 (j : Int) ∧ i ≤ j ∧ j ≤ N ∧ Hid (Below w1.heap.size w1 wr ∧ (∀ x, x < i → Qu.lt (Qu.nr l x) (r1, r2) = true) ∧ (∀ x, j ≤ x → x < N → Qu.lt (Qu.nr l x) (r1, r2) = false))) (fun s9 s10 _ => (intOf s10).toNat - (intOf s9).toNat)
  case atStart => exact ⟨0, N, rfl, rfl, Nat.zero_le _, Nat.le_refl _, Below.refl _ _, fun x hx => by omega, fun x h1 h2 => by omega⟩
  case round =>
    obtain ⟨i, j, rfl, rfl, hij, hjN, HI⟩ := hrel
    by_cases hlt : i < j
    · have hzi : (i : Int) < (j : Int) := by omega
      have hhN : (i + j) / 2 < N := by omega
      obtain ⟨b, off, rfl, hc⟩ := (HA.out.below HI.out.1) (by have := HN.out; omega)
      obtain ⟨c0, c1⟩ := hc ((i + j) / 2) (by rw [HN.out]; exact hhN)
      obtain ⟨d0, d1⟩ := BX.out wr (by have := HI.out.1; rwa [ES.out] at this)
      clear hc
      obtain ⟨s, hr⟩ : ∃ s, Qu.nr l ((i + j) / 2) = s := ⟨_, rfl⟩
      rw [hr] at c0 c1
      have HR := Lib.hid hr
      clear hr
      obtain ⟨s1, s2⟩ := s
      dsimp only at c0 c1
      obtain ⟨z1, hz1⟩ : ∃ z1, cmpR (s1, s2) (r1, r2) = z1 := ⟨_, rfl⟩
      have C := Lib.hid (fun W => CO.out (s1, s2) W)
      have LE := Lib.hid (LT.out (s1, s2))
      rw [hz1] at C LE
      clear hz1
      have hh : ((i : Int) + (j : Int)) / 2 = (((i + j) / 2 : Nat) : Int) := by omega
      obtain ⟨h, hhh⟩ : ∃ h, (i + j) / 2 = h := ⟨_, rfl⟩
      rw [hhh] at hh c0 c1 hhN HR
      have hhz : (h : Int) < (N : Int) := by omega
      go_upto_region 5 with fail
      go_still_tail 6, (by kernel_rfl)
      repeat still_step
      change wpList _ _ _ _ _ (wr.drew)
      have BW := Lib.hid (HI.out.1.drew)
      have I1 := Lib.hid HI.out.2.1
      have I2 := Lib.hid HI.out.2.2
      clear HI HA c0 c1 d0 d1
      generalize wr.drew = w2 at *
      go_wp2_with fail
      refine (C.out _).mono ?_
      rintro e w3 ⟨rfl, b3⟩
      have BW3 := Lib.hid (BW.out.trans (b3.mono BW.out.size))
      clear C BW b3
      by_cases hz1 : z1 < 0
      · have dz : decide (z1 < 0) = true := decide_eq_true hz1
        have R : Hid (∀ x, x < h + 1 → Qu.lt (Qu.nr l x) (r1, r2) = true) := fun x hx => by
          refine LO.out x h (by omega) (by have := HN.out; omega) ?_
          rw [HR.out, ← LE.out]; exact dz
        clear I1
        go_wp2
        go_round
        case rel => exact ⟨h + 1, j, by go_num, rfl, by omega, hjN, BW3.out, R.out, I2.out⟩
        case measure => simp [intOf]; omega
      · have dz : decide (z1 < 0) = false := decide_eq_false hz1
        have R : Hid (∀ x, h ≤ x → x < N → Qu.lt (Qu.nr l x) (r1, r2) = false) := fun x hx hxN => by
          cases hq : Qu.lt (Qu.nr l x) (r1, r2) with
          | false => rfl
          | true =>
            have := LO.out h x hx (by have := HN.out; omega) hq
            rw [HR.out, ← LE.out, dz] at this
            cases this
        clear I2
        go_wp2
        go_round
        case rel => exact ⟨i, h, rfl, rfl, by omega, by omega, BW3.out, I1.out, R.out⟩
        case measure => simp [intOf]; omega
    · obtain rfl : i = j := by omega
      have KZ : Hid (z = i) := KA.out i (by have := HN.out; omega) HI.out.2.1 (fun x h1 h2 => HI.out.2.2 x h1 (by have := HN.out; omega))
      have BW := Lib.hid HI.out.1
      by_cases hiN : i < N
      · obtain ⟨b, off, rfl, hc⟩ := (HA.out.below BW.out) (by have := HN.out; omega)
        obtain ⟨c0, c1⟩ := hc i (by rw [HN.out]; exact hiN)
        obtain ⟨d0, d1⟩ := BX.out wr (by have := BW.out; rwa [ES.out] at this)
        have hzi : (i : Int) < (N : Int) := by omega
        clear hc HI HA
        obtain ⟨s, hr⟩ : ∃ s, Qu.nr l i = s := ⟨_, rfl⟩
        rw [hr] at c0 c1
        clear hr
        obtain ⟨s1, s2⟩ := s
        dsimp only at c0 c1
        obtain ⟨z1, hz1⟩ : ∃ z1, cmpR (s1, s2) (r1, r2) = z1 := ⟨_, rfl⟩
        have C := Lib.hid (fun W => CO.out (s1, s2) W)
        rw [hz1] at C
        clear hz1
        go_upto_region 8 with fail
        refine wp_region_held_drew (S := fun W => Below wr.drew.heap.size wr.drew W) (by kernel_rfl) (Below.refl _ _) (fun hHeld => ?_)
        replace c0 : wr.drew.cell? _ = _ := c0
        replace c1 : wr.drew.cell? _ = _ := c1
        replace d0 : wr.drew.cell? _ = _ := d0
        replace d1 : wr.drew.cell? _ = _ := d1
        replace BW := Lib.hid (BW.out.drew)
        generalize wr.drew = w2 at *
        have lb := World.block_lt_of_cell? w2 _ c0
        have ld := World.block_lt_of_cell? w2 _ d0
        replace lb : b < w2.heap.size := lb
        replace ld : w.heap.size < w2.heap.size := ld
        refine held_take 0 35 (v := .int .i64 (i : Int)) rfl rfl (by kernel_rfl) (by kernel_rfl) (by kernel_rfl) (by rfl) (fun _ _ _ h => h) (by assumption) ?_ ?_
        · intro W hW
          go_simp
        simp only [List.setIfInBounds_toArray, List.set_cons_zero, List.set_cons_succ]
        refine held_take 1 36 (v := .int .i64 (i : Int)) rfl rfl (by kernel_rfl) (by kernel_rfl) (by kernel_rfl) (by rfl) (fun _ _ _ h => h) (by assumption) ?_ ?_
        · intro W hW
          go_simp
        simp only [List.setIfInBounds_toArray, List.set_cons_zero, List.set_cons_succ]
        refine held_take 2 37 (v := .int .i64 (N : Int)) rfl rfl (by kernel_rfl) (by kernel_rfl) (by kernel_rfl) (by rfl) (fun _ _ _ h => h) (by assumption) ?_ ?_
        · intro W hW
          go_simp
        simp only [List.setIfInBounds_toArray, List.set_cons_zero, List.set_cons_succ]
        refine held_take 3 38 (v := .bool true) rfl rfl (by kernel_rfl) (by kernel_rfl) (by kernel_rfl) (by rfl) (fun _ _ _ h => h) (by assumption) ?_ ?_
        · intro W hW
          go_simp
        simp only [List.setIfInBounds_toArray, List.set_cons_zero, List.set_cons_succ]
        refine held_take 4 39 (v := .bool true) rfl rfl (by kernel_rfl) (by kernel_rfl) (by kernel_rfl) (by rfl) (fun _ _ _ h => h) (by assumption) ?_ ?_
        · intro W hW
          go_simp
        simp only [List.setIfInBounds_toArray, List.set_cons_zero, List.set_cons_succ]
        refine held_take 5 40 (v := .func (.func 20) #[] #[]) rfl rfl (by kernel_rfl) (by kernel_rfl) (by kernel_rfl) (by rfl) (fun _ _ _ h => h) (by assumption) ?_ ?_
        · intro W hW
          go_simp
        simp only [List.setIfInBounds_toArray, List.set_cons_zero, List.set_cons_succ]
        refine held_take 6 41 (v := .slice (some ⟨b, off, none⟩) N cap) rfl rfl (by kernel_rfl) (by kernel_rfl) (by kernel_rfl) (by rfl) (fun _ _ _ h => h) (by assumption) ?_ ?_
        · intro W hW
          go_simp
        simp only [List.setIfInBounds_toArray, List.set_cons_zero, List.set_cons_succ]
        refine held_take 7 42 (v := .int .i64 (i : Int)) rfl rfl (by kernel_rfl) (by kernel_rfl) (by kernel_rfl) (by rfl) (fun _ _ _ h => h) (by assumption) ?_ ?_
        · intro W hW
          go_simp
        simp only [List.setIfInBounds_toArray, List.set_cons_zero, List.set_cons_succ]
        refine held_take 8 43 (v := .pointer (some ⟨b, off + i * 2, none⟩)) rfl rfl (by kernel_rfl) (by kernel_rfl) (by kernel_rfl) (by rfl) (fun _ _ _ h => h) (by assumption) ?_ ?_
        · intro W hW
          go_simp
        simp only [List.setIfInBounds_toArray, List.set_cons_zero, List.set_cons_succ]
        refine held_take 9 44 (v := .agg #[.int .u64 s1, .int .i64 s2]) rfl rfl (by kernel_rfl) (by kernel_rfl) (by kernel_rfl) (by rfl) (fun _ _ _ h => h) (by assumption) ?_ ?_
        · intro W hW
          have k0 := (hW.cell lb).trans c0
          have k1 := (hW.cell lb).trans c1
          go_simp
        simp only [List.setIfInBounds_toArray, List.set_cons_zero, List.set_cons_succ]
        refine held_take 10 45 (v := .agg #[.int .u64 r1, .int .i64 r2]) rfl rfl (by kernel_rfl) (by kernel_rfl) (by kernel_rfl) (by rfl) (fun _ _ _ h => h) (by assumption) ?_ ?_
        · intro W hW
          have k0 := (hW.cell ld).trans d0
          have k1 := (hW.cell ld).trans d1
          go_simp
        simp only [List.setIfInBounds_toArray, List.set_cons_zero, List.set_cons_succ]
        refine held_op 11 rfl (by kernel_rfl) (by rfl) ?_
        refine wp_call (f := 20) (args := #[.agg #[.int .u64 s1, .int .i64 s2], .agg #[.int .u64 r1, .int .i64 r2]]) rfl (by go_simp) ((C.out w2).mono ?_)
        rintro e w3 ⟨rfl, b3⟩
        refine ⟨_, rfl, b3, ?_⟩
        simp only [List.setIfInBounds_toArray, List.set_cons_zero, List.set_cons_succ]
        have BW3 := Lib.hid (B0.out.trans ((BW.out.trans (b3.mono BW.out.size)).mono B0.out.size))
        refine held_take 12 47 (v := .bool (z1 == 0)) rfl rfl (by kernel_rfl) (by kernel_rfl) (by kernel_rfl) (by rfl) (fun _ _ _ h => h) (by assumption) ?_ ?_
        · intro W hW
          go_simp
        simp only [List.setIfInBounds_toArray, List.set_cons_zero, List.set_cons_succ]
        refine held_take 13 48 (v := .bool (z1 == 0)) rfl rfl (by kernel_rfl) (by kernel_rfl) (by kernel_rfl) (by rfl) (fun _ _ _ h => h) (by assumption) ?_ ?_
        · intro W hW
          go_simp
        simp only [List.setIfInBounds_toArray, List.set_cons_zero, List.set_cons_succ]
        refine held_take 14 6 (v := .int .i64 (i : Int)) rfl rfl (by kernel_rfl) (by kernel_rfl) (by kernel_rfl) (by rfl) (fun _ _ _ h => h) (by assumption) ?_ ?_
        · intro W hW
          go_simp
        simp only [List.setIfInBounds_toArray, List.set_cons_zero, List.set_cons_succ]
        refine held_take 15 7 (v := .bool (z1 == 0)) rfl rfl (by kernel_rfl) (by kernel_rfl) (by kernel_rfl) (by rfl) (fun _ _ _ h => h) (by assumption) ?_ ?_
        · intro W hW
          go_simp
        simp only [List.setIfInBounds_toArray, List.set_cons_zero, List.set_cons_succ]
        refine wpAnyH_done (by kernel_rfl) ?_ _
        go_wp2
        go_ret2
        exact ⟨⟨_, by rw [KZ.out]; rfl⟩, BW3.out⟩
      · have hzi : ¬ (i : Int) < (N : Int) := by omega
        have BW3 := Lib.hid (fun q => B0.out.trans ((below_drewN BW.out q).mono B0.out.size))
        clear HI HA BW
        go_wp2_with fail
        go_quiet (fail)
        go_wp2
        go_ret2
        exact ⟨_, by rw [KZ.out]; rfl, BW3.out _⟩
end Go.Proofs.Ytlbhiiciajfphaa
