/-
  ScanPatterns as a contract: a pattern matches a text just if its tree does. Conditions: the library's table lies in its variable (DTab).
-/
import Derived.Test.YtonfmbnankihbaaDoorWh
import Derived.Test.YtonfmbnankihbaaDoorWl
import Derived.Test.YtonfmbnankihbaaDoorZ38
import Derived.Test.YtonfmbnankihbaaDoorZ04
namespace Go.Proofs.YtonfmbnankihbaaDoor
open Go.RowKit Go.Sort
open Pz Sc

set_option maxRecDepth 100000 in
set_option maxHeartbeats 4000000 in
theorem patterns_law (p s : ByteArray) (w : World) (hs : s.size ≤ maxLen) (hT : DTab w) :
    Calls Tryd.prog 7 #[.string p, .string s] w fun e w' => e = .returned (.bool true) ∧ Below w.heap.size w w' := by
  unfold maxLen at hs
  have HT := Lib.hid (fun W (hW : Below w.heap.size w W) => hT.below hW)
  have RN := Lib.hid (fun W (hW : Below w.heap.size w W) => runs7_any W (hT.below hW))
  obtain ⟨L, hL⟩ : ∃ L, s.size = L := ⟨_, rfl⟩
  rw [hL] at hs
  by_cases h20 : 20 < L
  · have hz : decide ((L : Int) > 20) = true := decide_eq_true (by omega)
    have R1 := Lib.hid (RN.out _ (Below.refl _ _))
    clear h20 RN HT hT
    go_enter Tryd.func7, Tryd.ntmps7
    go_wp2_with fail
    refine R1.out.mono ?_
    rintro e w1 ⟨rfl, b1⟩
    have B := Lib.hid b1
    clear b1
    go_wp2
    go_ret
    exact ⟨rfl, B.out⟩
  have hz : decide ((L : Int) > 20) = false := decide_eq_false (by omega)
  have MD := Lib.hid (made_any p w)
  have PR := Lib.hid (fun W => rparse_any p W)
  cases hr : parse (txt8 p) with
  | none =>
    have em : madeS p = false := by unfold madeS; rw [hr]
    rw [em] at MD
    rw [hr] at PR
    have PN := Lib.hid (fun w w' e (h : ParseRes w none e w') => h.no rfl)
    clear hr em hT HT
    go_enter Tryd.func7, Tryd.ntmps7
    go_wp2_with fail
    refine MD.out.mono ?_
    rintro e w1 ⟨⟨A, n, cap, rfl, -⟩, b1⟩
    have B := Lib.hid b1
    clear b1 MD
    go_wp2_with fail
    refine (PR.out _).mono ?_
    intro e w0 h3
    obtain ⟨rfl, b3⟩ := PN.out _ _ _ h3
    replace B := Lib.hid (B.out.trans (b3.mono B.out.size))
    have B1 : Below w0.heap.size w0 (w0.alloc (.cells #[.int .i64 0, .int .u64 0, .int .u64 0, .int .u64 0, .int .u64 0, .slice none 0 0] 34)) := (Below.refl _ _).alloc (Nat.le_refl _) _
    replace B := Lib.hid (B.out.trans (B1.mono B.out.size))
    clear h3 b3 PR PN B1
    go_wp2_with fail
    generalize hw5 : w0.alloc (.cells #[.int .i64 0, .int .u64 0, .int .u64 0, .int .u64 0, .int .u64 0, .slice none 0 0] 34) = w5 at *
    clear hw5
    refine wp_region_held_drew (S := fun W => Below w5.heap.size w5 W) (by kernel_rfl) ((Below.refl _ _).drew) (fun hHeld => ?_)
    refine held_take 0 31 (v := (.bool false)) rfl rfl (by kernel_rfl) (by kernel_rfl) (by kernel_rfl) (by rfl) (fun _ _ _ h => h) (by assumption) ?_ ?_
    · intro W hW
      go_simp
    simp only [List.setIfInBounds_toArray, List.set_cons_zero, List.set_cons_succ]
    refine held_take 1 32 (v := (.bool true)) rfl rfl (by kernel_rfl) (by kernel_rfl) (by kernel_rfl) (by rfl) (fun _ _ _ h => h) (by assumption) ?_ ?_
    · intro W hW
      go_simp
    simp only [List.setIfInBounds_toArray, List.set_cons_zero, List.set_cons_succ]
    refine held_take 2 33 (v := (.bool true)) rfl rfl (by kernel_rfl) (by kernel_rfl) (by kernel_rfl) (by rfl) (fun _ _ _ h => h) (by assumption) ?_ ?_
    · intro W hW
      go_simp
    simp only [List.setIfInBounds_toArray, List.set_cons_zero, List.set_cons_succ]
    refine held_skip 3 34 rfl rfl (by kernel_rfl) (by kernel_rfl) (by kernel_rfl) (by rfl) (fun _ _ _ h => h) (by assumption) ?_
    simp only [List.setIfInBounds_toArray, List.set_cons_zero, List.set_cons_succ]
    refine held_skip 4 35 rfl rfl (by kernel_rfl) (by kernel_rfl) (by kernel_rfl) (by rfl) (fun _ _ _ h => h) (by assumption) ?_
    simp only [List.setIfInBounds_toArray, List.set_cons_zero, List.set_cons_succ]
    refine held_skip 5 36 rfl rfl (by kernel_rfl) (by kernel_rfl) (by kernel_rfl) (by rfl) (fun _ _ _ h => h) (by assumption) ?_
    simp only [List.setIfInBounds_toArray, List.set_cons_zero, List.set_cons_succ]
    refine held_skip 6 37 rfl rfl (by kernel_rfl) (by kernel_rfl) (by kernel_rfl) (by rfl) (fun _ _ _ h => h) (by assumption) ?_
    simp only [List.setIfInBounds_toArray, List.set_cons_zero, List.set_cons_succ]
    refine held_skip 7 38 rfl rfl (by kernel_rfl) (by kernel_rfl) (by kernel_rfl) (by rfl) (fun _ _ _ h => h) (by assumption) ?_
    simp only [List.setIfInBounds_toArray, List.set_cons_zero, List.set_cons_succ]
    refine held_skip 8 39 rfl rfl (by kernel_rfl) (by kernel_rfl) (by kernel_rfl) (by rfl) (fun _ _ _ h => h) (by assumption) ?_
    simp only [List.setIfInBounds_toArray, List.set_cons_zero, List.set_cons_succ]
    refine held_skip 9 40 rfl rfl (by kernel_rfl) (by kernel_rfl) (by kernel_rfl) (by rfl) (fun _ _ _ h => h) (by assumption) ?_
    simp only [List.setIfInBounds_toArray, List.set_cons_zero, List.set_cons_succ]
    refine held_take 10 41 (v := (.bool true)) rfl rfl (by kernel_rfl) (by kernel_rfl) (by kernel_rfl) (by rfl) (fun _ _ _ h => h) (by assumption) ?_ ?_
    · intro W hW
      go_simp
    simp only [List.setIfInBounds_toArray, List.set_cons_zero, List.set_cons_succ]
    refine held_take 11 42 (v := (.bool true)) rfl rfl (by kernel_rfl) (by kernel_rfl) (by kernel_rfl) (by rfl) (fun _ _ _ h => h) (by assumption) ?_ ?_
    · intro W hW
      go_simp
    simp only [List.setIfInBounds_toArray, List.set_cons_zero, List.set_cons_succ]
    refine held_call 12 43 (f := 3) (args := #[]) rfl rfl (by kernel_rfl) (by rfl) (by go_simp) ?_
    refine (RN.out _ (B.out.trans (((Below.refl w5.heap.size w5).drew).mono B.out.size))).mono ?_
    rintro e v1 ⟨rfl, d1⟩
    have r1 : Below w5.heap.size w5 v1 := (Below.refl _ _).drew.trans d1
    refine ⟨_, rfl, r1, ?_⟩
    have held1 := Below.refl v1.heap.size v1
    refine held_more (S' := fun W => Below v1.heap.size v1 W) (fun W h => r1.trans (h.mono r1.size)) _ _ _ _ ?_
    simp only [List.setIfInBounds_toArray, List.set_cons_zero, List.set_cons_succ]
    refine held_take 13 44 (v := (.bool true)) rfl rfl (by kernel_rfl) (by kernel_rfl) (by kernel_rfl) (by rfl) (fun _ _ _ h => h) (by assumption) ?_ ?_
    · intro W hW
      go_simp
    simp only [List.setIfInBounds_toArray, List.set_cons_zero, List.set_cons_succ]
    refine held_take 14 4 (v := (.bool true)) rfl rfl (by kernel_rfl) (by kernel_rfl) (by kernel_rfl) (by rfl) (fun _ _ _ h => h) (by assumption) ?_ ?_
    · intro W hW
      go_simp
    simp only [List.setIfInBounds_toArray, List.set_cons_zero, List.set_cons_succ]
    refine wpAnyH_done (by kernel_rfl) ?_ _
    have BF := Lib.hid (B.out.trans (r1.mono B.out.size))
    go_wp2
    go_ret
    exact ⟨rfl, BF.out⟩
  | some t =>
    have em : madeS p = Rx.made t := by unfold madeS; rw [hr]
    have ep : progS p = Rx.progL t := by unfold progS; rw [hr]
    rw [em, ep] at MD
    rw [hr] at PR
    have G := parse_good hr
    have hcnt := G.count
    have hf := G.fit
    have MS : Hid (Rx.made t = decide (Rx.size t ≤ 40)) := by
      show _ = _
      have : 0 < Rx.size t := by unfold Rx.size; rw [if_pos G.rex]; omega
      rw [Rx.made, decide_eq_true this, Bool.true_and]
    have PY := Lib.hid (fun w w' e (h : ParseRes w (some t) e w') => h.yes rfl)
    have CZ := Lib.hid (fun v W (h : IsRx W v t) => rsizeT_any t v W hcnt h)
    have CT := Lib.hid (fun v W (h : IsRx W v t) => takes_any t v s W hcnt hf (by omega) h)
    have TM := Lib.hid (fun hm : Rx.made t = true => takes_made hm (txt8 s))
    obtain ⟨q, hq⟩ : ∃ q, Rx.made t = q := ⟨_, rfl⟩
    rw [hq] at MD MS TM
    clear hr em ep hT G hcnt hf hq
    have hZ : decide ((Rx.size t : Int) ≤ 40) = q := by rw [MS.out, Bool.eq_iff_iff, decide_eq_true_eq, decide_eq_true_eq]; omega
    clear MS
    generalize Rx.size t = Z at *
    go_enter Tryd.func7, Tryd.ntmps7
    go_wp2_with fail
    refine MD.out.mono ?_
    rintro e w1 ⟨⟨A3, n3, cap3, rfl, l3, s3, c3, S3⟩, b1⟩
    have B := Lib.hid b1
    have S3 := Lib.hid (fun W (hW : Below w1.heap.size w1 W) => S3.grown hW)
    clear b1 MD
    go_wp2_with fail
    refine (PR.out _).mono ?_
    intro e w0 h3
    obtain ⟨op, a, b, c, d, A, n, cap, rfl, X1, b3⟩ := PY.out _ _ _ h3
    have B1 : Below w0.heap.size w0 (w0.alloc (.cells #[.int .i64 op, .int .u64 (a : Int), .int .u64 (b : Int), .int .u64 (c : Int), .int .u64 (d : Int), .slice A n cap] 34)) := (Below.refl _ _).alloc (Nat.le_refl _) _
    have R0 : Hid (Row6 (w0.alloc (.cells #[.int .i64 op, .int .u64 (a : Int), .int .u64 (b : Int), .int .u64 (c : Int), .int .u64 (d : Int), .slice A n cap] 34)) w0.heap.size #[.int .i64 op, .int .u64 (a : Int), .int .u64 (b : Int), .int .u64 (c : Int), .int .u64 (d : Int), .slice A n cap]) := heap_alloc_new _ _
    have X0 := Lib.hid (X1.grown B1)
    have b4 := b3.trans (B1.mono b3.size)
    have b5 := B.out.trans (b4.mono B.out.size)
    replace S3 := Lib.hid (fun W (hW : Below (w0.alloc (.cells #[.int .i64 op, .int .u64 (a : Int), .int .u64 (b : Int), .int .u64 (c : Int), .int .u64 (d : Int), .slice A n cap] 34)).heap.size (w0.alloc (.cells #[.int .i64 op, .int .u64 (a : Int), .int .u64 (b : Int), .int .u64 (c : Int), .int .u64 (d : Int), .slice A n cap] 34)) W) => S3.out W (b4.trans (hW.mono b4.size)))
    replace B := Lib.hid b5
    clear h3 b3 PR PY B1 b4 b5 X1
    have C1 := Lib.hid (CZ.out _ _ X0.out)
    clear CZ
    go_wp2_with fail
    generalize hw5 : w0.alloc (.cells #[.int .i64 op, .int .u64 (a : Int), .int .u64 (b : Int), .int .u64 (c : Int), .int .u64 (d : Int), .slice A n cap] 34) = w4 at *
    generalize w0.heap.size = g0 at *
    clear hw5
    refine C1.out.mono ?_
    rintro e w5 ⟨rfl, b6⟩
    replace B := Lib.hid (B.out.trans (b6.mono B.out.size))
    replace R0 := Lib.hid (R0.out.grow b6)
    replace X0 := Lib.hid (X0.out.grown b6)
    have CM := Lib.hid (fun W (hW : Below w5.heap.size w5 W) => scmatch_any (Rx.progL t) s A3 n3 cap3 W (by omega) l3 (by omega) c3 (S3.out W (b6.trans (hW.mono b6.size))) (HT.out W (B.out.trans (hW.mono B.out.size))))
    have CT := Lib.hid (fun W (hW : Below w5.heap.size w5 W) => CT.out _ W (X0.out.grown hW))
    clear b6 C1 HT l3 S3
    have NEq : (q != decide ((Z : Int) ≤ 40)) = false := by rw [hZ]; simp
    cases q
    · clear CM CT R0 X0 TM
      go_wp2_with fail
      refine wp_region_held_drew (S := fun W => Below w5.heap.size w5 W) (by kernel_rfl) ((Below.refl _ _).drew) (fun hHeld => ?_)
      refine held_take 0 31 (v := (.bool false)) rfl rfl (by kernel_rfl) (by kernel_rfl) (by kernel_rfl) (by rfl) (fun _ _ _ h => h) (by assumption) ?_ ?_
      · intro W hW
        go_simp
      simp only [List.setIfInBounds_toArray, List.set_cons_zero, List.set_cons_succ]
      refine held_take 1 32 (v := (.bool true)) rfl rfl (by kernel_rfl) (by kernel_rfl) (by kernel_rfl) (by rfl) (fun _ _ _ h => h) (by assumption) ?_ ?_
      · intro W hW
        go_simp
      simp only [List.setIfInBounds_toArray, List.set_cons_zero, List.set_cons_succ]
      refine held_take 2 33 (v := (.bool true)) rfl rfl (by kernel_rfl) (by kernel_rfl) (by kernel_rfl) (by rfl) (fun _ _ _ h => h) (by assumption) ?_ ?_
      · intro W hW
        go_simp
      simp only [List.setIfInBounds_toArray, List.set_cons_zero, List.set_cons_succ]
      refine held_skip 3 34 rfl rfl (by kernel_rfl) (by kernel_rfl) (by kernel_rfl) (by rfl) (fun _ _ _ h => h) (by assumption) ?_
      simp only [List.setIfInBounds_toArray, List.set_cons_zero, List.set_cons_succ]
      refine held_skip 4 35 rfl rfl (by kernel_rfl) (by kernel_rfl) (by kernel_rfl) (by rfl) (fun _ _ _ h => h) (by assumption) ?_
      simp only [List.setIfInBounds_toArray, List.set_cons_zero, List.set_cons_succ]
      refine held_skip 5 36 rfl rfl (by kernel_rfl) (by kernel_rfl) (by kernel_rfl) (by rfl) (fun _ _ _ h => h) (by assumption) ?_
      simp only [List.setIfInBounds_toArray, List.set_cons_zero, List.set_cons_succ]
      refine held_skip 6 37 rfl rfl (by kernel_rfl) (by kernel_rfl) (by kernel_rfl) (by rfl) (fun _ _ _ h => h) (by assumption) ?_
      simp only [List.setIfInBounds_toArray, List.set_cons_zero, List.set_cons_succ]
      refine held_skip 7 38 rfl rfl (by kernel_rfl) (by kernel_rfl) (by kernel_rfl) (by rfl) (fun _ _ _ h => h) (by assumption) ?_
      simp only [List.setIfInBounds_toArray, List.set_cons_zero, List.set_cons_succ]
      refine held_skip 8 39 rfl rfl (by kernel_rfl) (by kernel_rfl) (by kernel_rfl) (by rfl) (fun _ _ _ h => h) (by assumption) ?_
      simp only [List.setIfInBounds_toArray, List.set_cons_zero, List.set_cons_succ]
      refine held_skip 9 40 rfl rfl (by kernel_rfl) (by kernel_rfl) (by kernel_rfl) (by rfl) (fun _ _ _ h => h) (by assumption) ?_
      simp only [List.setIfInBounds_toArray, List.set_cons_zero, List.set_cons_succ]
      refine held_take 10 41 (v := (.bool true)) rfl rfl (by kernel_rfl) (by kernel_rfl) (by kernel_rfl) (by rfl) (fun _ _ _ h => h) (by assumption) ?_ ?_
      · intro W hW
        go_simp
      simp only [List.setIfInBounds_toArray, List.set_cons_zero, List.set_cons_succ]
      refine held_take 11 42 (v := (.bool true)) rfl rfl (by kernel_rfl) (by kernel_rfl) (by kernel_rfl) (by rfl) (fun _ _ _ h => h) (by assumption) ?_ ?_
      · intro W hW
        go_simp
      simp only [List.setIfInBounds_toArray, List.set_cons_zero, List.set_cons_succ]
      refine held_call 12 43 (f := 3) (args := #[]) rfl rfl (by kernel_rfl) (by rfl) (by go_simp) ?_
      refine (RN.out _ (B.out.trans (((Below.refl w5.heap.size w5).drew).mono B.out.size))).mono ?_
      rintro e v1 ⟨rfl, d1⟩
      have r1 : Below w5.heap.size w5 v1 := (Below.refl _ _).drew.trans d1
      refine ⟨_, rfl, r1, ?_⟩
      have held1 := Below.refl v1.heap.size v1
      refine held_more (S' := fun W => Below v1.heap.size v1 W) (fun W h => r1.trans (h.mono r1.size)) _ _ _ _ ?_
      simp only [List.setIfInBounds_toArray, List.set_cons_zero, List.set_cons_succ]
      refine held_take 13 44 (v := (.bool true)) rfl rfl (by kernel_rfl) (by kernel_rfl) (by kernel_rfl) (by rfl) (fun _ _ _ h => h) (by assumption) ?_ ?_
      · intro W hW
        go_simp
      simp only [List.setIfInBounds_toArray, List.set_cons_zero, List.set_cons_succ]
      refine held_take 14 4 (v := (.bool true)) rfl rfl (by kernel_rfl) (by kernel_rfl) (by kernel_rfl) (by rfl) (fun _ _ _ h => h) (by assumption) ?_ ?_
      · intro W hW
        go_simp
      simp only [List.setIfInBounds_toArray, List.set_cons_zero, List.set_cons_succ]
      refine wpAnyH_done (by kernel_rfl) ?_ _
      have BF := Lib.hid (B.out.trans (r1.mono B.out.size))
      go_wp2
      go_ret
      exact ⟨rfl, BF.out⟩
    · rw [TM.out rfl] at CT
      clear TM
      generalize vMatch (Rx.progL t) (txt8 s) = m at *
      go_wp2_with fail
      refine wp_region_held_drew (S := fun W => Below w5.heap.size w5 W) (by kernel_rfl) ((Below.refl _ _).drew) (fun hHeld => ?_)
      refine held_take 0 31 (v := (.bool true)) rfl rfl (by kernel_rfl) (by kernel_rfl) (by kernel_rfl) (by rfl) (fun _ _ _ h => h) (by assumption) ?_ ?_
      · intro W hW
        go_simp
      simp only [List.setIfInBounds_toArray, List.set_cons_zero, List.set_cons_succ]
      refine held_take 1 32 (v := (.bool false)) rfl rfl (by kernel_rfl) (by kernel_rfl) (by kernel_rfl) (by rfl) (fun _ _ _ h => h) (by assumption) ?_ ?_
      · intro W hW
        go_simp
      simp only [List.setIfInBounds_toArray, List.set_cons_zero, List.set_cons_succ]
      refine held_take 2 33 (v := (.bool false)) rfl rfl (by kernel_rfl) (by kernel_rfl) (by kernel_rfl) (by rfl) (fun _ _ _ h => h) (by assumption) ?_ ?_
      · intro W hW
        go_simp
      simp only [List.setIfInBounds_toArray, List.set_cons_zero, List.set_cons_succ]
      refine held_take 3 34 (v := (.slice A3 n3 cap3)) rfl rfl (by kernel_rfl) (by kernel_rfl) (by kernel_rfl) (by rfl) (fun _ _ _ h => h) (by assumption) ?_ ?_
      · intro W hW
        go_simp
      simp only [List.setIfInBounds_toArray, List.set_cons_zero, List.set_cons_succ]
      refine held_take 4 35 (v := (.string s)) rfl rfl (by kernel_rfl) (by kernel_rfl) (by kernel_rfl) (by rfl) (fun _ _ _ h => h) (by assumption) ?_ ?_
      · intro W hW
        go_simp
      simp only [List.setIfInBounds_toArray, List.set_cons_zero, List.set_cons_succ]
      refine held_take 6 37 (v := (.agg #[.int .i64 op, .int .u64 (a : Int), .int .u64 (b : Int), .int .u64 (c : Int), .int .u64 (d : Int), .slice A n cap])) rfl rfl (by kernel_rfl) (by kernel_rfl) (by kernel_rfl) (by rfl) (fun _ _ _ h => h) (by assumption) ?_ ?_
      · intro W hW
        obtain ⟨e0, e1, e2, e3, e4, e5⟩ := (R0.out.grow hW).cells
        go_simp
      simp only [List.setIfInBounds_toArray, List.set_cons_zero, List.set_cons_succ]
      refine held_take 7 38 (v := (.string s)) rfl rfl (by kernel_rfl) (by kernel_rfl) (by kernel_rfl) (by rfl) (fun _ _ _ h => h) (by assumption) ?_ ?_
      · intro W hW
        go_simp
      simp only [List.setIfInBounds_toArray, List.set_cons_zero, List.set_cons_succ]
      refine held_call 5 36 (f := 13) (args := #[(.slice A3 n3 cap3), .string s]) rfl rfl (by kernel_rfl) (by rfl) (by go_simp) ?_
      refine (CM.out _ ((Below.refl w5.heap.size w5).drew)).mono ?_
      rintro e v1 ⟨rfl, d1⟩
      have r1 : Below w5.heap.size w5 v1 := (Below.refl _ _).drew.trans d1
      refine ⟨_, rfl, r1, ?_⟩
      have held1 := Below.refl v1.heap.size v1
      refine held_more (S' := fun W => Below v1.heap.size v1 W) (fun W h => r1.trans (h.mono r1.size)) _ _ _ _ ?_
      simp only [List.setIfInBounds_toArray, List.set_cons_zero, List.set_cons_succ]
      refine held_call 8 39 (f := 23) (args := #[(.agg #[.int .i64 op, .int .u64 (a : Int), .int .u64 (b : Int), .int .u64 (c : Int), .int .u64 (d : Int), .slice A n cap]), .string s]) rfl rfl (by kernel_rfl) (by rfl) (by go_simp) ?_
      refine (CT.out _ r1).mono ?_
      rintro e v2 ⟨rfl, d2⟩
      have r2 := r1.trans (d2.mono r1.size)
      refine ⟨_, rfl, d2, ?_⟩
      have held2 := Below.refl v2.heap.size v2
      refine held_more (S' := fun W => Below v2.heap.size v2 W) (fun W h => d2.trans (h.mono d2.size)) _ _ _ _ ?_
      simp only [List.setIfInBounds_toArray, List.set_cons_zero, List.set_cons_succ]
      refine held_take 9 40 (v := (.bool true)) rfl rfl (by kernel_rfl) (by kernel_rfl) (by kernel_rfl) (by rfl) (fun _ _ _ h => h) (by assumption) ?_ ?_
      · intro W hW
        go_simp
      simp only [List.setIfInBounds_toArray, List.set_cons_zero, List.set_cons_succ]
      refine held_take 10 41 (v := (.bool true)) rfl rfl (by kernel_rfl) (by kernel_rfl) (by kernel_rfl) (by rfl) (fun _ _ _ h => h) (by assumption) ?_ ?_
      · intro W hW
        go_simp
      simp only [List.setIfInBounds_toArray, List.set_cons_zero, List.set_cons_succ]
      refine held_take 11 42 (v := (.bool true)) rfl rfl (by kernel_rfl) (by kernel_rfl) (by kernel_rfl) (by rfl) (fun _ _ _ h => h) (by assumption) ?_ ?_
      · intro W hW
        go_simp
      simp only [List.setIfInBounds_toArray, List.set_cons_zero, List.set_cons_succ]
      refine held_call 12 43 (f := 3) (args := #[]) rfl rfl (by kernel_rfl) (by rfl) (by go_simp) ?_
      refine (RN.out _ (B.out.trans (r2.mono B.out.size))).mono ?_
      rintro e v3 ⟨rfl, d3⟩
      have r3 := r2.trans (d3.mono r2.size)
      refine ⟨_, rfl, d3, ?_⟩
      have held3 := Below.refl v3.heap.size v3
      refine held_more (S' := fun W => Below v3.heap.size v3 W) (fun W h => d3.trans (h.mono d3.size)) _ _ _ _ ?_
      simp only [List.setIfInBounds_toArray, List.set_cons_zero, List.set_cons_succ]
      refine held_take 13 44 (v := (.bool true)) rfl rfl (by kernel_rfl) (by kernel_rfl) (by kernel_rfl) (by rfl) (fun _ _ _ h => h) (by assumption) ?_ ?_
      · intro W hW
        go_simp
      simp only [List.setIfInBounds_toArray, List.set_cons_zero, List.set_cons_succ]
      refine held_take 14 4 (v := (.bool true)) rfl rfl (by kernel_rfl) (by kernel_rfl) (by kernel_rfl) (by rfl) (fun _ _ _ h => h) (by assumption) ?_ ?_
      · intro W hW
        go_simp
      simp only [List.setIfInBounds_toArray, List.set_cons_zero, List.set_cons_succ]
      refine wpAnyH_done (by kernel_rfl) ?_ _
      have BF := Lib.hid (B.out.trans (r3.mono B.out.size))
      go_wp2
      go_ret
      exact ⟨rfl, BF.out⟩
end Go.Proofs.YtonfmbnankihbaaDoor
