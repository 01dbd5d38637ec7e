/-
  RexTrees as a contract: whether any tree may be, and where its matches end. No conditions.
-/
import Derived.Test.YteifjiadgbgkbaaKa
import Derived.Test.YteifjiadgbgkbaaEb
namespace Go.Proofs.Yteifjiadgbgkbaa
open Go.RowKit Go.Sort
open Pz

theorem IsRx.form6 {w : World} {v : Value} {t : Rx} (h : IsRx w v t) : ∃ op a b c d A n cap, v = .agg #[.int .i64 op, .int .u64 ((a : Nat) : Int), .int .u64 ((b : Nat) : Int), .int .u64 ((c : Nat) : Int), .int .u64 ((d : Nat) : Int), .slice A n cap] := by
  cases h with
  | node op a b c d ks A cap blk off V hcap hA hp hc hk => exact ⟨op, a, b, c, d, A, ks.length, cap, rfl⟩
theorem same_b (xs ys : List Int) (A B : Option Addr) (nx ny ca cb : Nat) (w : World) (ex : xs.length = nx) (ey : ys.length = ny) (hx : nx ≤ 1099511627776) (hy : ny ≤ 1099511627776) (ha : IsZ w A xs) (hb : IsZ w B ys) :
    Calls Try.prog 12 #[.slice A nx ca, .slice B ny cb] w fun e w' => e = .returned (.bool (decide (xs = ys))) ∧ Below w.heap.size w w' :=
  (same_any xs ys A B nx ny ca cb w ex ey hx hy ha hb).mono fun e w' ⟨h1, n, h2⟩ => ⟨h1, by rw [h2]; exact drewN_below (Below.refl _ _) n⟩
/-- The nodes are few. -/
theorem nodes14 (t : Rx) (v : Value) (w : World) (h : IsRx w v t) : Calls Try.prog 17 #[v, .int .i64 14] w fun e w' => e = .returned (.int .i64 ((min (Rx.count t) 15 : Nat) : Int)) ∧ Below w.heap.size w w' :=
  nodes_any (Rx.count t) t v 14 w (by omega) (Nat.le_refl _) h

set_option maxRecDepth 100000 in
set_option maxHeartbeats 4000000 in
theorem trees_law (t : Rx) (v : Value) (s : ByteArray) (z : Int) (w : World) (hs : s.size ≤ maxLen) (hf : Rx.fit t) (h : IsRx w v t) :
    Calls Try.prog 5 #[v, .string s, .int .i64 z] w fun e w' => e = .returned (.bool true) ∧ Below w.heap.size w w' := by
  obtain ⟨op, a, b, c, d, A, n, cap, rfl⟩ := h.form6
  unfold maxLen at hs
  have B0 : Below w.heap.size w (w.alloc (.cells #[.int .i64 op, .int .u64 (a : Int), .int .u64 (b : Int), .int .u64 (c : Int), .int .u64 (d : Int), .slice A n cap] 26)) := (Below.refl _ _).alloc (Nat.le_refl _) _
  have R0 : Hid (Row6 (w.alloc (.cells #[.int .i64 op, .int .u64 (a : Int), .int .u64 (b : Int), .int .u64 (c : Int), .int .u64 (d : Int), .slice A n cap] 26)) w.heap.size #[.int .i64 op, .int .u64 (a : Int), .int .u64 (b : Int), .int .u64 (c : Int), .int .u64 (d : Int), .slice A n cap]) := heap_alloc_new w _
  have X0 := Lib.hid (h.grown B0)
  have B := Lib.hid B0
  clear B0 h
  have RN := Lib.hid runs_any
  obtain ⟨L, hL⟩ : ∃ L, s.size = L := ⟨_, rfl⟩
  rw [hL] at hs
  by_cases h20 : 20 < L
  · have hz : decide ((L : Int) > 20) = true := decide_eq_true (by omega)
    clear h20
    go_enter Try.func5, Try.ntmps5
    go_wp2_with fail
    refine (RN.out _).mono ?_
    rintro e w1 ⟨rfl, b1⟩
    replace B := Lib.hid (B.out.trans (b1.mono B.out.size))
    clear b1
    go_wp2
    go_ret
    exact ⟨rfl, B.out⟩
  have hz : decide ((L : Int) > 20) = false := decide_eq_false (by omega)
  have CN := Lib.hid (nodes14 t _ _ X0.out)
  obtain ⟨k, hk⟩ : ∃ k, min (Rx.count t) 15 = k := ⟨_, rfl⟩
  rw [hk] at CN
  by_cases h14 : 14 < k
  · have hkz : decide ((k : Int) > 14) = true := decide_eq_true (by omega)
    clear hk h14
    go_enter Try.func5, Try.ntmps5
    go_wp2_with fail
    refine CN.out.mono ?_
    rintro e w1 ⟨rfl, b1⟩
    replace B := Lib.hid (B.out.trans (b1.mono B.out.size))
    clear b1
    go_wp2_with fail
    refine (RN.out _).mono ?_
    rintro e w2 ⟨rfl, b1⟩
    replace B := Lib.hid (B.out.trans (b1.mono B.out.size))
    clear b1
    go_wp2
    go_ret
    exact ⟨rfl, B.out⟩
  have hkz : decide ((k : Int) > 14) = false := decide_eq_false (by omega)
  have hcnt : Rx.count t ≤ 14 := by omega
  clear hk h14
  go_enter Try.func5, Try.ntmps5
  go_wp2_with fail
  refine CN.out.mono ?_
  rintro e w0 ⟨rfl, b1⟩
  replace B := Lib.hid (B.out.trans (b1.mono B.out.size))
  replace R0 := Lib.hid (R0.out.grow b1)
  replace X0 := Lib.hid (X0.out.grown b1)
  clear b1 CN
  have CI := Lib.hid (fun W (hW : Below w0.heap.size w0 W) => is_any 1000 t _ W (Nat.le_refl _) (by omega) (X0.out.grown hW))
  have CR := Lib.hid (fun W (hW : Below w0.heap.size w0 W) => risrex_any 1000 t _ W (Nat.le_refl _) (by omega) (X0.out.grown hW))
  have CE := Lib.hid (fun W (hW : Below w0.heap.size w0 W) => ends_all (by omega) hf _ z s W (by omega) (X0.out.grown hW))
  have CF := Lib.hid (fun W (hW : Below w0.heap.size w0 W) => rends_all (by omega) hf _ z s W (by omega) (X0.out.grown hW))
  generalize Rx.isRex t = bb at *
  generalize ends (txt8 s) t z = E at *
  go_wp2_with fail
  refine wp_region_held_drew (S := fun W => Below w0.heap.size w0 W) (by kernel_rfl) ((Below.refl _ _).drew) (fun hHeld => ?_)
  refine held_take 0 16 (v := (.agg #[.int .i64 op, .int .u64 (a : Int), .int .u64 (b : Int), .int .u64 (c : Int), .int .u64 (d : Int), .slice A n cap])) rfl rfl (by kernel_rfl) (by kernel_rfl) (by kernel_rfl) (by rfl) (fun _ _ _ h => h) (by assumption) ?_ ?_
  · intro W hW
    obtain ⟨e0, e1, e2, e3, e4, e5⟩ := (R0.out.grow hW).cells
    go_simp
  simp only [List.setIfInBounds_toArray, List.set_cons_zero, List.set_cons_succ]
  refine held_take 2 18 (v := (.agg #[.int .i64 op, .int .u64 (a : Int), .int .u64 (b : Int), .int .u64 (c : Int), .int .u64 (d : Int), .slice A n cap])) rfl rfl (by kernel_rfl) (by kernel_rfl) (by kernel_rfl) (by rfl) (fun _ _ _ h => h) (by assumption) ?_ ?_
  · intro W hW
    obtain ⟨e0, e1, e2, e3, e4, e5⟩ := (R0.out.grow hW).cells
    go_simp
  simp only [List.setIfInBounds_toArray, List.set_cons_zero, List.set_cons_succ]
  refine held_call 1 17 (f := 16) (args := #[(.agg #[.int .i64 op, .int .u64 (a : Int), .int .u64 (b : Int), .int .u64 (c : Int), .int .u64 (d : Int), .slice A n cap])]) rfl rfl (by kernel_rfl) (by rfl) (by go_simp) ?_
  refine (CI.out _ ((Below.refl w0.heap.size w0).drew)).mono ?_
  rintro e v1 ⟨rfl, d1⟩
  have r1 : Below w0.heap.size w0 v1 := (Below.refl _ _).drew.trans d1
  refine ⟨_, rfl, r1, ?_⟩
  have held1 := Below.refl v1.heap.size v1
  refine held_more (S' := fun W => Below v1.heap.size v1 W) (fun W h => r1.trans (h.mono r1.size)) _ _ _ _ ?_
  simp only [List.setIfInBounds_toArray, List.set_cons_zero, List.set_cons_succ]
  refine held_call 3 19 (f := 18) (args := #[(.agg #[.int .i64 op, .int .u64 (a : Int), .int .u64 (b : Int), .int .u64 (c : Int), .int .u64 (d : Int), .slice A n cap])]) rfl rfl (by kernel_rfl) (by rfl) (by go_simp) ?_
  refine (CR.out _ r1).mono ?_
  rintro e v2 ⟨rfl, d2⟩
  have r2 := r1.trans (d2.mono r1.size)
  refine ⟨_, rfl, d2, ?_⟩
  have held2 := Below.refl v2.heap.size v2
  refine held_more (S' := fun W => Below v2.heap.size v2 W) (fun W h => d2.trans (h.mono d2.size)) _ _ _ _ ?_
  simp only [List.setIfInBounds_toArray, List.set_cons_zero, List.set_cons_succ]
  refine held_take 4 20 (v := (.bool true)) rfl rfl (by kernel_rfl) (by kernel_rfl) (by kernel_rfl) (by rfl) (fun _ _ _ h => h) (by assumption) ?_ ?_
  · intro W hW
    go_simp
  simp only [List.setIfInBounds_toArray, List.set_cons_zero, List.set_cons_succ]
  refine held_take 5 21 (v := (.bool true)) rfl rfl (by kernel_rfl) (by kernel_rfl) (by kernel_rfl) (by rfl) (fun _ _ _ h => h) (by assumption) ?_ ?_
  · intro W hW
    go_simp
  simp only [List.setIfInBounds_toArray, List.set_cons_zero, List.set_cons_succ]
  refine held_take 6 22 (v := (.agg #[.int .i64 op, .int .u64 (a : Int), .int .u64 (b : Int), .int .u64 (c : Int), .int .u64 (d : Int), .slice A n cap])) rfl rfl (by kernel_rfl) (by kernel_rfl) (by kernel_rfl) (by rfl) (fun _ _ _ h => h) (by assumption) ?_ ?_
  · intro W hW
    obtain ⟨e0, e1, e2, e3, e4, e5⟩ := (R0.out.grow (r2.trans (hW.mono r2.size))).cells
    go_simp
  simp only [List.setIfInBounds_toArray, List.set_cons_zero, List.set_cons_succ]
  refine held_take 7 23 (v := (.string s)) rfl rfl (by kernel_rfl) (by kernel_rfl) (by kernel_rfl) (by rfl) (fun _ _ _ h => h) (by assumption) ?_ ?_
  · intro W hW
    go_simp
  simp only [List.setIfInBounds_toArray, List.set_cons_zero, List.set_cons_succ]
  refine held_take 8 24 (v := (.int .i64 z)) rfl rfl (by kernel_rfl) (by kernel_rfl) (by kernel_rfl) (by rfl) (fun _ _ _ h => h) (by assumption) ?_ ?_
  · intro W hW
    go_simp
  simp only [List.setIfInBounds_toArray, List.set_cons_zero, List.set_cons_succ]
  refine held_take 10 26 (v := (.agg #[.int .i64 op, .int .u64 (a : Int), .int .u64 (b : Int), .int .u64 (c : Int), .int .u64 (d : Int), .slice A n cap])) rfl rfl (by kernel_rfl) (by kernel_rfl) (by kernel_rfl) (by rfl) (fun _ _ _ h => h) (by assumption) ?_ ?_
  · intro W hW
    obtain ⟨e0, e1, e2, e3, e4, e5⟩ := (R0.out.grow (r2.trans (hW.mono r2.size))).cells
    go_simp
  simp only [List.setIfInBounds_toArray, List.set_cons_zero, List.set_cons_succ]
  refine held_take 11 27 (v := (.string s)) rfl rfl (by kernel_rfl) (by kernel_rfl) (by kernel_rfl) (by rfl) (fun _ _ _ h => h) (by assumption) ?_ ?_
  · intro W hW
    go_simp
  simp only [List.setIfInBounds_toArray, List.set_cons_zero, List.set_cons_succ]
  refine held_take 12 28 (v := (.int .i64 z)) rfl rfl (by kernel_rfl) (by kernel_rfl) (by kernel_rfl) (by rfl) (fun _ _ _ h => h) (by assumption) ?_ ?_
  · intro W hW
    go_simp
  simp only [List.setIfInBounds_toArray, List.set_cons_zero, List.set_cons_succ]
  refine held_call 9 25 (f := 13) (args := #[(.agg #[.int .i64 op, .int .u64 (a : Int), .int .u64 (b : Int), .int .u64 (c : Int), .int .u64 (d : Int), .slice A n cap]), .string s, .int .i64 z]) rfl rfl (by kernel_rfl) (by rfl) (by go_simp) ?_
  refine (CE.out _ r2).mono ?_
  rintro e v3 ⟨A1, n1, c1, rfl, l1, m1, Z1, d3⟩
  have r3 := r2.trans (d3.mono r2.size)
  refine ⟨_, rfl, d3, ?_⟩
  have held3 := Below.refl v3.heap.size v3
  refine held_more (S' := fun W => Below v3.heap.size v3 W) (fun W h => d3.trans (h.mono d3.size)) _ _ _ _ ?_
  simp only [List.setIfInBounds_toArray, List.set_cons_zero, List.set_cons_succ]
  refine held_call 13 29 (f := 19) (args := #[(.agg #[.int .i64 op, .int .u64 (a : Int), .int .u64 (b : Int), .int .u64 (c : Int), .int .u64 (d : Int), .slice A n cap]), .string s, .int .i64 z]) rfl rfl (by kernel_rfl) (by rfl) (by go_simp) ?_
  refine (CF.out _ r3).mono ?_
  rintro e v4 ⟨A2, n2, c2, rfl, l2, m2, Z2, d4⟩
  have r4 := r3.trans (d4.mono r3.size)
  refine ⟨_, rfl, d4, ?_⟩
  have held4 := Below.refl v4.heap.size v4
  refine held_more (S' := fun W => Below v4.heap.size v4 W) (fun W h => d4.trans (h.mono d4.size)) _ _ _ _ ?_
  simp only [List.setIfInBounds_toArray, List.set_cons_zero, List.set_cons_succ]
  have CS := same_b (zn E) (zn E) A1 A2 n1 n2 c1 c2 _ (by rw [zn_len]; exact l1) (by rw [zn_len]; exact l2) (by omega) (by omega) (Z1.below d4) Z2
  rw [decide_eq_true rfl] at CS
  refine held_call 14 30 (f := 12) (args := #[.slice A1 n1 c1, .slice A2 n2 c2]) rfl rfl (by kernel_rfl) (by rfl) (by go_simp) ?_
  refine (CS).mono ?_
  rintro e v5 ⟨rfl, d5⟩
  have r5 := r4.trans (d5.mono r4.size)
  refine ⟨_, rfl, d5, ?_⟩
  have held5 := Below.refl v5.heap.size v5
  refine held_more (S' := fun W => Below v5.heap.size v5 W) (fun W h => d5.trans (h.mono d5.size)) _ _ _ _ ?_
  simp only [List.setIfInBounds_toArray, List.set_cons_zero, List.set_cons_succ]
  refine held_take 15 31 (v := (.bool true)) rfl rfl (by kernel_rfl) (by kernel_rfl) (by kernel_rfl) (by rfl) (fun _ _ _ h => h) (by assumption) ?_ ?_
  · intro W hW
    go_simp
  simp only [List.setIfInBounds_toArray, List.set_cons_zero, List.set_cons_succ]
  refine held_take 16 32 (v := (.bool true)) rfl rfl (by kernel_rfl) (by kernel_rfl) (by kernel_rfl) (by rfl) (fun _ _ _ h => h) (by assumption) ?_ ?_
  · intro W hW
    go_simp
  simp only [List.setIfInBounds_toArray, List.set_cons_zero, List.set_cons_succ]
  refine held_call 17 33 (f := 3) (args := #[]) rfl rfl (by kernel_rfl) (by rfl) (by go_simp) ?_
  refine (RN.out _).mono ?_
  rintro e v6 ⟨rfl, d6⟩
  have r6 := r5.trans (d6.mono r5.size)
  refine ⟨_, rfl, d6, ?_⟩
  have held6 := Below.refl v6.heap.size v6
  refine held_more (S' := fun W => Below v6.heap.size v6 W) (fun W h => d6.trans (h.mono d6.size)) _ _ _ _ ?_
  simp only [List.setIfInBounds_toArray, List.set_cons_zero, List.set_cons_succ]
  refine held_take 18 34 (v := (.bool true)) rfl rfl (by kernel_rfl) (by kernel_rfl) (by kernel_rfl) (by rfl) (fun _ _ _ h => h) (by assumption) ?_ ?_
  · intro W hW
    go_simp
  simp only [List.setIfInBounds_toArray, List.set_cons_zero, List.set_cons_succ]
  refine held_take 19 6 (v := (.bool true)) rfl rfl (by kernel_rfl) (by kernel_rfl) (by kernel_rfl) (by rfl) (fun _ _ _ h => h) (by assumption) ?_ ?_
  · intro W hW
    go_simp
  simp only [List.setIfInBounds_toArray, List.set_cons_zero, List.set_cons_succ]
  refine wpAnyH_done (by kernel_rfl) ?_ _
  have BF := Lib.hid (B.out.trans (r6.mono B.out.size))
  go_wp2
  go_ret
  exact ⟨rfl, BF.out⟩
end Go.Proofs.Yteifjiadgbgkbaa
