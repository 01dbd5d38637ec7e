/-
  ScanTrees as a contract: a tree's program matches a text just if one of the tree's matches from its beginning ends at its end. Conditions: the library's table lies in its variable (DTab).
-/
import Derived.Test.YtonfmbnankihbaaDoorWh
import Derived.Test.YtonfmbnankihbaaDoorWj
import Derived.Test.YtonfmbnankihbaaDoorZ38
import Derived.Test.YtonfmbnankihbaaDoorZ04
namespace Go.Proofs.YtonfmbnankihbaaDoor
open Go.RowKit Go.Sort
open Pz Sc

/-- One of the tree's matches ends at the end, told by a row of places. -/
theorem has_end {t : Rx} (hm : Rx.made t = true) (s : ByteArray) {L : Nat} (hL : s.size = L) : decide ((L : Int) ∈ zn (ends (txt8 s) t 0)) = vMatch (Rx.progL t) (txt8 s) := by
  rw [Bool.eq_iff_iff, decide_eq_true_eq, vMatch_made hm, zn_mem, ← hL, ← txt8_len s]
  exact ends_mem (Rx.size_yes hm).1 (txt8 s)

theorem hasz_b (xs : List Int) (x : Int) (A : Option Addr) (nx ca : Nat) (w : World) (ex : xs.length = nx) (hx : nx ≤ 1099511627776) (ha : IsZ w A xs) :
    Calls Tryd.prog 19 #[.slice A nx ca, .int .i64 x] w fun e w' => e = .returned (.bool (decide (x ∈ xs))) ∧ Below w.heap.size w w' :=
  (hasz_any xs x A nx ca w ex hx ha).mono fun e w' ⟨h1, h2⟩ => ⟨h1, by rw [← h2]; exact Below.refl _ _⟩

set_option maxRecDepth 100000 in
set_option maxHeartbeats 4000000 in
theorem trees7_law (t : Rx) (v : Value) (s : ByteArray) (w : World) (hs : s.size ≤ maxLen) (hf : Rx.fit t) (h : IsRx w v t) (hT : DTab w) :
    Calls Tryd.prog 6 #[v, .string s] w fun e w' => e = .returned (.bool true) ∧ Below w.heap.size w w' := by
  obtain ⟨op, a, b, c, d, A, n, cap, rfl⟩ := h.form6
  unfold maxLen at hs
  have B0 : Below w.heap.size w (w.alloc (.cells #[.int .i64 op, .int .u64 (a : Int), .int .u64 (b : Int), .int .u64 (c : Int), .int .u64 (d : Int), .slice A n cap] 34)) := (Below.refl _ _).alloc (Nat.le_refl _) _
  have R0 : Hid (Row6 (w.alloc (.cells #[.int .i64 op, .int .u64 (a : Int), .int .u64 (b : Int), .int .u64 (c : Int), .int .u64 (d : Int), .slice A n cap] 34)) w.heap.size #[.int .i64 op, .int .u64 (a : Int), .int .u64 (b : Int), .int .u64 (c : Int), .int .u64 (d : Int), .slice A n cap]) := heap_alloc_new w _
  have X0 := Lib.hid (h.grown B0)
  have HT := Lib.hid (fun W (hW : Below w.heap.size w W) => hT.below hW)
  have RN := Lib.hid (fun W (hW : Below w.heap.size w W) => runs7_any W (hT.below hW))
  have B := Lib.hid B0
  clear B0 h hT
  obtain ⟨L, hL⟩ : ∃ L, s.size = L := ⟨_, rfl⟩
  rw [hL] at hs
  by_cases h20 : 20 < L
  · have hz : decide ((L : Int) > 20) = true := decide_eq_true (by omega)
    have R1 := Lib.hid (RN.out _ B.out)
    clear h20 RN HT
    go_enter Tryd.func6, Tryd.ntmps6
    go_wp2_with fail
    refine R1.out.mono ?_
    rintro e w1 ⟨rfl, b1⟩
    replace B := Lib.hid (B.out.trans (b1.mono B.out.size))
    clear b1
    go_wp2
    go_ret
    exact ⟨rfl, B.out⟩
  have hz : decide ((L : Int) > 20) = false := decide_eq_false (by omega)
  have CN := Lib.hid (nodes14 t _ _ X0.out)
  obtain ⟨k, hk⟩ : ∃ k, min (Rx.count t) 15 = k := ⟨_, rfl⟩
  rw [hk] at CN
  by_cases h14 : 14 < k
  · have hkz : decide ((k : Int) > 14) = true := decide_eq_true (by omega)
    clear hk h14 HT
    go_enter Tryd.func6, Tryd.ntmps6
    go_wp2_with fail
    refine CN.out.mono ?_
    rintro e w1 ⟨rfl, b1⟩
    replace B := Lib.hid (B.out.trans (b1.mono B.out.size))
    have R1 := Lib.hid (RN.out _ B.out)
    clear b1 CN
    go_wp2_with fail
    refine R1.out.mono ?_
    rintro e w2 ⟨rfl, b1⟩
    replace B := Lib.hid (B.out.trans (b1.mono B.out.size))
    clear b1
    go_wp2
    go_ret
    exact ⟨rfl, B.out⟩
  have hkz : decide ((k : Int) > 14) = false := decide_eq_false (by omega)
  have hcnt : Rx.count t ≤ 14 := by omega
  have MK := Lib.hid (fun v W (h : IsRx W v t) => make_any t v W (by omega) h)
  have MA := Lib.hid (fun w w' e (h : MakeRes w t e w') => h.all)
  clear hk h14
  go_enter Tryd.func6, Tryd.ntmps6
  go_wp2_with fail
  refine CN.out.mono ?_
  rintro e w1 ⟨rfl, b1⟩
  replace B := Lib.hid (B.out.trans (b1.mono B.out.size))
  replace R0 := Lib.hid (R0.out.grow b1)
  replace X0 := Lib.hid (X0.out.grown b1)
  have M1 := Lib.hid (MK.out _ _ X0.out)
  obtain ⟨e0, e1, e2, e3, e4, e5⟩ := R0.out.cells
  clear b1 CN MK
  go_wp2_with fail
  refine M1.out.mono ?_
  intro e w0 h3
  obtain ⟨A3, n3, cap3, rfl, l3, s3, c3, S3, b3⟩ := MA.out _ _ _ h3
  replace B := Lib.hid (B.out.trans (b3.mono B.out.size))
  replace R0 := Lib.hid (R0.out.grow b3)
  replace X0 := Lib.hid (X0.out.grown b3)
  have CM := Lib.hid (fun W (hW : Below w0.heap.size w0 W) => scmatch_any (Rx.progL t) s A3 n3 cap3 W (by omega) l3 (by omega) c3 (S3.grown hW) (HT.out W (B.out.trans (hW.mono B.out.size))))
  have RW := Lib.hid (fun W (hW : Below w0.heap.size w0 W) => RN.out W (B.out.trans (hW.mono B.out.size)))
  clear h3 b3 M1 MA e0 e1 e2 e3 e4 e5 S3 l3 HT RN
  cases hm : Rx.made t
  · have E : Rx.progL t = [] := by unfold Rx.progL; rw [hm]; rfl
    rw [E, vMatch_nil] at CM
    have C1 := Lib.hid (CM.out w0 (Below.refl _ _))
    clear hm E CM
    go_wp2_with fail
    refine C1.out.mono ?_
    rintro e w2 ⟨rfl, b2⟩
    have R1 := Lib.hid (RW.out w2 b2)
    replace B := Lib.hid (B.out.trans (b2.mono B.out.size))
    clear b2 RW C1
    go_wp2_with fail
    refine R1.out.mono ?_
    rintro e w4 ⟨rfl, b4⟩
    replace B := Lib.hid (B.out.trans (b4.mono B.out.size))
    clear b4
    go_wp2
    go_ret
    exact ⟨rfl, B.out⟩
  have HE := Lib.hid (has_end hm s hL)
  have CE := Lib.hid (fun W (hW : Below w0.heap.size w0 W) => ends_all (by omega) hf _ 0 s W (by omega) (X0.out.grown hW))
  generalize vMatch (Rx.progL t) (txt8 s) = q at *
  generalize ends (txt8 s) t 0 = E at *
  clear hm
  go_wp2_with fail
  refine wp_region_held_drew (S := fun W => Below w0.heap.size w0 W) (by kernel_rfl) ((Below.refl _ _).drew) (fun hHeld => ?_)
  refine held_take 0 30 (v := (.slice A3 n3 cap3)) rfl rfl (by kernel_rfl) (by kernel_rfl) (by kernel_rfl) (by rfl) (fun _ _ _ h => h) (by assumption) ?_ ?_
  · intro W hW
    go_simp
  simp only [List.setIfInBounds_toArray, List.set_cons_zero, List.set_cons_succ]
  refine held_take 1 31 (v := (.string s)) rfl rfl (by kernel_rfl) (by kernel_rfl) (by kernel_rfl) (by rfl) (fun _ _ _ h => h) (by assumption) ?_ ?_
  · intro W hW
    go_simp
  simp only [List.setIfInBounds_toArray, List.set_cons_zero, List.set_cons_succ]
  refine held_take 3 33 (v := (.agg #[.int .i64 op, .int .u64 (a : Int), .int .u64 (b : Int), .int .u64 (c : Int), .int .u64 (d : Int), .slice A n cap])) rfl rfl (by kernel_rfl) (by kernel_rfl) (by kernel_rfl) (by rfl) (fun _ _ _ h => h) (by assumption) ?_ ?_
  · intro W hW
    obtain ⟨e0, e1, e2, e3, e4, e5⟩ := (R0.out.grow hW).cells
    go_simp
  simp only [List.setIfInBounds_toArray, List.set_cons_zero, List.set_cons_succ]
  refine held_take 4 34 (v := (.string s)) rfl rfl (by kernel_rfl) (by kernel_rfl) (by kernel_rfl) (by rfl) (fun _ _ _ h => h) (by assumption) ?_ ?_
  · intro W hW
    go_simp
  simp only [List.setIfInBounds_toArray, List.set_cons_zero, List.set_cons_succ]
  refine held_take 6 36 (v := (.string s)) rfl rfl (by kernel_rfl) (by kernel_rfl) (by kernel_rfl) (by rfl) (fun _ _ _ h => h) (by assumption) ?_ ?_
  · intro W hW
    go_simp
  simp only [List.setIfInBounds_toArray, List.set_cons_zero, List.set_cons_succ]
  refine held_take 7 37 (v := (.int .i64 (L : Int))) rfl rfl (by kernel_rfl) (by kernel_rfl) (by kernel_rfl) (by rfl) (fun _ _ _ h => h) (by assumption) ?_ ?_
  · intro W hW
    go_simp
  simp only [List.setIfInBounds_toArray, List.set_cons_zero, List.set_cons_succ]
  refine held_call 2 32 (f := 13) (args := #[(.slice A3 n3 cap3), .string s]) rfl rfl (by kernel_rfl) (by rfl) (by go_simp) ?_
  refine (CM.out _ ((Below.refl w0.heap.size w0).drew)).mono ?_
  rintro e v1 ⟨rfl, d1⟩
  have r1 : Below w0.heap.size w0 v1 := (Below.refl _ _).drew.trans d1
  refine ⟨_, rfl, r1, ?_⟩
  have held1 := Below.refl v1.heap.size v1
  refine held_more (S' := fun W => Below v1.heap.size v1 W) (fun W h => r1.trans (h.mono r1.size)) _ _ _ _ ?_
  simp only [List.setIfInBounds_toArray, List.set_cons_zero, List.set_cons_succ]
  refine held_call 5 35 (f := 20) (args := #[(.agg #[.int .i64 op, .int .u64 (a : Int), .int .u64 (b : Int), .int .u64 (c : Int), .int .u64 (d : Int), .slice A n cap]), .string s, .int .i64 0]) rfl rfl (by kernel_rfl) (by rfl) (by go_simp) ?_
  refine (CE.out _ r1).mono ?_
  rintro e v2 ⟨A1, n1, c1, rfl, l1, m1, Z1, d2⟩
  have r2 := r1.trans (d2.mono r1.size)
  refine ⟨_, rfl, d2, ?_⟩
  have held2 := Below.refl v2.heap.size v2
  refine held_more (S' := fun W => Below v2.heap.size v2 W) (fun W h => d2.trans (h.mono d2.size)) _ _ _ _ ?_
  simp only [List.setIfInBounds_toArray, List.set_cons_zero, List.set_cons_succ]
  have CH := hasz_b (zn E) (L : Int) A1 n1 c1 _ (by rw [zn_len]; exact l1) (by omega) Z1
  rw [HE.out] at CH
  refine held_call 8 38 (f := 19) (args := #[.slice A1 n1 c1, .int .i64 (L : Int)]) rfl rfl (by kernel_rfl) (by rfl) (by go_simp) ?_
  refine (CH).mono ?_
  rintro e v3 ⟨rfl, d3⟩
  have r3 := r2.trans (d3.mono r2.size)
  refine ⟨_, rfl, d3, ?_⟩
  have held3 := Below.refl v3.heap.size v3
  refine held_more (S' := fun W => Below v3.heap.size v3 W) (fun W h => d3.trans (h.mono d3.size)) _ _ _ _ ?_
  simp only [List.setIfInBounds_toArray, List.set_cons_zero, List.set_cons_succ]
  refine held_take 9 39 (v := (.bool true)) rfl rfl (by kernel_rfl) (by kernel_rfl) (by kernel_rfl) (by rfl) (fun _ _ _ h => h) (by assumption) ?_ ?_
  · intro W hW
    go_simp
  simp only [List.setIfInBounds_toArray, List.set_cons_zero, List.set_cons_succ]
  refine held_take 10 40 (v := (.bool true)) rfl rfl (by kernel_rfl) (by kernel_rfl) (by kernel_rfl) (by rfl) (fun _ _ _ h => h) (by assumption) ?_ ?_
  · intro W hW
    go_simp
  simp only [List.setIfInBounds_toArray, List.set_cons_zero, List.set_cons_succ]
  refine held_call 11 41 (f := 3) (args := #[]) rfl rfl (by kernel_rfl) (by rfl) (by go_simp) ?_
  refine (RW.out _ r3).mono ?_
  rintro e v4 ⟨rfl, d4⟩
  have r4 := r3.trans (d4.mono r3.size)
  refine ⟨_, rfl, d4, ?_⟩
  have held4 := Below.refl v4.heap.size v4
  refine held_more (S' := fun W => Below v4.heap.size v4 W) (fun W h => d4.trans (h.mono d4.size)) _ _ _ _ ?_
  simp only [List.setIfInBounds_toArray, List.set_cons_zero, List.set_cons_succ]
  refine held_take 12 42 (v := (.bool true)) rfl rfl (by kernel_rfl) (by kernel_rfl) (by kernel_rfl) (by rfl) (fun _ _ _ h => h) (by assumption) ?_ ?_
  · intro W hW
    go_simp
  simp only [List.setIfInBounds_toArray, List.set_cons_zero, List.set_cons_succ]
  refine held_take 13 4 (v := (.bool true)) rfl rfl (by kernel_rfl) (by kernel_rfl) (by kernel_rfl) (by rfl) (fun _ _ _ h => h) (by assumption) ?_ ?_
  · intro W hW
    go_simp
  simp only [List.setIfInBounds_toArray, List.set_cons_zero, List.set_cons_succ]
  refine wpAnyH_done (by kernel_rfl) ?_ _
  have BF := Lib.hid (B.out.trans (r4.mono B.out.size))
  go_wp2
  go_ret
  exact ⟨rfl, BF.out⟩
end Go.Proofs.YtonfmbnankihbaaDoor
