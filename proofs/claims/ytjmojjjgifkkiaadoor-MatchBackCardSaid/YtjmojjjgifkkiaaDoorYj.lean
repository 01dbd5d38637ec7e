/-
  What Mat's Matcher does, whatever is drawn: a matcher that may be. No conditions.
-/
import Derived.Test.YtjmojjjgifkkiaaDoorYi
import Derived.Laws.ResultCell
namespace Go.Proofs.YtjmojjjgifkkiaaDoor
open Go.RowKit Go.Sort

theorem Tryd.sizeM : (Tryd.prog.info? 26).map (·.size) = some 3 := by kernel_rfl
/-- The value that is drawn. -/
def selV (i : Nat) (vl : Int) (u p : ByteArray) : ByteArray := if i < 3 then if vl < 0 then ⟨#[]⟩ else u else p
theorem none_size : (⟨#[]⟩ : ByteArray).size = 0 := rfl

set_option maxRecDepth 100000 in
set_option maxHeartbeats 4000000 in
theorem matcher_any (kd nm vl : Int) : ∃ m : Mat, m.ok = true ∧ (m.k = 1 ∨ m.k = 2 ∨ m.k = 3 ∨ m.k = 4) ∧ (m.n.size ≤ 12 ∧ m.v.size ≤ 40) ∧ ∀ w, Calls Tryd.prog 31 #[.agg #[.int .i64 kd, .int .i64 nm, .int .i64 vl]] w fun e w' => e = .returned (.agg #[.int .i64 m.k, .string m.n, .string m.v]) ∧ Below w.heap.size w w' := by
  obtain ⟨i, i1, i4, hi⟩ := in14 kd
  obtain ⟨n, ⟨hn, hn12⟩, hcn⟩ := name_z nm
  obtain ⟨p, ⟨hp, hpp⟩, hcp⟩ := pattern_z vl
  obtain ⟨u, hu, hcu⟩ := value_z vl
  have CI := Lib.hid hi
  have CN := Lib.hid hcn
  have CP := Lib.hid hcp
  have CU := Lib.hid hcu
  clear hi hcn hcp hcu
  refine ⟨⟨i, n, selV i vl u p⟩, ?_, by simp only; omega, ⟨hn12, ?_⟩, fun w => ?_⟩
  · unfold Mat.ok Mat.okV
    simp only [hn, Bool.true_and]
    unfold selV
    by_cases h3 : i < 3
    · rw [if_pos (by omega), if_pos h3]
      refine decide_eq_true ?_
      split
      · rw [none_size]; omega
      · exact hu
    · rw [if_neg (by omega), if_pos (by omega), if_neg h3]; exact hpp
  · show (if i < 3 then if vl < 0 then (⟨#[]⟩ : ByteArray) else u else p).size ≤ 40
    split
    · split
      · rw [none_size]; omega
      · omega
    · exact hp
  show Calls Tryd.prog 31 #[.agg #[.int .i64 kd, .int .i64 nm, .int .i64 vl]] w fun e w' => e = .returned (.agg #[.int .i64 (i : Int), .string n, .string (selV i vl u p)]) ∧ Below w.heap.size w w'
  clear hn hn12 hp hpp hu i1 i4
  obtain ⟨w2, hw2⟩ : ∃ w2, (w.alloc (.cells #[.int .i64 kd, .int .i64 nm, .int .i64 vl] 46)).alloc (.cells #[.int .i64 0, .string ⟨#[]⟩, .string ⟨#[]⟩] 26) = w2 := ⟨_, rfl⟩
  obtain ⟨⟨c0, c1, c2⟩, _⟩ := box33 (w := w) (u0 := .int .i64 kd) (u1 := .int .i64 nm) (u2 := .int .i64 vl) (v0 := .int .i64 0) (v1 := .string ⟨#[]⟩) (v2 := .string ⟨#[]⟩) (tu := 46) (tv := 26)
  have b0 : Below w.heap.size w w2 := by rw [← hw2]; exact below_two w _ _
  have s2 : w2.heap.size = w.heap.size + 2 := by rw [← hw2]; simp
  have r2 : w2.heap[w.heap.size + 1]? = some (.cells #[.int .i64 0, .string ⟨#[]⟩, .string ⟨#[]⟩] 26) := by
    have := heap_alloc_new (w.alloc (.cells #[.int .i64 kd, .int .i64 nm, .int .i64 vl] 46)) (.cells #[.int .i64 0, .string ⟨#[]⟩, .string ⟨#[]⟩] 26)
    rw [hw2] at this
    simpa using this
  rw [hw2] at c0 c1 c2
  have HC : Hid (∀ W, Below w2.heap.size w2 W → W.cell? ⟨w.heap.size, 0, none⟩ = some (.int .i64 kd) ∧ W.cell? ⟨w.heap.size, 1, none⟩ = some (.int .i64 nm) ∧ W.cell? ⟨w.heap.size, 2, none⟩ = some (.int .i64 vl)) := fun W hW => ⟨cell_grow hW c0, cell_grow hW c1, cell_grow hW c2⟩
  
  have hPw : w.heap.size + 2 ≤ w2.heap.size := by omega
  have FACTS : Hid (∀ W, w2.drew.alloc (.cells #[.int .i64 (i : Int), .string n, .string p] 26) = W → W.cell? ⟨w2.heap.size, 0, none⟩ = some (.int .i64 (i : Int)) ∧ W.cell? ⟨w2.heap.size, 1, none⟩ = some (.string n) ∧ W.cell? ⟨w2.heap.size, 2, none⟩ = some (.string p) ∧ W.cell? ⟨w.heap.size, 2, none⟩ = some (.int .i64 vl) ∧ W.heap[w.heap.size + 1]? = some (.cells #[.int .i64 0, .string ⟨#[]⟩, .string ⟨#[]⟩] 26) ∧ Below w.heap.size w W ∧ W.frozen? ⟨w2.heap.size, 2, none⟩ = false) := fun W hW => by
    have bW : Below w2.heap.size w2 W := by rw [← hW]; exact ((Below.refl _ _).drew).alloc (Nat.le_refl _) _
    obtain ⟨q0, q1, q2⟩ := (box3 (w := w2.drew) (v0 := .int .i64 (i : Int)) (v1 := .string n) (v2 := .string p) (ty := 26) (W := W) (by rw [hW]; exact Below.refl _ _)).1
    have e : w2.drew.heap.size = w2.heap.size := rfl
    rw [e] at q0 q1 q2
    have hf := heap_alloc_new w2.drew (.cells #[.int .i64 (i : Int), .string n, .string p] 26)
    rw [hW, e] at hf
    exact ⟨q0, q1, q2, cell_grow bW c2, (bW.block _ (by omega)).trans r2, b0.trans (bW.mono b0.size), frozen_of_row W _ 2 _ _ hf⟩
  have HW2 := Lib.hid hw2
  clear hw2 c0 c1 c2 b0 s2 r2
  go_enter Tryd.func31, Tryd.ntmps31
  go_upto_region 1 with fail
  simp only [HW2.out]
  clear HW2
  refine wp_region_held_drew (S := fun W => Below w2.heap.size w2 W) (by kernel_rfl) ((Below.refl _ _).drew) (fun hHeld => ?_)
  refine held_take 0 4 (v := (.pointer (some ⟨w.heap.size, 0, none⟩))) rfl rfl (by kernel_rfl) (by kernel_rfl) (by kernel_rfl) (by rfl) (fun _ _ _ h => h) (by assumption) ?_ ?_
  · intro W hW
    go_simp
  simp only [List.setIfInBounds_toArray, List.set_cons_zero, List.set_cons_succ]
  refine held_take 1 5 (v := (.int .i64 kd)) rfl rfl (by kernel_rfl) (by kernel_rfl) (by kernel_rfl) (by rfl) (fun _ _ _ h => h) (by assumption) ?_ ?_
  · intro W hW
    obtain ⟨c0, c1, c2⟩ := HC.out W hW
    go_simp
  simp only [List.setIfInBounds_toArray, List.set_cons_zero, List.set_cons_succ]
  refine held_take 3 7 (v := (.pointer (some ⟨w.heap.size, 1, none⟩))) rfl rfl (by kernel_rfl) (by kernel_rfl) (by kernel_rfl) (by rfl) (fun _ _ _ h => h) (by assumption) ?_ ?_
  · intro W hW
    go_simp
  simp only [List.setIfInBounds_toArray, List.set_cons_zero, List.set_cons_succ]
  refine held_take 4 8 (v := (.int .i64 nm)) rfl rfl (by kernel_rfl) (by kernel_rfl) (by kernel_rfl) (by rfl) (fun _ _ _ h => h) (by assumption) ?_ ?_
  · intro W hW
    obtain ⟨c0, c1, c2⟩ := HC.out W hW
    go_simp
  simp only [List.setIfInBounds_toArray, List.set_cons_zero, List.set_cons_succ]
  refine held_take 6 10 (v := (.pointer (some ⟨w.heap.size, 2, none⟩))) rfl rfl (by kernel_rfl) (by kernel_rfl) (by kernel_rfl) (by rfl) (fun _ _ _ h => h) (by assumption) ?_ ?_
  · intro W hW
    go_simp
  simp only [List.setIfInBounds_toArray, List.set_cons_zero, List.set_cons_succ]
  refine held_take 7 11 (v := (.int .i64 vl)) rfl rfl (by kernel_rfl) (by kernel_rfl) (by kernel_rfl) (by rfl) (fun _ _ _ h => h) (by assumption) ?_ ?_
  · intro W hW
    obtain ⟨c0, c1, c2⟩ := HC.out W hW
    go_simp
  simp only [List.setIfInBounds_toArray, List.set_cons_zero, List.set_cons_succ]
  refine held_two 2 10 rfl rfl (by kernel_rfl) (by rfl) (by rfl) ?_ ?_
  · refine wp_call (f := 60) (args := #[.int .i64 kd, .int .i64 1, .int .i64 4]) rfl (by go_simp) ?_
    refine (CI.out _).mono ?_
    rintro e w' ⟨rfl, hw'⟩
    subst hw'
    refine ⟨_, rfl, by assumption, ?_⟩
    simp only [List.setIfInBounds_toArray, List.set_cons_zero, List.set_cons_succ]
    refine held_two 5 10 rfl rfl (by kernel_rfl) (by rfl) (by rfl) ?_ ?_
    · refine wp_call (f := 48) (args := #[.int .i64 nm]) rfl (by go_simp) ?_
      refine (CN.out _).mono ?_
      rintro e w' ⟨rfl, hw'⟩
      subst hw'
      refine ⟨_, rfl, by assumption, ?_⟩
      simp only [List.setIfInBounds_toArray, List.set_cons_zero, List.set_cons_succ]
      refine held_two 8 10 rfl rfl (by kernel_rfl) (by rfl) (by rfl) ?_ ?_
      · refine wp_call (f := 61) (args := #[.int .i64 vl]) rfl (by go_simp) ?_
        refine (CP.out _).mono ?_
        rintro e w' ⟨rfl, hw'⟩
        subst hw'
        refine ⟨_, rfl, by assumption, ?_⟩
        simp only [List.setIfInBounds_toArray, List.set_cons_zero, List.set_cons_succ]
        refine held_take 9 13 (v := (.agg #[.int .i64 (i : Int), .string n, .string p])) rfl rfl (by kernel_rfl) (by kernel_rfl) (by kernel_rfl) (by rfl) (fun _ _ _ h => h) (by assumption) ?_ ?_
        · intro W hW
          go_simp
        simp only [List.setIfInBounds_toArray, List.set_cons_zero, List.set_cons_succ]
        refine held_op 10 rfl (by kernel_rfl) (by rfl) ?_
        have dA : Below w2.heap.size w2 (w2.drew.alloc (.cells #[.int .i64 0, .string ⟨#[]⟩, .string ⟨#[]⟩] 26)) := ((Below.refl _ _).drew).alloc (Nat.le_refl _) _
        refine wp_run (v := .pointer (some ⟨w2.heap.size, 0, none⟩)) (w' := w2.drew.alloc (.cells #[.int .i64 0, .string ⟨#[]⟩, .string ⟨#[]⟩] 26)) rfl (by go_simp) ⟨dA, ?_⟩
        simp only [List.setIfInBounds_toArray, List.set_cons_zero, List.set_cons_succ]
        have dB : Below w2.heap.size w2 (w2.drew.alloc (.cells #[.int .i64 (i : Int), .string n, .string p] 26)) := ((Below.refl _ _).drew).alloc (Nat.le_refl _) _
        refine held_op 11 rfl (by kernel_rfl) (by rfl) ?_
        refine wp_skip (w' := w2.drew.alloc (.cells #[.int .i64 (i : Int), .string n, .string p] 26)) rfl (by go_simp) ⟨dB, ?_⟩
        refine wpAnyH_done (by kernel_rfl) ?_ _
        clear dB dA hHeld
        have HH := FACTS.out (w2.drew.alloc (.cells #[.int .i64 (i : Int), .string n, .string p] 26)) rfl
        clear FACTS HC
        obtain ⟨d0, d1, d2, c2, R4, B4, fz⟩ := HH
        generalize w2.drew.alloc (.cells #[.int .i64 (i : Int), .string n, .string p] 26) = w4 at *
        by_cases h3 : i < 3
        · have hz : ((i : Int) < 3) = True := by simp; omega
          go_wp2_with fail
          refine (CU.out _).mono ?_
          rintro e w' ⟨rfl, hw'⟩
          subst w'
          by_cases h0 : vl < 0
          · have HV : Hid (selV i vl u p = ⟨#[]⟩) := by show _ = _; unfold selV; rw [if_pos h3, if_pos h0]
            have R5 : ((w4.setCell ⟨w2.heap.size, 2, none⟩ (.string u)).setCell ⟨w2.heap.size, 2, none⟩ (.string ⟨#[]⟩)).heap[w.heap.size + 1]? = some (.cells #[.int .i64 0, .string ⟨#[]⟩, .string ⟨#[]⟩] 26) := (heap_setCell_other _ _ _ _ (by show _ ≠ w2.heap.size; omega)).trans ((heap_setCell_other _ _ _ _ (by show _ ≠ w2.heap.size; omega)).trans R4)
            have B5 : Hid (Below w.heap.size w ((w4.setCell ⟨w2.heap.size, 2, none⟩ (.string u)).setCell ⟨w2.heap.size, 2, none⟩ (.string ⟨#[]⟩))) := (B4.setCell (by show _ ≤ w2.heap.size; omega) _).setCell (by show _ ≤ w2.heap.size; omega) _
            go_wp2_with (refine wpList_store_row rfl 26 (.tmp 2) (.tmp 25) rfl (w.heap.size + 1) #[.int .i64 (i : Int), .string n, .string ⟨#[]⟩] rfl rfl 26 _ R5 Tryd.sizeM rfl (by simp [Value.oneCell']) ?_)
            refine bodyPost_ret (results_cell_row rfl _ _ (w.heap.size + 1) 26 #[.int .i64 (i : Int), .string n, .string ⟨#[]⟩] (0, 0) _ rfl (setRow_heap _ _ _ _ _ _ R5) Tryd.underlying26 rfl Tryd.sizeM) rfl ⟨by rw [HV.out], ?_⟩
            exact ⟨B5.out.os, B5.out.tape, B5.out.output, by rw [setRow_size]; exact B5.out.size, fun k hk => (setRow_other _ _ _ _ (by omega)).trans (B5.out.block k hk)⟩
          · have HV : Hid (selV i vl u p = u) := by show _ = _; unfold selV; rw [if_pos h3, if_neg h0]
            have R5 : (w4.setCell ⟨w2.heap.size, 2, none⟩ (.string u)).heap[w.heap.size + 1]? = some (.cells #[.int .i64 0, .string ⟨#[]⟩, .string ⟨#[]⟩] 26) := (heap_setCell_other _ _ _ _ (by show _ ≠ w2.heap.size; omega)).trans R4
            have B5 : Hid (Below w.heap.size w (w4.setCell ⟨w2.heap.size, 2, none⟩ (.string u))) := B4.setCell (by show _ ≤ w2.heap.size; omega) _
            go_wp2_with (refine wpList_store_row rfl 26 (.tmp 2) (.tmp 25) rfl (w.heap.size + 1) #[.int .i64 (i : Int), .string n, .string u] rfl rfl 26 _ R5 Tryd.sizeM rfl (by simp [Value.oneCell']) ?_)
            refine bodyPost_ret (results_cell_row rfl _ _ (w.heap.size + 1) 26 #[.int .i64 (i : Int), .string n, .string u] (0, 0) _ rfl (setRow_heap _ _ _ _ _ _ R5) Tryd.underlying26 rfl Tryd.sizeM) rfl ⟨by rw [HV.out], ?_⟩
            exact ⟨B5.out.os, B5.out.tape, B5.out.output, by rw [setRow_size]; exact B5.out.size, fun k hk => (setRow_other _ _ _ _ (by omega)).trans (B5.out.block k hk)⟩
        · have hz : ((i : Int) < 3) = False := by simp; omega
          have HV : Hid (selV i vl u p = p) := by show _ = _; unfold selV; rw [if_neg h3]
          have R5 := R4
          have B5 := Lib.hid B4
          go_wp2_with (refine wpList_store_row rfl 26 (.tmp 2) (.tmp 25) rfl (w.heap.size + 1) #[.int .i64 (i : Int), .string n, .string p] rfl rfl 26 _ R5 Tryd.sizeM rfl (by simp [Value.oneCell']) ?_)
          refine bodyPost_ret (results_cell_row rfl _ _ (w.heap.size + 1) 26 #[.int .i64 (i : Int), .string n, .string p] (0, 0) _ rfl (setRow_heap _ _ _ _ _ _ R5) Tryd.underlying26 rfl Tryd.sizeM) rfl ⟨by rw [HV.out], ?_⟩
          exact ⟨B5.out.os, B5.out.tape, B5.out.output, by rw [setRow_size]; exact B5.out.size, fun k hk => (setRow_other _ _ _ _ (by omega)).trans (B5.out.block k hk)⟩
      · have dA : Below w2.heap.size w2 (w2.drew.alloc (.cells #[.int .i64 0, .string ⟨#[]⟩, .string ⟨#[]⟩] 26)) := ((Below.refl _ _).drew).alloc (Nat.le_refl _) _
        refine wp_run (v := .pointer (some ⟨w2.heap.size, 0, none⟩)) (w' := w2.drew.alloc (.cells #[.int .i64 0, .string ⟨#[]⟩, .string ⟨#[]⟩] 26)) rfl (by go_simp) ⟨dA, ?_⟩
        simp only [List.setIfInBounds_toArray, List.set_cons_zero, List.set_cons_succ]
        refine held_op 8 rfl (by kernel_rfl) (by rfl) ?_
        refine wp_call (f := 61) (args := #[.int .i64 vl]) rfl (by go_simp) ?_
        refine (CP.out _).mono ?_
        rintro e w' ⟨rfl, hw'⟩
        subst hw'
        refine ⟨_, rfl, by assumption, ?_⟩
        simp only [List.setIfInBounds_toArray, List.set_cons_zero, List.set_cons_succ]
        refine held_take 9 13 (v := (.agg #[.int .i64 (i : Int), .string n, .string p])) rfl rfl (by kernel_rfl) (by kernel_rfl) (by kernel_rfl) (by rfl) (fun _ _ _ h => h) (by assumption) ?_ ?_
        · intro W hW
          go_simp
        simp only [List.setIfInBounds_toArray, List.set_cons_zero, List.set_cons_succ]
        have dB : Below w2.heap.size w2 (w2.drew.alloc (.cells #[.int .i64 (i : Int), .string n, .string p] 26)) := ((Below.refl _ _).drew).alloc (Nat.le_refl _) _
        refine held_op 11 rfl (by kernel_rfl) (by rfl) ?_
        refine wp_skip (w' := w2.drew.alloc (.cells #[.int .i64 (i : Int), .string n, .string p] 26)) rfl (by go_simp) ⟨dB, ?_⟩
        refine wpAnyH_done (by kernel_rfl) ?_ _
        clear dB dA hHeld
        have HH := FACTS.out (w2.drew.alloc (.cells #[.int .i64 (i : Int), .string n, .string p] 26)) rfl
        clear FACTS HC
        obtain ⟨d0, d1, d2, c2, R4, B4, fz⟩ := HH
        generalize w2.drew.alloc (.cells #[.int .i64 (i : Int), .string n, .string p] 26) = w4 at *
        by_cases h3 : i < 3
        · have hz : ((i : Int) < 3) = True := by simp; omega
          go_wp2_with fail
          refine (CU.out _).mono ?_
          rintro e w' ⟨rfl, hw'⟩
          subst w'
          by_cases h0 : vl < 0
          · have HV : Hid (selV i vl u p = ⟨#[]⟩) := by show _ = _; unfold selV; rw [if_pos h3, if_pos h0]
            have R5 : ((w4.setCell ⟨w2.heap.size, 2, none⟩ (.string u)).setCell ⟨w2.heap.size, 2, none⟩ (.string ⟨#[]⟩)).heap[w.heap.size + 1]? = some (.cells #[.int .i64 0, .string ⟨#[]⟩, .string ⟨#[]⟩] 26) := (heap_setCell_other _ _ _ _ (by show _ ≠ w2.heap.size; omega)).trans ((heap_setCell_other _ _ _ _ (by show _ ≠ w2.heap.size; omega)).trans R4)
            have B5 : Hid (Below w.heap.size w ((w4.setCell ⟨w2.heap.size, 2, none⟩ (.string u)).setCell ⟨w2.heap.size, 2, none⟩ (.string ⟨#[]⟩))) := (B4.setCell (by show _ ≤ w2.heap.size; omega) _).setCell (by show _ ≤ w2.heap.size; omega) _
            go_wp2_with (refine wpList_store_row rfl 26 (.tmp 2) (.tmp 25) rfl (w.heap.size + 1) #[.int .i64 (i : Int), .string n, .string ⟨#[]⟩] rfl rfl 26 _ R5 Tryd.sizeM rfl (by simp [Value.oneCell']) ?_)
            refine bodyPost_ret (results_cell_row rfl _ _ (w.heap.size + 1) 26 #[.int .i64 (i : Int), .string n, .string ⟨#[]⟩] (0, 0) _ rfl (setRow_heap _ _ _ _ _ _ R5) Tryd.underlying26 rfl Tryd.sizeM) rfl ⟨by rw [HV.out], ?_⟩
            exact ⟨B5.out.os, B5.out.tape, B5.out.output, by rw [setRow_size]; exact B5.out.size, fun k hk => (setRow_other _ _ _ _ (by omega)).trans (B5.out.block k hk)⟩
          · have HV : Hid (selV i vl u p = u) := by show _ = _; unfold selV; rw [if_pos h3, if_neg h0]
            have R5 : (w4.setCell ⟨w2.heap.size, 2, none⟩ (.string u)).heap[w.heap.size + 1]? = some (.cells #[.int .i64 0, .string ⟨#[]⟩, .string ⟨#[]⟩] 26) := (heap_setCell_other _ _ _ _ (by show _ ≠ w2.heap.size; omega)).trans R4
            have B5 : Hid (Below w.heap.size w (w4.setCell ⟨w2.heap.size, 2, none⟩ (.string u))) := B4.setCell (by show _ ≤ w2.heap.size; omega) _
            go_wp2_with (refine wpList_store_row rfl 26 (.tmp 2) (.tmp 25) rfl (w.heap.size + 1) #[.int .i64 (i : Int), .string n, .string u] rfl rfl 26 _ R5 Tryd.sizeM rfl (by simp [Value.oneCell']) ?_)
            refine bodyPost_ret (results_cell_row rfl _ _ (w.heap.size + 1) 26 #[.int .i64 (i : Int), .string n, .string u] (0, 0) _ rfl (setRow_heap _ _ _ _ _ _ R5) Tryd.underlying26 rfl Tryd.sizeM) rfl ⟨by rw [HV.out], ?_⟩
            exact ⟨B5.out.os, B5.out.tape, B5.out.output, by rw [setRow_size]; exact B5.out.size, fun k hk => (setRow_other _ _ _ _ (by omega)).trans (B5.out.block k hk)⟩
        · have hz : ((i : Int) < 3) = False := by simp; omega
          have HV : Hid (selV i vl u p = p) := by show _ = _; unfold selV; rw [if_neg h3]
          have R5 := R4
          have B5 := Lib.hid B4
          go_wp2_with (refine wpList_store_row rfl 26 (.tmp 2) (.tmp 25) rfl (w.heap.size + 1) #[.int .i64 (i : Int), .string n, .string p] rfl rfl 26 _ R5 Tryd.sizeM rfl (by simp [Value.oneCell']) ?_)
          refine bodyPost_ret (results_cell_row rfl _ _ (w.heap.size + 1) 26 #[.int .i64 (i : Int), .string n, .string p] (0, 0) _ rfl (setRow_heap _ _ _ _ _ _ R5) Tryd.underlying26 rfl Tryd.sizeM) rfl ⟨by rw [HV.out], ?_⟩
          exact ⟨B5.out.os, B5.out.tape, B5.out.output, by rw [setRow_size]; exact B5.out.size, fun k hk => (setRow_other _ _ _ _ (by omega)).trans (B5.out.block k hk)⟩
    · have dA : Below w2.heap.size w2 (w2.drew.alloc (.cells #[.int .i64 0, .string ⟨#[]⟩, .string ⟨#[]⟩] 26)) := ((Below.refl _ _).drew).alloc (Nat.le_refl _) _
      refine wp_run (v := .pointer (some ⟨w2.heap.size, 0, none⟩)) (w' := w2.drew.alloc (.cells #[.int .i64 0, .string ⟨#[]⟩, .string ⟨#[]⟩] 26)) rfl (by go_simp) ⟨dA, ?_⟩
      simp only [List.setIfInBounds_toArray, List.set_cons_zero, List.set_cons_succ]
      refine held_op 5 rfl (by kernel_rfl) (by rfl) ?_
      refine wp_call (f := 48) (args := #[.int .i64 nm]) rfl (by go_simp) ?_
      refine (CN.out _).mono ?_
      rintro e w' ⟨rfl, hw'⟩
      subst hw'
      refine ⟨_, rfl, by assumption, ?_⟩
      simp only [List.setIfInBounds_toArray, List.set_cons_zero, List.set_cons_succ]
      refine held_op 8 rfl (by kernel_rfl) (by rfl) ?_
      refine wp_call (f := 61) (args := #[.int .i64 vl]) rfl (by go_simp) ?_
      refine (CP.out _).mono ?_
      rintro e w' ⟨rfl, hw'⟩
      subst hw'
      refine ⟨_, rfl, by assumption, ?_⟩
      simp only [List.setIfInBounds_toArray, List.set_cons_zero, List.set_cons_succ]
      refine held_take 9 13 (v := (.agg #[.int .i64 (i : Int), .string n, .string p])) rfl rfl (by kernel_rfl) (by kernel_rfl) (by kernel_rfl) (by rfl) (fun _ _ _ h => h) (by assumption) ?_ ?_
      · intro W hW
        go_simp
      simp only [List.setIfInBounds_toArray, List.set_cons_zero, List.set_cons_succ]
      have dB : Below w2.heap.size w2 (w2.drew.alloc (.cells #[.int .i64 (i : Int), .string n, .string p] 26)) := ((Below.refl _ _).drew).alloc (Nat.le_refl _) _
      refine held_op 11 rfl (by kernel_rfl) (by rfl) ?_
      refine wp_skip (w' := w2.drew.alloc (.cells #[.int .i64 (i : Int), .string n, .string p] 26)) rfl (by go_simp) ⟨dB, ?_⟩
      refine wpAnyH_done (by kernel_rfl) ?_ _
      clear dB dA hHeld
      have HH := FACTS.out (w2.drew.alloc (.cells #[.int .i64 (i : Int), .string n, .string p] 26)) rfl
      clear FACTS HC
      obtain ⟨d0, d1, d2, c2, R4, B4, fz⟩ := HH
      generalize w2.drew.alloc (.cells #[.int .i64 (i : Int), .string n, .string p] 26) = w4 at *
      by_cases h3 : i < 3
      · have hz : ((i : Int) < 3) = True := by simp; omega
        go_wp2_with fail
        refine (CU.out _).mono ?_
        rintro e w' ⟨rfl, hw'⟩
        subst w'
        by_cases h0 : vl < 0
        · have HV : Hid (selV i vl u p = ⟨#[]⟩) := by show _ = _; unfold selV; rw [if_pos h3, if_pos h0]
          have R5 : ((w4.setCell ⟨w2.heap.size, 2, none⟩ (.string u)).setCell ⟨w2.heap.size, 2, none⟩ (.string ⟨#[]⟩)).heap[w.heap.size + 1]? = some (.cells #[.int .i64 0, .string ⟨#[]⟩, .string ⟨#[]⟩] 26) := (heap_setCell_other _ _ _ _ (by show _ ≠ w2.heap.size; omega)).trans ((heap_setCell_other _ _ _ _ (by show _ ≠ w2.heap.size; omega)).trans R4)
          have B5 : Hid (Below w.heap.size w ((w4.setCell ⟨w2.heap.size, 2, none⟩ (.string u)).setCell ⟨w2.heap.size, 2, none⟩ (.string ⟨#[]⟩))) := (B4.setCell (by show _ ≤ w2.heap.size; omega) _).setCell (by show _ ≤ w2.heap.size; omega) _
          go_wp2_with (refine wpList_store_row rfl 26 (.tmp 2) (.tmp 25) rfl (w.heap.size + 1) #[.int .i64 (i : Int), .string n, .string ⟨#[]⟩] rfl rfl 26 _ R5 Tryd.sizeM rfl (by simp [Value.oneCell']) ?_)
          refine bodyPost_ret (results_cell_row rfl _ _ (w.heap.size + 1) 26 #[.int .i64 (i : Int), .string n, .string ⟨#[]⟩] (0, 0) _ rfl (setRow_heap _ _ _ _ _ _ R5) Tryd.underlying26 rfl Tryd.sizeM) rfl ⟨by rw [HV.out], ?_⟩
          exact ⟨B5.out.os, B5.out.tape, B5.out.output, by rw [setRow_size]; exact B5.out.size, fun k hk => (setRow_other _ _ _ _ (by omega)).trans (B5.out.block k hk)⟩
        · have HV : Hid (selV i vl u p = u) := by show _ = _; unfold selV; rw [if_pos h3, if_neg h0]
          have R5 : (w4.setCell ⟨w2.heap.size, 2, none⟩ (.string u)).heap[w.heap.size + 1]? = some (.cells #[.int .i64 0, .string ⟨#[]⟩, .string ⟨#[]⟩] 26) := (heap_setCell_other _ _ _ _ (by show _ ≠ w2.heap.size; omega)).trans R4
          have B5 : Hid (Below w.heap.size w (w4.setCell ⟨w2.heap.size, 2, none⟩ (.string u))) := B4.setCell (by show _ ≤ w2.heap.size; omega) _
          go_wp2_with (refine wpList_store_row rfl 26 (.tmp 2) (.tmp 25) rfl (w.heap.size + 1) #[.int .i64 (i : Int), .string n, .string u] rfl rfl 26 _ R5 Tryd.sizeM rfl (by simp [Value.oneCell']) ?_)
          refine bodyPost_ret (results_cell_row rfl _ _ (w.heap.size + 1) 26 #[.int .i64 (i : Int), .string n, .string u] (0, 0) _ rfl (setRow_heap _ _ _ _ _ _ R5) Tryd.underlying26 rfl Tryd.sizeM) rfl ⟨by rw [HV.out], ?_⟩
          exact ⟨B5.out.os, B5.out.tape, B5.out.output, by rw [setRow_size]; exact B5.out.size, fun k hk => (setRow_other _ _ _ _ (by omega)).trans (B5.out.block k hk)⟩
      · have hz : ((i : Int) < 3) = False := by simp; omega
        have HV : Hid (selV i vl u p = p) := by show _ = _; unfold selV; rw [if_neg h3]
        have R5 := R4
        have B5 := Lib.hid B4
        go_wp2_with (refine wpList_store_row rfl 26 (.tmp 2) (.tmp 25) rfl (w.heap.size + 1) #[.int .i64 (i : Int), .string n, .string p] rfl rfl 26 _ R5 Tryd.sizeM rfl (by simp [Value.oneCell']) ?_)
        refine bodyPost_ret (results_cell_row rfl _ _ (w.heap.size + 1) 26 #[.int .i64 (i : Int), .string n, .string p] (0, 0) _ rfl (setRow_heap _ _ _ _ _ _ R5) Tryd.underlying26 rfl Tryd.sizeM) rfl ⟨by rw [HV.out], ?_⟩
        exact ⟨B5.out.os, B5.out.tape, B5.out.output, by rw [setRow_size]; exact B5.out.size, fun k hk => (setRow_other _ _ _ _ (by omega)).trans (B5.out.block k hk)⟩
  · have dA : Below w2.heap.size w2 (w2.drew.alloc (.cells #[.int .i64 0, .string ⟨#[]⟩, .string ⟨#[]⟩] 26)) := ((Below.refl _ _).drew).alloc (Nat.le_refl _) _
    refine wp_run (v := .pointer (some ⟨w2.heap.size, 0, none⟩)) (w' := w2.drew.alloc (.cells #[.int .i64 0, .string ⟨#[]⟩, .string ⟨#[]⟩] 26)) rfl (by go_simp) ⟨dA, ?_⟩
    simp only [List.setIfInBounds_toArray, List.set_cons_zero, List.set_cons_succ]
    refine held_op 2 rfl (by kernel_rfl) (by rfl) ?_
    refine wp_call (f := 60) (args := #[.int .i64 kd, .int .i64 1, .int .i64 4]) rfl (by go_simp) ?_
    refine (CI.out _).mono ?_
    rintro e w' ⟨rfl, hw'⟩
    subst hw'
    refine ⟨_, rfl, by assumption, ?_⟩
    simp only [List.setIfInBounds_toArray, List.set_cons_zero, List.set_cons_succ]
    refine held_op 5 rfl (by kernel_rfl) (by rfl) ?_
    refine wp_call (f := 48) (args := #[.int .i64 nm]) rfl (by go_simp) ?_
    refine (CN.out _).mono ?_
    rintro e w' ⟨rfl, hw'⟩
    subst hw'
    refine ⟨_, rfl, by assumption, ?_⟩
    simp only [List.setIfInBounds_toArray, List.set_cons_zero, List.set_cons_succ]
    refine held_op 8 rfl (by kernel_rfl) (by rfl) ?_
    refine wp_call (f := 61) (args := #[.int .i64 vl]) rfl (by go_simp) ?_
    refine (CP.out _).mono ?_
    rintro e w' ⟨rfl, hw'⟩
    subst hw'
    refine ⟨_, rfl, by assumption, ?_⟩
    simp only [List.setIfInBounds_toArray, List.set_cons_zero, List.set_cons_succ]
    refine held_take 9 13 (v := (.agg #[.int .i64 (i : Int), .string n, .string p])) rfl rfl (by kernel_rfl) (by kernel_rfl) (by kernel_rfl) (by rfl) (fun _ _ _ h => h) (by assumption) ?_ ?_
    · intro W hW
      go_simp
    simp only [List.setIfInBounds_toArray, List.set_cons_zero, List.set_cons_succ]
    have dB : Below w2.heap.size w2 (w2.drew.alloc (.cells #[.int .i64 (i : Int), .string n, .string p] 26)) := ((Below.refl _ _).drew).alloc (Nat.le_refl _) _
    refine held_op 11 rfl (by kernel_rfl) (by rfl) ?_
    refine wp_skip (w' := w2.drew.alloc (.cells #[.int .i64 (i : Int), .string n, .string p] 26)) rfl (by go_simp) ⟨dB, ?_⟩
    refine wpAnyH_done (by kernel_rfl) ?_ _
    clear dB dA hHeld
    have HH := FACTS.out (w2.drew.alloc (.cells #[.int .i64 (i : Int), .string n, .string p] 26)) rfl
    clear FACTS HC
    obtain ⟨d0, d1, d2, c2, R4, B4, fz⟩ := HH
    generalize w2.drew.alloc (.cells #[.int .i64 (i : Int), .string n, .string p] 26) = w4 at *
    by_cases h3 : i < 3
    · have hz : ((i : Int) < 3) = True := by simp; omega
      go_wp2_with fail
      refine (CU.out _).mono ?_
      rintro e w' ⟨rfl, hw'⟩
      subst w'
      by_cases h0 : vl < 0
      · have HV : Hid (selV i vl u p = ⟨#[]⟩) := by show _ = _; unfold selV; rw [if_pos h3, if_pos h0]
        have R5 : ((w4.setCell ⟨w2.heap.size, 2, none⟩ (.string u)).setCell ⟨w2.heap.size, 2, none⟩ (.string ⟨#[]⟩)).heap[w.heap.size + 1]? = some (.cells #[.int .i64 0, .string ⟨#[]⟩, .string ⟨#[]⟩] 26) := (heap_setCell_other _ _ _ _ (by show _ ≠ w2.heap.size; omega)).trans ((heap_setCell_other _ _ _ _ (by show _ ≠ w2.heap.size; omega)).trans R4)
        have B5 : Hid (Below w.heap.size w ((w4.setCell ⟨w2.heap.size, 2, none⟩ (.string u)).setCell ⟨w2.heap.size, 2, none⟩ (.string ⟨#[]⟩))) := (B4.setCell (by show _ ≤ w2.heap.size; omega) _).setCell (by show _ ≤ w2.heap.size; omega) _
        go_wp2_with (refine wpList_store_row rfl 26 (.tmp 2) (.tmp 25) rfl (w.heap.size + 1) #[.int .i64 (i : Int), .string n, .string ⟨#[]⟩] rfl rfl 26 _ R5 Tryd.sizeM rfl (by simp [Value.oneCell']) ?_)
        refine bodyPost_ret (results_cell_row rfl _ _ (w.heap.size + 1) 26 #[.int .i64 (i : Int), .string n, .string ⟨#[]⟩] (0, 0) _ rfl (setRow_heap _ _ _ _ _ _ R5) Tryd.underlying26 rfl Tryd.sizeM) rfl ⟨by rw [HV.out], ?_⟩
        exact ⟨B5.out.os, B5.out.tape, B5.out.output, by rw [setRow_size]; exact B5.out.size, fun k hk => (setRow_other _ _ _ _ (by omega)).trans (B5.out.block k hk)⟩
      · have HV : Hid (selV i vl u p = u) := by show _ = _; unfold selV; rw [if_pos h3, if_neg h0]
        have R5 : (w4.setCell ⟨w2.heap.size, 2, none⟩ (.string u)).heap[w.heap.size + 1]? = some (.cells #[.int .i64 0, .string ⟨#[]⟩, .string ⟨#[]⟩] 26) := (heap_setCell_other _ _ _ _ (by show _ ≠ w2.heap.size; omega)).trans R4
        have B5 : Hid (Below w.heap.size w (w4.setCell ⟨w2.heap.size, 2, none⟩ (.string u))) := B4.setCell (by show _ ≤ w2.heap.size; omega) _
        go_wp2_with (refine wpList_store_row rfl 26 (.tmp 2) (.tmp 25) rfl (w.heap.size + 1) #[.int .i64 (i : Int), .string n, .string u] rfl rfl 26 _ R5 Tryd.sizeM rfl (by simp [Value.oneCell']) ?_)
        refine bodyPost_ret (results_cell_row rfl _ _ (w.heap.size + 1) 26 #[.int .i64 (i : Int), .string n, .string u] (0, 0) _ rfl (setRow_heap _ _ _ _ _ _ R5) Tryd.underlying26 rfl Tryd.sizeM) rfl ⟨by rw [HV.out], ?_⟩
        exact ⟨B5.out.os, B5.out.tape, B5.out.output, by rw [setRow_size]; exact B5.out.size, fun k hk => (setRow_other _ _ _ _ (by omega)).trans (B5.out.block k hk)⟩
    · have hz : ((i : Int) < 3) = False := by simp; omega
      have HV : Hid (selV i vl u p = p) := by show _ = _; unfold selV; rw [if_neg h3]
      have R5 := R4
      have B5 := Lib.hid B4
      go_wp2_with (refine wpList_store_row rfl 26 (.tmp 2) (.tmp 25) rfl (w.heap.size + 1) #[.int .i64 (i : Int), .string n, .string p] rfl rfl 26 _ R5 Tryd.sizeM rfl (by simp [Value.oneCell']) ?_)
      refine bodyPost_ret (results_cell_row rfl _ _ (w.heap.size + 1) 26 #[.int .i64 (i : Int), .string n, .string p] (0, 0) _ rfl (setRow_heap _ _ _ _ _ _ R5) Tryd.underlying26 rfl Tryd.sizeM) rfl ⟨by rw [HV.out], ?_⟩
      exact ⟨B5.out.os, B5.out.tape, B5.out.output, by rw [setRow_size]; exact B5.out.size, fun k hk => (setRow_other _ _ _ _ (by omega)).trans (B5.out.block k hk)⟩
end Go.Proofs.YtjmojjjgifkkiaaDoor
