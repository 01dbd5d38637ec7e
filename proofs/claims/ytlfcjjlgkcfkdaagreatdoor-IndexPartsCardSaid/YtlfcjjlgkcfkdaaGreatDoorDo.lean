/-
  IndexParts as a contract. Conditions: the library's table lies in its variable.
-/
import Derived.Test.YtlfcjjlgkcfkdaaGreatDoorY04
namespace Go.Proofs.YtlfcjjlgkcfkdaaGreatDoor
open Go.RowKit Go.Maps Go.Sort La

theorem found_parts {T : List Ent} (hnd : (T.map Prod.fst).Nodup) (a b : List Mat) (z : Int) : (z ∈ found T a ∧ z ∈ found T b) ↔ z ∈ found T (a ++ b) := by
  rw [mem_found, mem_found, mem_found]
  constructor
  · rintro ⟨⟨ls, h1, h2⟩, ⟨ls', h3, h4⟩⟩
    have : ls' = ls := congrArg Prod.snd (nd_inj hnd h3 h1 rfl)
    subst this
    exact ⟨ls', h1, by rw [allHold_app, h2, h4]; rfl⟩
  · rintro ⟨ls, h1, h2⟩
    rw [allHold_app, Bool.and_eq_true] at h2
    exact ⟨⟨ls, h1, h2.1⟩, ⟨ls, h1, h2.2⟩⟩
set_option maxRecDepth 100000 in
set_option maxHeartbeats 8000000 in
theorem parts10_law {w : World} {A : Option Addr} {n c : Nat} {S : List StpC} (h : StepsR w A S) (hn : S.length = n) (ds : List (Int × Int × Int)) (B : Option Addr) (M cb : Nat) (hM : ds.length = M) (hM1 : M ≤ maxLen) (hb : IsDraws w B ds) (cut : Int) (hT : DTab w) :
    Calls Tryz.prog 7 #[.slice A n c, .slice B M cb, .int .i64 cut] w fun e w' => e = .returned (.bool true) ∧ Below w.heap.size w w' := by
  have HT := Lib.hid hT
  by_cases h6 : 60 < n
  · have hz : decide ((n : Int) > 60) = true := decide_eq_true (by omega)
    have C := Lib.hid (runs10_any hT)
    clear h hn hb hT
    go_enter Tryz.func7, Tryz.ntmps7
    go_wp2_with fail
    refine C.out.mono ?_
    rintro e w1 ⟨rfl, bb⟩
    have Q := Lib.hid bb
    clear bb C
    go_wp2
    go_ret
    exact ⟨rfl, Q.out⟩
  · have hz : decide ((n : Int) > 60) = false := decide_eq_false (by omega)
    have C := Lib.hid (built_any (A := A) (c := c) h hn (by omega))
    have HB := Lib.hid hb
    have HM := Lib.hid hM
    clear h hb hT hM
    go_enter Tryz.func7, Tryz.ntmps7
    go_wp2_with fail
    refine C.out.mono ?_
    rintro e w1 ⟨x, b1, b2, N, L, v, rfl, i1, o1, l1, hN, hbs, bb⟩
    have I1 := Lib.hid i1
    have B1 := Lib.hid bb
    have CM := Lib.hid (mats_any ds B M cb w1 HM.out hM1 (HB.out.below bb))
    clear i1 o1 l1 bb hbs C
    go_wp2_with fail
    refine CM.out.mono ?_
    rintro e w2 ⟨⟨ms, vm, gm, lm, rfl, om⟩, bb⟩
    obtain ⟨A2, c2, rfl, hkc, ar, im, _⟩ := own_formM2 om
    obtain ⟨nM, hnM⟩ : ∃ k, ms.length = k := ⟨_, rfl⟩
    rw [hnM] at lm hkc ar ⊢
    have I2 := Lib.hid (I1.out.below bb)
    have B2 : Hid (Below w.heap.size w w2) := B1.out.trans (bb.mono B1.out.size)
    have GM := Lib.hid gm
    have IM := Lib.hid im
    have NM := Lib.hid hnM
    have AR := Lib.hid ar
    have T2 := Lib.hid (HT.out.below B2.out)
    clear gm om im bb CM hnM ar
    by_cases hc0 : cut < 0
    · have hd0 : decide (cut < 0) = true := decide_eq_true hc0
      go_wp2_with fail
      obtain ⟨q, hq⟩ : ∃ q : Nat, q = 0 := ⟨_, rfl⟩
      have eq0 : (Value.int .i64 0) = .int .i64 (q : Int) := by rw [hq]; rfl
      have hqn : q ≤ nM := by omega
      rw [eq0]
      clear eq0 hq hd0
      have LLO := fun W => AR.out.lo W q hqn hkc
      have LHI := fun W => AR.out.hi W q hqn
      obtain ⟨CM2, hCM⟩ : ∃ a, cutM A2 c2 q = a := ⟨_, rfl⟩
      have IMT := Lib.hid (mats_take IM.out q)
      have IMD := Lib.hid (AR.out.drop IM.out q NM.out hkc)
      rw [hCM] at LHI IMD
      have TD : Hid ((ms.take q).length = q ∧ (ms.drop q).length = nM - q) := ⟨by rw [List.length_take, NM.out]; omega, by rw [List.length_drop, NM.out]⟩
      have SMT : Hid (SmallM (ms.take q)) := fun y hy => GM.out.small y (List.mem_of_mem_take hy)
      have SMD : Hid (SmallM (ms.drop q)) := fun y hy => GM.out.small y (List.mem_of_mem_drop hy)
      clear hCM
      refine wp_region_held_drew (S := fun W => Below w2.heap.size w2 W) (by kernel_rfl) ((Below.refl _ _).drew) (fun hHeld => ?_)
      refine held_take 0 33 (v := (.pointer (some ⟨x, 0, none⟩))) rfl rfl (by kernel_rfl) (by kernel_rfl) (by kernel_rfl) (by rfl) (fun _ _ _ h => h) (by assumption) ?_ ?_
      · intro W hW
        go_simp
      simp only [List.setIfInBounds_toArray, List.set_cons_zero, List.set_cons_succ]
      refine held_take 1 34 (v := (.slice A2 nM c2)) rfl rfl (by kernel_rfl) (by kernel_rfl) (by kernel_rfl) (by rfl) (fun _ _ _ h => h) (by assumption) ?_ ?_
      · intro W hW
        go_simp
      simp only [List.setIfInBounds_toArray, List.set_cons_zero, List.set_cons_succ]
      refine held_take 3 36 (v := (.pointer (some ⟨x, 0, none⟩))) rfl rfl (by kernel_rfl) (by kernel_rfl) (by kernel_rfl) (by rfl) (fun _ _ _ h => h) (by assumption) ?_ ?_
      · intro W hW
        go_simp
      simp only [List.setIfInBounds_toArray, List.set_cons_zero, List.set_cons_succ]
      refine held_take 4 37 (v := (.slice A2 nM c2)) rfl rfl (by kernel_rfl) (by kernel_rfl) (by kernel_rfl) (by rfl) (fun _ _ _ h => h) (by assumption) ?_ ?_
      · intro W hW
        go_simp
      simp only [List.setIfInBounds_toArray, List.set_cons_zero, List.set_cons_succ]
      refine held_take 5 38 (v := (.int .i64 (q : Int))) rfl rfl (by kernel_rfl) (by kernel_rfl) (by kernel_rfl) (by rfl) (fun _ _ _ h => h) (by assumption) ?_ ?_
      · intro W hW
        go_simp
      simp only [List.setIfInBounds_toArray, List.set_cons_zero, List.set_cons_succ]
      refine held_take 6 39 (v := (.slice A2 q c2)) rfl rfl (by kernel_rfl) (by kernel_rfl) (by kernel_rfl) (by rfl) (fun _ _ _ h => h) (by assumption) ?_ ?_
      · intro W hW
        have q1 := LLO W
        go_simp
      simp only [List.setIfInBounds_toArray, List.set_cons_zero, List.set_cons_succ]
      refine held_take 8 41 (v := (.pointer (some ⟨x, 0, none⟩))) rfl rfl (by kernel_rfl) (by kernel_rfl) (by kernel_rfl) (by rfl) (fun _ _ _ h => h) (by assumption) ?_ ?_
      · intro W hW
        go_simp
      simp only [List.setIfInBounds_toArray, List.set_cons_zero, List.set_cons_succ]
      refine held_take 9 42 (v := (.slice A2 nM c2)) rfl rfl (by kernel_rfl) (by kernel_rfl) (by kernel_rfl) (by rfl) (fun _ _ _ h => h) (by assumption) ?_ ?_
      · intro W hW
        go_simp
      simp only [List.setIfInBounds_toArray, List.set_cons_zero, List.set_cons_succ]
      refine held_take 10 43 (v := (.int .i64 (q : Int))) rfl rfl (by kernel_rfl) (by kernel_rfl) (by kernel_rfl) (by rfl) (fun _ _ _ h => h) (by assumption) ?_ ?_
      · intro W hW
        go_simp
      simp only [List.setIfInBounds_toArray, List.set_cons_zero, List.set_cons_succ]
      refine held_take 11 44 (v := (.slice CM2 (nM - q) (c2 - q))) rfl rfl (by kernel_rfl) (by kernel_rfl) (by kernel_rfl) (by rfl) (fun _ _ _ h => h) (by assumption) ?_ ?_
      · intro W hW
        have q1 := LHI W
        go_simp
      simp only [List.setIfInBounds_toArray, List.set_cons_zero, List.set_cons_succ]
      have CC35 := ifind_any (I2.out.below hHeld) ms A2 nM c2 NM.out (by omega) GM.out.small (IM.out.below hHeld) (T2.out.below hHeld)
      refine held_call 2 35 (f := 12) (args := #[(.pointer (some ⟨x, 0, none⟩)), (.slice A2 nM c2)]) rfl rfl (by kernel_rfl) (by rfl) (by go_simp) ?_
      refine CC35.mono ?_
      rintro e u1 ⟨o1, A1, n1, c1, rfl, r1, s1, bb1⟩
      have d1 : Below w2.heap.size w2 u1 := hHeld.trans (bb1.mono hHeld.size)
      refine ⟨_, rfl, d1, ?_⟩
      simp only [List.setIfInBounds_toArray, List.set_cons_zero, List.set_cons_succ]
      have CC40 := ifind_any (I2.out.below d1) (ms.take q) A2 q c2 TD.out.1 (by omega) SMT.out (IMT.out.below d1) (T2.out.below d1)
      refine held_call 7 40 (f := 12) (args := #[(.pointer (some ⟨x, 0, none⟩)), .slice A2 q c2]) rfl rfl (by kernel_rfl) (by rfl) (by go_simp) ?_
      refine CC40.mono ?_
      rintro e u2 ⟨o2, A2', n2, c2', rfl, r2, s2, bb2⟩
      have d2 : Below w2.heap.size w2 u2 := d1.trans (bb2.mono d1.size)
      refine ⟨_, rfl, d2, ?_⟩
      simp only [List.setIfInBounds_toArray, List.set_cons_zero, List.set_cons_succ]
      have CC45 := ifind_any (I2.out.below d2) (ms.drop q) CM2 (nM - q) (c2 - q) TD.out.2 (by omega) SMD.out (IMD.out.below d2) (T2.out.below d2)
      refine held_call 12 45 (f := 12) (args := #[(.pointer (some ⟨x, 0, none⟩)), .slice CM2 (nM - q) (c2 - q)]) rfl rfl (by kernel_rfl) (by rfl) (by go_simp) ?_
      refine CC45.mono ?_
      rintro e u3 ⟨o3, A3, n3, c3, rfl, r3, s3, bb3⟩
      have d3 : Below w2.heap.size w2 u3 := d2.trans (bb3.mono d2.size)
      refine ⟨_, rfl, d3, ?_⟩
      simp only [List.setIfInBounds_toArray, List.set_cons_zero, List.set_cons_succ]
      have CC46 := and_s (s2.below bb3) s3
      refine held_call 13 46 (f := 25) (args := #[.slice A2' n2 c2', .slice A3 n3 c3]) rfl rfl (by kernel_rfl) (by rfl) (by go_simp) ?_
      refine CC46.mono ?_
      rintro e u4 ⟨o4, A4, n4, c4, rfl, r4, s4, bb4⟩
      have d4 : Below w2.heap.size w2 u4 := d3.trans (bb4.mono d3.size)
      refine ⟨_, rfl, d4, ?_⟩
      simp only [List.setIfInBounds_toArray, List.set_cons_zero, List.set_cons_succ]
      have EQ4 : o1 = o4 := r1.eq r4 fun z => by
        rw [pick_mem]
        have h1 := found_parts I2.out.nd (ms.take q) (ms.drop q) z
        rw [List.take_append_drop] at h1
        rw [← h1, r2.2 z]
        simp [r3.2 z]
      have CC47 := same_s true (((s1.below bb2).below bb3).below bb4) s4 (decide_eq_true EQ4)
      refine held_call 14 47 (f := 11) (args := #[.slice A1 n1 c1, .slice A4 n4 c4]) rfl rfl (by kernel_rfl) (by rfl) (by go_simp) ?_
      refine CC47.mono ?_
      rintro e u5 ⟨rfl, bb5⟩
      have d5 : Below w2.heap.size w2 u5 := d4.trans (bb5.mono d4.size)
      refine ⟨_, rfl, d5, ?_⟩
      simp only [List.setIfInBounds_toArray, List.set_cons_zero, List.set_cons_succ]
      refine held_take 15 48 (v := (.bool true)) rfl rfl (by kernel_rfl) (by kernel_rfl) (by kernel_rfl) (by rfl) (fun _ _ _ h => h) (by assumption) ?_ ?_
      · intro W hW
        go_simp
      simp only [List.setIfInBounds_toArray, List.set_cons_zero, List.set_cons_succ]
      refine held_take 16 49 (v := (.pointer (some ⟨x, 0, none⟩))) rfl rfl (by kernel_rfl) (by kernel_rfl) (by kernel_rfl) (by rfl) (fun _ _ _ h => h) (by assumption) ?_ ?_
      · intro W hW
        go_simp
      simp only [List.setIfInBounds_toArray, List.set_cons_zero, List.set_cons_succ]
      refine held_take 18 51 (v := (.pointer (some ⟨x, 0, none⟩))) rfl rfl (by kernel_rfl) (by kernel_rfl) (by kernel_rfl) (by rfl) (fun _ _ _ h => h) (by assumption) ?_ ?_
      · intro W hW
        go_simp
      simp only [List.setIfInBounds_toArray, List.set_cons_zero, List.set_cons_succ]
      have CC50 := ifind_any (I2.out.below d5) [] none 0 0 rfl (by omega) (fun y hy => by cases hy) (IsMats.nil _ _) (T2.out.below d5)
      refine held_call 17 50 (f := 12) (args := #[(.pointer (some ⟨x, 0, none⟩)), .slice none 0 0]) rfl rfl (by kernel_rfl) (by rfl) (by go_simp) ?_
      refine CC50.mono ?_
      rintro e u6 ⟨o6, A6, n6, c6, rfl, r6, s6, bb6⟩
      have d6 : Below w2.heap.size w2 u6 := d5.trans (bb6.mono d5.size)
      refine ⟨_, rfl, d6, ?_⟩
      simp only [List.setIfInBounds_toArray, List.set_cons_zero, List.set_cons_succ]
      have CC52 := iids_any (I2.out.below d6)
      refine held_call 19 52 (f := 15) (args := #[(.pointer (some ⟨x, 0, none⟩))]) rfl rfl (by kernel_rfl) (by rfl) (by go_simp) ?_
      refine CC52.mono ?_
      rintro e u7 ⟨o7, A7, n7, c7, rfl, r7, s7, bb7⟩
      have d7 : Below w2.heap.size w2 u7 := d6.trans (bb7.mono d6.size)
      refine ⟨_, rfl, d7, ?_⟩
      simp only [List.setIfInBounds_toArray, List.set_cons_zero, List.set_cons_succ]
      have EQ7 : o6 = o7 := r6.eq r7 fun z => by rw [found_nil]
      have CC53 := same_s true (s6.below bb7) s7 (decide_eq_true EQ7)
      refine held_call 20 53 (f := 11) (args := #[.slice A6 n6 c6, .slice A7 n7 c7]) rfl rfl (by kernel_rfl) (by rfl) (by go_simp) ?_
      refine CC53.mono ?_
      rintro e u8 ⟨rfl, bb8⟩
      have d8 : Below w2.heap.size w2 u8 := d7.trans (bb8.mono d7.size)
      refine ⟨_, rfl, d8, ?_⟩
      simp only [List.setIfInBounds_toArray, List.set_cons_zero, List.set_cons_succ]
      refine held_take 21 54 (v := (.bool true)) rfl rfl (by kernel_rfl) (by kernel_rfl) (by kernel_rfl) (by rfl) (fun _ _ _ h => h) (by assumption) ?_ ?_
      · intro W hW
        go_simp
      simp only [List.setIfInBounds_toArray, List.set_cons_zero, List.set_cons_succ]
      refine held_take 22 55 (v := (.bool true)) rfl rfl (by kernel_rfl) (by kernel_rfl) (by kernel_rfl) (by rfl) (fun _ _ _ h => h) (by assumption) ?_ ?_
      · intro W hW
        go_simp
      simp only [List.setIfInBounds_toArray, List.set_cons_zero, List.set_cons_succ]
      have CC56 := runs10_any (T2.out.below d8)
      refine held_call 23 56 (f := 3) (args := #[]) rfl rfl (by kernel_rfl) (by rfl) (by go_simp) ?_
      refine CC56.mono ?_
      rintro e u9 ⟨rfl, bb9⟩
      have d9 : Below w2.heap.size w2 u9 := d8.trans (bb9.mono d8.size)
      refine ⟨_, rfl, d9, ?_⟩
      simp only [List.setIfInBounds_toArray, List.set_cons_zero, List.set_cons_succ]
      refine held_take 24 57 (v := (.bool true)) rfl rfl (by kernel_rfl) (by kernel_rfl) (by kernel_rfl) (by rfl) (fun _ _ _ h => h) (by assumption) ?_ ?_
      · intro W hW
        go_simp
      simp only [List.setIfInBounds_toArray, List.set_cons_zero, List.set_cons_succ]
      refine held_take 25 6 (v := (.bool true)) rfl rfl (by kernel_rfl) (by kernel_rfl) (by kernel_rfl) (by rfl) (fun _ _ _ h => h) (by assumption) ?_ ?_
      · intro W hW
        go_simp
      simp only [List.setIfInBounds_toArray, List.set_cons_zero, List.set_cons_succ]
      refine wpAnyH_done (by kernel_rfl) ?_ _
      have Q : Hid (Below w.heap.size w u9) := B2.out.trans (d9.mono B2.out.size)
      clear d1 d2 d3 d4 d5 d6 d7 d8 d9 bb1 bb2 bb3 bb4 bb5 bb6 bb7 bb8 bb9 s1 s2 s3 s4 s6 s7 r1 r2 r3 r4 r6 r7 EQ4 EQ7 hHeld LLO LHI CC35 CC40 CC45 CC46 CC47 CC50 CC52 CC53 CC56
      go_wp2
      go_ret
      exact ⟨rfl, Q.out⟩
    · by_cases hc1 : (nM : Int) < cut
      · have hd0 : decide (cut < 0) = false := decide_eq_false hc0
        have hd1 : decide (cut > (nM : Int)) = true := decide_eq_true hc1
        go_wp2_with fail
        obtain ⟨q, hq⟩ : ∃ q : Nat, q = 0 := ⟨_, rfl⟩
        have eq0 : (Value.int .i64 0) = .int .i64 (q : Int) := by rw [hq]; rfl
        have hqn : q ≤ nM := by omega
        rw [eq0]
        clear eq0 hq hd0 hd1
        have LLO := fun W => AR.out.lo W q hqn hkc
        have LHI := fun W => AR.out.hi W q hqn
        obtain ⟨CM2, hCM⟩ : ∃ a, cutM A2 c2 q = a := ⟨_, rfl⟩
        have IMT := Lib.hid (mats_take IM.out q)
        have IMD := Lib.hid (AR.out.drop IM.out q NM.out hkc)
        rw [hCM] at LHI IMD
        have TD : Hid ((ms.take q).length = q ∧ (ms.drop q).length = nM - q) := ⟨by rw [List.length_take, NM.out]; omega, by rw [List.length_drop, NM.out]⟩
        have SMT : Hid (SmallM (ms.take q)) := fun y hy => GM.out.small y (List.mem_of_mem_take hy)
        have SMD : Hid (SmallM (ms.drop q)) := fun y hy => GM.out.small y (List.mem_of_mem_drop hy)
        clear hCM
        refine wp_region_held_drew (S := fun W => Below w2.heap.size w2 W) (by kernel_rfl) ((Below.refl _ _).drew) (fun hHeld => ?_)
        refine held_take 0 33 (v := (.pointer (some ⟨x, 0, none⟩))) rfl rfl (by kernel_rfl) (by kernel_rfl) (by kernel_rfl) (by rfl) (fun _ _ _ h => h) (by assumption) ?_ ?_
        · intro W hW
          go_simp
        simp only [List.setIfInBounds_toArray, List.set_cons_zero, List.set_cons_succ]
        refine held_take 1 34 (v := (.slice A2 nM c2)) rfl rfl (by kernel_rfl) (by kernel_rfl) (by kernel_rfl) (by rfl) (fun _ _ _ h => h) (by assumption) ?_ ?_
        · intro W hW
          go_simp
        simp only [List.setIfInBounds_toArray, List.set_cons_zero, List.set_cons_succ]
        refine held_take 3 36 (v := (.pointer (some ⟨x, 0, none⟩))) rfl rfl (by kernel_rfl) (by kernel_rfl) (by kernel_rfl) (by rfl) (fun _ _ _ h => h) (by assumption) ?_ ?_
        · intro W hW
          go_simp
        simp only [List.setIfInBounds_toArray, List.set_cons_zero, List.set_cons_succ]
        refine held_take 4 37 (v := (.slice A2 nM c2)) rfl rfl (by kernel_rfl) (by kernel_rfl) (by kernel_rfl) (by rfl) (fun _ _ _ h => h) (by assumption) ?_ ?_
        · intro W hW
          go_simp
        simp only [List.setIfInBounds_toArray, List.set_cons_zero, List.set_cons_succ]
        refine held_take 5 38 (v := (.int .i64 (q : Int))) rfl rfl (by kernel_rfl) (by kernel_rfl) (by kernel_rfl) (by rfl) (fun _ _ _ h => h) (by assumption) ?_ ?_
        · intro W hW
          go_simp
        simp only [List.setIfInBounds_toArray, List.set_cons_zero, List.set_cons_succ]
        refine held_take 6 39 (v := (.slice A2 q c2)) rfl rfl (by kernel_rfl) (by kernel_rfl) (by kernel_rfl) (by rfl) (fun _ _ _ h => h) (by assumption) ?_ ?_
        · intro W hW
          have q1 := LLO W
          go_simp
        simp only [List.setIfInBounds_toArray, List.set_cons_zero, List.set_cons_succ]
        refine held_take 8 41 (v := (.pointer (some ⟨x, 0, none⟩))) rfl rfl (by kernel_rfl) (by kernel_rfl) (by kernel_rfl) (by rfl) (fun _ _ _ h => h) (by assumption) ?_ ?_
        · intro W hW
          go_simp
        simp only [List.setIfInBounds_toArray, List.set_cons_zero, List.set_cons_succ]
        refine held_take 9 42 (v := (.slice A2 nM c2)) rfl rfl (by kernel_rfl) (by kernel_rfl) (by kernel_rfl) (by rfl) (fun _ _ _ h => h) (by assumption) ?_ ?_
        · intro W hW
          go_simp
        simp only [List.setIfInBounds_toArray, List.set_cons_zero, List.set_cons_succ]
        refine held_take 10 43 (v := (.int .i64 (q : Int))) rfl rfl (by kernel_rfl) (by kernel_rfl) (by kernel_rfl) (by rfl) (fun _ _ _ h => h) (by assumption) ?_ ?_
        · intro W hW
          go_simp
        simp only [List.setIfInBounds_toArray, List.set_cons_zero, List.set_cons_succ]
        refine held_take 11 44 (v := (.slice CM2 (nM - q) (c2 - q))) rfl rfl (by kernel_rfl) (by kernel_rfl) (by kernel_rfl) (by rfl) (fun _ _ _ h => h) (by assumption) ?_ ?_
        · intro W hW
          have q1 := LHI W
          go_simp
        simp only [List.setIfInBounds_toArray, List.set_cons_zero, List.set_cons_succ]
        have CC35 := ifind_any (I2.out.below hHeld) ms A2 nM c2 NM.out (by omega) GM.out.small (IM.out.below hHeld) (T2.out.below hHeld)
        refine held_call 2 35 (f := 12) (args := #[(.pointer (some ⟨x, 0, none⟩)), (.slice A2 nM c2)]) rfl rfl (by kernel_rfl) (by rfl) (by go_simp) ?_
        refine CC35.mono ?_
        rintro e u1 ⟨o1, A1, n1, c1, rfl, r1, s1, bb1⟩
        have d1 : Below w2.heap.size w2 u1 := hHeld.trans (bb1.mono hHeld.size)
        refine ⟨_, rfl, d1, ?_⟩
        simp only [List.setIfInBounds_toArray, List.set_cons_zero, List.set_cons_succ]
        have CC40 := ifind_any (I2.out.below d1) (ms.take q) A2 q c2 TD.out.1 (by omega) SMT.out (IMT.out.below d1) (T2.out.below d1)
        refine held_call 7 40 (f := 12) (args := #[(.pointer (some ⟨x, 0, none⟩)), .slice A2 q c2]) rfl rfl (by kernel_rfl) (by rfl) (by go_simp) ?_
        refine CC40.mono ?_
        rintro e u2 ⟨o2, A2', n2, c2', rfl, r2, s2, bb2⟩
        have d2 : Below w2.heap.size w2 u2 := d1.trans (bb2.mono d1.size)
        refine ⟨_, rfl, d2, ?_⟩
        simp only [List.setIfInBounds_toArray, List.set_cons_zero, List.set_cons_succ]
        have CC45 := ifind_any (I2.out.below d2) (ms.drop q) CM2 (nM - q) (c2 - q) TD.out.2 (by omega) SMD.out (IMD.out.below d2) (T2.out.below d2)
        refine held_call 12 45 (f := 12) (args := #[(.pointer (some ⟨x, 0, none⟩)), .slice CM2 (nM - q) (c2 - q)]) rfl rfl (by kernel_rfl) (by rfl) (by go_simp) ?_
        refine CC45.mono ?_
        rintro e u3 ⟨o3, A3, n3, c3, rfl, r3, s3, bb3⟩
        have d3 : Below w2.heap.size w2 u3 := d2.trans (bb3.mono d2.size)
        refine ⟨_, rfl, d3, ?_⟩
        simp only [List.setIfInBounds_toArray, List.set_cons_zero, List.set_cons_succ]
        have CC46 := and_s (s2.below bb3) s3
        refine held_call 13 46 (f := 25) (args := #[.slice A2' n2 c2', .slice A3 n3 c3]) rfl rfl (by kernel_rfl) (by rfl) (by go_simp) ?_
        refine CC46.mono ?_
        rintro e u4 ⟨o4, A4, n4, c4, rfl, r4, s4, bb4⟩
        have d4 : Below w2.heap.size w2 u4 := d3.trans (bb4.mono d3.size)
        refine ⟨_, rfl, d4, ?_⟩
        simp only [List.setIfInBounds_toArray, List.set_cons_zero, List.set_cons_succ]
        have EQ4 : o1 = o4 := r1.eq r4 fun z => by
          rw [pick_mem]
          have h1 := found_parts I2.out.nd (ms.take q) (ms.drop q) z
          rw [List.take_append_drop] at h1
          rw [← h1, r2.2 z]
          simp [r3.2 z]
        have CC47 := same_s true (((s1.below bb2).below bb3).below bb4) s4 (decide_eq_true EQ4)
        refine held_call 14 47 (f := 11) (args := #[.slice A1 n1 c1, .slice A4 n4 c4]) rfl rfl (by kernel_rfl) (by rfl) (by go_simp) ?_
        refine CC47.mono ?_
        rintro e u5 ⟨rfl, bb5⟩
        have d5 : Below w2.heap.size w2 u5 := d4.trans (bb5.mono d4.size)
        refine ⟨_, rfl, d5, ?_⟩
        simp only [List.setIfInBounds_toArray, List.set_cons_zero, List.set_cons_succ]
        refine held_take 15 48 (v := (.bool true)) rfl rfl (by kernel_rfl) (by kernel_rfl) (by kernel_rfl) (by rfl) (fun _ _ _ h => h) (by assumption) ?_ ?_
        · intro W hW
          go_simp
        simp only [List.setIfInBounds_toArray, List.set_cons_zero, List.set_cons_succ]
        refine held_take 16 49 (v := (.pointer (some ⟨x, 0, none⟩))) rfl rfl (by kernel_rfl) (by kernel_rfl) (by kernel_rfl) (by rfl) (fun _ _ _ h => h) (by assumption) ?_ ?_
        · intro W hW
          go_simp
        simp only [List.setIfInBounds_toArray, List.set_cons_zero, List.set_cons_succ]
        refine held_take 18 51 (v := (.pointer (some ⟨x, 0, none⟩))) rfl rfl (by kernel_rfl) (by kernel_rfl) (by kernel_rfl) (by rfl) (fun _ _ _ h => h) (by assumption) ?_ ?_
        · intro W hW
          go_simp
        simp only [List.setIfInBounds_toArray, List.set_cons_zero, List.set_cons_succ]
        have CC50 := ifind_any (I2.out.below d5) [] none 0 0 rfl (by omega) (fun y hy => by cases hy) (IsMats.nil _ _) (T2.out.below d5)
        refine held_call 17 50 (f := 12) (args := #[(.pointer (some ⟨x, 0, none⟩)), .slice none 0 0]) rfl rfl (by kernel_rfl) (by rfl) (by go_simp) ?_
        refine CC50.mono ?_
        rintro e u6 ⟨o6, A6, n6, c6, rfl, r6, s6, bb6⟩
        have d6 : Below w2.heap.size w2 u6 := d5.trans (bb6.mono d5.size)
        refine ⟨_, rfl, d6, ?_⟩
        simp only [List.setIfInBounds_toArray, List.set_cons_zero, List.set_cons_succ]
        have CC52 := iids_any (I2.out.below d6)
        refine held_call 19 52 (f := 15) (args := #[(.pointer (some ⟨x, 0, none⟩))]) rfl rfl (by kernel_rfl) (by rfl) (by go_simp) ?_
        refine CC52.mono ?_
        rintro e u7 ⟨o7, A7, n7, c7, rfl, r7, s7, bb7⟩
        have d7 : Below w2.heap.size w2 u7 := d6.trans (bb7.mono d6.size)
        refine ⟨_, rfl, d7, ?_⟩
        simp only [List.setIfInBounds_toArray, List.set_cons_zero, List.set_cons_succ]
        have EQ7 : o6 = o7 := r6.eq r7 fun z => by rw [found_nil]
        have CC53 := same_s true (s6.below bb7) s7 (decide_eq_true EQ7)
        refine held_call 20 53 (f := 11) (args := #[.slice A6 n6 c6, .slice A7 n7 c7]) rfl rfl (by kernel_rfl) (by rfl) (by go_simp) ?_
        refine CC53.mono ?_
        rintro e u8 ⟨rfl, bb8⟩
        have d8 : Below w2.heap.size w2 u8 := d7.trans (bb8.mono d7.size)
        refine ⟨_, rfl, d8, ?_⟩
        simp only [List.setIfInBounds_toArray, List.set_cons_zero, List.set_cons_succ]
        refine held_take 21 54 (v := (.bool true)) rfl rfl (by kernel_rfl) (by kernel_rfl) (by kernel_rfl) (by rfl) (fun _ _ _ h => h) (by assumption) ?_ ?_
        · intro W hW
          go_simp
        simp only [List.setIfInBounds_toArray, List.set_cons_zero, List.set_cons_succ]
        refine held_take 22 55 (v := (.bool true)) rfl rfl (by kernel_rfl) (by kernel_rfl) (by kernel_rfl) (by rfl) (fun _ _ _ h => h) (by assumption) ?_ ?_
        · intro W hW
          go_simp
        simp only [List.setIfInBounds_toArray, List.set_cons_zero, List.set_cons_succ]
        have CC56 := runs10_any (T2.out.below d8)
        refine held_call 23 56 (f := 3) (args := #[]) rfl rfl (by kernel_rfl) (by rfl) (by go_simp) ?_
        refine CC56.mono ?_
        rintro e u9 ⟨rfl, bb9⟩
        have d9 : Below w2.heap.size w2 u9 := d8.trans (bb9.mono d8.size)
        refine ⟨_, rfl, d9, ?_⟩
        simp only [List.setIfInBounds_toArray, List.set_cons_zero, List.set_cons_succ]
        refine held_take 24 57 (v := (.bool true)) rfl rfl (by kernel_rfl) (by kernel_rfl) (by kernel_rfl) (by rfl) (fun _ _ _ h => h) (by assumption) ?_ ?_
        · intro W hW
          go_simp
        simp only [List.setIfInBounds_toArray, List.set_cons_zero, List.set_cons_succ]
        refine held_take 25 6 (v := (.bool true)) rfl rfl (by kernel_rfl) (by kernel_rfl) (by kernel_rfl) (by rfl) (fun _ _ _ h => h) (by assumption) ?_ ?_
        · intro W hW
          go_simp
        simp only [List.setIfInBounds_toArray, List.set_cons_zero, List.set_cons_succ]
        refine wpAnyH_done (by kernel_rfl) ?_ _
        have Q : Hid (Below w.heap.size w u9) := B2.out.trans (d9.mono B2.out.size)
        clear d1 d2 d3 d4 d5 d6 d7 d8 d9 bb1 bb2 bb3 bb4 bb5 bb6 bb7 bb8 bb9 s1 s2 s3 s4 s6 s7 r1 r2 r3 r4 r6 r7 EQ4 EQ7 hHeld LLO LHI CC35 CC40 CC45 CC46 CC47 CC50 CC52 CC53 CC56
        go_wp2
        go_ret
        exact ⟨rfl, Q.out⟩
      · have hd0 : decide (cut < 0) = false := decide_eq_false hc0
        have hd1 : decide (cut > (nM : Int)) = false := decide_eq_false hc1
        obtain ⟨q, rfl⟩ : ∃ q : Nat, cut = (q : Int) := ⟨cut.toNat, by omega⟩
        have hqn : q ≤ nM := by omega
        go_wp2_with fail
        clear hd0 hd1
        have LLO := fun W => AR.out.lo W q hqn hkc
        have LHI := fun W => AR.out.hi W q hqn
        obtain ⟨CM2, hCM⟩ : ∃ a, cutM A2 c2 q = a := ⟨_, rfl⟩
        have IMT := Lib.hid (mats_take IM.out q)
        have IMD := Lib.hid (AR.out.drop IM.out q NM.out hkc)
        rw [hCM] at LHI IMD
        have TD : Hid ((ms.take q).length = q ∧ (ms.drop q).length = nM - q) := ⟨by rw [List.length_take, NM.out]; omega, by rw [List.length_drop, NM.out]⟩
        have SMT : Hid (SmallM (ms.take q)) := fun y hy => GM.out.small y (List.mem_of_mem_take hy)
        have SMD : Hid (SmallM (ms.drop q)) := fun y hy => GM.out.small y (List.mem_of_mem_drop hy)
        clear hCM
        refine wp_region_held_drew (S := fun W => Below w2.heap.size w2 W) (by kernel_rfl) ((Below.refl _ _).drew) (fun hHeld => ?_)
        refine held_take 0 33 (v := (.pointer (some ⟨x, 0, none⟩))) rfl rfl (by kernel_rfl) (by kernel_rfl) (by kernel_rfl) (by rfl) (fun _ _ _ h => h) (by assumption) ?_ ?_
        · intro W hW
          go_simp
        simp only [List.setIfInBounds_toArray, List.set_cons_zero, List.set_cons_succ]
        refine held_take 1 34 (v := (.slice A2 nM c2)) rfl rfl (by kernel_rfl) (by kernel_rfl) (by kernel_rfl) (by rfl) (fun _ _ _ h => h) (by assumption) ?_ ?_
        · intro W hW
          go_simp
        simp only [List.setIfInBounds_toArray, List.set_cons_zero, List.set_cons_succ]
        refine held_take 3 36 (v := (.pointer (some ⟨x, 0, none⟩))) rfl rfl (by kernel_rfl) (by kernel_rfl) (by kernel_rfl) (by rfl) (fun _ _ _ h => h) (by assumption) ?_ ?_
        · intro W hW
          go_simp
        simp only [List.setIfInBounds_toArray, List.set_cons_zero, List.set_cons_succ]
        refine held_take 4 37 (v := (.slice A2 nM c2)) rfl rfl (by kernel_rfl) (by kernel_rfl) (by kernel_rfl) (by rfl) (fun _ _ _ h => h) (by assumption) ?_ ?_
        · intro W hW
          go_simp
        simp only [List.setIfInBounds_toArray, List.set_cons_zero, List.set_cons_succ]
        refine held_take 5 38 (v := (.int .i64 (q : Int))) rfl rfl (by kernel_rfl) (by kernel_rfl) (by kernel_rfl) (by rfl) (fun _ _ _ h => h) (by assumption) ?_ ?_
        · intro W hW
          go_simp
        simp only [List.setIfInBounds_toArray, List.set_cons_zero, List.set_cons_succ]
        refine held_take 6 39 (v := (.slice A2 q c2)) rfl rfl (by kernel_rfl) (by kernel_rfl) (by kernel_rfl) (by rfl) (fun _ _ _ h => h) (by assumption) ?_ ?_
        · intro W hW
          have q1 := LLO W
          go_simp
        simp only [List.setIfInBounds_toArray, List.set_cons_zero, List.set_cons_succ]
        refine held_take 8 41 (v := (.pointer (some ⟨x, 0, none⟩))) rfl rfl (by kernel_rfl) (by kernel_rfl) (by kernel_rfl) (by rfl) (fun _ _ _ h => h) (by assumption) ?_ ?_
        · intro W hW
          go_simp
        simp only [List.setIfInBounds_toArray, List.set_cons_zero, List.set_cons_succ]
        refine held_take 9 42 (v := (.slice A2 nM c2)) rfl rfl (by kernel_rfl) (by kernel_rfl) (by kernel_rfl) (by rfl) (fun _ _ _ h => h) (by assumption) ?_ ?_
        · intro W hW
          go_simp
        simp only [List.setIfInBounds_toArray, List.set_cons_zero, List.set_cons_succ]
        refine held_take 10 43 (v := (.int .i64 (q : Int))) rfl rfl (by kernel_rfl) (by kernel_rfl) (by kernel_rfl) (by rfl) (fun _ _ _ h => h) (by assumption) ?_ ?_
        · intro W hW
          go_simp
        simp only [List.setIfInBounds_toArray, List.set_cons_zero, List.set_cons_succ]
        refine held_take 11 44 (v := (.slice CM2 (nM - q) (c2 - q))) rfl rfl (by kernel_rfl) (by kernel_rfl) (by kernel_rfl) (by rfl) (fun _ _ _ h => h) (by assumption) ?_ ?_
        · intro W hW
          have q1 := LHI W
          go_simp
        simp only [List.setIfInBounds_toArray, List.set_cons_zero, List.set_cons_succ]
        have CC35 := ifind_any (I2.out.below hHeld) ms A2 nM c2 NM.out (by omega) GM.out.small (IM.out.below hHeld) (T2.out.below hHeld)
        refine held_call 2 35 (f := 12) (args := #[(.pointer (some ⟨x, 0, none⟩)), (.slice A2 nM c2)]) rfl rfl (by kernel_rfl) (by rfl) (by go_simp) ?_
        refine CC35.mono ?_
        rintro e u1 ⟨o1, A1, n1, c1, rfl, r1, s1, bb1⟩
        have d1 : Below w2.heap.size w2 u1 := hHeld.trans (bb1.mono hHeld.size)
        refine ⟨_, rfl, d1, ?_⟩
        simp only [List.setIfInBounds_toArray, List.set_cons_zero, List.set_cons_succ]
        have CC40 := ifind_any (I2.out.below d1) (ms.take q) A2 q c2 TD.out.1 (by omega) SMT.out (IMT.out.below d1) (T2.out.below d1)
        refine held_call 7 40 (f := 12) (args := #[(.pointer (some ⟨x, 0, none⟩)), .slice A2 q c2]) rfl rfl (by kernel_rfl) (by rfl) (by go_simp) ?_
        refine CC40.mono ?_
        rintro e u2 ⟨o2, A2', n2, c2', rfl, r2, s2, bb2⟩
        have d2 : Below w2.heap.size w2 u2 := d1.trans (bb2.mono d1.size)
        refine ⟨_, rfl, d2, ?_⟩
        simp only [List.setIfInBounds_toArray, List.set_cons_zero, List.set_cons_succ]
        have CC45 := ifind_any (I2.out.below d2) (ms.drop q) CM2 (nM - q) (c2 - q) TD.out.2 (by omega) SMD.out (IMD.out.below d2) (T2.out.below d2)
        refine held_call 12 45 (f := 12) (args := #[(.pointer (some ⟨x, 0, none⟩)), .slice CM2 (nM - q) (c2 - q)]) rfl rfl (by kernel_rfl) (by rfl) (by go_simp) ?_
        refine CC45.mono ?_
        rintro e u3 ⟨o3, A3, n3, c3, rfl, r3, s3, bb3⟩
        have d3 : Below w2.heap.size w2 u3 := d2.trans (bb3.mono d2.size)
        refine ⟨_, rfl, d3, ?_⟩
        simp only [List.setIfInBounds_toArray, List.set_cons_zero, List.set_cons_succ]
        have CC46 := and_s (s2.below bb3) s3
        refine held_call 13 46 (f := 25) (args := #[.slice A2' n2 c2', .slice A3 n3 c3]) rfl rfl (by kernel_rfl) (by rfl) (by go_simp) ?_
        refine CC46.mono ?_
        rintro e u4 ⟨o4, A4, n4, c4, rfl, r4, s4, bb4⟩
        have d4 : Below w2.heap.size w2 u4 := d3.trans (bb4.mono d3.size)
        refine ⟨_, rfl, d4, ?_⟩
        simp only [List.setIfInBounds_toArray, List.set_cons_zero, List.set_cons_succ]
        have EQ4 : o1 = o4 := r1.eq r4 fun z => by
          rw [pick_mem]
          have h1 := found_parts I2.out.nd (ms.take q) (ms.drop q) z
          rw [List.take_append_drop] at h1
          rw [← h1, r2.2 z]
          simp [r3.2 z]
        have CC47 := same_s true (((s1.below bb2).below bb3).below bb4) s4 (decide_eq_true EQ4)
        refine held_call 14 47 (f := 11) (args := #[.slice A1 n1 c1, .slice A4 n4 c4]) rfl rfl (by kernel_rfl) (by rfl) (by go_simp) ?_
        refine CC47.mono ?_
        rintro e u5 ⟨rfl, bb5⟩
        have d5 : Below w2.heap.size w2 u5 := d4.trans (bb5.mono d4.size)
        refine ⟨_, rfl, d5, ?_⟩
        simp only [List.setIfInBounds_toArray, List.set_cons_zero, List.set_cons_succ]
        refine held_take 15 48 (v := (.bool true)) rfl rfl (by kernel_rfl) (by kernel_rfl) (by kernel_rfl) (by rfl) (fun _ _ _ h => h) (by assumption) ?_ ?_
        · intro W hW
          go_simp
        simp only [List.setIfInBounds_toArray, List.set_cons_zero, List.set_cons_succ]
        refine held_take 16 49 (v := (.pointer (some ⟨x, 0, none⟩))) rfl rfl (by kernel_rfl) (by kernel_rfl) (by kernel_rfl) (by rfl) (fun _ _ _ h => h) (by assumption) ?_ ?_
        · intro W hW
          go_simp
        simp only [List.setIfInBounds_toArray, List.set_cons_zero, List.set_cons_succ]
        refine held_take 18 51 (v := (.pointer (some ⟨x, 0, none⟩))) rfl rfl (by kernel_rfl) (by kernel_rfl) (by kernel_rfl) (by rfl) (fun _ _ _ h => h) (by assumption) ?_ ?_
        · intro W hW
          go_simp
        simp only [List.setIfInBounds_toArray, List.set_cons_zero, List.set_cons_succ]
        have CC50 := ifind_any (I2.out.below d5) [] none 0 0 rfl (by omega) (fun y hy => by cases hy) (IsMats.nil _ _) (T2.out.below d5)
        refine held_call 17 50 (f := 12) (args := #[(.pointer (some ⟨x, 0, none⟩)), .slice none 0 0]) rfl rfl (by kernel_rfl) (by rfl) (by go_simp) ?_
        refine CC50.mono ?_
        rintro e u6 ⟨o6, A6, n6, c6, rfl, r6, s6, bb6⟩
        have d6 : Below w2.heap.size w2 u6 := d5.trans (bb6.mono d5.size)
        refine ⟨_, rfl, d6, ?_⟩
        simp only [List.setIfInBounds_toArray, List.set_cons_zero, List.set_cons_succ]
        have CC52 := iids_any (I2.out.below d6)
        refine held_call 19 52 (f := 15) (args := #[(.pointer (some ⟨x, 0, none⟩))]) rfl rfl (by kernel_rfl) (by rfl) (by go_simp) ?_
        refine CC52.mono ?_
        rintro e u7 ⟨o7, A7, n7, c7, rfl, r7, s7, bb7⟩
        have d7 : Below w2.heap.size w2 u7 := d6.trans (bb7.mono d6.size)
        refine ⟨_, rfl, d7, ?_⟩
        simp only [List.setIfInBounds_toArray, List.set_cons_zero, List.set_cons_succ]
        have EQ7 : o6 = o7 := r6.eq r7 fun z => by rw [found_nil]
        have CC53 := same_s true (s6.below bb7) s7 (decide_eq_true EQ7)
        refine held_call 20 53 (f := 11) (args := #[.slice A6 n6 c6, .slice A7 n7 c7]) rfl rfl (by kernel_rfl) (by rfl) (by go_simp) ?_
        refine CC53.mono ?_
        rintro e u8 ⟨rfl, bb8⟩
        have d8 : Below w2.heap.size w2 u8 := d7.trans (bb8.mono d7.size)
        refine ⟨_, rfl, d8, ?_⟩
        simp only [List.setIfInBounds_toArray, List.set_cons_zero, List.set_cons_succ]
        refine held_take 21 54 (v := (.bool true)) rfl rfl (by kernel_rfl) (by kernel_rfl) (by kernel_rfl) (by rfl) (fun _ _ _ h => h) (by assumption) ?_ ?_
        · intro W hW
          go_simp
        simp only [List.setIfInBounds_toArray, List.set_cons_zero, List.set_cons_succ]
        refine held_take 22 55 (v := (.bool true)) rfl rfl (by kernel_rfl) (by kernel_rfl) (by kernel_rfl) (by rfl) (fun _ _ _ h => h) (by assumption) ?_ ?_
        · intro W hW
          go_simp
        simp only [List.setIfInBounds_toArray, List.set_cons_zero, List.set_cons_succ]
        have CC56 := runs10_any (T2.out.below d8)
        refine held_call 23 56 (f := 3) (args := #[]) rfl rfl (by kernel_rfl) (by rfl) (by go_simp) ?_
        refine CC56.mono ?_
        rintro e u9 ⟨rfl, bb9⟩
        have d9 : Below w2.heap.size w2 u9 := d8.trans (bb9.mono d8.size)
        refine ⟨_, rfl, d9, ?_⟩
        simp only [List.setIfInBounds_toArray, List.set_cons_zero, List.set_cons_succ]
        refine held_take 24 57 (v := (.bool true)) rfl rfl (by kernel_rfl) (by kernel_rfl) (by kernel_rfl) (by rfl) (fun _ _ _ h => h) (by assumption) ?_ ?_
        · intro W hW
          go_simp
        simp only [List.setIfInBounds_toArray, List.set_cons_zero, List.set_cons_succ]
        refine held_take 25 6 (v := (.bool true)) rfl rfl (by kernel_rfl) (by kernel_rfl) (by kernel_rfl) (by rfl) (fun _ _ _ h => h) (by assumption) ?_ ?_
        · intro W hW
          go_simp
        simp only [List.setIfInBounds_toArray, List.set_cons_zero, List.set_cons_succ]
        refine wpAnyH_done (by kernel_rfl) ?_ _
        have Q : Hid (Below w.heap.size w u9) := B2.out.trans (d9.mono B2.out.size)
        clear d1 d2 d3 d4 d5 d6 d7 d8 d9 bb1 bb2 bb3 bb4 bb5 bb6 bb7 bb8 bb9 s1 s2 s3 s4 s6 s7 r1 r2 r3 r4 r6 r7 EQ4 EQ7 hHeld LLO LHI CC35 CC40 CC45 CC46 CC47 CC50 CC52 CC53 CC56
        go_wp2
        go_ret
        exact ⟨rfl, Q.out⟩
end Go.Proofs.YtlfcjjlgkcfkdaaGreatDoor

