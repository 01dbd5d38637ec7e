/-
  MatchAsk and MatchLists as contracts. Conditions: the slices are as a machine has them; the library's table lies in its variable (DTab).
-/
import Derived.Test.YtjmojjjgifkkiaaDoorYg
namespace Go.Proofs.YtjmojjjgifkkiaaDoor
open Go.RowKit Go.Sort

set_option maxRecDepth 100000 in
set_option maxHeartbeats 4000000 in
theorem ask8_law (m : Mat) (ls : List La.Lab) (B : Option Addr) (M cb : Nat) (w : World) (hM : ls.length = M) (hb : IsLabs w B ls) (hT : DTab w) :
    Calls Tryd.prog 4 #[.agg #[.int .i64 m.k, .string m.n, .string m.v], .slice B M cb] w fun e w' => e = .returned (.bool true) ∧ Below w.heap.size w w' := by
  obtain ⟨k0, n, v⟩ := m
  obtain ⟨w0, hw0⟩ : ∃ w0, w.alloc (.cells #[.int .i64 k0, .string n, .string v] 26) = w0 := ⟨_, rfl⟩
  obtain ⟨w1, hw1⟩ : ∃ w1, w0.alloc (.cells #[.int .i64 k0, .string n, .string v] 26) = w1 := ⟨_, rfl⟩
  have s0 : w0.heap.size = w.heap.size + 1 := by rw [← hw0]; simp
  have b00 : Below w.heap.size w w0 := by rw [← hw0]; exact (Below.refl _ _).alloc (Nat.le_refl _) _
  have b01 : Below w0.heap.size w0 w1 := by rw [← hw1]; exact (Below.refl _ _).alloc (Nat.le_refl _) _
  have B01 := Lib.hid (b00.trans (b01.mono b00.size))
  have i1 : IsMats w1 (some ⟨w.heap.size + 1, 0, none⟩) [⟨k0, n, v⟩] := by rw [← hw1, ← s0]; exact lit_mat w0 ⟨k0, n, v⟩
  have CELLS : Hid (∀ W, Below w1.heap.size w1 W → (W.cell? ⟨w.heap.size, 0, none⟩ = some (.int .i64 k0) ∧ W.cell? ⟨w.heap.size, 1, none⟩ = some (.string n) ∧ W.cell? ⟨w.heap.size, 2, none⟩ = some (.string v))) := fun W hW =>
    (box3 (w := w) (v0 := .int .i64 k0) (v1 := .string n) (v2 := .string v) (ty := 26) (W := W) (by rw [hw0]; exact (b01.trans (hW.mono b01.size)).mono (by omega))).1
  have CS := Lib.hid (small_any [⟨k0, n, v⟩] ls (some ⟨w.heap.size + 1, 0, none⟩) B 1 1 M cb w1 rfl hM i1 (hb.below B01.out))
  have FS : Hid (FewM [⟨k0, n, v⟩] → n.size ≤ 300 ∧ v.size ≤ 300) := fun h => h.2 ⟨k0, n, v⟩ (by simp)
  have RN := Lib.hid (fun W (hW : Below w.heap.size w W) => runs8_any W (hT.below hW))
  have DT := Lib.hid (fun W (hW : Below w.heap.size w W) => hT.below hW)
  have LBW := Lib.hid (fun W (hW : Below w.heap.size w W) => hb.below hW)
  have HM := Lib.hid hM
  have HW1 := Lib.hid (show (w.alloc (.cells #[.int .i64 k0, .string n, .string v] 26)).alloc (.cells #[.int .i64 k0, .string n, .string v] 26) = w1 by rw [hw0, hw1])
  clear hw0 hw1 s0 b00 b01 i1 hT hb hM
  go_enter Tryd.func4, Tryd.ntmps4
  go_wp2_with fail
  simp only [HW1.out]
  clear HW1
  refine CS.out.mono ?_
  rintro e w2 ⟨⟨q, rfl, hq⟩, b2⟩
  have CL := CELLS.out w2 b2
  have B2 := Lib.hid (B01.out.trans (b2.mono B01.out.size))
  have RUN := Lib.hid (RN.out w2 B2.out)
  have HQ := Lib.hid hq
  clear CS CELLS hq
  cases q
  · clear RN b2
    go_wp2_with fail
    refine RUN.out.mono ?_
    rintro e w9 ⟨rfl, b9⟩
    have B9 := Lib.hid (B2.out.trans (b9.mono B2.out.size))
    clear b9
    go_wp2
    go_ret
    exact ⟨rfl, B9.out⟩
  obtain ⟨hfm, hfl⟩ := HQ.out rfl
  have hsz := FS.out hfm
  have FL := Lib.hid hfl
  have hMM : M ≤ 300 := by have := hfl.1; rw [HM.out] at this; exact this
  have LB := Lib.hid (LBW.out w2 B2.out)
  have GB : Hid (∀ q os, Below w.heap.size w (grow (redrawn w2 q) os)) := fun q os => B2.out.trans ((below_regrown w2 q os).mono B2.out.size)
  obtain ⟨c0, c1, c2⟩ := CL
  replace c0 := cell_regrown c0
  replace c1 := cell_regrown c1
  replace c2 := cell_regrown c2
  have KC := Lib.hid (⟨c0, c1, c2⟩ : _ ∧ _ ∧ _)
  clear HQ hfm hfl FS b2 c0 c1 c2
  go_wp2
  go_loopw [5] (fun i wr => ∃ k : Nat, k ≤ M ∧ i = .int .i64 (k : Int) ∧ Hid (w2 = wr ∧ ∀ j, j < k → (La.nth ls j).2.size ≤ 30)) (fun i _ => M - (intOf i).toNat)
  case atStart => exact ⟨0, by omega, rfl, rfl, fun j hj => by omega⟩
  case round =>
    obtain ⟨k, hk, rfl, HI⟩ := hrel
    obtain ⟨rfl, hall⟩ := HI.out
    have HL := Lib.hid hall
    clear HI hall
    by_cases hkn : k < M
    · have hc' := (LB.out) (by rw [HM.out]; omega)
      obtain ⟨b, off, rfl, hc⟩ := hc'
      obtain ⟨_, c1⟩ := hc k (by rw [HM.out]; exact hkn)
      have hkz : (k : Int) < (M : Int) := by omega
      obtain ⟨y, hy⟩ : ∃ y, (La.nth ls k).2 = y := ⟨_, rfl⟩
      rw [hy] at c1
      have HY := Lib.hid hy
      clear hc hy
      by_cases h30 : 30 < y.size
      · have hyd : decide ((y.size : Int) > 30) = true := decide_eq_true (by omega)
        go_wp2_with fail
        refine RUN.out.mono ?_
        rintro e w9 ⟨rfl, b9⟩
        have B9 := Lib.hid (B2.out.trans (b9.mono B2.out.size))
        clear b9
        go_wp2
        go_ret
        exact ⟨rfl, B9.out⟩
      · have hyd : decide ((y.size : Int) > 30) = false := decide_eq_false (by omega)
        go_wp2
        go_roundw
        case rel => exact ⟨k + 1, by omega, by go_num, by trivial, fun j hj => by
          rcases Nat.lt_or_ge j k with h1 | h1
          · exact HL.out j h1
          · obtain rfl : j = k := by omega
            rw [HY.out]; omega⟩
        case measure => simp [intOf]; omega
    · obtain rfl : k = M := by omega
      have hkz : ¬ (k : Int) < (k : Int) := by omega
      have hall : ∀ x ∈ ls, x.2.size ≤ 30 := fun x hx => by
        obtain ⟨j, hj, rfl⟩ := List.getElem_of_mem hx
        have := HL.out j (by rw [HM.out] at hj; exact hj)
        rwa [La.nth_eq hj] at this
      clear HL hkz
      have K1 : Hid (∀ q os, Calls Tryd.prog 12 #[.agg #[.int .i64 k0, .string n, .string v]] (grow (redrawn w2 q) os) fun e w'' => e = .returned (.bool (Mat.ok ⟨k0, n, v⟩)) ∧ ∃ p : Regrown, w'' = grow (redrawn w2 p.d) p.os) := fun q os => Calls.regrown_of (mis_any k0 n v _ (by omega) (by omega))
      have K2 : Hid (∀ q os, Calls Tryd.prog 14 #[.agg #[.int .i64 k0, .string n, .string v]] (grow (redrawn w2 q) os) fun e w'' => e = .returned (.bool (Mat.ok ⟨k0, n, v⟩)) ∧ ∃ p : Regrown, w'' = grow (redrawn w2 p.d) p.os) := fun q os => Calls.regrown_of (ris_any k0 n v _ (by omega) (by omega))
      have K3 : Hid (∀ q os, Calls Tryd.prog 15 #[.agg #[.int .i64 k0, .string n, .string v]] (grow (redrawn w2 q) os) fun e w'' => e = .returned (.bool (Mat.large ⟨k0, n, v⟩)) ∧ ∃ p : Regrown, w'' = grow (redrawn w2 p.d) p.os) := fun q os => Calls.regrown_of (mlarge_any k0 n v _ (by omega) (by omega))
      have K4 : Hid (∀ q os, Calls Tryd.prog 16 #[.agg #[.int .i64 k0, .string n, .string v]] (grow (redrawn w2 q) os) fun e w'' => e = .returned (.bool (Mat.large ⟨k0, n, v⟩)) ∧ ∃ p : Regrown, w'' = grow (redrawn w2 p.d) p.os) := fun q os => Calls.regrown_of (rlarge_any k0 n v _ (by omega) (by omega))
      have K5 : Hid (∀ q os, Calls Tryd.prog 11 #[.agg #[.int .i64 k0, .string n, .string v], .slice B k cb] (grow (redrawn w2 q) os) fun e w'' => e = .returned (.bool (Mat.holds ⟨k0, n, v⟩ ls)) ∧ ∃ p : Regrown, w'' = grow (redrawn w2 p.d) p.os) := fun q os => Calls.regrown_of (mholds_any k0 n v ls B k cb _ (by omega) (by omega) HM.out (by omega) (fun x hx => by have := hall x hx; omega) (LBW.out _ (GB.out q os)) (DT.out _ (GB.out q os)))
      have K6 : Hid (∀ q os, Calls Tryd.prog 17 #[.agg #[.int .i64 k0, .string n, .string v], .slice B k cb] (grow (redrawn w2 q) os) fun e w'' => e = .returned (.bool (Mat.holds ⟨k0, n, v⟩ ls)) ∧ ∃ p : Regrown, w'' = grow (redrawn w2 p.d) p.os) := fun q os => Calls.regrown_of (rholds_any k0 n v ls B k cb _ (by omega) (by omega) HM.out (by omega) (fun x hx => by have := hall x hx; omega) (LBW.out _ (GB.out q os)))
      have K7 : Hid (∀ q os, Calls Tryd.prog 3 #[] (grow (redrawn w2 q) os) fun e w'' => e = .returned (.bool true) ∧ ∃ p : Regrown, w'' = grow (redrawn w2 p.d) p.os) := fun q os => Calls.regrown_of (RN.out _ (GB.out q os))
      generalize Mat.ok ⟨k0, n, v⟩ = z1 at *
      generalize Mat.large ⟨k0, n, v⟩ = z2 at *
      generalize Mat.holds ⟨k0, n, v⟩ ls = z3 at *
      obtain ⟨c0, c1, c2⟩ := KC.out
      have g1 : (z1 == z1) = true := by simp
      have g2 : (z2 == z2) = true := by simp
      have g3 : (z3 == z3) = true := by simp
      clear KC RN DT LBW hall FL
      go_wp2_with fail
      refine wp_region_quiet_below (by kernel_rfl) (by kernel_rfl) ?_
      repeat (go_big_quiet_step (first | (go_at_call 12; exact K1.out _ _) | (go_at_call 14; exact K2.out _ _) | (go_at_call 15; exact K3.out _ _) | (go_at_call 16; exact K4.out _ _) | (go_at_call 11; exact K5.out _ _) | (go_at_call 17; exact K6.out _ _) | (go_at_call 3; exact K7.out _ _)))
      refine wpQuiet_nil ?_
      intro _ hw'
      obtain ⟨⟨dq, osq⟩, hw''⟩ := hw'
      subst hw''
      have G := Lib.hid (GB.out dq osq)
      clear c0 c1 c2 K1 K2 K3 K4 K5 K6 K7 GB
      generalize grow (redrawn w2 dq) osq = w5 at *
      go_wp2
      go_ret
      exact ⟨rfl, G.out⟩

set_option maxRecDepth 100000 in
set_option maxHeartbeats 4000000 in
theorem lists8_law (l : List Mat) (ls : List La.Lab) (A B : Option Addr) (N cap M cb : Nat) (w : World) (hN : l.length = N) (hM : ls.length = M) (ha : IsMats w A l) (hb : IsLabs w B ls) (hT : DTab w) :
    Calls Tryd.prog 5 #[.slice A N cap, .slice B M cb] w fun e w' => e = .returned (.bool true) ∧ Below w.heap.size w w' := by
  have CS := Lib.hid (small_any l ls A B N cap M cb w hN hM ha hb)
  have RN := Lib.hid (fun W (hW : Below w.heap.size w W) => runs8_any W (hT.below hW))
  have DT := Lib.hid (fun W (hW : Below w.heap.size w W) => hT.below hW)
  have LBW := Lib.hid (fun W (hW : Below w.heap.size w W) => hb.below hW)
  have AW := Lib.hid (fun W (hW : Below w.heap.size w W) => ha.below hW)
  have HM := Lib.hid hM
  have HN := Lib.hid hN
  clear hT hb hM ha hN
  go_enter Tryd.func5, Tryd.ntmps5
  go_wp2_with fail
  refine CS.out.mono ?_
  rintro e w2 ⟨⟨q, rfl, hq⟩, b2⟩
  have B2 := Lib.hid b2
  have RUN := Lib.hid (RN.out w2 b2)
  have HQ := Lib.hid hq
  clear CS hq b2
  cases q
  · clear RN
    go_wp2_with fail
    refine RUN.out.mono ?_
    rintro e w9 ⟨rfl, b9⟩
    have B9 := Lib.hid (B2.out.trans (b9.mono B2.out.size))
    clear b9
    go_wp2
    go_ret
    exact ⟨rfl, B9.out⟩
  obtain ⟨hfm, hfl⟩ := HQ.out rfl
  have hSM := Lib.hid hfm.small
  have hMM : M ≤ 300 := by have := hfl.1; rw [HM.out] at this; exact this
  have hNN : N ≤ 300 := by have := hfm.1; rw [HN.out] at this; exact this
  have LB := Lib.hid (LBW.out w2 B2.out)
  clear HQ hfm hfl
  go_wp2
  go_loopw [5] (fun i wr => ∃ k : Nat, k ≤ M ∧ i = .int .i64 (k : Int) ∧ Hid (w2 = wr ∧ ∀ j, j < k → (La.nth ls j).2.size ≤ 30)) (fun i _ => M - (intOf i).toNat)
  case atStart => exact ⟨0, by omega, rfl, rfl, fun j hj => by omega⟩
  case round =>
    obtain ⟨k, hk, rfl, HI⟩ := hrel
    obtain ⟨rfl, hall⟩ := HI.out
    have HL := Lib.hid hall
    clear HI hall
    by_cases hkn : k < M
    · have hc' := (LB.out) (by rw [HM.out]; omega)
      obtain ⟨b, off, rfl, hc⟩ := hc'
      obtain ⟨_, c1⟩ := hc k (by rw [HM.out]; exact hkn)
      have hkz : (k : Int) < (M : Int) := by omega
      obtain ⟨y, hy⟩ : ∃ y, (La.nth ls k).2 = y := ⟨_, rfl⟩
      rw [hy] at c1
      have HY := Lib.hid hy
      clear hc hy
      by_cases h30 : 30 < y.size
      · have hyd : decide ((y.size : Int) > 30) = true := decide_eq_true (by omega)
        go_wp2_with fail
        refine RUN.out.mono ?_
        rintro e w9 ⟨rfl, b9⟩
        have B9 := Lib.hid (B2.out.trans (b9.mono B2.out.size))
        clear b9
        go_wp2
        go_ret
        exact ⟨rfl, B9.out⟩
      · have hyd : decide ((y.size : Int) > 30) = false := decide_eq_false (by omega)
        go_wp2
        go_roundw
        case rel => exact ⟨k + 1, by omega, by go_num, by trivial, fun j hj => by
          rcases Nat.lt_or_ge j k with h1 | h1
          · exact HL.out j h1
          · obtain rfl : j = k := by omega
            rw [HY.out]; omega⟩
        case measure => simp [intOf]; omega
    · obtain rfl : k = M := by omega
      have hkz : ¬ (k : Int) < (k : Int) := by omega
      have hall : ∀ x ∈ ls, x.2.size ≤ 30 := fun x hx => by
        obtain ⟨j, hj, rfl⟩ := List.getElem_of_mem hx
        have := HL.out j (by rw [HM.out] at hj; exact hj)
        rwa [La.nth_eq hj] at this
      clear HL hkz
      have K1 : Hid (∀ W, Below w.heap.size w W → Calls Tryd.prog 18 #[.slice A N cap] W fun e w' => e = .returned (.bool (Mat.isList l)) ∧ Below W.heap.size W w') := fun W hW => mlist_any l A N cap _ HN.out (by omega) hSM.out (AW.out _ hW)
      have K2 : Hid (∀ W, Below w.heap.size w W → Calls Tryd.prog 19 #[.slice A N cap] W fun e w' => e = .returned (.bool (Mat.isList l)) ∧ Below W.heap.size W w') := fun W hW => rlist_any l A N cap _ HN.out (by omega) hSM.out (AW.out _ hW)
      have K3 : Hid (∀ W, Below w.heap.size w W → Calls Tryd.prog 20 #[.slice A N cap] W fun e w' => e = .returned (.bool (Mat.anyLarge l)) ∧ Below W.heap.size W w') := fun W hW => manylarge_any l A N cap _ HN.out (by omega) hSM.out (AW.out _ hW)
      have K4 : Hid (∀ W, Below w.heap.size w W → Calls Tryd.prog 21 #[.slice A N cap] W fun e w' => e = .returned (.bool (Mat.anyLarge l)) ∧ Below W.heap.size W w') := fun W hW => ranylarge_any l A N cap _ HN.out (by omega) hSM.out (AW.out _ hW)
      have K5 : Hid (∀ W, Below w.heap.size w W → Calls Tryd.prog 22 #[.slice A N cap, .slice B k cb] W fun e w' => e = .returned (.bool (Mat.allHold l ls)) ∧ Below W.heap.size W w') := fun W hW => mall_any l A N cap ls B k cb _ HN.out (by omega) hSM.out (AW.out _ hW) HM.out (by omega) (fun x hx => by have := hall x hx; omega) (LBW.out _ hW) (DT.out _ hW)
      have K6 : Hid (∀ W, Below w.heap.size w W → Calls Tryd.prog 23 #[.slice A N cap, .slice B k cb] W fun e w' => e = .returned (.bool (Mat.allHold l ls)) ∧ Below W.heap.size W w') := fun W hW => rall_any l A N cap ls B k cb _ HN.out (by omega) hSM.out (AW.out _ hW) HM.out (by omega) (fun x hx => by have := hall x hx; omega) (LBW.out _ hW)
      generalize Mat.isList l = z1 at *
      generalize Mat.anyLarge l = z2 at *
      generalize Mat.allHold l ls = z3 at *
      have g1 : (z1 == z1) = true := by simp
      have g2 : (z2 == z2) = true := by simp
      have g3 : (z3 == z3) = true := by simp
      clear DT LBW hall hSM AW RUN
      go_wp2_with fail
      refine (K1.out _ B2.out).mono ?_
      rintro e v1 ⟨rfl, d1⟩
      have D1 := Lib.hid (B2.out.trans (d1.mono B2.out.size))
      clear d1 K1
      go_wp2_with fail
      refine (K2.out _ D1.out).mono ?_
      rintro e v2 ⟨rfl, d2⟩
      have D2 := Lib.hid (D1.out.trans (d2.mono D1.out.size))
      clear d2 K2
      go_wp2_with fail
      refine (K3.out _ D2.out).mono ?_
      rintro e v3 ⟨rfl, d3⟩
      have D3 := Lib.hid (D2.out.trans (d3.mono D2.out.size))
      clear d3 K3
      go_wp2_with fail
      refine (K4.out _ D3.out).mono ?_
      rintro e v4 ⟨rfl, d4⟩
      have D4 := Lib.hid (D3.out.trans (d4.mono D3.out.size))
      clear d4 K4
      go_wp2_with fail
      refine (K5.out _ D4.out).mono ?_
      rintro e v5 ⟨rfl, d5⟩
      have D5 := Lib.hid (D4.out.trans (d5.mono D4.out.size))
      clear d5 K5
      go_wp2_with fail
      refine (K6.out _ D5.out).mono ?_
      rintro e v6 ⟨rfl, d6⟩
      have D6 := Lib.hid (D5.out.trans (d6.mono D5.out.size))
      clear d6 K6
      go_wp2_with fail
      refine (RN.out _ D6.out).mono ?_
      rintro e v7 ⟨rfl, d7⟩
      have D7 := Lib.hid (D6.out.trans (d7.mono D6.out.size))
      clear d7
      go_wp2
      go_ret
      exact ⟨rfl, D7.out⟩
end Go.Proofs.YtjmojjjgifkkiaaDoor
