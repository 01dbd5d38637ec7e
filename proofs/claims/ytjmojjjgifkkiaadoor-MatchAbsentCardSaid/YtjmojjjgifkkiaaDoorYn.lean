/-
  MatchNot as a contract: of a matcher that may be and isn't too large, and its opposite, just one holds; one that is too large holds nowhere. Conditions: the slice is as a machine has it; the library's table lies in its variable (DTab).
-/
import Derived.Test.YtjmojjjgifkkiaaDoorYm
namespace Go.Proofs.YtjmojjjgifkkiaaDoor
open Go.RowKit Go.Sort

/-- The opposite kind. -/
def opp (k : Int) : Int := if k = 1 then 2 else if k = 2 then 1 else if k = 3 then 4 else 3
set_option maxRecDepth 100000 in
theorem opp_run {k : Int} (h : k = 1 ∨ k = 2 ∨ k = 3 ∨ k = 4) (W : World) : (Instr.index 48 (.agg #[.int .i64 0, .int .i64 2, .int .i64 1, .int .i64 4, .int .i64 3]) (.int .i64 k)).run Tryd.prog W = .ok (.int .i64 (opp k)) W := by
  rcases h with rfl | rfl | rfl | rfl <;> rfl
def Opp (o k : Int) : Prop := (o = 1 ∧ k = 2) ∨ (o = 2 ∧ k = 1) ∨ (o = 3 ∧ k = 4) ∨ (o = 4 ∧ k = 3)
theorem opp_kind {k : Int} (h : k = 1 ∨ k = 2 ∨ k = 3 ∨ k = 4) : Opp (opp k) k := by
  rcases h with rfl | rfl | rfl | rfl <;> simp [opp, Opp]
theorem opp_ok {o k : Int} {n v : ByteArray} (h : Opp o k) : Mat.ok ⟨o, n, v⟩ = Mat.ok ⟨k, n, v⟩ := by
  rcases h with ⟨rfl, rfl⟩ | ⟨rfl, rfl⟩ | ⟨rfl, rfl⟩ | ⟨rfl, rfl⟩ <;> simp [Mat.ok, Mat.okV]
theorem opp_large {o k : Int} {n v : ByteArray} (h : Opp o k) : Mat.large ⟨o, n, v⟩ = Mat.large ⟨k, n, v⟩ := by
  unfold Mat.large
  rw [opp_ok h]
  rcases h with ⟨rfl, rfl⟩ | ⟨rfl, rfl⟩ | ⟨rfl, rfl⟩ | ⟨rfl, rfl⟩ <;> simp [Mat.pat]
theorem opp_holds {o k : Int} {n v : ByteArray} {ls : List La.Lab} (h : Opp o k) (hok : Mat.ok ⟨k, n, v⟩ = true) (hl : Mat.large ⟨k, n, v⟩ = false) : (Mat.holds ⟨k, n, v⟩ ls != Mat.holds ⟨o, n, v⟩ ls) = true := by
  have hok2 := hok
  rw [← opp_ok h] at hok2
  unfold Mat.large at hl
  rw [hok] at hl
  unfold Mat.holds Mat.says
  rw [hok, hok2]
  rcases h with ⟨rfl, rfl⟩ | ⟨rfl, rfl⟩ | ⟨rfl, rfl⟩ | ⟨rfl, rfl⟩
  · simp
  · simp
  · simp only [Mat.pat] at hl
    simp at hl
    simp [hl]
  · simp only [Mat.pat] at hl
    simp at hl
    simp [hl]

set_option maxRecDepth 100000 in
set_option maxHeartbeats 4000000 in
theorem not8_law (kd nm vl : Int) (zs : List Int) (B : Option Addr) (M cb : Nat) (w : World) (hM : zs.length = M) (hb : IsInts w B zs) (hT : DTab w) :
    Calls Tryd.prog 9 #[.agg #[.int .i64 kd, .int .i64 nm, .int .i64 vl], .slice B M cb] w fun e w' => e = .returned (.bool true) ∧ Below w.heap.size w w' := by
  subst hM
  obtain ⟨⟨k, n, v⟩, xok, xkd, xsz, xc⟩ := matcher_any kd nm vl
  have MC := Lib.hid xc
  have HK := Lib.hid xkd
  have HOK := Lib.hid xok
  have HSZ := Lib.hid xsz
  have IX := fun W => opp_run xkd W
  clear xc xkd xok xsz
  have B0 : Below w.heap.size w (w.alloc (.cells #[.int .i64 kd, .int .i64 nm, .int .i64 vl] 46)) := (Below.refl _ _).alloc (Nat.le_refl _) _
  have BX := Lib.hid (fun W => box3 (w := w) (v0 := .int .i64 kd) (v1 := .int .i64 nm) (v2 := .int .i64 vl) (ty := 46) (W := W))
  have SZ0 : Hid (w.heap.size + 1 ≤ (w.alloc (.cells #[.int .i64 kd, .int .i64 nm, .int .i64 vl] 46)).heap.size) := by show _ ≤ _; simp
  have C2 := Lib.hid (keep_any zs B cb (w.alloc (.cells #[.int .i64 kd, .int .i64 nm, .int .i64 vl] 46)) (hb.below B0))
  have RN := Lib.hid (fun W (hW : Below w.heap.size w W) => runs8_any W (hT.below hW))
  have DT := Lib.hid (fun W (hW : Below w.heap.size w W) => hT.below hW)
  have B := Lib.hid B0
  clear hb hT B0
  generalize zs.length = M at *
  go_enter Tryd.func9, Tryd.ntmps9
  go_wp2_with fail
  generalize w.alloc (.cells #[.int .i64 kd, .int .i64 nm, .int .i64 vl] 46) = w0 at *
  refine C2.out.mono ?_
  rintro e w1 ⟨⟨ls, u, hs, rfl, ho⟩, b1⟩
  obtain ⟨A4, c4, rfl, hc4, hn4, i4, _⟩ := own_formL ho
  obtain ⟨hl6, hval⟩ := set_values hs
  have HV := Lib.hid hval
  have D1 := Lib.hid (b1.mono SZ0.out)
  obtain ⟨⟨c0, c1, c2⟩, BW⟩ := BX.out w1 D1.out
  have B1 := Lib.hid BW
  have I4 := Lib.hid i4
  obtain ⟨k4, hk4⟩ : ∃ k4, ls.length = k4 := ⟨_, rfl⟩
  have HL := Lib.hid hk4
  rw [hk4] at hl6 hc4 ⊢
  clear hk4 hn4 i4 ho hs hval C2 BW b1 D1 BX
  go_wp2_with fail
  refine (MC.out _).mono ?_
  rintro e w2 ⟨rfl, b2⟩
  have B2 := Lib.hid (B1.out.trans (b2.mono B1.out.size))
  have I5 := Lib.hid (I4.out.below b2)
  clear b2 I4 c0 c1 c2 MC B1
  go_upto_region 5 with fail
  obtain ⟨w4, hw4⟩ : ∃ w4, (w2.alloc (.cells #[.int .i64 k, .string n, .string v] 26)).alloc (.cells #[.int .i64 (opp k), .string n, .string v] 26) = w4 := ⟨_, rfl⟩
  obtain ⟨⟨p0, p1, p2⟩, q0, q1, q2⟩ := box33 (w := w2) (u0 := .int .i64 k) (u1 := .string n) (u2 := .string v) (v0 := .int .i64 (opp k)) (v1 := .string n) (v2 := .string v) (tu := 26) (tv := 26)
  have b24 : Below w2.heap.size w2 w4 := by rw [← hw4]; exact below_two w2 _ _
  rw [hw4] at p0 p1 p2 q0 q1 q2
  have HW4 := Lib.hid hw4
  clear hw4
  simp only [HW4.out]
  clear HW4
  have B4 := Lib.hid (B2.out.trans (b24.mono B2.out.size))
  have I6 := Lib.hid (fun W (hW : Below w4.heap.size w4 W) => I5.out.below (b24.trans (hW.mono b24.size)))
  have HOPP := Lib.hid (opp_kind HK.out)
  generalize opp k = o at *
  have HC : Hid (∀ W, Below w4.heap.size w4 W → (W.cell? ⟨w2.heap.size, 0, none⟩ = some (.int .i64 k) ∧ W.cell? ⟨w2.heap.size, 1, none⟩ = some (.string n) ∧ W.cell? ⟨w2.heap.size, 2, none⟩ = some (.string v)) ∧ (W.cell? ⟨w2.heap.size + 1, 0, none⟩ = some (.int .i64 o) ∧ W.cell? ⟨w2.heap.size + 1, 1, none⟩ = some (.string n) ∧ W.cell? ⟨w2.heap.size + 1, 2, none⟩ = some (.string v))) := fun W hW =>
    ⟨⟨cell_grow hW p0, cell_grow hW p1, cell_grow hW p2⟩, cell_grow hW q0, cell_grow hW q1, cell_grow hW q2⟩
  have hsn : n.size ≤ 1000 := by have h : n.size ≤ 12 := HSZ.out.1; omega
  have hsv : v.size ≤ 1000 := by have h : v.size ≤ 40 := HSZ.out.2; omega
  have OKX : Hid (Mat.ok ⟨k, n, v⟩ = true) := HOK.out
  have OKO : Hid (Mat.ok ⟨o, n, v⟩ = true) := (opp_ok HOPP.out).trans HOK.out
  have LGO : Hid (Mat.large ⟨o, n, v⟩ = Mat.large ⟨k, n, v⟩) := opp_large HOPP.out
  have K1 : Hid (∀ W, Below w4.heap.size w4 W → Calls Tryd.prog 12 #[.agg #[.int .i64 k, .string n, .string v]] W fun e w' => e = .returned (.bool true) ∧ Below W.heap.size W w') := fun W hW => by have := mis_any k n v W hsn hsv; rwa [OKX.out] at this
  have K2 : Hid (∀ W, Below w4.heap.size w4 W → Calls Tryd.prog 12 #[.agg #[.int .i64 o, .string n, .string v]] W fun e w' => e = .returned (.bool true) ∧ Below W.heap.size W w') := fun W hW => by have := mis_any o n v W hsn hsv; rwa [OKO.out] at this
  have K3 : Hid (∀ W, Below w4.heap.size w4 W → Calls Tryd.prog 15 #[.agg #[.int .i64 k, .string n, .string v]] W fun e w' => e = .returned (.bool (Mat.large ⟨k, n, v⟩)) ∧ Below W.heap.size W w') := fun W hW => mlarge_any k n v W hsn hsv
  have K4 : Hid (∀ W, Below w4.heap.size w4 W → Calls Tryd.prog 15 #[.agg #[.int .i64 o, .string n, .string v]] W fun e w' => e = .returned (.bool (Mat.large ⟨k, n, v⟩)) ∧ Below W.heap.size W w') := fun W hW => by have := mlarge_any o n v W hsn hsv; rwa [LGO.out] at this
  have K5 : Hid (∀ W, Below w4.heap.size w4 W → Calls Tryd.prog 11 #[.agg #[.int .i64 k, .string n, .string v], .slice A4 k4 c4] W fun e w' => e = .returned (.bool (Mat.holds ⟨k, n, v⟩ ls)) ∧ Below W.heap.size W w') := fun W hW => mholds_any k n v ls A4 k4 c4 W hsn hsv HL.out (by omega) (fun x hx => by have := HV.out x hx; omega) (I6.out W hW) (DT.out W (B4.out.trans (hW.mono B4.out.size)))
  have K6 : Hid (∀ W, Below w4.heap.size w4 W → Calls Tryd.prog 11 #[.agg #[.int .i64 o, .string n, .string v], .slice A4 k4 c4] W fun e w' => e = .returned (.bool (Mat.holds ⟨o, n, v⟩ ls)) ∧ Below W.heap.size W w') := fun W hW => mholds_any o n v ls A4 k4 c4 W hsn hsv HL.out (by omega) (fun x hx => by have := HV.out x hx; omega) (I6.out W hW) (DT.out W (B4.out.trans (hW.mono B4.out.size)))
  have R4 := Lib.hid (fun W (hW : Below w4.heap.size w4 W) => RN.out W (B4.out.trans (hW.mono B4.out.size)))
  have HH : Hid (Mat.large ⟨k, n, v⟩ = false → (Mat.holds ⟨k, n, v⟩ ls != Mat.holds ⟨o, n, v⟩ ls) = true) := fun h => opp_holds HOPP.out HOK.out h
  have HF : Hid (Mat.large ⟨k, n, v⟩ = true → Mat.holds ⟨k, n, v⟩ ls = false ∧ Mat.holds ⟨o, n, v⟩ ls = false) := fun h => ⟨Mat.large_says h _, Mat.large_says (LGO.out.trans h) _⟩
  generalize Mat.holds ⟨k, n, v⟩ ls = hx at *
  generalize Mat.holds ⟨o, n, v⟩ ls = hy at *
  generalize Mat.large ⟨k, n, v⟩ = lg at *
  replace p0 := cell_regrown p0
  replace p1 := cell_regrown p1
  replace p2 := cell_regrown p2
  replace q0 := cell_regrown q0
  replace q1 := cell_regrown q1
  replace q2 := cell_regrown q2
  have J1 := Lib.hid (fun q os => Calls.regrown_of (K1.out _ (below_regrown w4 q os)))
  have J2 := Lib.hid (fun q os => Calls.regrown_of (K2.out _ (below_regrown w4 q os)))
  have J3 := Lib.hid (fun q os => Calls.regrown_of (K3.out _ (below_regrown w4 q os)))
  have J4 := Lib.hid (fun q os => Calls.regrown_of (K4.out _ (below_regrown w4 q os)))
  have gg : (lg != lg) = false := by simp
  clear b24 OKX OKO LGO K1 K2 K4 HOPP HOK HK HSZ RN DT I6 hsn hsv I5 IX
  refine wp_region_quiet_below (by kernel_rfl) (by kernel_rfl) ?_
  iterate 3 (go_big_quiet_step (exact J1.out _ _))
  iterate 5 (go_big_quiet_step (exact J2.out _ _))
  iterate 3 (go_big_quiet_step (exact J3.out _ _))
  repeat (go_big_quiet_step (exact J4.out _ _))
  refine wpQuiet_nil ?_
  intro _ hw'
  obtain ⟨⟨dq, osq⟩, hw''⟩ := hw'
  subst hw''
  have G := Lib.hid (below_regrown w4 dq osq)
  clear p0 p1 p2 q0 q1 q2 J1 J2 J3 J4
  generalize grow (redrawn w4 dq) osq = w5 at *
  obtain ⟨⟨p0, p1, p2⟩, q0, q1, q2⟩ := HC.out w5 G.out
  have D := Lib.hid (K3.out w5 G.out)
  clear K3
  go_wp2_with fail
  refine D.out.mono ?_
  rintro e w6 ⟨rfl, b6⟩
  have G6 := Lib.hid (G.out.trans (b6.mono G.out.size))
  clear b6 D p0 p1 p2 q0 q1 q2 G
  obtain ⟨⟨p0, p1, p2⟩, q0, q1, q2⟩ := HC.out w6 G6.out
  cases lg
  case true =>
    obtain ⟨rfl, rfl⟩ := HF.out (by trivial)
    have D := Lib.hid (K5.out w6 G6.out)
    clear K5 HH HF
    go_wp2_with fail
    refine D.out.mono ?_
    rintro e w7 ⟨rfl, b7⟩
    have G7 := Lib.hid (G6.out.trans (b7.mono G6.out.size))
    clear b7 D p0 p1 p2 q0 q1 q2
    obtain ⟨⟨p0, p1, p2⟩, q0, q1, q2⟩ := HC.out w7 G7.out
    have D := Lib.hid (K6.out w7 G7.out)
    clear K6
    go_wp2_with fail
    refine D.out.mono ?_
    rintro e w8 ⟨rfl, b8⟩
    have G8 := Lib.hid (G7.out.trans (b8.mono G7.out.size))
    clear b8 D p0 p1 p2 q0 q1 q2
    go_wp2_with fail
    refine (R4.out _ G8.out).mono ?_
    rintro e w9 ⟨rfl, b9⟩
    have B9 := Lib.hid (B4.out.trans ((G8.out.trans (b9.mono G8.out.size)).mono B4.out.size))
    clear b9
    go_wp2
    go_ret
    exact ⟨rfl, B9.out⟩
  have hne := HH.out (by trivial)
  have hy2 : hy = !hx := by revert hne; cases hx <;> cases hy <;> simp
  subst hy2
  clear hne
  cases hx
  all_goals
    simp only [Bool.not_true, Bool.not_false] at K6
    replace p0 := cell_regrown p0
    replace p1 := cell_regrown p1
    replace p2 := cell_regrown p2
    replace q0 := cell_regrown q0
    replace q1 := cell_regrown q1
    replace q2 := cell_regrown q2
    have J5 := Lib.hid (fun q os => Calls.regrown_of (K5.out _ (G6.out.trans ((below_regrown w6 q os).mono G6.out.size))))
    have J6 := Lib.hid (fun q os => Calls.regrown_of (K6.out _ (G6.out.trans ((below_regrown w6 q os).mono G6.out.size))))
    have J7 := Lib.hid (fun q os => Calls.regrown_of (R4.out _ (G6.out.trans ((below_regrown w6 q os).mono G6.out.size))))
    have GB : Hid (∀ q os, Below w.heap.size w (grow (redrawn w6 q) os)) := fun q os => B4.out.trans ((G6.out.trans ((below_regrown w6 q os).mono G6.out.size)).mono B4.out.size)
    clear K5 K6 R4 HH HF HC
    go_wp2_with fail
    refine wp_region_quiet_below (by kernel_rfl) (by kernel_rfl) ?_
    iterate 4 (go_big_quiet_step (exact J5.out _ _))
    iterate 3 (go_big_quiet_step (exact J6.out _ _))
    repeat (go_big_quiet_step (exact J7.out _ _))
    refine wpQuiet_nil ?_
    intro _ hw'
    obtain ⟨⟨dq, osq⟩, hw''⟩ := hw'
    subst hw''
    have G := Lib.hid (GB.out dq osq)
    clear p0 p1 p2 q0 q1 q2 J5 J6 J7 GB
    generalize grow (redrawn w6 dq) osq = w7 at *
    go_wp2
    go_ret
    exact ⟨rfl, G.out⟩
end Go.Proofs.YtjmojjjgifkkiaaDoor
