/-
  SameMatchers; MatchBytes as a contract: any matchers' bytes, and what any bytes are read as, are as the document says. Conditions: the slices are as a machine has them; the library's table lies in its variable (DTab).
-/
import Derived.Test.YtjmojjjgifkkiaaDoorYs
import Derived.Test.YtjmojjjgifkkiaaDoorYh
import Derived.Test.YtjmojjjgifkkiaaDoorYk
namespace Go.Proofs.YtjmojjjgifkkiaaDoor
open Go.RowKit Go.Sort

set_option maxRecDepth 100000 in
set_option maxHeartbeats 4000000 in
theorem samemats_any (xs ys : List Mat) (A B : Option Addr) (m n ca cb : Nat) (w : World) (hm : xs.length = m) (hn : ys.length = n) (hx : m ≤ 1099511627776) (hy : n ≤ 1099511627776) (ha : IsMats w A xs) (hb : IsMats w B ys) :
    Calls Tryd.prog 30 #[.slice A m ca, .slice B n cb] w fun e w' => e = .returned (.bool (decide (xs = ys))) ∧ Below w.heap.size w w' := by
  have HA := Lib.hid ha
  have HB := Lib.hid hb
  clear ha hb
  by_cases hl : m = n
  · subst hl
    have HE : Hid ((∀ j, j < xs.length → Mat.nth xs j = Mat.nth ys j) → xs = ys) := fun h => Mat.ext_nth (by omega) h
    have HLX := Lib.hid hm
    have HN := Lib.hid hn
    clear hm hn
    go_enter Tryd.func30, Tryd.ntmps30
    go_wp2
    go_loopw [5] (fun i wr => ∃ k : Nat, k ≤ m ∧ i = .int .i64 (k : Int) ∧ Hid ((∀ j, j < k → Mat.nth xs j = Mat.nth ys j) ∧ Below w.heap.size w wr)) (fun i _ => m - (intOf i).toNat)
    case atStart => exact ⟨0, by omega, rfl, fun j hj => by omega, Below.refl _ _⟩
    case round =>
      obtain ⟨k, hk, rfl, HI⟩ := hrel
      by_cases hkn : k < m
      · have hkz : (k : Int) < (m : Int) := by omega
        obtain ⟨b1, o1, rfl, h1⟩ := (HA.out.below HI.out.2) (by rw [HLX.out]; omega)
        obtain ⟨b2, o2, rfl, h2⟩ := (HB.out.below HI.out.2) (by rw [HN.out]; omega)
        obtain ⟨c0, c1, c2⟩ := h1 k (by rw [HLX.out]; exact hkn)
        obtain ⟨d0, d1, d2⟩ := h2 k (by rw [HN.out]; exact hkn)
        clear h1 h2
        have AL := Lib.hid HI.out.1
        have BL := Lib.hid HI.out.2
        clear HI
        have NE := fun W => mat_neq W (Mat.nth xs k) (Mat.nth ys k)
        by_cases e : Mat.nth xs k = Mat.nth ys k
        · have HE2 := Lib.hid e
          simp only [e, decide_true, Bool.not_true] at NE
          rw [e] at c0 c1 c2
          clear e
          generalize (Mat.nth ys k).k = z at *
          generalize (Mat.nth ys k).n = x at *
          generalize (Mat.nth ys k).v = y at *
          go_wp2_with fail
          go_quiet (fail)
          have B2 := Lib.hid (below_drewN BL.out nq)
          clear c0 c1 c2 d0 d1 d2 NE BL
          go_wp2
          go_roundw
          case rel => exact ⟨k + 1, by omega, by go_num, fun j hj => by
            by_cases hjk : j < k
            · exact AL.out j hjk
            · obtain rfl : j = k := by omega
              exact HE2.out, B2.out⟩
          case measure => simp [intOf]; omega
        · have HNE : Hid (decide (xs = ys) = false) := by show _ = _; rw [decide_eq_false_iff_not]; intro h; exact e (by rw [h])
          have e2 : decide (Mat.nth xs k = Mat.nth ys k) = false := decide_eq_false e
          simp only [e2, Bool.not_false] at NE
          clear e e2
          generalize (Mat.nth xs k).k = z at *
          generalize (Mat.nth xs k).n = x at *
          generalize (Mat.nth xs k).v = y at *
          generalize (Mat.nth ys k).k = z' at *
          generalize (Mat.nth ys k).n = x' at *
          generalize (Mat.nth ys k).v = y' at *
          go_wp2_with fail
          go_quiet (fail)
          have B2 := Lib.hid (below_drewN BL.out nq)
          clear c0 c1 c2 d0 d1 d2 NE BL
          go_wp2
          go_ret
          exact ⟨by rw [HNE.out]; rfl, B2.out⟩
      · obtain rfl : k = m := by omega
        have HT : Hid (decide (xs = ys) = true) := by show _ = _; rw [decide_eq_true_iff]; exact HE.out (by rw [HLX.out]; exact HI.out.1)
        have B := Lib.hid HI.out.2
        have hkz : ¬ (k : Int) < (k : Int) := by omega
        clear HI
        go_wp2
        go_ret
        exact ⟨by rw [HT.out]; rfl, B.out⟩
  · have HNE : Hid (decide (xs = ys) = false) := by show _ = _; rw [decide_eq_false_iff_not]; intro h; exact hl (by rw [← hm, ← hn, h])
    have hz : ((m : Int) != (n : Int)) = true := by simp; omega
    clear hm hn HA HB
    go_enter Tryd.func30, Tryd.ntmps30
    go_wp2
    go_ret
    exact ⟨by rw [HNE.out]; rfl, Below.refl _ _⟩

def resM : Option (List Mat × Nat) → List Mat × Nat × Bool
  | none => ([], 0, false)
  | some (l, k) => (l, k, true)
theorem resM_form {o : Option (List Mat × Nat)} {r v : Value} {w w' : World} (h : matsRes o r v w w') : ∃ A c, r = .tuple #[.slice A (resM o).1.length c, .int .i64 ((resM o).2.1 : Int), .bool (resM o).2.2] ∧ IsMats w' A (resM o).1 := by
  cases o with
  | none => exact ⟨none, 0, h, IsMats.nil _ _⟩
  | some q =>
    obtain ⟨l, k⟩ := q
    obtain ⟨rfl, ho⟩ := h
    obtain ⟨A, c, rfl, _, _, i, _⟩ := own_formM ho
    exact ⟨A, c, rfl, i⟩
theorem resM_len (l : List Nat) : (resM (readMats l)).1.length ≤ 5 := by
  unfold readMats
  cases Vm.dec l with
  | none => simp [resM]
  | some q =>
    obtain ⟨n, k⟩ := q
    simp only
    split
    · simp [resM]
    · cases readMN n (l.drop k) with
      | none => simp [resM]
      | some q =>
        obtain ⟨ls, m⟩ := q
        simp only
        split
        · rename_i hs
          exact (Mat.isList_iff.1 hs).1
        · simp [resM]
theorem matsBytes_byte (l : List Mat) : ∀ x ∈ matsBytes l, x < 256 := by
  cases h : Mat.isList l with
  | true => intro x hx; rw [matsBytes, h, if_pos rfl] at hx; exact mats_byte h x hx
  | false => intro x hx; rw [matsBytes, h] at hx; cases hx

set_option maxRecDepth 100000 in
set_option maxHeartbeats 4000000 in
theorem bytes8_law (ls : List Mat) (l : List Nat) (A B : Option Addr) (N cap N2 cb : Nat) (w : World) (hN : ls.length = N) (hN2 : l.length = N2) (hcb : N2 ≤ cb) (ha : IsMats w A ls) (hb : IsBytes w B l) (hT : DTab w) :
    Calls Tryd.prog 7 #[.slice A N cap, .slice B N2 cb] w fun e w' => e = .returned (.bool true) ∧ Below w.heap.size w w' := by
  have RU0 := Lib.hid (fun W (hW : Below w.heap.size w W) => runs8_any W (hT.below hW))
  have CW := Lib.hid (small_any ls [] A none N cap 0 0 w hN rfl ha (isLabs_nil w none))
  have CR := Lib.hid (fun W (h : N2 ≤ 300) (hW : Below w.heap.size w W) => mread_any l B N2 cb W hN2 (by omega) hcb (isBytes_below hb hW))
  have CR2 := Lib.hid (fun W (h : N2 ≤ 300) (hW : Below w.heap.size w W) => rreadlist_any l B N2 cb W hN2 (by omega) hcb (isBytes_below hb hW))
  have CB0 := Lib.hid (fun W (h : FewM ls) (hW : Below w.heap.size w W) => mbytes_any ls A N cap W hN (by have := h.1; omega) h.small (ha.below hW))
  have CS0 := Lib.hid (fun W (h : FewM ls) (hW : Below w.heap.size w W) => rlistbytes_any ls A N cap W hN (by have := h.1; omega) h.small (ha.below hW))
  have BB := Lib.hid (matsBytes_byte ls)
  have RL := Lib.hid (resM_len l)
  have RF := Lib.hid (fun r v W W' => resM_form (o := readMats l) (r := r) (v := v) (w := W) (w' := W'))
  clear ha hb hcb hT hN hN2
  obtain ⟨S, hS⟩ : ∃ S, strOf (matsBytes ls) = S := ⟨_, rfl⟩
  have HS := Lib.hid hS
  clear hS
  obtain ⟨q, hq⟩ : ∃ q, resM (readMats l) = q := ⟨_, rfl⟩
  rw [hq] at RL RF
  clear hq
  obtain ⟨lx, kk, ok⟩ := q
  simp only at RL RF
  generalize readMats l = o at *
  go_enter Tryd.func7, Tryd.ntmps7
  go_wp2_with fail
  refine CW.out.mono ?_
  rintro e w1 ⟨⟨q, rfl, hr⟩, b1⟩
  have HR := Lib.hid hr
  clear CW hr
  cases q
  · have B1 := Lib.hid b1
    have R1 := Lib.hid (RU0.out w1 b1)
    clear b1
    go_wp2_with fail
    refine R1.out.mono ?_
    rintro e w' ⟨rfl, b⟩
    have B := Lib.hid (B1.out.trans (b.mono B1.out.size))
    clear b R1
    go_wp2
    go_ret
    exact ⟨rfl, B.out⟩
  have HF := Lib.hid (HR.out rfl).1
  by_cases h3 : 300 < N2
  · have h3d : decide ((N2 : Int) > 300) = true := decide_eq_true (by omega)
    have B1 := Lib.hid b1
    have R1 := Lib.hid (RU0.out w1 b1)
    clear b1
    go_wp2_with fail
    refine R1.out.mono ?_
    rintro e w' ⟨rfl, b⟩
    have B := Lib.hid (B1.out.trans (b.mono B1.out.size))
    clear b R1
    go_wp2
    go_ret
    exact ⟨rfl, B.out⟩
  have h3d : decide ((N2 : Int) > 300) = false := decide_eq_false (by omega)
  have B1 := Lib.hid b1
  clear b1
  go_wp2_with fail
  refine (CR.out w1 (by omega) B1.out).mono ?_
  rintro e w2 ⟨⟨r2, v2, rfl, q2⟩, b2⟩
  have d2 := B1.out.trans (b2.mono B1.out.size)
  obtain ⟨A2, c2, rfl, i2⟩ := RF.out _ _ _ _ q2
  clear q2 CR b2 B1
  go_wp2_with fail
  refine (CR2.out w2 (by omega) d2).mono ?_
  rintro e w3 ⟨⟨r3, v3, rfl, q3⟩, b3⟩
  have d3 := d2.trans (b3.mono d2.size)
  obtain ⟨A3, c3, rfl, i3⟩ := RF.out _ _ _ _ q3
  have i2' := i2.below b3
  have SL := Lib.hid (fun W (hW : Below w3.heap.size w3 W) => samemats_any lx lx A2 A3 lx.length lx.length c2 c3 W rfl rfl (by have := RL.out; omega) (by have := RL.out; omega) (i2'.below hW) (i3.below hW))
  have dt : decide (lx = lx) = true := by simp
  rw [dt] at SL
  have e4 : ∀ {W : World}, Below w3.heap.size w3.drew W → Below w3.heap.size w3 W := fun h => ⟨h.os, h.tape, h.output, h.size, h.block⟩
  have CB := Lib.hid (fun W (hW : Below w3.heap.size w3 W) => CB0.out W HF.out (d3.trans (hW.mono d3.size)))
  have CS := Lib.hid (fun W (hW : Below w3.heap.size w3 W) => CS0.out W HF.out (d3.trans (hW.mono d3.size)))
  have RU := Lib.hid (fun W (hW : Below w3.heap.size w3 W) => RU0.out W (d3.trans (hW.mono d3.size)))
  have D3 := Lib.hid d3
  clear q3 CR2 b3 d2 d3 i2 i2' i3 dt CB0 CS0 RF RU0
  generalize lx.length = nx at *
  go_wp2_with fail
  refine wp_region_held_drew (S := fun W => Below w3.heap.size w3 W) (by kernel_rfl) ((Below.refl _ _).drew) (fun hHeld => ?_)
  refine held_take 0 32 (v := (.slice A N cap)) rfl rfl (by kernel_rfl) (by kernel_rfl) (by kernel_rfl) (by rfl) (fun _ _ _ h => h) (by assumption) ?_ ?_
  · intro W hW
    go_simp
  simp only [List.setIfInBounds_toArray, List.set_cons_zero, List.set_cons_succ]
  refine held_take 3 35 (v := (.slice A N cap)) rfl rfl (by kernel_rfl) (by kernel_rfl) (by kernel_rfl) (by rfl) (fun _ _ _ h => h) (by assumption) ?_ ?_
  · intro W hW
    go_simp
  simp only [List.setIfInBounds_toArray, List.set_cons_zero, List.set_cons_succ]
  refine held_op 1 rfl (by kernel_rfl) (by rfl) ?_
  refine wp_call (f := 28) (args := #[.slice A N cap]) rfl (by go_simp) ?_
  refine (CB.out w3.drew ((Below.refl _ _).drew)).mono ?_
  rintro e w4 ⟨v4, rfl, o4, b4⟩
  replace b4 := e4 b4
  refine ⟨_, rfl, b4, ?_⟩
  simp only [List.setIfInBounds_toArray, List.set_cons_zero, List.set_cons_succ]
  have heldw4 := Below.refl w4.heap.size w4
  refine held_more (S' := fun W => Below w4.heap.size w4 W) (fun W h => b4.trans (h.mono b4.size)) _ _ _ _ ?_
  refine held_take 2 34 (v := (.string S)) rfl rfl (by kernel_rfl) (by kernel_rfl) (by kernel_rfl) (by rfl) (fun _ _ _ h => h) (by assumption) ?_ ?_
  · intro W hW
    have cv := own_conv (own_keepL o4 hW) BB.out
    rw [HS.out] at cv
    go_simp
  simp only [List.setIfInBounds_toArray, List.set_cons_zero, List.set_cons_succ]
  refine held_op 4 rfl (by kernel_rfl) (by rfl) ?_
  refine wp_call (f := 29) (args := #[.slice A N cap]) rfl (by go_simp) ?_
  refine (CS.out w4 b4).mono ?_
  rintro e w5 ⟨v5, rfl, o5, b5⟩
  refine ⟨_, rfl, b5, ?_⟩
  simp only [List.setIfInBounds_toArray, List.set_cons_zero, List.set_cons_succ]
  have heldw5 := Below.refl w5.heap.size w5
  refine held_more (S' := fun W => Below w5.heap.size w5 W) (fun W h => b5.trans (h.mono b5.size)) _ _ _ _ ?_
  refine held_take 5 37 (v := (.string S)) rfl rfl (by kernel_rfl) (by kernel_rfl) (by kernel_rfl) (by rfl) (fun _ _ _ h => h) (by assumption) ?_ ?_
  · intro W hW
    have cv := own_conv (own_keepL o5 hW) BB.out
    rw [HS.out] at cv
    go_simp
  simp only [List.setIfInBounds_toArray, List.set_cons_zero, List.set_cons_succ]
  refine held_take 6 38 (v := (.bool true)) rfl rfl (by kernel_rfl) (by kernel_rfl) (by kernel_rfl) (by rfl) (fun _ _ _ h => h) (by assumption) ?_ ?_
  · intro W hW
    go_simp
  simp only [List.setIfInBounds_toArray, List.set_cons_zero, List.set_cons_succ]
  refine held_take 7 39 (v := (.bool true)) rfl rfl (by kernel_rfl) (by kernel_rfl) (by kernel_rfl) (by rfl) (fun _ _ _ h => h) (by assumption) ?_ ?_
  · intro W hW
    go_simp
  simp only [List.setIfInBounds_toArray, List.set_cons_zero, List.set_cons_succ]
  refine held_take 8 40 (v := (.bool ok)) rfl rfl (by kernel_rfl) (by kernel_rfl) (by kernel_rfl) (by rfl) (fun _ _ _ h => h) (by assumption) ?_ ?_
  · intro W hW
    go_simp
  simp only [List.setIfInBounds_toArray, List.set_cons_zero, List.set_cons_succ]
  refine held_take 9 41 (v := (.bool ok)) rfl rfl (by kernel_rfl) (by kernel_rfl) (by kernel_rfl) (by rfl) (fun _ _ _ h => h) (by assumption) ?_ ?_
  · intro W hW
    go_simp
  simp only [List.setIfInBounds_toArray, List.set_cons_zero, List.set_cons_succ]
  refine held_take 10 42 (v := (.bool true)) rfl rfl (by kernel_rfl) (by kernel_rfl) (by kernel_rfl) (by rfl) (fun _ _ _ h => h) (by assumption) ?_ ?_
  · intro W hW
    go_simp
  simp only [List.setIfInBounds_toArray, List.set_cons_zero, List.set_cons_succ]
  refine held_take 11 43 (v := (.bool true)) rfl rfl (by kernel_rfl) (by kernel_rfl) (by kernel_rfl) (by rfl) (fun _ _ _ h => h) (by assumption) ?_ ?_
  · intro W hW
    go_simp
  simp only [List.setIfInBounds_toArray, List.set_cons_zero, List.set_cons_succ]
  refine held_take 12 44 (v := (.bool true)) rfl rfl (by kernel_rfl) (by kernel_rfl) (by kernel_rfl) (by rfl) (fun _ _ _ h => h) (by assumption) ?_ ?_
  · intro W hW
    go_simp
  simp only [List.setIfInBounds_toArray, List.set_cons_zero, List.set_cons_succ]
  refine held_take 13 45 (v := (.int .i64 (kk : Int))) rfl rfl (by kernel_rfl) (by kernel_rfl) (by kernel_rfl) (by rfl) (fun _ _ _ h => h) (by assumption) ?_ ?_
  · intro W hW
    go_simp
  simp only [List.setIfInBounds_toArray, List.set_cons_zero, List.set_cons_succ]
  refine held_take 14 46 (v := (.int .i64 (kk : Int))) rfl rfl (by kernel_rfl) (by kernel_rfl) (by kernel_rfl) (by rfl) (fun _ _ _ h => h) (by assumption) ?_ ?_
  · intro W hW
    go_simp
  simp only [List.setIfInBounds_toArray, List.set_cons_zero, List.set_cons_succ]
  refine held_take 15 47 (v := (.bool true)) rfl rfl (by kernel_rfl) (by kernel_rfl) (by kernel_rfl) (by rfl) (fun _ _ _ h => h) (by assumption) ?_ ?_
  · intro W hW
    go_simp
  simp only [List.setIfInBounds_toArray, List.set_cons_zero, List.set_cons_succ]
  refine held_take 16 48 (v := (.bool true)) rfl rfl (by kernel_rfl) (by kernel_rfl) (by kernel_rfl) (by rfl) (fun _ _ _ h => h) (by assumption) ?_ ?_
  · intro W hW
    go_simp
  simp only [List.setIfInBounds_toArray, List.set_cons_zero, List.set_cons_succ]
  refine held_take 17 49 (v := (.bool true)) rfl rfl (by kernel_rfl) (by kernel_rfl) (by kernel_rfl) (by rfl) (fun _ _ _ h => h) (by assumption) ?_ ?_
  · intro W hW
    go_simp
  simp only [List.setIfInBounds_toArray, List.set_cons_zero, List.set_cons_succ]
  refine held_take 18 50 (v := (.slice A2 nx c2)) rfl rfl (by kernel_rfl) (by kernel_rfl) (by kernel_rfl) (by rfl) (fun _ _ _ h => h) (by assumption) ?_ ?_
  · intro W hW
    go_simp
  simp only [List.setIfInBounds_toArray, List.set_cons_zero, List.set_cons_succ]
  refine held_take 19 51 (v := (.slice A3 nx c3)) rfl rfl (by kernel_rfl) (by kernel_rfl) (by kernel_rfl) (by rfl) (fun _ _ _ h => h) (by assumption) ?_ ?_
  · intro W hW
    go_simp
  simp only [List.setIfInBounds_toArray, List.set_cons_zero, List.set_cons_succ]
  refine held_op 20 rfl (by kernel_rfl) (by rfl) ?_
  refine wp_call (f := 30) (args := #[.slice A2 nx c2, .slice A3 nx c3]) rfl (by go_simp) ?_
  refine (SL.out w5 (b4.trans (b5.mono b4.size))).mono ?_
  rintro e w6 ⟨rfl, b6⟩
  refine ⟨_, rfl, b6, ?_⟩
  simp only [List.setIfInBounds_toArray, List.set_cons_zero, List.set_cons_succ]
  have heldw6 := Below.refl w6.heap.size w6
  refine held_more (S' := fun W => Below w6.heap.size w6 W) (fun W h => b6.trans (h.mono b6.size)) _ _ _ _ ?_
  refine held_take 21 53 (v := (.bool true)) rfl rfl (by kernel_rfl) (by kernel_rfl) (by kernel_rfl) (by rfl) (fun _ _ _ h => h) (by assumption) ?_ ?_
  · intro W hW
    go_simp
  simp only [List.setIfInBounds_toArray, List.set_cons_zero, List.set_cons_succ]
  refine held_take 22 54 (v := (.bool true)) rfl rfl (by kernel_rfl) (by kernel_rfl) (by kernel_rfl) (by rfl) (fun _ _ _ h => h) (by assumption) ?_ ?_
  · intro W hW
    go_simp
  simp only [List.setIfInBounds_toArray, List.set_cons_zero, List.set_cons_succ]
  refine held_op 23 rfl (by kernel_rfl) (by rfl) ?_
  refine wp_call (f := 3) (args := #[]) rfl (by go_simp) ?_
  refine (RU.out w6 ((b4.trans (b5.mono b4.size)).trans (b6.mono (b4.trans (b5.mono b4.size)).size))).mono ?_
  rintro e w7 ⟨rfl, b7⟩
  refine ⟨_, rfl, b7, ?_⟩
  simp only [List.setIfInBounds_toArray, List.set_cons_zero, List.set_cons_succ]
  have heldw7 := Below.refl w7.heap.size w7
  refine held_more (S' := fun W => Below w7.heap.size w7 W) (fun W h => b7.trans (h.mono b7.size)) _ _ _ _ ?_
  refine held_take 24 56 (v := (.bool true)) rfl rfl (by kernel_rfl) (by kernel_rfl) (by kernel_rfl) (by rfl) (fun _ _ _ h => h) (by assumption) ?_ ?_
  · intro W hW
    go_simp
  simp only [List.setIfInBounds_toArray, List.set_cons_zero, List.set_cons_succ]
  refine held_take 25 4 (v := (.bool true)) rfl rfl (by kernel_rfl) (by kernel_rfl) (by kernel_rfl) (by rfl) (fun _ _ _ h => h) (by assumption) ?_ ?_
  · intro W hW
    go_simp
  simp only [List.setIfInBounds_toArray, List.set_cons_zero, List.set_cons_succ]
  refine wpAnyH_done (by kernel_rfl) ?_ _
  have B := Lib.hid (D3.out.trans ((((b4.trans (b5.mono b4.size)).trans (b6.mono (b4.trans (b5.mono b4.size)).size)).trans (b7.mono ((b4.trans (b5.mono b4.size)).trans (b6.mono (b4.trans (b5.mono b4.size)).size)).size)).mono D3.out.size))
  go_wp2
  go_ret
  exact ⟨rfl, B.out⟩
end Go.Proofs.YtjmojjjgifkkiaaDoor
