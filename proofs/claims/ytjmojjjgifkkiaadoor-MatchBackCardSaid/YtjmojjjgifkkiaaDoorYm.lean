/-
  MatchDrawn as a contract: lists that may be, on label sets, hold as the document says. Conditions: the slices are as a machine has them; the library's table lies in its variable (DTab).
-/
import Derived.Test.YtjmojjjgifkkiaaDoorYl
namespace Go.Proofs.YtjmojjjgifkkiaaDoor
open Go.RowKit Go.Sort

theorem set_values {ls : List La.Lab} (h : La.isSet ls = true) : ls.length ≤ 6 ∧ ∀ x ∈ ls, x.2.size ≤ 24 := by
  obtain ⟨_, h6, hk⟩ := La.isSet_iff.1 h
  refine ⟨h6, fun x hx => ?_⟩
  obtain ⟨j, hj, rfl⟩ := List.getElem_of_mem hx
  have := (La.okAt_size (hk j hj)).2.1
  rwa [La.nth_eq hj] at this

set_option maxRecDepth 100000 in
set_option maxHeartbeats 4000000 in
theorem drawn8_law (ds : List (Int × Int × Int)) (zs : List Int) (A B : Option Addr) (N cap M cb : Nat) (w : World) (hN : ds.length = N) (hl : N ≤ maxLen) (ha : IsDraws w A ds) (hM : zs.length = M) (hb : IsInts w B zs) (hT : DTab w) :
    Calls Tryd.prog 6 #[.slice A N cap, .slice B M cb] w fun e w' => e = .returned (.bool true) ∧ Below w.heap.size w w' := by
  subst hM
  have C1 := Lib.hid (mats_any ds A N cap w hN hl ha)
  have C2 := Lib.hid (fun W (hW : Below w.heap.size w W) => keep_any zs B cb W (hb.below hW))
  have RN := Lib.hid (fun W (hW : Below w.heap.size w W) => runs8_any W (hT.below hW))
  have DT := Lib.hid (fun W (hW : Below w.heap.size w W) => hT.below hW)
  clear hN hl ha hb hT
  generalize zs.length = M at *
  go_enter Tryd.func6, Tryd.ntmps6
  go_wp2_with fail
  refine C1.out.mono ?_
  rintro e w1 ⟨⟨l, v, hg, hl5, rfl, ho⟩, b1⟩
  obtain ⟨A3, c3, rfl, hc3, hn3, i3, _⟩ := own_formM ho
  have D2 := Lib.hid (C2.out w1 b1)
  have B1 := Lib.hid b1
  have GD := Lib.hid hg
  have I3 := Lib.hid i3
  clear C1 C2 b1 hg i3 ho
  go_wp2_with fail
  refine D2.out.mono ?_
  rintro e w2 ⟨⟨ls, v, hs, rfl, ho⟩, b2⟩
  obtain ⟨A4, c4, rfl, hc4, hn4, i4, _⟩ := own_formL ho
  have B2 := Lib.hid (B1.out.trans (b2.mono B1.out.size))
  obtain ⟨hl6, hval⟩ := set_values hs
  have HV := Lib.hid hval
  have MI := Lib.hid (fun W (hW : Below w2.heap.size w2 W) => I3.out.below (b2.trans (hW.mono b2.size)))
  have LI := Lib.hid (fun W (hW : Below w2.heap.size w2 W) => i4.below hW)
  clear D2 b2 i4 ho hs hval I3 B1
  have SM := Lib.hid GD.out.small
  have HLS := Lib.hid (GD.out.list hl5)
  obtain ⟨n, hn⟩ : ∃ n, l.length = n := ⟨_, rfl⟩
  have HN := Lib.hid hn
  obtain ⟨k4, hk4⟩ : ∃ k4, ls.length = k4 := ⟨_, rfl⟩
  have HK := Lib.hid hk4
  rw [hn] at hl5 hc3 ⊢
  rw [hk4] at hl6 hc4 ⊢
  clear hn hk4 hn3 hn4
  have CH : Hid (∀ j W, j < n → Below w2.heap.size w2 W → Calls Tryd.prog 11 #[.agg #[.int .i64 (Mat.nth l j).k, .string (Mat.nth l j).n, .string (Mat.nth l j).v], .slice A4 k4 c4] W fun e w' => e = .returned (.bool ((Mat.nth l j).holds ls)) ∧ Below W.heap.size W w') := fun j W hj hW =>
    mholds_any _ _ _ ls A4 k4 c4 W (SM.out.at (by rw [HN.out]; exact hj)).1 (SM.out.at (by rw [HN.out]; exact hj)).2 HK.out (by omega) (fun x hx => by have := HV.out x hx; omega) (LI.out W hW) (DT.out W (B2.out.trans (hW.mono B2.out.size)))
  have CR : Hid (∀ j W, j < n → Below w2.heap.size w2 W → Calls Tryd.prog 17 #[.agg #[.int .i64 (Mat.nth l j).k, .string (Mat.nth l j).n, .string (Mat.nth l j).v], .slice A4 k4 c4] W fun e w' => e = .returned (.bool ((Mat.nth l j).holds ls)) ∧ Below W.heap.size W w') := fun j W hj hW =>
    rholds_any _ _ _ ls A4 k4 c4 W (SM.out.at (by rw [HN.out]; exact hj)).1 (SM.out.at (by rw [HN.out]; exact hj)).2 HK.out (by omega) (fun x hx => by have := HV.out x hx; omega) (LI.out W hW)
  have CL : Hid (∀ W, Below w2.heap.size w2 W → Calls Tryd.prog 18 #[.slice A3 n c3] W fun e w' => e = .returned (.bool true) ∧ Below W.heap.size W w') := fun W hW => by
    have := mlist_any l A3 n c3 W HN.out (by omega) SM.out (MI.out W hW)
    rwa [HLS.out] at this
  have CA : Hid (∀ W, Below w2.heap.size w2 W → Calls Tryd.prog 22 #[.slice A3 n c3, .slice A4 k4 c4] W fun e w' => e = .returned (.bool (Mat.allHold l ls)) ∧ Below W.heap.size W w') := fun W hW =>
    mall_any l A3 n c3 ls A4 k4 c4 W HN.out (by omega) SM.out (MI.out W hW) HK.out (by omega) (fun x hx => by have := HV.out x hx; omega) (LI.out W hW) (DT.out W (B2.out.trans (hW.mono B2.out.size)))
  have R2 := Lib.hid (fun W (hW : Below w2.heap.size w2 W) => RN.out W (B2.out.trans (hW.mono B2.out.size)))
  clear RN DT SM HLS LI HV HK
  go_wp2
  go_loopw [7, 8] (fun v i wr => ∃ (k : Nat) (a : Bool), k ≤ n ∧ i = .int .i64 (k : Int) ∧ v = .bool a ∧ Hid (Below w2.heap.size w2 wr ∧ (a && Mat.allHold (l.drop k) ls) = Mat.allHold l ls)) (fun _ i _ => n - (intOf i).toNat)
  case atStart => exact ⟨0, true, by omega, rfl, rfl, Below.refl _ _, rfl⟩
  case round =>
    obtain ⟨k, a, hk, rfl, rfl, HI⟩ := hrel
    have HB := Lib.hid HI.out.1
    by_cases hkn : k < n
    · have hc' := MI.out wr HI.out.1 (by rw [HN.out]; omega)
      obtain ⟨b, off, rfl, hc⟩ := hc'
      obtain ⟨c0, c1, c2⟩ := hc k (by rw [HN.out]; exact hkn)
      have hkz : (k : Int) < (n : Int) := by omega
      have K1 := Lib.hid (CH.out k wr hkn HI.out.1)
      have K2 := Lib.hid (fun W hW => CR.out k W hkn hW)
      have ST : Hid ((a && ((Mat.nth l k).holds ls && Mat.allHold (l.drop (k + 1)) ls)) = Mat.allHold l ls) := by
        show _ = _; rw [← Mat.all_step (by rw [HN.out]; exact hkn)]; exact HI.out.2
      have CE := Lib.hid (⟨c0, c1, c2⟩ : _ ∧ _ ∧ _)
      obtain ⟨q, hq⟩ : ∃ q, (Mat.nth l k).holds ls = q := ⟨_, rfl⟩
      rw [hq] at K1 K2 ST
      clear HI hc hq
      generalize (Mat.nth l k).k = x0 at *
      generalize (Mat.nth l k).n = x1 at *
      generalize (Mat.nth l k).v = x2 at *
      go_wp2_with fail
      refine K1.out.mono ?_
      rintro e w3 ⟨rfl, b3⟩
      have B3 := Lib.hid (HB.out.trans (b3.mono HB.out.size))
      obtain ⟨c0', c1', c2'⟩ := CE.out
      clear c0 c1 c2 K1
      have c0 := cell_grow b3 c0'
      have c1 := cell_grow b3 c1'
      have c2 := cell_grow b3 c2'
      have K3 := Lib.hid (K2.out w3 B3.out)
      clear b3 CE c0' c1' c2' K2 HB
      cases a
      · have E : Hid ((false && Mat.allHold (l.drop (k + 1)) ls) = Mat.allHold l ls) := by show _ = _; rw [← ST.out]; rfl
        clear ST
        go_wp2_with fail
        refine K3.out.mono ?_
        rintro e w4 ⟨rfl, b4⟩
        have B4 := Lib.hid (B3.out.trans (b4.mono B3.out.size))
        have qq : (q != q) = false := by simp
        clear c0 c1 c2 b4 B3 K3
        go_wp2
        go_roundw
        case rel => exact ⟨k + 1, false, by omega, by go_num, rfl, B4.out, E.out⟩
        case measure => simp [intOf]; omega
      · have E : Hid ((q && Mat.allHold (l.drop (k + 1)) ls) = Mat.allHold l ls) := by show _ = _; rw [← ST.out]; rfl
        clear ST
        go_wp2_with fail
        refine K3.out.mono ?_
        rintro e w4 ⟨rfl, b4⟩
        have B4 := Lib.hid (B3.out.trans (b4.mono B3.out.size))
        have qq : (q != q) = false := by simp
        clear c0 c1 c2 b4 B3 K3
        go_wp2
        go_roundw
        case rel => exact ⟨k + 1, q, by omega, by go_num, rfl, B4.out, E.out⟩
        case measure => simp [intOf]; omega
    · obtain rfl : k = n := by omega
      have E : Hid (Mat.allHold l ls = a) := by show _ = _; rw [← HI.out.2, Mat.all_end (by rw [HN.out]; omega), Bool.and_true]
      rw [E.out] at CA
      have hkz : ¬ (k : Int) < (k : Int) := by omega
      clear HI E CH CR
      go_wp2_with fail
      refine (CL.out _ HB.out).mono ?_
      rintro e w3 ⟨rfl, b3⟩
      have B3 := Lib.hid (HB.out.trans (b3.mono HB.out.size))
      clear b3 CL
      go_wp2_with fail
      refine (CA.out _ B3.out).mono ?_
      rintro e w4 ⟨rfl, b4⟩
      have B4 := Lib.hid (B3.out.trans (b4.mono B3.out.size))
      have qq : (a == a) = true := by simp
      clear b4 CA B3
      go_wp2_with fail
      refine (R2.out _ B4.out).mono ?_
      rintro e w5 ⟨rfl, b5⟩
      have B5 := Lib.hid (B2.out.trans ((B4.out.trans (b5.mono B4.out.size)).mono B2.out.size))
      clear b5
      go_wp2
      go_ret
      exact ⟨rfl, B5.out⟩
end Go.Proofs.YtjmojjjgifkkiaaDoor
