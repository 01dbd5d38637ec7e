/-
  What package real's Rank does: any values in their rank (Fm.IsRank). Conditions: words have 64 bits; no more than 60 values.
-/
import Derived.Test.YtmdpeifpgnkbiaaDoorQz
namespace Go.Proofs.YtmdpeifpgnkbiaaDoor
open Go.RowKit
theorem one64 (k : Nat) : ∀ u ∈ [Value.int .i64 (k : Int)], u.oneCell' = true := by
  intro u hu
  simp only [List.mem_singleton] at hu
  subst hu
  rfl
set_option maxRecDepth 100000 in
set_option maxHeartbeats 2000000 in
theorem rank_any (l : List Nat) (A : Option Addr) (cap : Nat) (w : World) (hl : l.length ≤ 60) (hw : ∀ x ∈ l, Fm.W x) (ha : IsRow1 w A (fl64 l)) :
    Calls Tryd.prog 14 #[.slice A l.length cap] w fun e w' => (∃ (r : List Nat) (B : Option Addr) (c : Nat), Fm.IsRank l r ∧ e = .returned (.slice B r.length c) ∧ IsRow1 w' B (in64 r)) ∧ Below w.heap.size w w' := by
  have HA := Lib.hid ha
  have HW := Lib.hid hw
  clear ha hw
  generalize hn : l.length = n at *
  have HN := Lib.hid hn
  clear hn
  obtain ⟨i0, hi, hz0, hz1, hz2⟩ := info_parts Tryd.infoI
  go_enter Tryd.func14, Tryd.ntmps14
  go_wp2_with (at_make; refine wpList_make_own _ rfl _ _ 24 rfl (w.heap.size + 1) 3 i0 (.int .i64 0) 1 Tryd.underlying24 hi hz0 hz1 _ _ _ n rfl rfl (by omega) (by rw [hz2]; omega) (by unfold maxLen; omega) (by simp) ?_)
  intro w1 o1 g1
  have I1 : Hid (RkI (w.heap.size + 1) (w.alloc (.cells #[.slice A n cap] 27)) l 0 (.slice (some ⟨w.heap.size + 1, 0, none⟩) 0 n) (.slice none 0 0) w1) :=
    ⟨o1, World.ownsRow_nil _ _ _ _, by simp, .inl rfl, (Below.refl _ _).grown g1 (by simp) (fun k h => by cases h), by have := g1.size; simpa using this⟩
  have BX : Hid (∀ W, Below (w.heap.size + 1) (w.alloc (.cells #[.slice A n cap] 27)) W → W.cell? ⟨w.heap.size, 0, none⟩ = some (.slice A n cap) ∧ Below w.heap.size w W) := fun W hW =>
    ⟨by rw [hW.cell (by simp)]; rw [cell_of_row _ w.heap.size 0 _ 27 (0, 0) (heap_alloc_new w _)]; rfl, ((Below.refl _ _).alloc (Nat.le_refl _) _).trans (hW.mono (by omega))⟩
  have c1 := (BX.out w1 I1.out.kb).1
  clear o1 g1
  generalize hw0 : w.alloc (.cells #[.slice A n cap] 27) = w0 at *
  have HW0 := Lib.hid hw0
  clear hw0
  go_wp2
  go_loopw [3, 4, 12] (fun v3 v4 vi wr => ∃ k : Nat, k ≤ n ∧ vi = .int .i64 (k : Int) ∧ Hid (RkI (w.heap.size + 1) w0 l k v3 v4 wr)) (fun _ _ vi _ => n - (intOf vi).toNat)
  case atStart => exact ⟨0, by omega, rfl, I1⟩
  case round =>
    clear I1 c1
    obtain ⟨k, hk, rfl, HI⟩ := hrel
    have sz := HI.out.sz
    by_cases hkn : k < n
    · obtain ⟨b, off, rfl, hc⟩ := HA.out.below (BX.out _ HI.out.kb).2 (by rw [fl64_len, HN.out]; omega)
      have ck := fl64_cell hc (j := k) (by rw [HN.out]; exact hkn)
      have hkz : (k : Int) < (n : Int) := by omega
      have h60 : (rkl l k).length ≤ 60 := by have := (rkl_len l k).1; omega
      have h61 : (nnl l k).length ≤ 60 := by have := (rkl_len l k).2; omega
      have o3 := HI.out.o3
      have o4 := HI.out.o4
      clear hc HA
      cases hN : Fm.isN (l.getD k 0)
      · have HNN := Lib.hid hN
        have IS := Lib.hid (isnan_any (l.getD k 0))
        rw [hN] at IS
        clear hN
        generalize l.getD k 0 = x at ck IS
        go_wp2_with fail
        refine (IS.out _).mono ?_
        rintro e w' ⟨rfl, rfl⟩
        clear IS ck
        go_wp2_with (at_builtin; refine wpList_append_own_at _ rfl _ _ 24 rfl (w.heap.size + 1) 3 i0 (.int .i64 0) 1 8 Tryd.underlying24 hi hz0 hz1 hz2 rfl (by decide) _ _ _ rfl (o3.alloc _) ⟨w'.heap.size, 0, none⟩ 1 1 [.int .i64 (k : Int)] rfl rfl (cell_one_new _ _ _) (one64 _) (by unfold maxLen; omega) (by omega) (by simp; omega) ?_)
        intro v' w2 o2 g2 n2 a2
        have HI2 := Lib.hid (HI.out.num HNN.out o2 g2 n2 a2)
        clear o2 g2 n2 a2 o3 o4 HI sz
        go_wp2
        go_roundw
        case rel => exact ⟨k + 1, by omega, by go_num, HI2⟩
        case measure => simp [intOf]; omega
      · have HNN := Lib.hid hN
        have IS := Lib.hid (isnan_any (l.getD k 0))
        rw [hN] at IS
        clear hN
        generalize l.getD k 0 = x at ck IS
        go_wp2_with fail
        refine (IS.out _).mono ?_
        rintro e w' ⟨rfl, rfl⟩
        clear IS ck
        go_wp2_with (at_builtin; refine wpList_append_own_at _ rfl _ _ 24 rfl (w.heap.size + 1) 3 i0 (.int .i64 0) 1 8 Tryd.underlying24 hi hz0 hz1 hz2 rfl (by decide) _ _ _ rfl (o4.alloc _) ⟨w'.heap.size, 0, none⟩ 1 1 [.int .i64 (k : Int)] rfl rfl (cell_one_new _ _ _) (one64 _) (by unfold maxLen; omega) (by omega) (by simp; omega) ?_)
        intro v' w2 o2 g2 _ a2
        have HI2 := Lib.hid (HI.out.nan HNN.out o2 g2 a2)
        clear o2 g2 a2 o3 o4 HI sz
        go_wp2
        go_roundw
        case rel => exact ⟨k + 1, by omega, by go_num, HI2⟩
        case measure => simp [intOf]; omega
    · obtain rfl : k = n := by omega
      clear hk hkn
      have hkk := HN.out
      rcases HI.out.o3.2 with ⟨e, _⟩ | ⟨B, c3, cur, rfl, hB, _⟩
      · exact absurd e HI.out.ns
      have hm60 : (rkl l k).length ≤ 60 := by have := (rkl_len l k).1; omega
      have hn60 : (nnl l k).length ≤ 60 := by have := (rkl_len l k).2; omega
      have T : SortW B (rkl l k).length 42 #[.pointer (some ⟨w.heap.size, 0, none⟩)] (rcf l) (RankS (w.heap.size + 1) B (rkl l k).length c3 l.length wr) :=
        rank_sortw l (w.heap.size + 1) B _ c3 cap w.heap.size wr hm60 HW.out (fun h0 W hW => by
          have bW := HI.out.kb.grown hW sz (fun q hq => by injection hq with hq; omega)
          obtain ⟨x1, x2⟩ := BX.out W bW
          obtain ⟨b, off, rfl, hc⟩ := HA.out.below x2 (by rw [fl64_len, hkk]; have := (rkl_len l k).1; omega)
          exact ⟨b, off, fun j hj => fl64_cell hc hj, by rw [hkk]; exact x1⟩)
      have S0 : RankS (w.heap.size + 1) B (rkl l k).length c3 l.length wr (fun j => (rkl l k).getD j 0) wr :=
        ⟨by rw [getD_row]; exact HI.out.o3, World.grownBy.refl _ _, fun j hj => by rw [hkk]; refine (rkl_mem (l := l) (k := k) ?_).1; show (rkl l k).getD j 0 ∈ _; rw [List.getD_eq_getElem?_getD, List.getElem?_eq_getElem hj]; exact List.getElem_mem _⟩
      have CS := Lib.hid (sortstable_any T (rk_ord l) c3 _ wr S0 (rkl_asc l k))
      clear T S0
      obtain ⟨m, hm⟩ : ∃ m, (rkl l k).length = m := ⟨_, rfl⟩
      rw [hm] at CS hm60
      simp only [hm]
      have HM := Lib.hid hm
      have HK := Lib.hid hkk
      clear hm hkk
      go_wp2_with fail
      refine CS.out.mono ?_
      rintro e w2 ⟨rfl, d, ⟨o5, g5, _⟩, hv, _, hs⟩
      have HV := Lib.hid hv
      have HS := Lib.hid (hs 0 m ⟨rfl, rfl⟩)
      have o6 : w2.ownsRow (w.heap.size + 1) 3 1 u4 (nnl l k).length (in64 (nnl l k)) := HI.out.o4.kept g5 HI.out.dis
      have b6 : Below (w.heap.size + 1) w0 w2 := HI.out.kb.grown g5 sz (fun q hq => by injection hq with hq; omega)
      have sz2 : w.heap.size + 1 ≤ w2.heap.size := by have := g5.size; omega
      clear hv hs CS g5 HI sz
      obtain ⟨A4, c4, rfl, hA4, hr4⟩ := own_formI o6
      have HA4 := Lib.hid hA4
      have HR4 := Lib.hid hr4
      clear hA4 hr4 o6
      go_wp2_with (at_builtin; refine wpList_appR rfl _ _ rfl (w.heap.size + 1) _ m _ rfl o5 A4 _ c4 (nnl l k) rfl rfl HA4.out HR4.out (by omega) sz2 ?_)
      intro v' w3 o7 g7
      have b7 : Below (w.heap.size + 1) w0 w3 := b6.grown g7 sz2 (fun q hq => (o5.lt q hq).1)
      have RM : Hid (Fm.IsRank l ((List.range m).map d ++ nnl l k)) := by
        have e := HK.out
        subst e
        exact rank_made HW.out HM.out HV.out HS.out
      obtain ⟨A7, c7, rfl, _, hr7⟩ := own_formI o7
      have HR7 := Lib.hid hr7
      have B7 := Lib.hid (BX.out w3 b7).2
      clear hr7 o7 g7 b7 b6 sz2 o5 BX HR4 HA4
      go_wp2
      go_ret
      exact ⟨⟨_, A7, c7, RM.out, by simp, HR7.out⟩, B7.out⟩
end Go.Proofs.YtmdpeifpgnkbiaaDoor
