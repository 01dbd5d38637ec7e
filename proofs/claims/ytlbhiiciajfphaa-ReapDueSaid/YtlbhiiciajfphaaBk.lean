/-
  The library's Insert of one of the program's rows, ahead of the end, where there is room. Conditions: lengths fit; the row to insert lies in another block.
-/
import Derived.Test.YtlbhiiciajfphaaBg
namespace Go.Proofs.Ytlbhiiciajfphaa
open Go.RowKit Go.Sort

/-- The cells of a row behind the two copies. -/
theorem shift_cells {l : List Rw} {cur : List Value} {n i : Nat} (r : Rw) (hl : l.length = n) (hi : i < n) (ht : cur.take (n * 2) = fl pc l) (hc : (n + 1) * 2 ≤ cur.length) :
    let c1 := cur.take ((i + 1) * 2) ++ fl pc (l.drop i) ++ cur.drop ((i + 1) * 2 + (fl pc (l.drop i)).length)
    let c2 := c1.take (i * 2) ++ pc r ++ c1.drop (i * 2 + (pc r).length)
    c1.length = cur.length ∧ c2.length = cur.length ∧ c2.take ((n + 1) * 2) = fl pc (l.take i ++ r :: l.drop i) := by
  have hd : (fl pc (l.drop i)).length = (n - i) * 2 := by rw [fl_len pc2, List.length_drop, hl]
  have h1 : (cur.take ((i + 1) * 2)).length = (i + 1) * 2 := by rw [List.length_take]; omega
  have hp : (pc r).length = 2 := pc2 r
  have ht1 : (cur.take ((i + 1) * 2)).take (i * 2) = fl pc (l.take i) := by
    rw [List.take_take, Nat.min_eq_left (by omega), ← fl_take pc2, ← ht, List.take_take, Nat.min_eq_left (by omega)]
  intro c1 c2
  have e1 : c1.take (i * 2) = fl pc (l.take i) := by
    show List.take _ (_ ++ _) = _
    rw [List.append_assoc, List.take_append_of_le_length (by omega), ht1]
  have e2 : c1.drop (i * 2 + (pc r).length) = fl pc (l.drop i) ++ cur.drop ((i + 1) * 2 + (fl pc (l.drop i)).length) := by
    show List.drop _ (_ ++ _) = _
    rw [List.append_assoc, hp, show i * 2 + 2 = (cur.take ((i + 1) * 2)).length + 0 by omega, List.drop_length_add_append, List.drop_zero]
  have l1 : c1.length = cur.length := by
    show (List.append (_ ++ _) _).length = _
    show ((_ ++ _) ++ _ : List Value).length = _
    rw [List.length_append, List.length_append, h1, hd, List.length_drop]
    omega
  refine ⟨l1, ?_, ?_⟩
  · show ((_ ++ _) ++ _ : List Value).length = _
    rw [List.length_append, List.length_append, e1, hp, List.length_drop, l1, fl_len pc2, List.length_take]
    omega
  · show List.take _ ((_ ++ _) ++ _) = _
    rw [e1, e2, ← List.append_assoc, List.take_append_of_le_length, List.take_of_length_le, fl_app, fl_cons, List.append_assoc]
    · rw [List.length_append, List.length_append, fl_len pc2, List.length_take, hp, hd]; omega
    · rw [List.length_append, List.length_append, fl_len pc2, List.length_take, hp, hd]; omega
set_option maxRecDepth 100000 in
set_option maxHeartbeats 4000000 in
theorem insert_shift (base g cap : Nat) (n : Nat) (l : List Rw) (i : Nat) (r : Rw) (vb : Nat) (w : World) (hown : w.ownsRow base 56 2 (.slice (some ⟨g, 0, none⟩) n cap) n (fl pc l)) (hi : i < n) (hn : n ≤ 1099511627774) (hroom : n + 1 ≤ cap)
    (hv : w.heap[vb]? = some (.cells (pc r).toArray 56 (0, 0))) (hne : vb ≠ g) :
    Calls Try.prog 21 #[.slice (some ⟨g, 0, none⟩) n cap, .int .i64 (i : Int), .slice (some ⟨vb, 0, none⟩) 1 1] w fun e w' => e = .returned (.slice (some ⟨g, 0, none⟩) (n + 1) cap) ∧
      w'.ownsRow base 56 2 (.slice (some ⟨g, 0, none⟩) (n + 1) cap) (n + 1) (fl pc (l.take i ++ r :: l.drop i)) ∧ Only (fun k => k = g) w w' := by
  have hl : l.length = n := by have := hown.1; rw [fl_len pc2] at this; omega
  obtain ⟨g', cap', cur, e, hbg, hg, hnc, hcm, hcs, htk⟩ := own_open hown (by omega)
  injection e with e1 _ e3
  injection e1 with e1
  injection e1 with e1
  subst e1 e3
  have hcap : cap ≤ 9223372036854775807 := by unfold maxLen at hcm; omega
  have hsa : w.shape? vb = some (56, 2) := by unfold World.shape?; rw [hv]; rfl
  have hsb : w.shape? g = some (56, cap * 2) := by unfold World.shape?; rw [hg, ← hcs]
  have hov : ∀ lb cb, (callFunc 30 #[.slice (some ⟨vb, 0, none⟩) 1 1, .slice (some ⟨g, (i + 1) * 2, none⟩) lb cb]).run Try.prog w = .ok (.value (.bool false)) w := fun lb cb =>
    overlaps_no w ⟨vb, 0, none⟩ ⟨g, (i + 1) * 2, none⟩ 1 1 lb cb hne 56 56 2 (cap * 2) hsa hsb (by omega) (frozen_of_row w vb 0 _ _ hv) (frozen_of_row w vb 2 _ _ hv)
  have hz2 : ¬ ((i : Int) = (n : Int)) := by omega
  have hw1 : IntKind.i64.wrap ((i : Int) + 1) = (i : Int) + 1 := by rw [IntKind.wrap_i64]; omega
  have hw3 : IntKind.i64.wrap ((n : Int) + 1) = (n : Int) + 1 := by rw [IntKind.wrap_i64]; omega
  have hb1 : (0 : Int) ≤ (i : Int) + 1 := by omega
  have hin : i ≤ n := by omega
  have htn : ((i : Int) + 1).toNat = i + 1 := by omega
  have htn2 : ((n : Int) + 1).toNat = n + 1 := by omega
  have hgt : ¬ ((cap : Int) < (n : Int) + 1) := by omega
  have hb2 : ¬ (cap = i + 1) := by omega
  have hb3 : (i : Int) ≤ (n : Int) + 1 := by omega
  have hb4 : ¬ (cap = i) := by omega
  obtain ⟨l1, l2, lt⟩ := shift_cells (l := l) (cur := cur.toList) (n := n) (i := i) r hl hi htk (by rw [Array.length_toList, hcs]; omega)
  obtain ⟨i0, hi0, hz0, hzs, hzb⟩ := info_parts Try.infoR
  have hcp1 := fun ty dc sc => run_copy_blk (P := Try.prog) w.drew 52 52 ty 56 i0 Try.underlying52 hi0 g ((i + 1) * 2) (n - i) dc ⟨g, i * 2, none⟩ (n + 1 - i) sc (fl pc (l.drop i)) cur hg
    (by rw [fl_len pc2, List.length_drop, hl, hzs, show Nat.min (n + 1 - i) (n - i) = n - i from Nat.min_eq_right (by omega)])
    (fun j u hj => by
      rw [← fl_drop pc2, List.getElem?_drop] at hj
      have := hown.cells (g := g) rfl (i * 2 + j) u hj
      rw [Addr.add_lit, Nat.zero_add] at this
      rw [Addr.add_lit]
      exact this)
    (by rw [fl_len pc2, List.length_drop, hl, hcs]; omega) (pc_one _)
  obtain ⟨c1, hc1⟩ : ∃ c1, cur.toList.take ((i + 1) * 2) ++ fl pc (l.drop i) ++ cur.toList.drop ((i + 1) * 2 + (fl pc (l.drop i)).length) = c1 := ⟨_, rfl⟩
  rw [hc1] at hcp1
  simp only [hc1] at l1 l2 lt
  have hW1 : ∀ W : World, (∃ W1 : World, W1 = w.drew.setRow g c1.toArray ∧ W.heap = W1.heap) → W.heap[g]? = some (.cells c1.toArray 56 (0, 0)) := by
    rintro W ⟨W1, rfl, e⟩
    rw [e]
    exact setRow_heap w.drew _ _ _ _ _ hg
  have hcp2 := fun ty dc => run_copy_blk (P := Try.prog) (w.drew.setRow g c1.toArray) 52 52 ty 56 i0 Try.underlying52 hi0 g (i * 2) (n + 1 - i) dc ⟨vb, 0, none⟩ 1 1 (pc r) c1.toArray (setRow_heap w.drew _ _ _ _ _ hg)
    (by rw [pc2, hzs, show Nat.min 1 (n + 1 - i) = 1 from Nat.min_eq_left (by omega)])
    (vb_cells (by rw [setRow_other _ _ _ _ hne]; exact hv))
    (by rw [pc2, List.size_toArray, l1, Array.length_toList, hcs]; omega) (by intro u hu; exact pc_one [r] u (by simpa [fl] using hu))
  obtain ⟨c2, hc2⟩ : ∃ c2, c1.take (i * 2) ++ pc r ++ c1.drop (i * 2 + (pc r).length) = c2 := ⟨_, rfl⟩
  simp only [hc2] at hcp2 l2 lt
  have END : Hid (((w.drew.setRow g c1.toArray).setRow g c2.toArray).ownsRow base 56 2 (.slice (some ⟨g, 0, none⟩) (n + 1) cap) (n + 1) (fl pc (l.take i ++ r :: l.drop i)) ∧
      Only (fun k => k = g) w ((w.drew.setRow g c1.toArray).setRow g c2.toArray)) :=
    ⟨own_setRow (setRow_heap w.drew _ _ _ _ _ hg) hbg hroom hcm (by rw [List.size_toArray, l2, Array.length_toList, hcs]) lt,
      (((Only.refl (fun k => k = g) w).drew.trans (Only.ofRow (S := fun k => k = g) rfl _)).trans (Only.ofRow (S := fun k => k = g) rfl _))⟩
  have HI := Lib.hid hi
  have HO := Lib.hid hown
  go_enter Try.func21, Try.ntmps21
  go_wp2_with (simp only [hov])
  go_still_tail 8, (by kernel_rfl)
  refine wpList_known rfl (fun hK => wp_copy_known (.tmp 73) (.tmp 76) 52 52 rfl rfl rfl (hcp1 _ _ _) hK) ?_
  go_wp2_with (refine wpList_known rfl (fun hK => wp_copy_known (.tmp 80) (.tmp 81) 52 52 rfl rfl rfl (hcp2 _ _) hK) ?_)
  go_ret
  exact ⟨rfl, END.out⟩
end Go.Proofs.Ytlbhiiciajfphaa
