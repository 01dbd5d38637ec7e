/-
  The library's Insert of one of the program's rows, ahead of the end, where there is no room. Conditions: lengths fit.
-/
import Derived.Test.YtlbhiiciajfphaaBk
import Derived.Laws.NewBlocks
namespace Go.Proofs.Ytlbhiiciajfphaa
open Go.RowKit Go.Sort

/-- The cells of a new row behind the two copies. -/
theorem grow_cells {l : List Rw} {cur : List Value} {n i : Nat} (r : Rw) (hl : l.length = n) (hi : i < n) (ht : cur.take (i * 2) = fl pc (l.take i)) (hc : (n + 1) * 2 ≤ cur.length) :
    let c1 := cur.take (i * 2) ++ pc r ++ cur.drop (i * 2 + (pc r).length)
    let c2 := c1.take ((i + 1) * 2) ++ fl pc (l.drop i) ++ c1.drop ((i + 1) * 2 + (fl pc (l.drop i)).length)
    c1.length = cur.length ∧ c2.length = cur.length ∧ c2.take ((n + 1) * 2) = fl pc (l.take i ++ r :: l.drop i) := by
  have hd : (fl pc (l.drop i)).length = (n - i) * 2 := by rw [fl_len pc2, List.length_drop, hl]
  have hp : (pc r).length = 2 := pc2 r
  have h1 : (fl pc (l.take i)).length = i * 2 := by rw [fl_len pc2, List.length_take]; omega
  intro c1 c2
  have l1 : c1.length = cur.length := by
    show ((_ ++ _) ++ _ : List Value).length = _
    rw [List.length_append, List.length_append, ht, h1, List.length_drop, hp]
    omega
  have e1 : c1.take ((i + 1) * 2) = fl pc (l.take i) ++ pc r := by
    show List.take _ ((_ ++ _) ++ _) = _
    rw [ht, List.take_append_of_le_length (by rw [List.length_append, h1, hp]; omega), List.take_of_length_le (by rw [List.length_append, h1, hp]; omega)]
  have h3 : (fl pc (l.take i) ++ pc r ++ fl pc (l.drop i)).length = (n + 1) * 2 := by
    rw [List.length_append, List.length_append, h1, hp, hd]; omega
  refine ⟨l1, ?_, ?_⟩
  · show ((_ ++ _) ++ _ : List Value).length = _
    rw [List.length_append, List.length_append, e1, List.length_append, h1, hp, hd, List.length_drop, l1]
    omega
  · show List.take _ ((_ ++ _) ++ _) = _
    rw [e1, List.take_append_of_le_length (by omega), List.take_of_length_le (by omega), fl_app, fl_cons, List.append_assoc]
set_option maxRecDepth 100000 in
set_option maxHeartbeats 4000000 in
theorem insert_grow (base g cap : Nat) (n : Nat) (l : List Rw) (i : Nat) (r : Rw) (vb : Nat) (w : World) (hown : w.ownsRow base 56 2 (.slice (some ⟨g, 0, none⟩) n cap) n (fl pc l)) (hi : i < n) (hn : n ≤ 1099511627774) (hroom : cap < n + 1)
    (hbase : base ≤ w.heap.size) (hv : w.heap[vb]? = some (.cells (pc r).toArray 56 (0, 0))) :
    Calls Try.prog 21 #[.slice (some ⟨g, 0, none⟩) n cap, .int .i64 (i : Int), .slice (some ⟨vb, 0, none⟩) 1 1] w fun e w' => ∃ G, e = .returned (.slice (some ⟨w.heap.size, 0, none⟩) (n + 1) G) ∧
      w'.ownsRow base 56 2 (.slice (some ⟨w.heap.size, 0, none⟩) (n + 1) G) (n + 1) (fl pc (l.take i ++ r :: l.drop i)) ∧ Only (fun k => w.heap.size ≤ k) w w' := by
  have hl : l.length = n := by have := hown.1; rw [fl_len pc2] at this; omega
  obtain ⟨g', cap', cur, e, hbg, hg, hnc, hcm, hcs, htk⟩ := own_open hown (by omega)
  injection e with e1 _ e3
  injection e1 with e1
  injection e1 with e1
  subst e1 e3
  have hcap : cap ≤ 9223372036854775807 := by unfold maxLen at hcm; omega
  have hgw : g < w.heap.size := (Array.getElem?_eq_some_iff.1 hg).1
  have hvw : vb < w.heap.size := (Array.getElem?_eq_some_iff.1 hv).1
  obtain ⟨i0, hi0, hz0, hzs, hzb⟩ := info_parts Try.infoR
  have hold : (Builtin.firstCells i0.size i (.slice (some ⟨g, 0, none⟩) i cap)).run Try.prog w.drew = .ok (fl pc (l.take i)).toArray w.drew := by
    rw [hzs]
    refine run_firstCells_some w.drew 2 i ⟨g, 0, none⟩ i cap (fl pc (l.take i)) (by rw [fl_len pc2, List.length_take]; congr 1; omega) (fun j u hj => ?_)
    rw [← fl_take pc2, List.getElem?_take] at hj
    split at hj
    · exact hown.cells (g := g) rfl j u hj
    · cases hj
  have hik : i + (n + 1 - i) = n + 1 := by omega
  have hrz := fun ty => Lib.run_append_grow_zeros (P := Try.prog) w 52 3 ty 56 i0 _ .i64 .i64 Try.underlying52 Try.underlying3 hi0 hz0 (some ⟨g, 0, none⟩) i cap (fl pc (l.take i)) hold (n + 1 - i) (by omega) (by omega) (by omega) (by omega) (by rw [hzb]; omega) (by rw [hzb, hik]; exact growslice_fits hroom (by omega))
  rw [hik] at hrz
  obtain ⟨G, hG⟩ : ∃ G, grownCap w (n + 1) cap 56 = G := ⟨_, rfl⟩
  have hGn : n + 1 ≤ G := by rw [← hG]; exact grownCap_ge w _ _ _
  have hGm : G ≤ maxLen := by rw [← hG]; exact grownCap_le_maxLen w (n + 1) cap _ (by unfold maxLen; omega)
  have hG63 : G ≤ 9223372036854775807 := by unfold maxLen at hGm; omega
  rw [hG] at hrz
  obtain ⟨ROW, hROW⟩ : ∃ ROW : Array Value, (fl pc (l.take i)).toArray ++ Builtin.zeroCells (Value.agg #[.int .u64 0, .int .i64 0]).cells (n + 1 - i) ++ Builtin.zeroCells (Value.agg #[.int .u64 0, .int .i64 0]).cells (G - (n + 1)) = ROW := ⟨_, rfl⟩
  rw [hROW] at hrz
  have hfl : (fl pc (l.take i)).length = i * 2 := by rw [fl_len pc2, List.length_take]; congr 1; omega
  have hRs : ROW.size = G * 2 := by
    rw [← hROW]
    simp [Builtin.zeroCells, Value.cells, hfl]
    omega
  have hRt : ROW.toList.take (i * 2) = fl pc (l.take i) := by
    rw [← hROW]
    simp only [Array.toList_append, List.append_assoc]
    rw [List.take_append_of_le_length (by simp [hfl]), List.take_of_length_le (by simp [hfl])]
  obtain ⟨l1, l2, lt⟩ := grow_cells (l := l) (cur := ROW.toList) (n := n) (i := i) r hl hi hRt (by rw [Array.length_toList, hRs]; omega)
  obtain ⟨W1, hW1⟩ : ∃ W1, w.drew.alloc (.cells ROW 56) = W1 := ⟨_, rfl⟩
  rw [hW1] at hrz
  have hN : W1.heap[w.heap.size]? = some (.cells ROW 56 (0, 0)) := by
    rw [← hW1]
    show (w.heap.push _)[w.heap.size]? = _
    exact Array.getElem?_push_size
  have hO : ∀ k, k < w.heap.size → W1.heap[k]? = w.heap[k]? := by
    intro k hk
    rw [← hW1]
    show (w.heap.push _)[k]? = _
    rw [Array.getElem?_push_lt hk, Array.getElem?_eq_getElem hk]
  obtain ⟨N, hNe⟩ : ∃ N, w.heap.size = N := ⟨_, rfl⟩
  have W1only : Only (fun k => N ≤ k) w W1 := by
    rw [← hW1]
    exact Only.mono (Only.ofBelow ((Below.refl _ w).drew.alloc (Nat.le_refl _) _)) fun k _ h => by omega
  rw [hNe] at hrz hN hO hgw hvw ⊢
  have hcp1 := fun ty dc => run_copy_blk (P := Try.prog) W1 52 52 ty 56 i0 Try.underlying52 hi0 N (i * 2) (n + 1 - i) dc ⟨vb, 0, none⟩ 1 1 (pc r) ROW hN
    (by rw [pc2, hzs, show Nat.min 1 (n + 1 - i) = 1 from Nat.min_eq_left (by omega)])
    (vb_cells (by rw [hO _ hvw]; exact hv))
    (by rw [pc2, hRs]; omega) (by intro u hu; exact pc_one [r] u (by simpa [fl] using hu))
  obtain ⟨c1, hc1⟩ : ∃ c1, ROW.toList.take (i * 2) ++ pc r ++ ROW.toList.drop (i * 2 + (pc r).length) = c1 := ⟨_, rfl⟩
  simp only [hc1] at hcp1 l1 l2 lt
  obtain ⟨W2, hW2⟩ : ∃ W2, W1.setRow N c1.toArray = W2 := ⟨_, rfl⟩
  rw [hW2] at hcp1
  have hN2 : W2.heap[N]? = some (.cells c1.toArray 56 (0, 0)) := by rw [← hW2]; exact setRow_heap _ _ _ _ _ _ hN
  have hO2 : ∀ k, k < N → W2.heap[k]? = w.heap[k]? := by
    intro k hk
    rw [← hW2, setRow_other _ _ _ _ (by omega)]
    exact hO k hk
  have W2only : Only (fun k => N ≤ k) w W2 := by
    rw [← hW2]
    exact W1only.trans (Only.ofRow (S := fun k => N ≤ k) (Nat.le_refl _) _)
  have hcp2 := fun ty dc sc => run_copy_blk (P := Try.prog) W2.drew 52 52 ty 56 i0 Try.underlying52 hi0 N ((i + 1) * 2) (n - i) dc ⟨g, i * 2, none⟩ (n - i) sc (fl pc (l.drop i)) c1.toArray hN2
    (by rw [fl_len pc2, List.length_drop, hl, hzs, show Nat.min (n - i) (n - i) = n - i from Nat.min_eq_left (by omega)])
    (fun j u hj => by
      rw [← fl_drop pc2, List.getElem?_drop] at hj
      have := hown.cells (g := g) rfl (i * 2 + j) u hj
      rw [Addr.add_lit, Nat.zero_add] at this
      rw [Addr.add_lit, ← this]
      exact World.cell?_of_block (hO2 g hgw))
    (by rw [fl_len pc2, List.length_drop, hl, List.size_toArray, l1, Array.length_toList, hRs]; omega) (pc_one _)
  obtain ⟨c2, hc2⟩ : ∃ c2, c1.take ((i + 1) * 2) ++ fl pc (l.drop i) ++ c1.drop ((i + 1) * 2 + (fl pc (l.drop i)).length) = c2 := ⟨_, rfl⟩
  simp only [hc2] at hcp2 l2 lt
  obtain ⟨W3, hW3⟩ : ∃ W3, W2.drew.setRow N c2.toArray = W3 := ⟨_, rfl⟩
  rw [hW3] at hcp2
  have END : Hid (W3.ownsRow base 56 2 (.slice (some ⟨N, 0, none⟩) (n + 1) G) (n + 1) (fl pc (l.take i ++ r :: l.drop i)) ∧ Only (fun k => N ≤ k) w W3) := by
    rw [← hW3]
    exact ⟨own_setRow (w := W2.drew) hN2 (by omega) hGn hGm (by rw [List.size_toArray, l2, Array.length_toList, hRs]) lt, W2only.drew.trans (Only.ofRow (S := fun k => N ≤ k) (Nat.le_refl _) _)⟩
  have hz2 : ¬ ((i : Int) = (n : Int)) := by omega
  have hw1 : IntKind.i64.wrap ((i : Int) + 1) = (i : Int) + 1 := by rw [IntKind.wrap_i64]; omega
  have hw3 : IntKind.i64.wrap ((n : Int) + 1) = (n : Int) + 1 := by rw [IntKind.wrap_i64]; omega
  have hw4 : IntKind.i64.wrap ((n : Int) + 1 - (i : Int)) = ((n + 1 - i : Nat) : Int) := by rw [IntKind.wrap_i64]; omega
  have hb1 : (0 : Int) ≤ (i : Int) + 1 := by omega
  have hin : i ≤ n := by omega
  have htn : ((i : Int) + 1).toNat = i + 1 := by omega
  have hgt : (cap : Int) < (n : Int) + 1 := by omega
  have hb4 : ¬ (cap = i) := by omega
  have hb5 : ¬ (G = i) := by omega
  have hb6 : ¬ (G = i + 1) := by omega
  have hb7 : ¬ (cap < i) := by omega
  have hb8 : ¬ (G < n + 1) := by omega
  have hb9 : ¬ (n + 1 < i) := by omega
  have hb10 : ¬ (n + 1 < i + 1) := by omega
  have HRZ := Lib.hid hrz
  have HC1 := Lib.hid hcp1
  have HC2 := Lib.hid hcp2
  clear hik hold hG hRs hRt l1 l2 lt hN hO hN2 hO2 W1only W2only hROW hW1 hW2 hW3 hown hcs htk hl hv hg hfl hi0 hz0 hzs hzb hc1 hc2 hGm hcm hrz hcp1 hcp2
  go_enter Try.func21, Try.ntmps21
  go_wp2_with (first
    | (at_builtin; refine wpList_known rfl (fun hK => wp_append_known (.tmp 34) (.tmp 39) 52 3 rfl rfl rfl (HRZ.out _) hK) ?_)
    | (refine wpList_known rfl (fun hK => wp_copy_known (.tmp 43) (.tmp 44) 52 52 rfl rfl rfl (HC1.out _ _) hK) ?_))
  go_still_tail 8, (by kernel_rfl)
  refine wpList_known rfl (fun hK => wp_copy_known (.tmp 50) (.tmp 53) 52 52 rfl rfl rfl (HC2.out _ _ _) hK) ?_
  go_wp2
  go_ret
  exact ⟨G, rfl, END.out⟩
theorem insert_any (base : Nat) (v : Value) (n : Nat) (l : List Rw) (i : Nat) (r : Rw) (vb : Nat) (w : World) (hown : w.ownsRow base 56 2 v n (fl pc l)) (hi : i ≤ n) (hn : n ≤ 1099511627774) (hbase : base ≤ w.heap.size)
    (hv : w.heap[vb]? = some (.cells (pc r).toArray 56 (0, 0))) (hne : ∀ k, v.ownBlock = some k → vb ≠ k) :
    Calls Try.prog 21 #[v, .int .i64 (i : Int), .slice (some ⟨vb, 0, none⟩) 1 1] w fun e w' => ∃ v', e = .returned v' ∧
      w'.ownsRow base 56 2 v' (n + 1) (fl pc (l.take i ++ r :: l.drop i)) ∧ Only (fun k => v.ownBlock = some k) w w' ∧ Near w v v' := by
  have hl : l.length = n := by have := hown.1; rw [fl_len pc2] at this; omega
  rcases Nat.lt_or_ge i n with h | h
  · obtain ⟨g, cap, cur, rfl, hbg, hg, hnc, hcm, hcs, htk⟩ := own_open hown (by omega)
    rcases Nat.lt_or_ge cap (n + 1) with hr | hr
    · refine (insert_grow base g cap n l i r vb w hown h hn hr hbase hv).mono ?_
      rintro e w' ⟨G, rfl, o, t⟩
      exact ⟨_, rfl, o, t.mono fun k hk h => absurd (show w.heap.size ≤ k from h) (by omega), fun k hk => .inr (by have hk : some w.heap.size = some k := hk; injection hk with hk; omega)⟩
    · refine (insert_shift base g cap n l i r vb w hown h hn hr hv (hne g rfl)).mono ?_
      rintro e w' ⟨rfl, o, t⟩
      exact ⟨_, rfl, o, t.mono fun k _ h => by rw [h]; rfl, fun k hk => .inl hk⟩
  · obtain rfl : i = n := by omega
    rw [List.take_of_length_le (by omega), List.drop_of_length_le (by omega)]
    exact insert_end base v i l r vb w hown hn hbase hv
end Go.Proofs.Ytlbhiiciajfphaa
