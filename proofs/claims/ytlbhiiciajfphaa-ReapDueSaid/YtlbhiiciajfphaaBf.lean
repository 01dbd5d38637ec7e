/-
  What the library's Delete does of a row of the program's rows that one owns. Conditions: lengths fit.
-/
import Derived.Test.YtlbhiiciajfphaaBe
namespace Go.Proofs.Ytlbhiiciajfphaa
open Go.RowKit Go.Sort

theorem Try.infoR : (Try.prog.info? 56).map (fun i => (i.zero, i.size, i.bytes)) = some (some (.agg #[.int .u64 0, .int .i64 0]), 2, 16) := by kernel_rfl
theorem Try.zeroR (w : World) : (zeroValue 56).run Try.prog w = .ok (.agg #[.int .u64 0, .int .i64 0]) w := by kernel_rfl
theorem pc_one (l : List Rw) : ∀ u ∈ fl pc l, u.oneCell' = true := by
  intro u hu
  simp only [fl, List.mem_flatMap] at hu
  obtain ⟨x, _, hx⟩ := hu
  simp [pc] at hx
  rcases hx with rfl | rfl <;> rfl
/-- An owned row's block. -/
theorem own_open {w : World} {base e s n : Nat} {v : Value} {xs : List Value} (h : w.ownsRow base e s v n xs) (hn : 0 < n) :
    ∃ g cap cur, v = .slice (some ⟨g, 0, none⟩) n cap ∧ base ≤ g ∧ w.heap[g]? = some (.cells cur e (0, 0)) ∧ n ≤ cap ∧ cap ≤ maxLen ∧ cur.size = cap * s ∧ cur.toList.take (n * s) = xs := by
  rcases h.2 with ⟨_, e⟩ | h
  · omega
  · exact h
theorem own_setRow {w : World} {base e s n' cap g : Nat} {cur arr : Array Value} {xs : List Value} (hg : w.heap[g]? = some (.cells cur e (0, 0))) (hb : base ≤ g) (hn : n' ≤ cap) (hc : cap ≤ maxLen) (hs : arr.size = cap * s) (ht : arr.toList.take (n' * s) = xs) :
    (w.setRow g arr).ownsRow base e s (.slice (some ⟨g, 0, none⟩) n' cap) n' xs := by
  refine ⟨?_, .inr ⟨g, cap, arr, rfl, hb, setRow_heap _ _ _ _ _ _ hg, hn, hc, hs, ht⟩⟩
  rw [← ht, List.length_take, Array.length_toList, hs]
  exact Nat.min_eq_left (Nat.mul_le_mul_right _ hn)
theorem Only.ofRow {S : Nat → Prop} {w : World} {g : Nat} (hS : S g) (arr : Array Value) : Only S w (w.setRow g arr) :=
  ⟨rfl, rfl, rfl, by simp, fun k _ hn => setRow_other _ _ _ _ fun e => hn (e ▸ hS)⟩
theorem Only.drew {S : Nat → Prop} {w w' : World} (h : Only S w w') : Only S w w'.drew := ⟨h.os, h.tape, h.output, h.size, h.block⟩
theorem run_append_row (w : World) (ty : TypeId) (g i cap : Nat) (cur : Array Value) (hg : w.heap[g]? = some (.cells cur 56 (0, 0))) (ad : Addr) (m c : Nat) (xs : List Rw) (hm : xs.length = m) (hx : ∀ j u, (fl pc xs)[j]? = some u → w.cell? (ad.add j) = some u) (hroom : i + m ≤ cap) (hs : cur.size = cap * 2) :
    (Builtin.append_ #[52, 52] ty #[.slice (some ⟨g, 0, none⟩) i cap, .slice (some ad) m c]).run Try.prog w =
      .ok (.slice (some ⟨g, 0, none⟩) (i + m) cap) (w.setRow g (cur.toList.take (i * 2) ++ fl pc xs ++ cur.toList.drop ((i + m) * 2)).toArray) := by
  obtain ⟨i0, hi, hz0, hz1, hz2⟩ := info_parts Try.infoR
  have h := run_append_room (P := Try.prog) w 52 ty 56 i0 Try.underlying52 hi g i cap cur hg ad m c (fl pc xs) (by rw [fl_len pc2, hm, hz1]) hx (pc_one xs) hroom (by rw [fl_len pc2, hm, hz1, hs]; omega)
  rw [h, hz1, fl_len pc2, hm, show i * 2 + m * 2 = (i + m) * 2 by omega]
set_option maxRecDepth 100000 in
set_option maxHeartbeats 4000000 in
theorem delete_any (base : Nat) (v : Value) (n : Nat) (l : List Rw) (i j : Nat) (w : World) (hown : w.ownsRow base 56 2 v n (fl pc l)) (hij : i < j) (hj : j ≤ n) (hn : n ≤ 1099511627776) :
    Calls Try.prog 22 #[v, .int .i64 (i : Int), .int .i64 (j : Int)] w fun e w' => ∃ v', e = .returned v' ∧ v'.ownBlock = v.ownBlock ∧
      w'.ownsRow base 56 2 v' (i + (n - j)) (fl pc (l.take i ++ l.drop j)) ∧ Only (fun k => v.ownBlock = some k) w w' := by
  have hl : l.length = n := by have := hown.1; rw [fl_len pc2] at this; omega
  obtain ⟨g, cap, cur, rfl, hbg, hg, hnc, hcm, hcs, htk⟩ := own_open hown (by omega)
  have hcap : cap ≤ 9223372036854775807 := by unfold maxLen at hcm; omega
  go_enter Try.func22, Try.ntmps22
  go_upto_region 5 with fail
  refine wp_region_held_drew (S := fun _ => True) (by kernel_rfl) trivial (fun hHeld => ?_)
  have hgd : w.drew.heap[g]? = some (.cells cur 56 (0, 0)) := hg
  have q1 : ¬ cap < i := by omega
  have q2 : ¬ n < j := by omega
  obtain ⟨ad, had, hadj⟩ : ∃ ad : Addr, (if cap = j then some (⟨g, 0, none⟩ : Addr) else some ⟨g, j * 2, none⟩) = some ad ∧ (cap ≠ j → ad = ⟨g, j * 2, none⟩) := by
    by_cases hcj : cap = j
    · exact ⟨_, if_pos hcj, fun h => absurd hcj h⟩
    · exact ⟨_, if_neg hcj, fun _ => rfl⟩
  have HAD := Lib.hid had
  have HADJ := Lib.hid hadj
  clear had hadj
  refine held_take 0 20 (v := .slice (some ⟨g, 0, none⟩) n cap) rfl rfl (by kernel_rfl) (by kernel_rfl) (by kernel_rfl) (by rfl) (fun _ _ _ h => h) (by assumption) ?_ ?_
  · intro W hW
    go_simp
  simp only [List.setIfInBounds_toArray, List.set_cons_zero, List.set_cons_succ]
  refine held_take 1 21 (v := .int .i64 (i : Int)) rfl rfl (by kernel_rfl) (by kernel_rfl) (by kernel_rfl) (by rfl) (fun _ _ _ h => h) (by assumption) ?_ ?_
  · intro W hW
    go_simp
  simp only [List.setIfInBounds_toArray, List.set_cons_zero, List.set_cons_succ]
  refine held_take 2 22 (v := .slice (some ⟨g, 0, none⟩) i cap) rfl rfl (by kernel_rfl) (by kernel_rfl) (by kernel_rfl) (by rfl) (fun _ _ _ h => h) (by assumption) ?_ ?_
  · intro W hW
    go_simp
  simp only [List.setIfInBounds_toArray, List.set_cons_zero, List.set_cons_succ]
  refine held_take 3 23 (v := .slice (some ⟨g, 0, none⟩) n cap) rfl rfl (by kernel_rfl) (by kernel_rfl) (by kernel_rfl) (by rfl) (fun _ _ _ h => h) (by assumption) ?_ ?_
  · intro W hW
    go_simp
  simp only [List.setIfInBounds_toArray, List.set_cons_zero, List.set_cons_succ]
  refine held_take 4 24 (v := .int .i64 (j : Int)) rfl rfl (by kernel_rfl) (by kernel_rfl) (by kernel_rfl) (by rfl) (fun _ _ _ h => h) (by assumption) ?_ ?_
  · intro W hW
    go_simp
  simp only [List.setIfInBounds_toArray, List.set_cons_zero, List.set_cons_succ]
  refine held_take 5 25 (v := .slice (if cap = j then some ⟨g, 0, none⟩ else some ⟨g, j * 2, none⟩) (n - j) (cap - j)) rfl rfl (by kernel_rfl) (by kernel_rfl) (by kernel_rfl) (by rfl) (fun _ _ _ h => h) (by assumption) ?_ ?_
  · intro W hW
    go_simp
  simp only [List.setIfInBounds_toArray, List.set_cons_zero, List.set_cons_succ]
  rw [HAD.out]
  refine held_op 6 rfl (by kernel_rfl) (by rfl) ?_
  refine wp_append_known (.tmp 22) (.tmp 25) 52 52 rfl rfl rfl (run_append_row w.drew _ g i cap cur hgd ad (n - j) (cap - j) (l.drop j) (by rw [List.length_drop, hl]) ?_ (by omega) hcs) ⟨trivial, ?_⟩
  · intro k u hu
    have hk : k < (fl pc (l.drop j)).length := by
      rcases Nat.lt_or_ge k (fl pc (l.drop j)).length with h1 | h1
      · exact h1
      · rw [List.getElem?_eq_none h1] at hu; cases hu
    rw [fl_len pc2, List.length_drop, hl] at hk
    rw [HADJ.out (by omega)]
    have := hown.cells (g := g) rfl (j * 2 + k) u (by rw [← fl_drop pc2, List.getElem?_drop] at hu; exact hu)
    rw [← this]
    show w.cell? _ = _
    rw [Addr.add_lit, Addr.add_lit, Nat.zero_add]
  refine held_op 7 rfl (by kernel_rfl) (by rfl) ?_
  refine wp_run (v := .slice (some ⟨g, 0, none⟩) (i + (n - j)) cap) (w' := w.drew.setRow g (cur.toList.take (i * 2) ++ fl pc (l.drop j) ++ cur.toList.drop ((i + (n - j)) * 2)).toArray) rfl (by go_simp) ⟨trivial, ?_⟩
  simp only [List.setIfInBounds_toArray, List.set_cons_zero, List.set_cons_succ]
  refine wpAnyH_done (by kernel_rfl) ?_ _
  obtain ⟨k, hk⟩ : ∃ k, i + (n - j) = k := ⟨_, rfl⟩
  have HK := Lib.hid hk
  rw [hk]
  have hkn : k < n := by omega
  have q3 : ¬ cap = k := by omega
  have q4 : ¬ cap < k := by omega
  have q5 : ¬ n < k := by omega
  have q6 : ¬ cap < n := by omega
  have hgd1 : (w.drew.setRow g (cur.toList.take (i * 2) ++ fl pc (l.drop j) ++ cur.toList.drop (k * 2)).toArray).heap[g]? = some (.cells _ 56 (0, 0)) := setRow_heap _ _ _ _ _ _ hgd
  have hsz : (cur.toList.take (i * 2) ++ fl pc (l.drop j)).length = k * 2 := by
    rw [List.length_append, List.length_take, Array.length_toList, hcs, fl_len pc2, List.length_drop, hl]
    omega
  have hszd : (cur.toList.drop (k * 2)).length = (cap - k) * 2 := by rw [List.length_drop, Array.length_toList, hcs]; omega
  obtain ⟨L1, hL1⟩ : ∃ L1, cur.toList.take (i * 2) ++ fl pc (l.drop j) = L1 := ⟨_, rfl⟩
  obtain ⟨L2, hL2⟩ : ∃ L2, cur.toList.drop (k * 2) = L2 := ⟨_, rfl⟩
  rw [hL1] at hsz
  rw [hL2] at hszd
  rw [hL1, hL2] at hgd1
  rw [hL1, hL2]
  have hL : Hid (L1 = fl pc (l.take i ++ l.drop j)) := by
    show _ = _
    rw [← hL1, fl_app, ← fl_take pc2, ← htk, List.take_take, Nat.min_eq_left (by omega)]
  have hz : (Builtin.zeroCells (Value.agg #[.int .u64 0, .int .i64 0]).cells (n - k)).toList.length = (n - k) * 2 := by simp [Builtin.zeroCells, Value.cells]
  have hz1 : ∀ v ∈ (Builtin.zeroCells (Value.agg #[.int .u64 0, .int .i64 0]).cells (n - k)).toList, v.oneCell' = true := by
    intro v hv
    rw [Array.mem_toList_iff] at hv
    unfold Builtin.zeroCells at hv
    rw [Array.mem_map] at hv
    obtain ⟨t, _, rfl⟩ := hv
    have h2 : t % 2 = 0 ∨ t % 2 = 1 := by omega
    rcases h2 with h2 | h2 <;> (simp only [Value.cells, List.size_toArray, List.length_cons, List.length_nil, Nat.zero_add, Nat.reduceAdd, h2]; rfl)
  have hclr := run_clear_blk (P := Try.prog) (w.drew.setRow g (L1 ++ L2).toArray) 52 56 0 (.agg #[.int .u64 0, .int .i64 0]) Try.underlying52 Try.zeroR g (k * 2) (n - k) (cap - k) _ hgd1 (by omega) (by rw [← Array.length_toList, hz]; simp [hsz, hszd]; omega) hz1
  have R : Hid (((w.drew.setRow g (L1 ++ L2).toArray).setRow g ((L1 ++ L2).toArray.toList.take (k * 2) ++ (Builtin.zeroCells (Value.agg #[.int .u64 0, .int .i64 0]).cells (n - k)).toList ++ (L1 ++ L2).toArray.toList.drop (k * 2 + (Builtin.zeroCells (Value.agg #[.int .u64 0, .int .i64 0]).cells (n - k)).toList.length)).toArray).ownsRow base 56 2 (.slice (some ⟨g, 0, none⟩) k cap) k (fl pc (l.take i ++ l.drop j))) := by
    refine own_setRow hgd1 hbg (by omega) hcm ?_ ?_
    · rw [← Array.length_toList, hz]
      simp [hsz, hszd, Value.cells, Builtin.zeroCells]
      omega
    · rw [← hL.out]
      simp [hsz]
  have T : Hid (Only (fun q => (Value.slice (some ⟨g, 0, none⟩) n cap).ownBlock = some q) w ((w.drew.setRow g (L1 ++ L2).toArray).setRow g ((L1 ++ L2).toArray.toList.take (k * 2) ++ (Builtin.zeroCells (Value.agg #[.int .u64 0, .int .i64 0]).cells (n - k)).toList ++ (L1 ++ L2).toArray.toList.drop (k * 2 + (Builtin.zeroCells (Value.agg #[.int .u64 0, .int .i64 0]).cells (n - k)).toList.length)).toArray)) :=
    (show Only _ _ _ from ((Only.refl _ _).drew.trans (Only.ofRow (by rfl) _)).trans (Only.ofRow (by rfl) _))
  clear hL1 hL2 hL hown hg hgd hgd1 hz hz1 htk hcs hsz hszd
  generalize ((w.drew.setRow g (L1 ++ L2).toArray).setRow g ((L1 ++ L2).toArray.toList.take (k * 2) ++ (Builtin.zeroCells (Value.agg #[.int .u64 0, .int .i64 0]).cells (n - k)).toList ++ (L1 ++ L2).toArray.toList.drop (k * 2 + (Builtin.zeroCells (Value.agg #[.int .u64 0, .int .i64 0]).cells (n - k)).toList.length)).toArray) = w2 at *
  generalize w.drew.setRow g (L1 ++ L2).toArray = w1 at *
  go_wp2_with fail
  go_ret
  exact ⟨_, rfl, rfl, by rw [HK.out]; exact R.out, T.out⟩
set_option maxRecDepth 100000 in
theorem delete_none (base : Nat) (v : Value) (n : Nat) (xs : List Value) (w : World) (hown : w.ownsRow base 56 2 v n xs) (hn : n ≤ 1099511627776) :
    Calls Try.prog 22 #[v, .int .i64 0, .int .i64 0] w fun e w' => e = .returned v ∧ w' = w := by
  rcases hown.2 with ⟨rfl, rfl⟩ | ⟨g, cap, cur, rfl, _, _, hnc, hcm, _, _⟩
  · clear hown
    go_enter Try.func22, Try.ntmps22
    go_wp2
    go_ret
    exact ⟨rfl, rfl⟩
  · have hcap : cap ≤ 9223372036854775807 := by unfold maxLen at hcm; omega
    have q6 : ¬ cap < n := by omega
    clear hown
    go_enter Try.func22, Try.ntmps22
    go_wp2
    go_ret
    exact ⟨rfl, rfl⟩
end Go.Proofs.Ytlbhiiciajfphaa
