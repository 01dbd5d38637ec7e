/-
  What the reference's Rank does: any values in their rank (Fm.IsRank). Conditions: words have 64 bits; the length fits.
-/
import Derived.Test.YtmdpeifpgnkbiaaDoorRx
import Derived.Test.YtmdpeifpgnkbiaaDoorRh
import Derived.Laws.OwnMore
namespace Go.Proofs.YtmdpeifpgnkbiaaDoor
open Go.RowKit

theorem Tryd.infoI : (Tryd.prog.info? 3).map (fun i => (i.zero, i.size, i.bytes)) = some (some (.int .i64 0), 1, 8) := by kernel_rfl
theorem in64_one (l : List Nat) : ∀ u ∈ in64 l, u.oneCell' = true := by
  intro u hu
  simp only [in64, List.mem_map] at hu
  obtain ⟨_, _, rfl⟩ := hu
  rfl
theorem in64_app (a b : List Nat) : in64 (a ++ b) = in64 a ++ in64 b := by simp [in64]
/-- append(v, l...) of ints: v is one's own, l is read. -/
theorem wp_appR {o : Oper} {a : Act} {w : World} {K : Act → World → Prop} {Q : Exit → Act → World → Prop} (s x : Operand) (ho : o.op = .call { callee := .builtin .append, args := #[s, x], argTypes := #[24, 24] })
    (base : Nat) (v : Value) (n : Nat) (xs : List Nat) (hs : a.eval s = v) (hown : w.ownsRow base 3 1 v n (in64 xs)) (A : Option Addr) (L c : Nat) (l : List Nat) (hx : a.eval x = .slice A L c) (hL : l.length = L) (hA : A = none → c = 0) (hr : IsRow1 w A (in64 l))
    (hlen : n + L ≤ 1099511627776) (hbase : base ≤ w.heap.size)
    (h : ∀ v' w', w'.ownsRow base 3 1 v' (n + L) (in64 (xs ++ l)) → w.grownBy w' v.ownBlock → K (a.put o.dst v') w') : o.wp Tryd.prog a w K Q := by
  obtain ⟨i0, hi, hz0, hz1, hz2⟩ := info_parts Tryd.infoI
  subst hL
  rcases A with _ | ad
  · obtain rfl := hA rfl
    have hl0 : l = [] := by
      rcases Nat.eq_zero_or_pos l.length with h0 | h0
      · exact List.eq_nil_of_length_eq_zero h0
      · obtain ⟨_, _, e, _⟩ := hr (by rw [in64_len]; exact h0); cases e
    subst hl0
    have hrun := run_append_owned_none (P := Tryd.prog) (w := w) base 24 o.type 3 i0 1 Tryd.underlying24 hi v n _ hown
    have hx' : a.eval x = .slice none 0 0 := hx
    unfold Oper.wp
    simp [execOp, ho, resolve, invoke, builtin, hs, hx', hrun, Result.andThen]
    exact h v w (by simpa using hown) (World.grownBy.refl w _)
  · have hcells : ∀ j u, (in64 l)[j]? = some u → w.cell? (ad.add j) = some u := by
      intro j u hu
      have hj : j < (in64 l).length := by
        rcases Nat.lt_or_ge j (in64 l).length with h1 | h1
        · exact h1
        · rw [List.getElem?_eq_none h1] at hu; cases hu
      obtain ⟨b, off, e, hc⟩ := hr (by omega)
      injection e with e
      subst e
      have e2 : (⟨b, off, none⟩ : Addr).add j = ⟨b, off + j, none⟩ := by unfold Addr.add; split <;> simp_all
      rw [e2, hc j hj, hu]
    refine wp_append_own w s x 24 ho base 3 i0 (.int .i64 0) 1 8 Tryd.underlying24 hi hz0 hz1 hz2 rfl (by decide) v n _ hs hown ad l.length c (in64 l) hx (by rw [in64_len]; simp) hcells (in64_one l) (by unfold maxLen; omega) (by omega) hbase ?_
    intro v' w' h1 h2 _
    exact h v' w' (by rw [in64_app]; exact h1) h2
theorem cut_lo (W : World) (g k c m : Nat) (hm : m ≤ c) : (Instr.slice 24 (.slice (some ⟨g, 0, none⟩) k c) none (some (.int .i64 (m : Int))) none).run Tryd.prog W = .ok (.slice (some ⟨g, 0, none⟩) m c) W := by
  obtain ⟨i0, hi, hz0, hz1, hz2⟩ := info_parts Tryd.infoI
  simp [Instr.slice, Instr.sliceBounds, Instr.sliceBound, run_underlying Tryd.underlying24, asIntOf, sizeOf, typeInfo, hi, go_sem]
  intro h; omega
theorem cut_hi (W : World) (g k c m : Nat) (hm : m ≤ k) : (Instr.slice 24 (.slice (some ⟨g, 0, none⟩) k c) (some (.int .i64 (m : Int))) none none).run Tryd.prog W = .ok (.slice (some (if c = m then ⟨g, 0, none⟩ else ⟨g, m, none⟩)) (k - m) (c - m)) W := by
  obtain ⟨i0, hi, hz0, hz1, hz2⟩ := info_parts Tryd.infoI
  simp [Instr.slice, Instr.sliceBounds, Instr.sliceBound, run_underlying Tryd.underlying24, asIntOf, sizeOf, typeInfo, hi, hz1, go_sem]
  by_cases hc : c = m
  · simp [hc]; intro h; omega
  · simp [hc]; intro h; omega
theorem own_row {w : World} {base n cap : Nat} {g : Nat} {l : List Nat} (h : w.ownsRow base 3 1 (.slice (some ⟨g, 0, none⟩) n cap) n (in64 l)) : l.length = n ∧ ∀ j, j < n → w.cell? ⟨g, j, none⟩ = some (.int .i64 ((l.getD j 0 : Nat) : Int)) := by
  have hl : l.length = n := by have := h.1; simpa [in64] using this
  refine ⟨hl, fun j hj => ?_⟩
  rw [h.cellAt (g := g) j (by omega)]
  simp [in64, List.getElem?_eq_getElem (show j < l.length by omega)]
theorem row_take {w : World} {g n : Nat} {l : List Nat} (hc : ∀ j, j < n → w.cell? ⟨g, j, none⟩ = some (.int .i64 ((l.getD j 0 : Nat) : Int))) (hl : l.length = n) (m : Nat) : IsRow1 w (some ⟨g, 0, none⟩) (in64 (l.take m)) := fun _ => ⟨g, 0, rfl, fun j hj => by
  have hj' : j < m ∧ j < n := by simp [in64] at hj; omega
  rw [Nat.zero_add, hc j hj'.2]
  simp [in64, hj'.1, List.getElem?_eq_getElem (show j < l.length by omega)]⟩
theorem row_drop {w : World} {g n c : Nat} {l : List Nat} (hc : ∀ j, j < n → w.cell? ⟨g, j, none⟩ = some (.int .i64 ((l.getD j 0 : Nat) : Int))) (hl : l.length = n) (m : Nat) (hcm : n ≤ c) : IsRow1 w (some (if c = m then ⟨g, 0, none⟩ else ⟨g, m, none⟩)) (in64 (l.drop m)) := fun hp => by
  have hmn : m < n := by simp [in64] at hp; omega
  rw [if_neg (by omega)]
  refine ⟨g, m, rfl, fun j hj => ?_⟩
  have hj' : m + j < n := by simp [in64] at hj; omega
  rw [hc (m + j) hj']
  simp [in64, List.getElem?_eq_getElem (show m + j < l.length by omega)]
theorem grown_size {x y : World} {q : Option Nat} (h : x.grownBy y q) : x.heap.size ≤ y.heap.size := h.size
theorem own_base {w : World} {b1 b2 n : Nat} {v : Value} {xs : List Value} (h : w.ownsRow b2 3 1 v n xs) (hb : b1 ≤ b2) : w.ownsRow b1 3 1 v n xs := by
  refine ⟨h.1, ?_⟩
  rcases h.2 with hn | ⟨g, cap, cur, e, hg, rest⟩
  · exact .inl hn
  · exact .inr ⟨g, cap, cur, e, by omega, rest⟩
theorem lit_row (w : World) (x : Int) : ∀ j u, [Value.int .i64 x][j]? = some u → (w.alloc (.cells #[.int .i64 x] 3)).cell? ((⟨w.heap.size, 0, none⟩ : Addr).add j) = some u := by
  intro j u hu
  have e : (⟨w.heap.size, 0, none⟩ : Addr).add j = ⟨w.heap.size, j, none⟩ := by unfold Addr.add; split <;> simp_all
  rw [e, cell_of_row _ w.heap.size j _ 3 (0, 0) (heap_alloc_new w _)]
  simpa using hu
theorem lit_one (w : World) (k : Nat) : IsRow1 (w.alloc (.cells #[.int .i64 (k : Int)] 3)) (some ⟨w.heap.size, 0, none⟩) (in64 [k]) := fun _ => ⟨w.heap.size, 0, rfl, fun j hj => by
  rw [cell_of_row _ w.heap.size (0 + j) _ 3 (0, 0) (heap_alloc_new w _)]
  simp [in64]⟩

/-- What the outer loop keeps. -/
structure Rk (w : World) (l : List Nat) (k : Nat) (out : List Nat) (v : Value) (wr : World) : Prop where
  ko : wr.ownsRow w.heap.size 3 1 v k (in64 out)
  kp : out.Perm (List.range k)
  ks : out.Pairwise (Fm.R l)
  kb : Below w.heap.size w wr

set_option maxRecDepth 100000 in
set_option maxHeartbeats 2000000 in
theorem rrank_any (l : List Nat) (A : Option Addr) (cap : Nat) (w : World) (hl : l.length ≤ 1048576) (hw : ∀ x ∈ l, Fm.W x) (ha : IsRow1 w A (fl64 l)) :
    Calls Tryd.prog 35 #[.slice A l.length cap] w fun e w' => (∃ (r : List Nat) (v : Value), Fm.IsRank l r ∧ e = .returned v ∧ w'.ownsRow w.heap.size 3 1 v r.length (in64 r)) ∧ Below w.heap.size w w' := by
  have HA := Lib.hid ha
  have HW := Lib.hid hw
  clear ha hw
  generalize hn : l.length = n at *
  have HN := Lib.hid hn
  clear hn
  go_enter Tryd.func35, Tryd.ntmps35
  go_wp2
  go_loopw [3, 4] (fun v i wr => ∃ (k : Nat) (out : List Nat), k ≤ n ∧ i = .int .i64 (k : Int) ∧ Rk w l k out v wr) (fun _ i _ => n - (intOf i).toNat)
  case atStart => exact ⟨0, [], by omega, rfl, World.ownsRow_nil _ _ _ _, List.Perm.refl _, List.Pairwise.nil, Below.refl _ _⟩
  case round =>
    obtain ⟨k, out, hk, rfl, T⟩ := hrel
    have HT := Lib.hid T
    by_cases hkn : k < n
    · obtain ⟨b, off, rfl, hc⟩ := HA.out (by rw [fl64_len, HN.out]; omega)
      have HC : Hid (∀ W, Below w.heap.size w W → ∀ j, j < n → W.cell? ⟨b, off + j, none⟩ = some (.float .f64 (l.getD j 0))) := fun W hW j hj => by
        obtain ⟨b', off', e, hc'⟩ := (HA.out.below hW) (by rw [fl64_len, HN.out]; omega)
        injection e with e; injection e with e1 e2
        subst e1 e2
        exact fl64_cell hc' (by rw [HN.out]; exact hj)
      clear hc
      rcases T.ko.2 with ⟨rfl, rfl⟩ | ⟨g, c, cur, rfl, hbg, hgh, hkc, _, _, _⟩
      · have HO : Hid (out = []) := List.Perm.eq_nil HT.out.kp
        have kb := T.kb
        clear T
        rename World => wo
        have e0 : ((0 : Nat) : Int) = (0 : Int) := rfl
        simp only [e0]
        clear e0
        go_wp2_with fail
        go_loopw [5] (fun nn W => nn = .int .i64 0 ∧ ∃ q, W = wo.drewN q) (fun nn _ => (intOf nn).toNat)
        case atStart => exact ⟨rfl, 0, rfl⟩
        case round =>
          obtain ⟨rfl, hq⟩ := hrel
          have HQ := Lib.hid hq
          clear hq
          have HB : Hid (Below w.heap.size w wr) := by obtain ⟨q, rfl⟩ := HQ.out; exact ⟨kb.os, kb.tape, kb.output, kb.size, kb.block⟩
          go_wp2
          go_quiet (fail)
          have b0q : Below w.heap.size w (wr.drewN nq) := ⟨HB.out.os, HB.out.tape, HB.out.output, HB.out.size, HB.out.block⟩
          generalize wr.drewN nq = wq at b0q ⊢
          have HST : Hid ((([] : List Nat).take 0 ++ 0 :: ([] : List Nat).drop 0).Perm (List.range (0 + 1)) ∧ (([] : List Nat).take 0 ++ 0 :: ([] : List Nat).drop 0).Pairwise (Fm.R l)) := ⟨List.Perm.refl _, List.pairwise_singleton _ _⟩
          have ROWT : Hid (∀ W, Below wq.heap.size wq W → IsRow1 W none (in64 (([] : List Nat).take 0))) := fun _ _ h => absurd h (by simp [in64])
          have ROWD : Hid (∀ W, Below wq.heap.size wq W → IsRow1 W none (in64 (([] : List Nat).drop 0))) := fun _ _ h => absurd h (by simp [in64])
          have ol : ([] : List Nat).length = 0 := rfl
          clear HO
          go_wp2_with fail
          refine wp_region_held_drew (S := fun W => Below wq.heap.size wq W) (by kernel_rfl) ((Below.refl _ _).drew) (fun hHeld => ?_)
          refine held_take 0 33 (v := (.slice none 0 0)) rfl rfl (by kernel_rfl) (by kernel_rfl) (by kernel_rfl) (by rfl) (fun _ _ _ h => h) (by assumption) ?_ ?_
          · intro W hW
            go_simp
          simp only [List.setIfInBounds_toArray, List.set_cons_zero, List.set_cons_succ]
          refine held_take 1 34 (v := (.int .i64 (0 : Int))) rfl rfl (by kernel_rfl) (by kernel_rfl) (by kernel_rfl) (by rfl) (fun _ _ _ h => h) (by assumption) ?_ ?_
          · intro W hW
            go_simp
          simp only [List.setIfInBounds_toArray, List.set_cons_zero, List.set_cons_succ]
          refine held_take 2 35 (v := (.slice none 0 0)) rfl rfl (by kernel_rfl) (by kernel_rfl) (by kernel_rfl) (by rfl) (fun _ _ _ h => h) (by assumption) ?_ ?_
          · intro W hW
            go_simp
          simp only [List.setIfInBounds_toArray, List.set_cons_zero, List.set_cons_succ]
          refine held_take 4 37 (v := (.int .i64 (0 : Int))) rfl rfl (by kernel_rfl) (by kernel_rfl) (by kernel_rfl) (by rfl) (fun _ _ _ h => h) (by assumption) ?_ ?_
          · intro W hW
            go_simp
          simp only [List.setIfInBounds_toArray, List.set_cons_zero, List.set_cons_succ]
          refine held_take 7 40 (v := (.slice none 0 0)) rfl rfl (by kernel_rfl) (by kernel_rfl) (by kernel_rfl) (by rfl) (fun _ _ _ h => h) (by assumption) ?_ ?_
          · intro W hW
            go_simp
          simp only [List.setIfInBounds_toArray, List.set_cons_zero, List.set_cons_succ]
          refine held_take 8 41 (v := (.int .i64 (0 : Int))) rfl rfl (by kernel_rfl) (by kernel_rfl) (by kernel_rfl) (by rfl) (fun _ _ _ h => h) (by assumption) ?_ ?_
          · intro W hW
            go_simp
          simp only [List.setIfInBounds_toArray, List.set_cons_zero, List.set_cons_succ]
          refine held_take 9 42 (v := (.slice none 0 0)) rfl rfl (by kernel_rfl) (by kernel_rfl) (by kernel_rfl) (by rfl) (fun _ _ _ h => h) (by assumption) ?_ ?_
          · intro W hW
            go_simp
          simp only [List.setIfInBounds_toArray, List.set_cons_zero, List.set_cons_succ]
          have dG : ∀ {x y : World} {q : Option Nat}, x.grownBy y q → x.heap.size ≤ y.heap.size := fun h => grown_size h
          refine held_two 3 5 rfl rfl (by kernel_rfl) (by rfl) (by rfl) ?_ ?_
          · refine wp_appR (.const (.slice none 0 0)) (.tmp 35) rfl wq.heap.size (.slice none 0 0) 0 [] rfl (World.ownsRow_nil _ _ _ _) _ 0 _ (([] : List Nat).take 0) rfl (by rw [List.length_take, ol]; omega) (fun _ => rfl) (ROWT.out wq.drew ((Below.refl _ _).drew)) (by omega) (Nat.le_refl _) ?_
            intro v1 w4 o1 g1
            have o1' : w4.ownsRow wq.heap.size 3 1 v1 0 (in64 (([] : List Nat).take 0)) := by simpa using o1
            have d1 : Below wq.heap.size wq w4 := ((Below.refl _ _).drew).grown g1 (Nat.le_refl _) (fun _ h => by cases h)
            refine ⟨d1, ?_⟩
            show wpAnyH _ _ _ _ _ _ _ ⟨Array.setIfInBounds _ 36 v1, _⟩ _
            simp only [List.setIfInBounds_toArray, List.set_cons_zero, List.set_cons_succ]
            have dZ : Below wq.heap.size wq (w4.alloc (.cells #[.int .i64 (0 : Int)] 3)) := d1.alloc d1.size _
            refine held_op 5 rfl (by kernel_rfl) (by rfl) ?_
            refine wp_run (v := .slice (some ⟨w4.heap.size, 0, none⟩) 1 1) (w' := w4.alloc (.cells #[.int .i64 (0 : Int)] 3)) rfl (by go_simp) ⟨dZ, ?_⟩
            simp only [List.setIfInBounds_toArray, List.set_cons_zero, List.set_cons_succ]
            have oZ : (w4.alloc (.cells #[.int .i64 (0 : Int)] 3)).ownsRow wq.heap.size 3 1 v1 0 (in64 (([] : List Nat).take 0)) := o1'.alloc _
            have hsZ : wq.heap.size ≤ (w4.alloc (.cells #[.int .i64 (0 : Int)] 3)).heap.size := dZ.size
            refine held_op 6 rfl (by kernel_rfl) (by rfl) ?_
            refine wp_appR (.tmp 36) (.tmp 38) rfl wq.heap.size v1 0 (([] : List Nat).take 0) rfl oZ (some ⟨w4.heap.size, 0, none⟩) 1 1 [0] rfl rfl (fun e => by cases e) (lit_one w4 0) (by omega) hsZ ?_
            clear o1 g1 o1' d1
            intro v2 w5 o2 g2
            have d2 : Below wq.heap.size wq w5 := dZ.grown g2 dZ.size (fun g hg => by have := own_ge oZ g hg; omega)
            refine ⟨d2, ?_⟩
            show wpAnyH _ _ _ _ _ _ _ ⟨Array.setIfInBounds _ 39 v2, _⟩ _
            simp only [List.setIfInBounds_toArray, List.set_cons_zero, List.set_cons_succ]
            have hs5 : wq.heap.size ≤ w5.heap.size := Nat.le_trans hsZ (dG g2)
            refine held_op 10 rfl (by kernel_rfl) (by rfl) ?_
            refine wp_appR (.tmp 39) (.tmp 42) rfl wq.heap.size v2 (0 + 1) (([] : List Nat).take 0 ++ [0]) rfl o2 _ (0 - 0) (0 - 0) (([] : List Nat).drop 0) rfl (by rw [List.length_drop, ol]) (fun _ => rfl) (ROWD.out w5 d2) (by omega) hs5 ?_
            intro v3 w6 o3 g3
            have d3 : Below wq.heap.size wq w6 := d2.grown g3 d2.size (fun g hg => by have := own_ge o2 g hg; omega)
            refine ⟨d3, ?_⟩
            show wpAnyH _ _ _ _ _ _ _ ⟨Array.setIfInBounds _ 43 v3, _⟩ _
            simp only [List.setIfInBounds_toArray, List.set_cons_zero, List.set_cons_succ]
            have R : Rk w l (0 + 1) (([] : List Nat).take 0 ++ 0 :: ([] : List Nat).drop 0) v3 w6 := by
              have e : 0 + 1 + (0 - 0) = 0 + 1 := by omega
              have e2 : ([] : List Nat).take 0 ++ [0] ++ ([] : List Nat).drop 0 = ([] : List Nat).take 0 ++ 0 :: ([] : List Nat).drop 0 := by simp
              rw [e, e2] at o3
              exact ⟨own_base o3 (by have := b0q.size; omega), HST.out.1, HST.out.2, b0q.trans (d3.mono b0q.size)⟩
            clear o3 g3 o2 g2
            refine held_take 11 3 (v := v3) rfl rfl (by kernel_rfl) (by kernel_rfl) (by kernel_rfl) (by rfl) (fun _ _ _ h => h) (by assumption) ?_ ?_
            · intro W hW
              go_simp
            simp only [List.setIfInBounds_toArray, List.set_cons_zero, List.set_cons_succ]
            refine wpAnyH_done (by kernel_rfl) ?_ _
            clear d2 d3 dZ oZ hsZ
            go_wp2
            go_roundw
            case rel => exact ⟨0 + 1, _, by omega, by go_num, R⟩
            case measure => simp [intOf]; omega
          · have dA : Below wq.heap.size wq (wq.drew.alloc (.cells #[.int .i64 (0 : Int)] 3)) := ((Below.refl _ _).drew).alloc (Nat.le_refl _) _
            refine wp_run (v := .slice (some ⟨wq.heap.size, 0, none⟩) 1 1) (w' := wq.drew.alloc (.cells #[.int .i64 (0 : Int)] 3)) rfl (by go_simp) ⟨dA, ?_⟩
            simp only [List.setIfInBounds_toArray, List.set_cons_zero, List.set_cons_succ]
            have hsA : wq.heap.size + 1 ≤ (wq.drew.alloc (.cells #[.int .i64 (0 : Int)] 3)).heap.size := by simp
            refine held_op 3 rfl (by kernel_rfl) (by rfl) ?_
            refine wp_appR (.const (.slice none 0 0)) (.tmp 35) rfl (wq.heap.size + 1) (.slice none 0 0) 0 [] rfl (World.ownsRow_nil _ _ _ _) _ 0 _ (([] : List Nat).take 0) rfl (by rw [List.length_take, ol]; omega) (fun _ => rfl) (ROWT.out (wq.drew.alloc (.cells #[.int .i64 (0 : Int)] 3)) dA) (by omega) hsA ?_
            intro v1 w4 o1 g1
            have oZ : w4.ownsRow (wq.heap.size + 1) 3 1 v1 0 (in64 (([] : List Nat).take 0)) := by simpa using o1
            have dZ : Below wq.heap.size wq w4 := dA.grown g1 dA.size (fun _ h => by cases h)
            have dB : Below (wq.drew.alloc (.cells #[.int .i64 (0 : Int)] 3)).heap.size (wq.drew.alloc (.cells #[.int .i64 (0 : Int)] 3)) w4 := (Below.refl _ _).grown g1 (Nat.le_refl _) (fun _ h => by cases h)
            have lr : IsRow1 w4 (some ⟨wq.heap.size, 0, none⟩) (in64 [0]) := (lit_one wq.drew 0).below dB
            have hsZ : wq.heap.size + 1 ≤ w4.heap.size := Nat.le_trans hsA dB.size
            refine ⟨dZ, ?_⟩
            show wpAnyH _ _ _ _ _ _ _ ⟨Array.setIfInBounds _ 36 v1, _⟩ _
            simp only [List.setIfInBounds_toArray, List.set_cons_zero, List.set_cons_succ]
            refine held_op 6 rfl (by kernel_rfl) (by rfl) ?_
            refine wp_appR (.tmp 36) (.tmp 38) rfl (wq.heap.size + 1) v1 0 (([] : List Nat).take 0) rfl oZ (some ⟨wq.heap.size, 0, none⟩) 1 1 [0] rfl rfl (fun e => by cases e) lr (by omega) hsZ ?_
            clear o1 g1 dA dB lr
            intro v2 w5 o2 g2
            have d2 : Below wq.heap.size wq w5 := dZ.grown g2 dZ.size (fun g hg => by have := own_ge oZ g hg; omega)
            refine ⟨d2, ?_⟩
            show wpAnyH _ _ _ _ _ _ _ ⟨Array.setIfInBounds _ 39 v2, _⟩ _
            simp only [List.setIfInBounds_toArray, List.set_cons_zero, List.set_cons_succ]
            have hs5 : (wq.heap.size + 1) ≤ w5.heap.size := Nat.le_trans hsZ (dG g2)
            refine held_op 10 rfl (by kernel_rfl) (by rfl) ?_
            refine wp_appR (.tmp 39) (.tmp 42) rfl (wq.heap.size + 1) v2 (0 + 1) (([] : List Nat).take 0 ++ [0]) rfl o2 _ (0 - 0) (0 - 0) (([] : List Nat).drop 0) rfl (by rw [List.length_drop, ol]) (fun _ => rfl) (ROWD.out w5 d2) (by omega) hs5 ?_
            intro v3 w6 o3 g3
            have d3 : Below wq.heap.size wq w6 := d2.grown g3 d2.size (fun g hg => by have := own_ge o2 g hg; omega)
            refine ⟨d3, ?_⟩
            show wpAnyH _ _ _ _ _ _ _ ⟨Array.setIfInBounds _ 43 v3, _⟩ _
            simp only [List.setIfInBounds_toArray, List.set_cons_zero, List.set_cons_succ]
            have R : Rk w l (0 + 1) (([] : List Nat).take 0 ++ 0 :: ([] : List Nat).drop 0) v3 w6 := by
              have e : 0 + 1 + (0 - 0) = 0 + 1 := by omega
              have e2 : ([] : List Nat).take 0 ++ [0] ++ ([] : List Nat).drop 0 = ([] : List Nat).take 0 ++ 0 :: ([] : List Nat).drop 0 := by simp
              rw [e, e2] at o3
              exact ⟨own_base o3 (by have := b0q.size; omega), HST.out.1, HST.out.2, b0q.trans (d3.mono b0q.size)⟩
            clear o3 g3 o2 g2
            refine held_take 11 3 (v := v3) rfl rfl (by kernel_rfl) (by kernel_rfl) (by kernel_rfl) (by rfl) (fun _ _ _ h => h) (by assumption) ?_ ?_
            · intro W hW
              go_simp
            simp only [List.setIfInBounds_toArray, List.set_cons_zero, List.set_cons_succ]
            refine wpAnyH_done (by kernel_rfl) ?_ _
            clear d2 d3 dZ oZ hsZ
            go_wp2
            go_roundw
            case rel => exact ⟨0 + 1, _, by omega, by go_num, R⟩
            case measure => simp [intOf]; omega
      · have ro := own_row T.ko
        have hgl : g < wr.heap.size := (Array.getElem?_eq_some_iff.1 hgh).1
        have kb := T.kb
        clear hgh T
        rename World => wo
        go_wp2_with fail
        go_loopw [5] (fun nn W => ∃ m : Nat, m ≤ k ∧ nn = .int .i64 (m : Int) ∧ (∀ j, m ≤ j → j < k → Fm.kk (l.getD (out.getD j 0) 0) < Fm.kk (l.getD k 0)) ∧ ∃ q, W = wo.drewN q) (fun nn _ => (intOf nn).toNat)
        case atStart => exact ⟨k, by omega, rfl, fun j h1 h2 => by omega, 0, rfl⟩
        case round =>
          obtain ⟨m, hmk, rfl, hall, hq⟩ := hrel
          have HALL := Lib.hid hall
          have HQ := Lib.hid hq
          clear hall hq
          have HB : Hid (Below w.heap.size w wr) := by obtain ⟨q, rfl⟩ := HQ.out; exact ⟨kb.os, kb.tape, kb.output, kb.size, kb.block⟩
          have HO : Hid (∀ j, j < k → wr.cell? ⟨g, j, none⟩ = some (.int .i64 ((out.getD j 0 : Nat) : Int))) := by obtain ⟨q, rfl⟩ := HQ.out; exact ro.2
          have HS : Hid (g < wr.heap.size) := by obtain ⟨q, rfl⟩ := HQ.out; exact hgl
          have hkb : k ≤ 1048576 := by omega
          by_cases m0 : m = 0
          · have g0 : decide ((0 : Int) < (m : Int)) = false := decide_eq_false (by omega)
            go_wp2
            go_quiet (fail)
            have HST := Lib.hid (Fm.rank_step HT.out.kp HT.out.ks (n := m) (by rw [ro.1]; exact hmk) (fun j h1 h2 => HALL.out j h1 (by rw [ro.1] at h2; exact h2)) (fun h => absurd h (by omega)))
            have b0q : Below w.heap.size w (wr.drewN nq) := ⟨HB.out.os, HB.out.tape, HB.out.output, HB.out.size, HB.out.block⟩
            have ROWT : Hid (∀ W, Below wr.heap.size (wr.drewN nq) W → IsRow1 W (some ⟨g, 0, none⟩) (in64 (out.take m))) := fun W hW => row_take (fun j hj => (hW.cell (p := ⟨g, j, none⟩) HS.out).trans (HO.out j hj)) ro.1 m
            have ROWD : Hid (∀ W, Below wr.heap.size (wr.drewN nq) W → IsRow1 W (some (if c = m then ⟨g, 0, none⟩ else ⟨g, m, none⟩)) (in64 (out.drop m))) := fun W hW => row_drop (fun j hj => (hW.cell (p := ⟨g, j, none⟩) HS.out).trans (HO.out j hj)) ro.1 m hkc
            have esz : (wr.drewN nq).heap.size = wr.heap.size := rfl
            rw [← esz] at ROWT ROWD
            have ol := ro.1
            clear esz
            generalize wr.drewN nq = wq at b0q ROWT ROWD ⊢
            go_wp2_with fail
            refine wp_region_held_drew (S := fun W => Below wq.heap.size wq W) (by kernel_rfl) ((Below.refl _ _).drew) (fun hHeld => ?_)
            refine held_take 0 33 (v := (.slice (some ⟨g, 0, none⟩) k c)) rfl rfl (by kernel_rfl) (by kernel_rfl) (by kernel_rfl) (by rfl) (fun _ _ _ h => h) (by assumption) ?_ ?_
            · intro W hW
              go_simp
            simp only [List.setIfInBounds_toArray, List.set_cons_zero, List.set_cons_succ]
            refine held_take 1 34 (v := (.int .i64 (m : Int))) rfl rfl (by kernel_rfl) (by kernel_rfl) (by kernel_rfl) (by rfl) (fun _ _ _ h => h) (by assumption) ?_ ?_
            · intro W hW
              go_simp
            simp only [List.setIfInBounds_toArray, List.set_cons_zero, List.set_cons_succ]
            refine held_take 2 35 (v := (.slice (some ⟨g, 0, none⟩) m c)) rfl rfl (by kernel_rfl) (by kernel_rfl) (by kernel_rfl) (by rfl) (fun _ _ _ h => h) (by assumption) ?_ ?_
            · intro W hW
              have sl := cut_lo W g k c m (by omega)
              go_simp
            simp only [List.setIfInBounds_toArray, List.set_cons_zero, List.set_cons_succ]
            refine held_take 4 37 (v := (.int .i64 (k : Int))) rfl rfl (by kernel_rfl) (by kernel_rfl) (by kernel_rfl) (by rfl) (fun _ _ _ h => h) (by assumption) ?_ ?_
            · intro W hW
              go_simp
            simp only [List.setIfInBounds_toArray, List.set_cons_zero, List.set_cons_succ]
            refine held_take 7 40 (v := (.slice (some ⟨g, 0, none⟩) k c)) rfl rfl (by kernel_rfl) (by kernel_rfl) (by kernel_rfl) (by rfl) (fun _ _ _ h => h) (by assumption) ?_ ?_
            · intro W hW
              go_simp
            simp only [List.setIfInBounds_toArray, List.set_cons_zero, List.set_cons_succ]
            refine held_take 8 41 (v := (.int .i64 (m : Int))) rfl rfl (by kernel_rfl) (by kernel_rfl) (by kernel_rfl) (by rfl) (fun _ _ _ h => h) (by assumption) ?_ ?_
            · intro W hW
              go_simp
            simp only [List.setIfInBounds_toArray, List.set_cons_zero, List.set_cons_succ]
            refine held_take 9 42 (v := (.slice (some (if c = m then ⟨g, 0, none⟩ else ⟨g, m, none⟩)) (k - m) (c - m))) rfl rfl (by kernel_rfl) (by kernel_rfl) (by kernel_rfl) (by rfl) (fun _ _ _ h => h) (by assumption) ?_ ?_
            · intro W hW
              have sl := cut_hi W g k c m (by omega)
              go_simp
            simp only [List.setIfInBounds_toArray, List.set_cons_zero, List.set_cons_succ]
            have dG : ∀ {x y : World} {q : Option Nat}, x.grownBy y q → x.heap.size ≤ y.heap.size := fun h => grown_size h
            refine held_two 3 5 rfl rfl (by kernel_rfl) (by rfl) (by rfl) ?_ ?_
            · refine wp_appR (.const (.slice none 0 0)) (.tmp 35) rfl wq.heap.size (.slice none 0 0) 0 [] rfl (World.ownsRow_nil _ _ _ _) _ m _ (out.take m) rfl (by rw [List.length_take, ol]; omega) (fun e => by cases e) (ROWT.out wq.drew ((Below.refl _ _).drew)) (by omega) (Nat.le_refl _) ?_
              intro v1 w4 o1 g1
              have o1' : w4.ownsRow wq.heap.size 3 1 v1 m (in64 (out.take m)) := by simpa using o1
              have d1 : Below wq.heap.size wq w4 := ((Below.refl _ _).drew).grown g1 (Nat.le_refl _) (fun _ h => by cases h)
              refine ⟨d1, ?_⟩
              show wpAnyH _ _ _ _ _ _ _ ⟨Array.setIfInBounds _ 36 v1, _⟩ _
              simp only [List.setIfInBounds_toArray, List.set_cons_zero, List.set_cons_succ]
              have dZ : Below wq.heap.size wq (w4.alloc (.cells #[.int .i64 (k : Int)] 3)) := d1.alloc d1.size _
              refine held_op 5 rfl (by kernel_rfl) (by rfl) ?_
              refine wp_run (v := .slice (some ⟨w4.heap.size, 0, none⟩) 1 1) (w' := w4.alloc (.cells #[.int .i64 (k : Int)] 3)) rfl (by go_simp) ⟨dZ, ?_⟩
              simp only [List.setIfInBounds_toArray, List.set_cons_zero, List.set_cons_succ]
              have oZ : (w4.alloc (.cells #[.int .i64 (k : Int)] 3)).ownsRow wq.heap.size 3 1 v1 m (in64 (out.take m)) := o1'.alloc _
              have hsZ : wq.heap.size ≤ (w4.alloc (.cells #[.int .i64 (k : Int)] 3)).heap.size := dZ.size
              refine held_op 6 rfl (by kernel_rfl) (by rfl) ?_
              refine wp_appR (.tmp 36) (.tmp 38) rfl wq.heap.size v1 m (out.take m) rfl oZ (some ⟨w4.heap.size, 0, none⟩) 1 1 [k] rfl rfl (fun e => by cases e) (lit_one w4 k) (by omega) hsZ ?_
              clear o1 g1 o1' d1
              intro v2 w5 o2 g2
              have d2 : Below wq.heap.size wq w5 := dZ.grown g2 dZ.size (fun g hg => by have := own_ge oZ g hg; omega)
              refine ⟨d2, ?_⟩
              show wpAnyH _ _ _ _ _ _ _ ⟨Array.setIfInBounds _ 39 v2, _⟩ _
              simp only [List.setIfInBounds_toArray, List.set_cons_zero, List.set_cons_succ]
              have hs5 : wq.heap.size ≤ w5.heap.size := Nat.le_trans hsZ (dG g2)
              refine held_op 10 rfl (by kernel_rfl) (by rfl) ?_
              refine wp_appR (.tmp 39) (.tmp 42) rfl wq.heap.size v2 (m + 1) (out.take m ++ [k]) rfl o2 _ (k - m) (c - m) (out.drop m) rfl (by rw [List.length_drop, ol]) (fun e => by cases e) (ROWD.out w5 d2) (by omega) hs5 ?_
              intro v3 w6 o3 g3
              have d3 : Below wq.heap.size wq w6 := d2.grown g3 d2.size (fun g hg => by have := own_ge o2 g hg; omega)
              refine ⟨d3, ?_⟩
              show wpAnyH _ _ _ _ _ _ _ ⟨Array.setIfInBounds _ 43 v3, _⟩ _
              simp only [List.setIfInBounds_toArray, List.set_cons_zero, List.set_cons_succ]
              have R : Rk w l (k + 1) (out.take m ++ k :: out.drop m) v3 w6 := by
                have e : m + 1 + (k - m) = k + 1 := by omega
                have e2 : out.take m ++ [k] ++ out.drop m = out.take m ++ k :: out.drop m := by simp
                rw [e, e2] at o3
                exact ⟨own_base o3 (by have := b0q.size; omega), HST.out.1, HST.out.2, b0q.trans (d3.mono b0q.size)⟩
              clear o3 g3 o2 g2
              refine held_take 11 3 (v := v3) rfl rfl (by kernel_rfl) (by kernel_rfl) (by kernel_rfl) (by rfl) (fun _ _ _ h => h) (by assumption) ?_ ?_
              · intro W hW
                go_simp
              simp only [List.setIfInBounds_toArray, List.set_cons_zero, List.set_cons_succ]
              refine wpAnyH_done (by kernel_rfl) ?_ _
              clear d2 d3 dZ oZ hsZ
              go_wp2
              go_roundw
              case rel => exact ⟨k + 1, _, by omega, by go_num, R⟩
              case measure => simp [intOf]; omega
            · have dA : Below wq.heap.size wq (wq.drew.alloc (.cells #[.int .i64 (k : Int)] 3)) := ((Below.refl _ _).drew).alloc (Nat.le_refl _) _
              refine wp_run (v := .slice (some ⟨wq.heap.size, 0, none⟩) 1 1) (w' := wq.drew.alloc (.cells #[.int .i64 (k : Int)] 3)) rfl (by go_simp) ⟨dA, ?_⟩
              simp only [List.setIfInBounds_toArray, List.set_cons_zero, List.set_cons_succ]
              have hsA : wq.heap.size + 1 ≤ (wq.drew.alloc (.cells #[.int .i64 (k : Int)] 3)).heap.size := by simp
              refine held_op 3 rfl (by kernel_rfl) (by rfl) ?_
              refine wp_appR (.const (.slice none 0 0)) (.tmp 35) rfl (wq.heap.size + 1) (.slice none 0 0) 0 [] rfl (World.ownsRow_nil _ _ _ _) _ m _ (out.take m) rfl (by rw [List.length_take, ol]; omega) (fun e => by cases e) (ROWT.out (wq.drew.alloc (.cells #[.int .i64 (k : Int)] 3)) dA) (by omega) hsA ?_
              intro v1 w4 o1 g1
              have oZ : w4.ownsRow (wq.heap.size + 1) 3 1 v1 m (in64 (out.take m)) := by simpa using o1
              have dZ : Below wq.heap.size wq w4 := dA.grown g1 dA.size (fun _ h => by cases h)
              have dB : Below (wq.drew.alloc (.cells #[.int .i64 (k : Int)] 3)).heap.size (wq.drew.alloc (.cells #[.int .i64 (k : Int)] 3)) w4 := (Below.refl _ _).grown g1 (Nat.le_refl _) (fun _ h => by cases h)
              have lr : IsRow1 w4 (some ⟨wq.heap.size, 0, none⟩) (in64 [k]) := (lit_one wq.drew k).below dB
              have hsZ : wq.heap.size + 1 ≤ w4.heap.size := Nat.le_trans hsA dB.size
              refine ⟨dZ, ?_⟩
              show wpAnyH _ _ _ _ _ _ _ ⟨Array.setIfInBounds _ 36 v1, _⟩ _
              simp only [List.setIfInBounds_toArray, List.set_cons_zero, List.set_cons_succ]
              refine held_op 6 rfl (by kernel_rfl) (by rfl) ?_
              refine wp_appR (.tmp 36) (.tmp 38) rfl (wq.heap.size + 1) v1 m (out.take m) rfl oZ (some ⟨wq.heap.size, 0, none⟩) 1 1 [k] rfl rfl (fun e => by cases e) lr (by omega) hsZ ?_
              clear o1 g1 dA dB lr
              intro v2 w5 o2 g2
              have d2 : Below wq.heap.size wq w5 := dZ.grown g2 dZ.size (fun g hg => by have := own_ge oZ g hg; omega)
              refine ⟨d2, ?_⟩
              show wpAnyH _ _ _ _ _ _ _ ⟨Array.setIfInBounds _ 39 v2, _⟩ _
              simp only [List.setIfInBounds_toArray, List.set_cons_zero, List.set_cons_succ]
              have hs5 : (wq.heap.size + 1) ≤ w5.heap.size := Nat.le_trans hsZ (dG g2)
              refine held_op 10 rfl (by kernel_rfl) (by rfl) ?_
              refine wp_appR (.tmp 39) (.tmp 42) rfl (wq.heap.size + 1) v2 (m + 1) (out.take m ++ [k]) rfl o2 _ (k - m) (c - m) (out.drop m) rfl (by rw [List.length_drop, ol]) (fun e => by cases e) (ROWD.out w5 d2) (by omega) hs5 ?_
              intro v3 w6 o3 g3
              have d3 : Below wq.heap.size wq w6 := d2.grown g3 d2.size (fun g hg => by have := own_ge o2 g hg; omega)
              refine ⟨d3, ?_⟩
              show wpAnyH _ _ _ _ _ _ _ ⟨Array.setIfInBounds _ 43 v3, _⟩ _
              simp only [List.setIfInBounds_toArray, List.set_cons_zero, List.set_cons_succ]
              have R : Rk w l (k + 1) (out.take m ++ k :: out.drop m) v3 w6 := by
                have e : m + 1 + (k - m) = k + 1 := by omega
                have e2 : out.take m ++ [k] ++ out.drop m = out.take m ++ k :: out.drop m := by simp
                rw [e, e2] at o3
                exact ⟨own_base o3 (by have := b0q.size; omega), HST.out.1, HST.out.2, b0q.trans (d3.mono b0q.size)⟩
              clear o3 g3 o2 g2
              refine held_take 11 3 (v := v3) rfl rfl (by kernel_rfl) (by kernel_rfl) (by kernel_rfl) (by rfl) (fun _ _ _ h => h) (by assumption) ?_ ?_
              · intro W hW
                go_simp
              simp only [List.setIfInBounds_toArray, List.set_cons_zero, List.set_cons_succ]
              refine wpAnyH_done (by kernel_rfl) ?_ _
              clear d2 d3 dZ oZ hsZ
              go_wp2
              go_roundw
              case rel => exact ⟨k + 1, _, by omega, by go_num, R⟩
              case measure => simp [intOf]; omega
          · obtain ⟨p, hp⟩ : ∃ p, m = p + 1 := ⟨m - 1, by omega⟩
            have g0 : decide ((0 : Int) < (m : Int)) = true := decide_eq_true (by omega)
            have hop : out.getD p 0 < k := List.mem_range.1 (HT.out.kp.mem_iff.1 (Fm.mem_getD (by rw [ro.1]; omega)))
            have c1 := HC.out wr HB.out k hkn
            have c2 := HO.out p (by omega)
            have c3 := HC.out wr HB.out (out.getD p 0) (by omega)
            have wx : Fm.W (l.getD k 0) := HW.out _ (Fm.mem_getD (by rw [HN.out]; exact hkn))
            have wy : Fm.W (l.getD (out.getD p 0) 0) := HW.out _ (Fm.mem_getD (by rw [HN.out]; omega))
            have ak := Fm.ahead_kk wx wy
            have AH : Hid (∀ W, Calls Tryd.prog 48 #[.float .f64 (l.getD k 0), .float .f64 (l.getD (out.getD p 0) 0)] W fun e w' => e = .returned (.bool (Fm.ahead (l.getD k 0) (l.getD (out.getD p 0) 0))) ∧ w' = W) := fun W => rahead_any _ _ wx wy W
            have i1 : IntKind.i64.wrap ((m : Int) - 1) = (p : Int) := by rw [IntWalk.i64_in _ (by omega)]; omega
            have i2 : (p : Int) < (k : Int) := by omega
            have i3 : ((out.getD p 0 : Nat) : Int) < (n : Int) := by omega
            cases hr : Fm.ahead (l.getD k 0) (l.getD (out.getD p 0) 0)
            · have HT2 : Hid (Fm.kk (l.getD k 0) ≤ Fm.kk (l.getD (out.getD p 0) 0)) := by
                show _ ≤ _
                rw [hr] at ak
                have := of_decide_eq_false ak.symm
                omega
              rw [hr] at AH
              clear hr ak wx wy
              generalize l.getD k 0 = x at c1 AH
              generalize l.getD (out.getD p 0) 0 = y at c3 AH
              generalize out.getD p 0 = op at c2 c3 i3 hop
              go_wp2
              go_quiet ((go_at_call 48; exact Calls.quiet_of_same (AH.out _)))
              clear c1 c2 c3 AH i1 i2 i3 hop
              have HST := Lib.hid (Fm.rank_step HT.out.kp HT.out.ks (n := m) (by rw [ro.1]; exact hmk) (fun j h1 h2 => HALL.out j h1 (by rw [ro.1] at h2; exact h2)) (fun _ => by rw [hp, Nat.add_sub_cancel]; exact HT2.out))
              clear hp m0 g0 HT2
              have b0q : Below w.heap.size w (wr.drewN nq) := ⟨HB.out.os, HB.out.tape, HB.out.output, HB.out.size, HB.out.block⟩
              have ROWT : Hid (∀ W, Below wr.heap.size (wr.drewN nq) W → IsRow1 W (some ⟨g, 0, none⟩) (in64 (out.take m))) := fun W hW => row_take (fun j hj => (hW.cell (p := ⟨g, j, none⟩) HS.out).trans (HO.out j hj)) ro.1 m
              have ROWD : Hid (∀ W, Below wr.heap.size (wr.drewN nq) W → IsRow1 W (some (if c = m then ⟨g, 0, none⟩ else ⟨g, m, none⟩)) (in64 (out.drop m))) := fun W hW => row_drop (fun j hj => (hW.cell (p := ⟨g, j, none⟩) HS.out).trans (HO.out j hj)) ro.1 m hkc
              have esz : (wr.drewN nq).heap.size = wr.heap.size := rfl
              rw [← esz] at ROWT ROWD
              have ol := ro.1
              clear esz
              generalize wr.drewN nq = wq at b0q ROWT ROWD ⊢
              go_wp2_with fail
              refine wp_region_held_drew (S := fun W => Below wq.heap.size wq W) (by kernel_rfl) ((Below.refl _ _).drew) (fun hHeld => ?_)
              refine held_take 0 33 (v := (.slice (some ⟨g, 0, none⟩) k c)) rfl rfl (by kernel_rfl) (by kernel_rfl) (by kernel_rfl) (by rfl) (fun _ _ _ h => h) (by assumption) ?_ ?_
              · intro W hW
                go_simp
              simp only [List.setIfInBounds_toArray, List.set_cons_zero, List.set_cons_succ]
              refine held_take 1 34 (v := (.int .i64 (m : Int))) rfl rfl (by kernel_rfl) (by kernel_rfl) (by kernel_rfl) (by rfl) (fun _ _ _ h => h) (by assumption) ?_ ?_
              · intro W hW
                go_simp
              simp only [List.setIfInBounds_toArray, List.set_cons_zero, List.set_cons_succ]
              refine held_take 2 35 (v := (.slice (some ⟨g, 0, none⟩) m c)) rfl rfl (by kernel_rfl) (by kernel_rfl) (by kernel_rfl) (by rfl) (fun _ _ _ h => h) (by assumption) ?_ ?_
              · intro W hW
                have sl := cut_lo W g k c m (by omega)
                go_simp
              simp only [List.setIfInBounds_toArray, List.set_cons_zero, List.set_cons_succ]
              refine held_take 4 37 (v := (.int .i64 (k : Int))) rfl rfl (by kernel_rfl) (by kernel_rfl) (by kernel_rfl) (by rfl) (fun _ _ _ h => h) (by assumption) ?_ ?_
              · intro W hW
                go_simp
              simp only [List.setIfInBounds_toArray, List.set_cons_zero, List.set_cons_succ]
              refine held_take 7 40 (v := (.slice (some ⟨g, 0, none⟩) k c)) rfl rfl (by kernel_rfl) (by kernel_rfl) (by kernel_rfl) (by rfl) (fun _ _ _ h => h) (by assumption) ?_ ?_
              · intro W hW
                go_simp
              simp only [List.setIfInBounds_toArray, List.set_cons_zero, List.set_cons_succ]
              refine held_take 8 41 (v := (.int .i64 (m : Int))) rfl rfl (by kernel_rfl) (by kernel_rfl) (by kernel_rfl) (by rfl) (fun _ _ _ h => h) (by assumption) ?_ ?_
              · intro W hW
                go_simp
              simp only [List.setIfInBounds_toArray, List.set_cons_zero, List.set_cons_succ]
              refine held_take 9 42 (v := (.slice (some (if c = m then ⟨g, 0, none⟩ else ⟨g, m, none⟩)) (k - m) (c - m))) rfl rfl (by kernel_rfl) (by kernel_rfl) (by kernel_rfl) (by rfl) (fun _ _ _ h => h) (by assumption) ?_ ?_
              · intro W hW
                have sl := cut_hi W g k c m (by omega)
                go_simp
              simp only [List.setIfInBounds_toArray, List.set_cons_zero, List.set_cons_succ]
              have dG : ∀ {x y : World} {q : Option Nat}, x.grownBy y q → x.heap.size ≤ y.heap.size := fun h => grown_size h
              refine held_two 3 5 rfl rfl (by kernel_rfl) (by rfl) (by rfl) ?_ ?_
              · refine wp_appR (.const (.slice none 0 0)) (.tmp 35) rfl wq.heap.size (.slice none 0 0) 0 [] rfl (World.ownsRow_nil _ _ _ _) _ m _ (out.take m) rfl (by rw [List.length_take, ol]; omega) (fun e => by cases e) (ROWT.out wq.drew ((Below.refl _ _).drew)) (by omega) (Nat.le_refl _) ?_
                intro v1 w4 o1 g1
                have o1' : w4.ownsRow wq.heap.size 3 1 v1 m (in64 (out.take m)) := by simpa using o1
                have d1 : Below wq.heap.size wq w4 := ((Below.refl _ _).drew).grown g1 (Nat.le_refl _) (fun _ h => by cases h)
                refine ⟨d1, ?_⟩
                show wpAnyH _ _ _ _ _ _ _ ⟨Array.setIfInBounds _ 36 v1, _⟩ _
                simp only [List.setIfInBounds_toArray, List.set_cons_zero, List.set_cons_succ]
                have dZ : Below wq.heap.size wq (w4.alloc (.cells #[.int .i64 (k : Int)] 3)) := d1.alloc d1.size _
                refine held_op 5 rfl (by kernel_rfl) (by rfl) ?_
                refine wp_run (v := .slice (some ⟨w4.heap.size, 0, none⟩) 1 1) (w' := w4.alloc (.cells #[.int .i64 (k : Int)] 3)) rfl (by go_simp) ⟨dZ, ?_⟩
                simp only [List.setIfInBounds_toArray, List.set_cons_zero, List.set_cons_succ]
                have oZ : (w4.alloc (.cells #[.int .i64 (k : Int)] 3)).ownsRow wq.heap.size 3 1 v1 m (in64 (out.take m)) := o1'.alloc _
                have hsZ : wq.heap.size ≤ (w4.alloc (.cells #[.int .i64 (k : Int)] 3)).heap.size := dZ.size
                refine held_op 6 rfl (by kernel_rfl) (by rfl) ?_
                refine wp_appR (.tmp 36) (.tmp 38) rfl wq.heap.size v1 m (out.take m) rfl oZ (some ⟨w4.heap.size, 0, none⟩) 1 1 [k] rfl rfl (fun e => by cases e) (lit_one w4 k) (by omega) hsZ ?_
                clear o1 g1 o1' d1
                intro v2 w5 o2 g2
                have d2 : Below wq.heap.size wq w5 := dZ.grown g2 dZ.size (fun g hg => by have := own_ge oZ g hg; omega)
                refine ⟨d2, ?_⟩
                show wpAnyH _ _ _ _ _ _ _ ⟨Array.setIfInBounds _ 39 v2, _⟩ _
                simp only [List.setIfInBounds_toArray, List.set_cons_zero, List.set_cons_succ]
                have hs5 : wq.heap.size ≤ w5.heap.size := Nat.le_trans hsZ (dG g2)
                refine held_op 10 rfl (by kernel_rfl) (by rfl) ?_
                refine wp_appR (.tmp 39) (.tmp 42) rfl wq.heap.size v2 (m + 1) (out.take m ++ [k]) rfl o2 _ (k - m) (c - m) (out.drop m) rfl (by rw [List.length_drop, ol]) (fun e => by cases e) (ROWD.out w5 d2) (by omega) hs5 ?_
                intro v3 w6 o3 g3
                have d3 : Below wq.heap.size wq w6 := d2.grown g3 d2.size (fun g hg => by have := own_ge o2 g hg; omega)
                refine ⟨d3, ?_⟩
                show wpAnyH _ _ _ _ _ _ _ ⟨Array.setIfInBounds _ 43 v3, _⟩ _
                simp only [List.setIfInBounds_toArray, List.set_cons_zero, List.set_cons_succ]
                have R : Rk w l (k + 1) (out.take m ++ k :: out.drop m) v3 w6 := by
                  have e : m + 1 + (k - m) = k + 1 := by omega
                  have e2 : out.take m ++ [k] ++ out.drop m = out.take m ++ k :: out.drop m := by simp
                  rw [e, e2] at o3
                  exact ⟨own_base o3 (by have := b0q.size; omega), HST.out.1, HST.out.2, b0q.trans (d3.mono b0q.size)⟩
                clear o3 g3 o2 g2
                refine held_take 11 3 (v := v3) rfl rfl (by kernel_rfl) (by kernel_rfl) (by kernel_rfl) (by rfl) (fun _ _ _ h => h) (by assumption) ?_ ?_
                · intro W hW
                  go_simp
                simp only [List.setIfInBounds_toArray, List.set_cons_zero, List.set_cons_succ]
                refine wpAnyH_done (by kernel_rfl) ?_ _
                clear d2 d3 dZ oZ hsZ
                go_wp2
                go_roundw
                case rel => exact ⟨k + 1, _, by omega, by go_num, R⟩
                case measure => simp [intOf]; omega
              · have dA : Below wq.heap.size wq (wq.drew.alloc (.cells #[.int .i64 (k : Int)] 3)) := ((Below.refl _ _).drew).alloc (Nat.le_refl _) _
                refine wp_run (v := .slice (some ⟨wq.heap.size, 0, none⟩) 1 1) (w' := wq.drew.alloc (.cells #[.int .i64 (k : Int)] 3)) rfl (by go_simp) ⟨dA, ?_⟩
                simp only [List.setIfInBounds_toArray, List.set_cons_zero, List.set_cons_succ]
                have hsA : wq.heap.size + 1 ≤ (wq.drew.alloc (.cells #[.int .i64 (k : Int)] 3)).heap.size := by simp
                refine held_op 3 rfl (by kernel_rfl) (by rfl) ?_
                refine wp_appR (.const (.slice none 0 0)) (.tmp 35) rfl (wq.heap.size + 1) (.slice none 0 0) 0 [] rfl (World.ownsRow_nil _ _ _ _) _ m _ (out.take m) rfl (by rw [List.length_take, ol]; omega) (fun e => by cases e) (ROWT.out (wq.drew.alloc (.cells #[.int .i64 (k : Int)] 3)) dA) (by omega) hsA ?_
                intro v1 w4 o1 g1
                have oZ : w4.ownsRow (wq.heap.size + 1) 3 1 v1 m (in64 (out.take m)) := by simpa using o1
                have dZ : Below wq.heap.size wq w4 := dA.grown g1 dA.size (fun _ h => by cases h)
                have dB : Below (wq.drew.alloc (.cells #[.int .i64 (k : Int)] 3)).heap.size (wq.drew.alloc (.cells #[.int .i64 (k : Int)] 3)) w4 := (Below.refl _ _).grown g1 (Nat.le_refl _) (fun _ h => by cases h)
                have lr : IsRow1 w4 (some ⟨wq.heap.size, 0, none⟩) (in64 [k]) := (lit_one wq.drew k).below dB
                have hsZ : wq.heap.size + 1 ≤ w4.heap.size := Nat.le_trans hsA dB.size
                refine ⟨dZ, ?_⟩
                show wpAnyH _ _ _ _ _ _ _ ⟨Array.setIfInBounds _ 36 v1, _⟩ _
                simp only [List.setIfInBounds_toArray, List.set_cons_zero, List.set_cons_succ]
                refine held_op 6 rfl (by kernel_rfl) (by rfl) ?_
                refine wp_appR (.tmp 36) (.tmp 38) rfl (wq.heap.size + 1) v1 m (out.take m) rfl oZ (some ⟨wq.heap.size, 0, none⟩) 1 1 [k] rfl rfl (fun e => by cases e) lr (by omega) hsZ ?_
                clear o1 g1 dA dB lr
                intro v2 w5 o2 g2
                have d2 : Below wq.heap.size wq w5 := dZ.grown g2 dZ.size (fun g hg => by have := own_ge oZ g hg; omega)
                refine ⟨d2, ?_⟩
                show wpAnyH _ _ _ _ _ _ _ ⟨Array.setIfInBounds _ 39 v2, _⟩ _
                simp only [List.setIfInBounds_toArray, List.set_cons_zero, List.set_cons_succ]
                have hs5 : (wq.heap.size + 1) ≤ w5.heap.size := Nat.le_trans hsZ (dG g2)
                refine held_op 10 rfl (by kernel_rfl) (by rfl) ?_
                refine wp_appR (.tmp 39) (.tmp 42) rfl (wq.heap.size + 1) v2 (m + 1) (out.take m ++ [k]) rfl o2 _ (k - m) (c - m) (out.drop m) rfl (by rw [List.length_drop, ol]) (fun e => by cases e) (ROWD.out w5 d2) (by omega) hs5 ?_
                intro v3 w6 o3 g3
                have d3 : Below wq.heap.size wq w6 := d2.grown g3 d2.size (fun g hg => by have := own_ge o2 g hg; omega)
                refine ⟨d3, ?_⟩
                show wpAnyH _ _ _ _ _ _ _ ⟨Array.setIfInBounds _ 43 v3, _⟩ _
                simp only [List.setIfInBounds_toArray, List.set_cons_zero, List.set_cons_succ]
                have R : Rk w l (k + 1) (out.take m ++ k :: out.drop m) v3 w6 := by
                  have e : m + 1 + (k - m) = k + 1 := by omega
                  have e2 : out.take m ++ [k] ++ out.drop m = out.take m ++ k :: out.drop m := by simp
                  rw [e, e2] at o3
                  exact ⟨own_base o3 (by have := b0q.size; omega), HST.out.1, HST.out.2, b0q.trans (d3.mono b0q.size)⟩
                clear o3 g3 o2 g2
                refine held_take 11 3 (v := v3) rfl rfl (by kernel_rfl) (by kernel_rfl) (by kernel_rfl) (by rfl) (fun _ _ _ h => h) (by assumption) ?_ ?_
                · intro W hW
                  go_simp
                simp only [List.setIfInBounds_toArray, List.set_cons_zero, List.set_cons_succ]
                refine wpAnyH_done (by kernel_rfl) ?_ _
                clear d2 d3 dZ oZ hsZ
                go_wp2
                go_roundw
                case rel => exact ⟨k + 1, _, by omega, by go_num, R⟩
                case measure => simp [intOf]; omega
            · have HALL2 : Hid (∀ j, p ≤ j → j < k → Fm.kk (l.getD (out.getD j 0) 0) < Fm.kk (l.getD k 0)) := fun j h1 h2 => by
                by_cases hj : m ≤ j
                · exact HALL.out j hj h2
                · obtain rfl : j = p := by omega
                  rw [hr] at ak
                  exact of_decide_eq_true ak.symm
              rw [hr] at AH
              clear hr ak wx wy
              generalize l.getD k 0 = x at c1 AH HALL2
              generalize l.getD (out.getD p 0) 0 = y at c3 AH
              generalize out.getD p 0 = op at c2 c3 i3 hop
              go_wp2
              go_quiet ((go_at_call 48; exact Calls.quiet_of_same (AH.out _)))
              clear c1 c2 c3 AH
              go_wp2
              go_roundw
              case rel => exact ⟨p, by omega, rfl, HALL2.out, by obtain ⟨q, rfl⟩ := HQ.out; exact ⟨_, World.drewN_drewN _ _ _⟩⟩
              case measure => simp [intOf]; omega
    · obtain rfl : k = n := by omega
      have HR : Hid (Fm.IsRank l out) := ⟨by rw [HN.out]; exact T.kp, T.ks⟩
      have hol : out.length = k := by have := T.ko.1; simpa [in64] using this
      have R := T.ko
      rw [← hol] at R
      have B := T.kb
      clear T HT hol
      go_wp2
      go_ret
      exact ⟨⟨out, _, HR.out, rfl, R⟩, B⟩
end Go.Proofs.YtmdpeifpgnkbiaaDoor
