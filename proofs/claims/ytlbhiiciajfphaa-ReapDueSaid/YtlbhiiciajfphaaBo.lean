/-
  What the reference's Put does. Conditions: lengths fit; its rows are in order, each id once.
-/
import Derived.Test.YtlbhiiciajfphaaBi
import Derived.Deep.CutBlock
set_option linter.unusedSimpArgs false
namespace Go.Proofs.Ytlbhiiciajfphaa
open Go.RowKit Go.Sort

theorem kk_end {l : List Rw} {r : Rw} {k : Nat} (hs : Qu.Srt l) (hn : ∀ x ∈ l, x.2 ≠ r.2) (hk : k ≤ l.length) (hi : ∀ j, k ≤ j → j < l.length → Qu.lt r (Qu.nr l j) = true) (he : k = 0 ∨ Qu.lt r (Qu.nr l (k - 1)) = false) : Qu.kk l r = k := by
  refine Qu.kk_at l r k hk (fun j hj => ?_) (fun j h1 h2 => Qu.lt_not (hi j h1 h2))
  rcases he with he | he
  · omega
  · have h1 : Qu.lt (Qu.nr l (k - 1)) r = true := Qu.lt_or he (hn _ (Qu.nr_mem (by omega))).symm
    rcases Nat.lt_or_ge j (k - 1) with h2 | h2
    · exact Qu.lt_trans (hs.lt h2 (by omega)) h1
    · rw [show j = k - 1 by omega]; exact h1
theorem RNear.after {w w1 : World} {A A1 A2 : Option Addr} (h : RNear w A A1) (hb : w.heap.size ≤ w1.heap.size) (h2 : RNear w1 A1 A2) : RNear w A A2 := fun a ha => by
  rcases h2 a ha with ⟨a1, h1, e⟩ | h1
  · rcases h a1 h1 with ⟨a0, h0, e0⟩ | h0
    · exact .inl ⟨a0, h0, e.trans e0⟩
    · exact .inr (by omega)
  · exact .inr (Nat.le_trans hb h1)
theorem RqTo.after {w w1 w2 : World} {b : Nat} {A A1 : Option Addr} {l : List Rw} (t : Only (fun k => k = b) w w1) (n : RNear w A A1) (h : RqTo w1 b A1 l w2) : RqTo w b A l w2 := by
  obtain ⟨A2, c2, h2, t2, n2⟩ := h
  exact ⟨A2, c2, h2, t.trans t2, n.after t.size n2⟩
theorem dcells_lit {w : World} (id due : Int) (j : Nat) (u : Value) (hu : (fl dc [((due, id) : Rw)])[j]? = some u) : (w.alloc (.cells #[.int .i64 id, .int .u64 due] 42)).cell? ((⟨w.heap.size, 0, none⟩ : Addr).add j) = some u := by
  rw [Addr.add_lit, Nat.zero_add, cell_of_row _ w.heap.size j #[.int .i64 id, .int .u64 due] 42 (0, 0) Array.getElem?_push_size]
  simpa [fl, dc] using hu
theorem IsRd.dropN {w : World} {l : List Rw} (h : IsRd w none l) (i : Nat) : IsRd w none (l.drop i) := fun hp => by
  obtain ⟨b, off, e, _⟩ := h (by rw [List.length_drop] at hp; omega)
  cases e
set_option maxRecDepth 100000 in
set_option maxHeartbeats 4000000 in
theorem rput_any {w : World} {b c : Nat} {l : List Rw} {A : Option Addr} (h : RqAt w b l A c) (hs : Qu.Srt l) (id due : Int) (hl : l.length + 1 ≤ 1048576) :
    Calls Try.prog 23 #[.pointer (some ⟨b, 0, none⟩), .int .i64 id, .int .u64 due] w fun e w' => e = .returned (.tuple #[]) ∧ RqTo w b A (Qu.put id due l) w' := by
  have K := Lib.hid (rdrop_any h id)
  have HS : Hid ((Qu.cut id l).length + 1 ≤ 1048576) := by have := Qu.cut_le id l; show _ ≤ _; omega
  have HN : Hid (∀ x ∈ Qu.cut id l, x.2 ≠ ((due, id) : Rw).2) := fun x hx => (hs.mem_cut.1 hx).2
  have HT : Hid (Qu.Srt (Qu.cut id l)) := hs.cut id
  have HP : Hid (Qu.put id due l = Qu.ins (Qu.cut id l) (due, id)) := rfl
  clear h hs hl
  generalize Qu.put id due l = l2 at *
  generalize Qu.cut id l = l1 at *
  go_enter Try.func23, Try.ntmps23
  go_wp2_with fail
  refine K.out.mono ?_
  rintro e w1 ⟨rfl, A1, c1, h1, t1, n1⟩
  have AFT : Hid (∀ w2, RqTo w1 b A1 l2 w2 → RqTo w b A l2 w2) := fun w2 h => h.after t1 n1
  have HH := Lib.hid h1
  have c0 := h1.c0
  have hNb : l1.length ≤ 1048576 := h1.sm
  have hcb : c1 ≤ 9223372036854775807 := by have := h1.cm; unfold maxLen at this; omega
  have hNc : l1.length ≤ c1 := h1.le
  clear K h1 t1 n1
  obtain ⟨N, hN⟩ : ∃ N, l1.length = N := ⟨_, rfl⟩
  rw [hN] at c0 hNb hNc HS
  have EN := Lib.hid hN
  clear hN
  go_upto_block 0 with fail
  go_cut [6] from 15 to 57 (fun v wx => ∃ k : Nat, k ≤ N ∧ v = .int .i64 (k : Int) ∧ Hid (Qu.kk l1 (due, id) = k) ∧ wx = w1)
  case first =>
    go_wp2_with fail
    go_loop [6] (fun i => ∃ k : Nat, k ≤ N ∧ i = .int .i64 (k : Int) ∧ Hid (∀ j, k ≤ j → j < N → Qu.lt (due, id) (Qu.nr l1 j) = true)) (fun i => (intOf i).toNat)
    case atStart => exact ⟨N, Nat.le_refl _, rfl, fun j h1 h2 => by omega⟩
    case round =>
      obtain ⟨k, hk, rfl, HI⟩ := hrel
      by_cases hk0 : k = 0
      · have R : Hid (Qu.kk l1 (due, id) = k) := kk_end HT.out HN.out (by rw [EN.out]; exact hk) (by rw [EN.out]; exact HI.out) (.inl hk0)
        subst hk0
        clear HI
        go_wp2
        go_meet
        case rel => exact ⟨0, by omega, rfl, R, rfl⟩
      · have hk2 : k - 1 < l1.length := by rw [EN.out]; omega
        obtain ⟨g, off, rfl, -⟩ := HH.out.rd (by omega)
        obtain ⟨x0, x1⟩ := HH.out.rd.cells hk2
        obtain ⟨r, hr⟩ : ∃ r, Qu.nr l1 (k - 1) = r := ⟨_, rfl⟩
        rw [hr] at x0 x1
        have HR := Lib.hid hr
        clear hr
        obtain ⟨r1, r2⟩ := r
        have hkp : (0 : Int) < (k : Int) := by omega
        have hw : IntKind.i64.wrap ((k : Int) - 1) = (k : Int) - 1 := by rw [IntKind.wrap_i64]; omega
        have hb : (0 : Int) ≤ (k : Int) - 1 := by omega
        have hb2 : (k : Int) - 1 < (N : Int) := by omega
        have htn : ((k : Int) - 1).toNat = k - 1 := by omega
        cases hlt : Qu.lt (due, id) (r1, r2) with
        | true =>
          have R : Hid (∀ j, k - 1 ≤ j → j < N → Qu.lt (due, id) (Qu.nr l1 j) = true) := fun j h1 h2 => by
            rcases Nat.lt_or_ge j k with h3 | h3
            · rw [show j = k - 1 by omega, HR.out]; exact hlt
            · exact HI.out j h3 h2
          have hlt' := Qu.lt_iff.1 hlt
          clear HI hlt
          by_cases hq : due < r1
          · clear hlt'
            go_wp2
            go_round
            case rel => exact ⟨k - 1, by omega, by go_num, R⟩
            case measure => simp [intOf]; omega
          · have hq2 : r1 = due := by omega
            have hq3 : id < r2 := by omega
            clear hlt'
            subst hq2
            go_wp2
            go_round
            case rel => exact ⟨k - 1, by omega, by go_num, R⟩
            case measure => simp [intOf]; omega
        | false =>
          have R : Hid (Qu.kk l1 (due, id) = k) := kk_end HT.out HN.out (by rw [EN.out]; exact hk) (by rw [EN.out]; exact HI.out) (.inr (by rw [HR.out]; exact hlt))
          have hlt' := Qu.lt_no.1 hlt
          clear HI hlt
          by_cases hq : r1 = due
          · have hq1 : ¬ due < r1 := by omega
            have hq3 : ¬ id < r2 := by omega
            clear hlt'
            subst hq
            go_wp2
            go_meet
            case rel => exact ⟨k, by omega, rfl, R, rfl⟩
          · have hq1 : ¬ due < r1 := by omega
            have hq2 : (r1 == due) = false := by simpa using hq
            clear hlt'
            go_wp2
            go_meet
            case rel => exact ⟨k, by omega, rfl, R, rfl⟩
  case rest =>
    obtain ⟨k, hk, rfl, HK, rfl⟩ := hcut
    go_wp2_with fail
    have hb2 : ¬ (c1 < k) := by omega
    have hb3 : ¬ (N < k) := by omega
    have hnil := Lib.hid (HH.out.nil)
    rcases A1 with _ | a
    · obtain rfl : c1 = 0 := hnil.out rfl
      obtain rfl : N = 0 := by omega
      obtain rfl : k = 0 := by omega
      have BD : Below wc.heap.size wc wc.drew := (Below.refl _ _).drew
      have ST : Hid (∀ W, Below wc.heap.size wc W → W.cell? ⟨b, 0, none⟩ = some (.slice none 0 0)) := fun W hW => (hW.cell (p := ⟨b, 0, none⟩) HH.out.lt).trans (by rw [HH.out.c0, EN.out])
      refine wp_region_last (fun W => W.cell? ⟨b, 0, none⟩ = some (.slice none 0 0)) 22 (by kernel_rfl) (ST.out _ BD) (fun hHeld => ?_)
      refine last_take 0 58 (v := (.pointer (some ⟨b, 0, none⟩))) rfl rfl (by kernel_rfl) (by kernel_rfl) (by kernel_rfl) (by kernel_rfl) (by rfl) (fun _ _ _ h => h) (by assumption) ?_ ?_
      · intro W hW
        go_simp
      simp only [List.setIfInBounds_toArray, List.set_cons_zero, List.set_cons_succ]
      refine last_take 1 59 (v := (.pointer (some ⟨b, 0, none⟩))) rfl rfl (by kernel_rfl) (by kernel_rfl) (by kernel_rfl) (by kernel_rfl) (by rfl) (fun _ _ _ h => h) (by assumption) ?_ ?_
      · intro W hW
        go_simp
      simp only [List.setIfInBounds_toArray, List.set_cons_zero, List.set_cons_succ]
      refine last_take 2 60 (v := (.pointer (some ⟨b, 0, none⟩))) rfl rfl (by kernel_rfl) (by kernel_rfl) (by kernel_rfl) (by kernel_rfl) (by rfl) (fun _ _ _ h => h) (by assumption) ?_ ?_
      · intro W hW
        go_simp
      simp only [List.setIfInBounds_toArray, List.set_cons_zero, List.set_cons_succ]
      refine last_take 3 61 (v := (.pointer (some ⟨b, 0, none⟩))) rfl rfl (by kernel_rfl) (by kernel_rfl) (by kernel_rfl) (by kernel_rfl) (by rfl) (fun _ _ _ h => h) (by assumption) ?_ ?_
      · intro W hW
        go_simp
      simp only [List.setIfInBounds_toArray, List.set_cons_zero, List.set_cons_succ]
      refine last_take 4 62 (v := (.slice none 0 0)) rfl rfl (by kernel_rfl) (by kernel_rfl) (by kernel_rfl) (by kernel_rfl) (by rfl) (fun _ _ _ h => h) (by assumption) ?_ ?_
      · intro W hW
        have hc : W.cell? ⟨b, 0, none⟩ = some (.slice none 0 0) := hW
        go_simp
      simp only [List.setIfInBounds_toArray, List.set_cons_zero, List.set_cons_succ]
      refine last_take 5 63 (v := (.int .i64 0)) rfl rfl (by kernel_rfl) (by kernel_rfl) (by kernel_rfl) (by kernel_rfl) (by rfl) (fun _ _ _ h => h) (by assumption) ?_ ?_
      · intro W hW
        go_simp
      simp only [List.setIfInBounds_toArray, List.set_cons_zero, List.set_cons_succ]
      refine last_take 6 64 (v := (.slice none 0 0)) rfl rfl (by kernel_rfl) (by kernel_rfl) (by kernel_rfl) (by kernel_rfl) (by rfl) (fun _ _ _ h => h) (by assumption) ?_ ?_
      · intro W hW
        go_simp
      simp only [List.setIfInBounds_toArray, List.set_cons_zero, List.set_cons_succ]
      refine last_take 8 66 (v := (.int .i64 id)) rfl rfl (by kernel_rfl) (by kernel_rfl) (by kernel_rfl) (by kernel_rfl) (by rfl) (fun _ _ _ h => h) (by assumption) ?_ ?_
      · intro W hW
        go_simp
      simp only [List.setIfInBounds_toArray, List.set_cons_zero, List.set_cons_succ]
      refine last_take 9 67 (v := (.int .u64 due)) rfl rfl (by kernel_rfl) (by kernel_rfl) (by kernel_rfl) (by kernel_rfl) (by rfl) (fun _ _ _ h => h) (by assumption) ?_ ?_
      · intro W hW
        go_simp
      simp only [List.setIfInBounds_toArray, List.set_cons_zero, List.set_cons_succ]
      refine last_take 10 68 (v := (.agg #[.int .i64 id, .int .u64 due])) rfl rfl (by kernel_rfl) (by kernel_rfl) (by kernel_rfl) (by kernel_rfl) (by rfl) (fun _ _ _ h => h) (by assumption) ?_ ?_
      · intro W hW
        go_simp
      simp only [List.setIfInBounds_toArray, List.set_cons_zero, List.set_cons_succ]
      refine last_take 13 71 (v := (.pointer (some ⟨b, 0, none⟩))) rfl rfl (by kernel_rfl) (by kernel_rfl) (by kernel_rfl) (by kernel_rfl) (by rfl) (fun _ _ _ h => h) (by assumption) ?_ ?_
      · intro W hW
        go_simp
      simp only [List.setIfInBounds_toArray, List.set_cons_zero, List.set_cons_succ]
      refine last_take 14 72 (v := (.pointer (some ⟨b, 0, none⟩))) rfl rfl (by kernel_rfl) (by kernel_rfl) (by kernel_rfl) (by kernel_rfl) (by rfl) (fun _ _ _ h => h) (by assumption) ?_ ?_
      · intro W hW
        go_simp
      simp only [List.setIfInBounds_toArray, List.set_cons_zero, List.set_cons_succ]
      refine last_take 15 73 (v := (.pointer (some ⟨b, 0, none⟩))) rfl rfl (by kernel_rfl) (by kernel_rfl) (by kernel_rfl) (by kernel_rfl) (by rfl) (fun _ _ _ h => h) (by assumption) ?_ ?_
      · intro W hW
        go_simp
      simp only [List.setIfInBounds_toArray, List.set_cons_zero, List.set_cons_succ]
      refine last_take 16 74 (v := (.slice none 0 0)) rfl rfl (by kernel_rfl) (by kernel_rfl) (by kernel_rfl) (by kernel_rfl) (by rfl) (fun _ _ _ h => h) (by assumption) ?_ ?_
      · intro W hW
        have hc : W.cell? ⟨b, 0, none⟩ = some (.slice none 0 0) := hW
        go_simp
      simp only [List.setIfInBounds_toArray, List.set_cons_zero, List.set_cons_succ]
      refine last_take 17 75 (v := (.int .i64 0)) rfl rfl (by kernel_rfl) (by kernel_rfl) (by kernel_rfl) (by kernel_rfl) (by rfl) (fun _ _ _ h => h) (by assumption) ?_ ?_
      · intro W hW
        go_simp
      simp only [List.setIfInBounds_toArray, List.set_cons_zero, List.set_cons_succ]
      refine last_take 18 76 (v := (.slice none 0 0)) rfl rfl (by kernel_rfl) (by kernel_rfl) (by kernel_rfl) (by kernel_rfl) (by rfl) (fun _ _ _ h => h) (by assumption) ?_ ?_
      · intro W hW
        go_simp
      simp only [List.setIfInBounds_toArray, List.set_cons_zero, List.set_cons_succ]
      refine last_two 7 11 rfl rfl (by kernel_rfl) (by rfl) (by rfl) ?_ ?_
      · obtain ⟨y1, z1, hrun1, o1, g1, n1⟩ := app_near (P := Try.prog) dc2 dc_one wc.drew 35 35 42 (.agg #[.int .i64 0, .int .u64 0]) Try.underlying35 Try.infoD rfl wc.heap.size (.slice none 0 0) 0 [] (World.ownsRow_nil _ _ _ _) none 0 0 (l1.take 0) (by simp) (fun _ => ⟨rfl, rfl⟩) ((HH.out.rd.below BD).take 0).src (by omega) (Nat.le_refl _)
        have D1 : Below wc.heap.size wc z1 := BD.trans ((Only.ofGrown (S := fun _ => False) g1 (fun k hk => by cases hk)).below (fun _ h => h.elim) (Nat.le_refl _))
        have BA : Below z1.heap.size z1 (z1.alloc (.cells #[.int .i64 id, .int .u64 due] 42)) := (Below.refl _ _).alloc (Nat.le_refl _) _
        have D2 : Below wc.heap.size wc (z1.alloc (.cells #[.int .i64 id, .int .u64 due] 42)) := D1.trans (BA.mono D1.size)
        have ow := own_grow o1 BA
        have HC : Hid (∀ j u, (fl dc [((due, id) : Rw)])[j]? = some u → (z1.alloc (.cells #[.int .i64 id, .int .u64 due] 42)).cell? ((⟨z1.heap.size, 0, none⟩ : Addr).add j) = some u) := fun j u hu => dcells_lit (w := z1) id due j u hu
        have s1 := ST.out _ D1
        have s2 := ST.out _ D2
        refine wp_append_dst 65 (.const (.slice none 0 0)) (.tmp 64) 35 35 rfl rfl rfl rfl hrun1 ⟨fun _ => s1, ?_⟩
        simp only [List.setIfInBounds_toArray, List.set_cons_zero, List.set_cons_succ]
        refine last_op 11 rfl (by kernel_rfl) (by rfl) ?_
        refine wp_run (v := .slice (some ⟨z1.heap.size, 0, none⟩) 1 1) (w' := z1.alloc (.cells #[.int .i64 id, .int .u64 due] 42)) rfl (by go_simp) ⟨fun _ => s2, ?_⟩
        simp only [List.setIfInBounds_toArray, List.set_cons_zero, List.set_cons_succ]
        clear hrun1 o1 g1 n1 s1 s2 D1 BA
        generalize z1.heap.size = vb at *
        generalize (z1.alloc (.cells #[.int .i64 id, .int .u64 due] 42)) = z2 at *
        obtain ⟨y2, z3, hrun2, o2, g2, n2⟩ := app_near (P := Try.prog) dc2 dc_one z2 35 35 42 (.agg #[.int .i64 0, .int .u64 0]) Try.underlying35 Try.infoD rfl wc.heap.size y1 (0 + 0) ([] ++ (l1.take 0)) ow (some ⟨vb, 0, none⟩) 1 1 [(due, id)] rfl (fun e => by cases e) (fun ad h j u hu => by injection h with h; subst h; exact HC.out j u hu) (by omega) D2.size
        have D3 : Below wc.heap.size wc z3 := D2.trans ((Only.ofGrown (S := fun k => (y1 : Value).ownBlock = some k) g2 (fun k hk => hk)).below (fun k h => (ow.lt k h).1) D2.size)
        obtain ⟨y3, z4, hrun3, o3, g3, n3⟩ := app_near (P := Try.prog) dc2 dc_one z3 35 35 42 (.agg #[.int .i64 0, .int .u64 0]) Try.underlying35 Try.infoD rfl wc.heap.size y2 (0 + 0 + 1) ([] ++ (l1.take 0) ++ [(due, id)]) o2 none (0) (0) (l1.drop 0) (by rw [List.length_drop, EN.out]) (fun _ => ⟨rfl, rfl⟩) ((HH.out.rd.below D3).dropN 0).src (by omega) D3.size
        have D4 : Below wc.heap.size wc z4 := D3.trans ((Only.ofGrown (S := fun k => y2.ownBlock = some k) g3 (fun k hk => hk)).below (fun k h => (o2.lt k h).1) D3.size)
        have R2 : Hid (RqTo wc b none l2 (z4.setCell ⟨b, 0, none⟩ y3)) := by
          obtain ⟨A2, c2, rfl⟩ := own_slice o3
          refine HH.out.put D4 (l' := l2) (by rw [show l2 = [] ++ (l1.take 0) ++ [(due, id)] ++ l1.drop 0 by rw [HP.out]; unfold Qu.ins; rw [HK.out]; simp]; exact o3) (by rw [HP.out, Qu.ins_len, EN.out]; exact HS.out)
        obtain ⟨A2, c2, rfl⟩ := own_slice o3
        have s3 := ST.out _ D3
        have s4 := ST.out _ D4
        have f4 : z4.frozen? ⟨b, 0, none⟩ = false := (D4.frozen (p := ⟨b, 0, none⟩) HH.out.lt).trans (HH.out.fr 0)
        refine last_op 12 rfl (by kernel_rfl) (by rfl) ?_
        refine wp_append_dst 70 (.tmp 65) (.tmp 69) 35 35 rfl rfl rfl rfl hrun2 ⟨fun _ => s3, ?_⟩
        simp only [List.setIfInBounds_toArray, List.set_cons_zero, List.set_cons_succ]
        refine last_op 19 rfl (by kernel_rfl) (by rfl) ?_
        refine wp_append_dst 77 (.tmp 70) (.tmp 76) 35 35 rfl rfl rfl rfl hrun3 ⟨fun _ => s4, ?_⟩
        simp only [List.setIfInBounds_toArray, List.set_cons_zero, List.set_cons_succ]
        clear hrun2 hrun3 o2 g2 n2 o3 g3 n3 D3 D4 BD ST
        refine last_op 20 rfl (by kernel_rfl) (by rfl) ?_
        refine wp_run (v := .pointer (some ⟨b, 0, none⟩)) (w' := z4) rfl (by go_simp) ⟨fun _ => s4, ?_⟩
        simp only [List.setIfInBounds_toArray, List.set_cons_zero, List.set_cons_succ]
        refine last_op 21 rfl (by kernel_rfl) (by rfl) ?_
        refine wp_run (v := .pointer (some ⟨b, 0, none⟩)) (w' := z4) rfl (by go_simp) ⟨fun _ => s4, ?_⟩
        simp only [List.setIfInBounds_toArray, List.set_cons_zero, List.set_cons_succ]
        refine last_op 22 rfl (by kernel_rfl) (by rfl) ?_
        refine wp_skip (w' := z4.setCell ⟨b, 0, none⟩ (.slice A2 (0 + 0 + 1 + (0)) c2)) rfl (by go_simp) ⟨fun h => absurd rfl h, ?_⟩
        refine last_done (by kernel_rfl) ?_ _
        clear s3 s4 f4 HH c0
        generalize (z4.setCell ⟨b, 0, none⟩ (.slice A2 (0 + 0 + 1 + (0)) c2)) = z5 at *
        go_wp2
        all_goals
          go_end0
          exact ⟨rfl, AFT.out _ R2.out⟩
      · have BA : Below wc.drew.heap.size wc.drew (wc.drew.alloc (.cells #[.int .i64 id, .int .u64 due] 42)) := (Below.refl _ _).alloc (Nat.le_refl _) _
        have D1 : Below wc.heap.size wc (wc.drew.alloc (.cells #[.int .i64 id, .int .u64 due] 42)) := BD.trans BA
        obtain ⟨y1, z2, hrun1, o1, g1, n1⟩ := app_near (P := Try.prog) dc2 dc_one (wc.drew.alloc (.cells #[.int .i64 id, .int .u64 due] 42)) 35 35 42 (.agg #[.int .i64 0, .int .u64 0]) Try.underlying35 Try.infoD rfl wc.heap.size (.slice none 0 0) 0 [] (World.ownsRow_nil _ _ _ _) none 0 0 (l1.take 0) (by simp) (fun _ => ⟨rfl, rfl⟩) ((HH.out.rd.below D1).take 0).src (by omega) D1.size
        have BG : Below (wc.drew.alloc (.cells #[.int .i64 id, .int .u64 due] 42)).heap.size (wc.drew.alloc (.cells #[.int .i64 id, .int .u64 due] 42)) z2 := (Only.ofGrown (S := fun _ => False) g1 (fun k hk => by cases hk)).below (fun _ h => h.elim) (Nat.le_refl _)
        have D2 : Below wc.heap.size wc z2 := D1.trans (BG.mono D1.size)
        have HC : Hid (∀ j u, (fl dc [((due, id) : Rw)])[j]? = some u → z2.cell? ((⟨wc.heap.size, 0, none⟩ : Addr).add j) = some u) := fun j u hu => by
          have h1 := dcells_lit (w := wc.drew) id due j u hu
          exact (BG.cell (World.block_lt_of_cell? _ _ h1)).trans h1
        have s1 := ST.out _ D1
        have s2 := ST.out _ D2
        refine wp_run (v := .slice (some ⟨wc.heap.size, 0, none⟩) 1 1) (w' := wc.drew.alloc (.cells #[.int .i64 id, .int .u64 due] 42)) rfl (by go_simp) ⟨fun _ => s1, ?_⟩
        simp only [List.setIfInBounds_toArray, List.set_cons_zero, List.set_cons_succ]
        refine last_op 7 rfl (by kernel_rfl) (by rfl) ?_
        refine wp_append_dst 65 (.const (.slice none 0 0)) (.tmp 64) 35 35 rfl rfl rfl rfl hrun1 ⟨fun _ => s2, ?_⟩
        simp only [List.setIfInBounds_toArray, List.set_cons_zero, List.set_cons_succ]
        clear hrun1 g1 n1 s1 s2 D1 BA BG
        obtain ⟨y2, z3, hrun2, o2, g2, n2⟩ := app_near (P := Try.prog) dc2 dc_one z2 35 35 42 (.agg #[.int .i64 0, .int .u64 0]) Try.underlying35 Try.infoD rfl wc.heap.size y1 (0 + 0) ([] ++ (l1.take 0)) o1 (some ⟨wc.heap.size, 0, none⟩) 1 1 [(due, id)] rfl (fun e => by cases e) (fun ad h j u hu => by injection h with h; subst h; exact HC.out j u hu) (by omega) D2.size
        have D3 : Below wc.heap.size wc z3 := D2.trans ((Only.ofGrown (S := fun k => (y1 : Value).ownBlock = some k) g2 (fun k hk => hk)).below (fun k h => (o1.lt k h).1) D2.size)
        obtain ⟨y3, z4, hrun3, o3, g3, n3⟩ := app_near (P := Try.prog) dc2 dc_one z3 35 35 42 (.agg #[.int .i64 0, .int .u64 0]) Try.underlying35 Try.infoD rfl wc.heap.size y2 (0 + 0 + 1) ([] ++ (l1.take 0) ++ [(due, id)]) o2 none (0) (0) (l1.drop 0) (by rw [List.length_drop, EN.out]) (fun _ => ⟨rfl, rfl⟩) ((HH.out.rd.below D3).dropN 0).src (by omega) D3.size
        have D4 : Below wc.heap.size wc z4 := D3.trans ((Only.ofGrown (S := fun k => y2.ownBlock = some k) g3 (fun k hk => hk)).below (fun k h => (o2.lt k h).1) D3.size)
        have R2 : Hid (RqTo wc b none l2 (z4.setCell ⟨b, 0, none⟩ y3)) := by
          obtain ⟨A2, c2, rfl⟩ := own_slice o3
          refine HH.out.put D4 (l' := l2) (by rw [show l2 = [] ++ (l1.take 0) ++ [(due, id)] ++ l1.drop 0 by rw [HP.out]; unfold Qu.ins; rw [HK.out]; simp]; exact o3) (by rw [HP.out, Qu.ins_len, EN.out]; exact HS.out)
        obtain ⟨A2, c2, rfl⟩ := own_slice o3
        have s3 := ST.out _ D3
        have s4 := ST.out _ D4
        have f4 : z4.frozen? ⟨b, 0, none⟩ = false := (D4.frozen (p := ⟨b, 0, none⟩) HH.out.lt).trans (HH.out.fr 0)
        refine last_op 12 rfl (by kernel_rfl) (by rfl) ?_
        refine wp_append_dst 70 (.tmp 65) (.tmp 69) 35 35 rfl rfl rfl rfl hrun2 ⟨fun _ => s3, ?_⟩
        simp only [List.setIfInBounds_toArray, List.set_cons_zero, List.set_cons_succ]
        refine last_op 19 rfl (by kernel_rfl) (by rfl) ?_
        refine wp_append_dst 77 (.tmp 70) (.tmp 76) 35 35 rfl rfl rfl rfl hrun3 ⟨fun _ => s4, ?_⟩
        simp only [List.setIfInBounds_toArray, List.set_cons_zero, List.set_cons_succ]
        clear hrun2 hrun3 o2 g2 n2 o3 g3 n3 D3 D4 BD ST
        refine last_op 20 rfl (by kernel_rfl) (by rfl) ?_
        refine wp_run (v := .pointer (some ⟨b, 0, none⟩)) (w' := z4) rfl (by go_simp) ⟨fun _ => s4, ?_⟩
        simp only [List.setIfInBounds_toArray, List.set_cons_zero, List.set_cons_succ]
        refine last_op 21 rfl (by kernel_rfl) (by rfl) ?_
        refine wp_run (v := .pointer (some ⟨b, 0, none⟩)) (w' := z4) rfl (by go_simp) ⟨fun _ => s4, ?_⟩
        simp only [List.setIfInBounds_toArray, List.set_cons_zero, List.set_cons_succ]
        refine last_op 22 rfl (by kernel_rfl) (by rfl) ?_
        refine wp_skip (w' := z4.setCell ⟨b, 0, none⟩ (.slice A2 (0 + 0 + 1 + (0)) c2)) rfl (by go_simp) ⟨fun h => absurd rfl h, ?_⟩
        refine last_done (by kernel_rfl) ?_ _
        clear s3 s4 f4 HH c0
        generalize (z4.setCell ⟨b, 0, none⟩ (.slice A2 (0 + 0 + 1 + (0)) c2)) = z5 at *
        go_wp2
        all_goals
          go_end0
          exact ⟨rfl, AFT.out _ R2.out⟩
    · obtain ⟨g, off, rfl⟩ := HH.out.sh a rfl
      have BD : Below wc.heap.size wc wc.drew := (Below.refl _ _).drew
      have ST : Hid (∀ W, Below wc.heap.size wc W → W.cell? ⟨b, 0, none⟩ = some (.slice (some ⟨g, off, none⟩) N c1)) := fun W hW => (hW.cell (p := ⟨b, 0, none⟩) HH.out.lt).trans (by rw [HH.out.c0, EN.out])
      refine wp_region_last (fun W => W.cell? ⟨b, 0, none⟩ = some (.slice (some ⟨g, off, none⟩) N c1)) 22 (by kernel_rfl) (ST.out _ BD) (fun hHeld => ?_)
      refine last_take 0 58 (v := (.pointer (some ⟨b, 0, none⟩))) rfl rfl (by kernel_rfl) (by kernel_rfl) (by kernel_rfl) (by kernel_rfl) (by rfl) (fun _ _ _ h => h) (by assumption) ?_ ?_
      · intro W hW
        go_simp
      simp only [List.setIfInBounds_toArray, List.set_cons_zero, List.set_cons_succ]
      refine last_take 1 59 (v := (.pointer (some ⟨b, 0, none⟩))) rfl rfl (by kernel_rfl) (by kernel_rfl) (by kernel_rfl) (by kernel_rfl) (by rfl) (fun _ _ _ h => h) (by assumption) ?_ ?_
      · intro W hW
        go_simp
      simp only [List.setIfInBounds_toArray, List.set_cons_zero, List.set_cons_succ]
      refine last_take 2 60 (v := (.pointer (some ⟨b, 0, none⟩))) rfl rfl (by kernel_rfl) (by kernel_rfl) (by kernel_rfl) (by kernel_rfl) (by rfl) (fun _ _ _ h => h) (by assumption) ?_ ?_
      · intro W hW
        go_simp
      simp only [List.setIfInBounds_toArray, List.set_cons_zero, List.set_cons_succ]
      refine last_take 3 61 (v := (.pointer (some ⟨b, 0, none⟩))) rfl rfl (by kernel_rfl) (by kernel_rfl) (by kernel_rfl) (by kernel_rfl) (by rfl) (fun _ _ _ h => h) (by assumption) ?_ ?_
      · intro W hW
        go_simp
      simp only [List.setIfInBounds_toArray, List.set_cons_zero, List.set_cons_succ]
      refine last_take 4 62 (v := (.slice (some ⟨g, off, none⟩) N c1)) rfl rfl (by kernel_rfl) (by kernel_rfl) (by kernel_rfl) (by kernel_rfl) (by rfl) (fun _ _ _ h => h) (by assumption) ?_ ?_
      · intro W hW
        have hc : W.cell? ⟨b, 0, none⟩ = some (.slice (some ⟨g, off, none⟩) N c1) := hW
        go_simp
      simp only [List.setIfInBounds_toArray, List.set_cons_zero, List.set_cons_succ]
      refine last_take 5 63 (v := (.int .i64 (k : Int))) rfl rfl (by kernel_rfl) (by kernel_rfl) (by kernel_rfl) (by kernel_rfl) (by rfl) (fun _ _ _ h => h) (by assumption) ?_ ?_
      · intro W hW
        go_simp
      simp only [List.setIfInBounds_toArray, List.set_cons_zero, List.set_cons_succ]
      refine last_take 6 64 (v := (.slice (some ⟨g, off, none⟩) k c1)) rfl rfl (by kernel_rfl) (by kernel_rfl) (by kernel_rfl) (by kernel_rfl) (by rfl) (fun _ _ _ h => h) (by assumption) ?_ ?_
      · intro W hW
        go_simp
      simp only [List.setIfInBounds_toArray, List.set_cons_zero, List.set_cons_succ]
      refine last_take 8 66 (v := (.int .i64 id)) rfl rfl (by kernel_rfl) (by kernel_rfl) (by kernel_rfl) (by kernel_rfl) (by rfl) (fun _ _ _ h => h) (by assumption) ?_ ?_
      · intro W hW
        go_simp
      simp only [List.setIfInBounds_toArray, List.set_cons_zero, List.set_cons_succ]
      refine last_take 9 67 (v := (.int .u64 due)) rfl rfl (by kernel_rfl) (by kernel_rfl) (by kernel_rfl) (by kernel_rfl) (by rfl) (fun _ _ _ h => h) (by assumption) ?_ ?_
      · intro W hW
        go_simp
      simp only [List.setIfInBounds_toArray, List.set_cons_zero, List.set_cons_succ]
      refine last_take 10 68 (v := (.agg #[.int .i64 id, .int .u64 due])) rfl rfl (by kernel_rfl) (by kernel_rfl) (by kernel_rfl) (by kernel_rfl) (by rfl) (fun _ _ _ h => h) (by assumption) ?_ ?_
      · intro W hW
        go_simp
      simp only [List.setIfInBounds_toArray, List.set_cons_zero, List.set_cons_succ]
      refine last_take 13 71 (v := (.pointer (some ⟨b, 0, none⟩))) rfl rfl (by kernel_rfl) (by kernel_rfl) (by kernel_rfl) (by kernel_rfl) (by rfl) (fun _ _ _ h => h) (by assumption) ?_ ?_
      · intro W hW
        go_simp
      simp only [List.setIfInBounds_toArray, List.set_cons_zero, List.set_cons_succ]
      refine last_take 14 72 (v := (.pointer (some ⟨b, 0, none⟩))) rfl rfl (by kernel_rfl) (by kernel_rfl) (by kernel_rfl) (by kernel_rfl) (by rfl) (fun _ _ _ h => h) (by assumption) ?_ ?_
      · intro W hW
        go_simp
      simp only [List.setIfInBounds_toArray, List.set_cons_zero, List.set_cons_succ]
      refine last_take 15 73 (v := (.pointer (some ⟨b, 0, none⟩))) rfl rfl (by kernel_rfl) (by kernel_rfl) (by kernel_rfl) (by kernel_rfl) (by rfl) (fun _ _ _ h => h) (by assumption) ?_ ?_
      · intro W hW
        go_simp
      simp only [List.setIfInBounds_toArray, List.set_cons_zero, List.set_cons_succ]
      refine last_take 16 74 (v := (.slice (some ⟨g, off, none⟩) N c1)) rfl rfl (by kernel_rfl) (by kernel_rfl) (by kernel_rfl) (by kernel_rfl) (by rfl) (fun _ _ _ h => h) (by assumption) ?_ ?_
      · intro W hW
        have hc : W.cell? ⟨b, 0, none⟩ = some (.slice (some ⟨g, off, none⟩) N c1) := hW
        go_simp
      simp only [List.setIfInBounds_toArray, List.set_cons_zero, List.set_cons_succ]
      refine last_take 17 75 (v := (.int .i64 (k : Int))) rfl rfl (by kernel_rfl) (by kernel_rfl) (by kernel_rfl) (by kernel_rfl) (by rfl) (fun _ _ _ h => h) (by assumption) ?_ ?_
      · intro W hW
        go_simp
      simp only [List.setIfInBounds_toArray, List.set_cons_zero, List.set_cons_succ]
      refine last_take 18 76 (v := (.slice (if c1 = k then some (⟨g, off, none⟩ : Addr) else some ⟨g, off + k * 2, none⟩) (N - k) (c1 - k))) rfl rfl (by kernel_rfl) (by kernel_rfl) (by kernel_rfl) (by kernel_rfl) (by rfl) (fun _ _ _ h => h) (by assumption) ?_ ?_
      · intro W hW
        go_simp
      simp only [List.setIfInBounds_toArray, List.set_cons_zero, List.set_cons_succ]
      refine last_two 7 11 rfl rfl (by kernel_rfl) (by rfl) (by rfl) ?_ ?_
      · obtain ⟨y1, z1, hrun1, o1, g1, n1⟩ := app_near (P := Try.prog) dc2 dc_one wc.drew 35 35 42 (.agg #[.int .i64 0, .int .u64 0]) Try.underlying35 Try.infoD rfl wc.heap.size (.slice none 0 0) 0 [] (World.ownsRow_nil _ _ _ _) (some ⟨g, off, none⟩) k c1 (l1.take k) (by rw [List.length_take, EN.out]; omega) (fun e => by cases e) ((HH.out.rd.below BD).take k).src (by omega) (Nat.le_refl _)
        have D1 : Below wc.heap.size wc z1 := BD.trans ((Only.ofGrown (S := fun _ => False) g1 (fun k hk => by cases hk)).below (fun _ h => h.elim) (Nat.le_refl _))
        have BA : Below z1.heap.size z1 (z1.alloc (.cells #[.int .i64 id, .int .u64 due] 42)) := (Below.refl _ _).alloc (Nat.le_refl _) _
        have D2 : Below wc.heap.size wc (z1.alloc (.cells #[.int .i64 id, .int .u64 due] 42)) := D1.trans (BA.mono D1.size)
        have ow := own_grow o1 BA
        have HC : Hid (∀ j u, (fl dc [((due, id) : Rw)])[j]? = some u → (z1.alloc (.cells #[.int .i64 id, .int .u64 due] 42)).cell? ((⟨z1.heap.size, 0, none⟩ : Addr).add j) = some u) := fun j u hu => dcells_lit (w := z1) id due j u hu
        have s1 := ST.out _ D1
        have s2 := ST.out _ D2
        refine wp_append_dst 65 (.const (.slice none 0 0)) (.tmp 64) 35 35 rfl rfl rfl rfl hrun1 ⟨fun _ => s1, ?_⟩
        simp only [List.setIfInBounds_toArray, List.set_cons_zero, List.set_cons_succ]
        refine last_op 11 rfl (by kernel_rfl) (by rfl) ?_
        refine wp_run (v := .slice (some ⟨z1.heap.size, 0, none⟩) 1 1) (w' := z1.alloc (.cells #[.int .i64 id, .int .u64 due] 42)) rfl (by go_simp) ⟨fun _ => s2, ?_⟩
        simp only [List.setIfInBounds_toArray, List.set_cons_zero, List.set_cons_succ]
        clear hrun1 o1 g1 n1 s1 s2 D1 BA
        generalize z1.heap.size = vb at *
        generalize (z1.alloc (.cells #[.int .i64 id, .int .u64 due] 42)) = z2 at *
        obtain ⟨y2, z3, hrun2, o2, g2, n2⟩ := app_near (P := Try.prog) dc2 dc_one z2 35 35 42 (.agg #[.int .i64 0, .int .u64 0]) Try.underlying35 Try.infoD rfl wc.heap.size y1 (0 + k) ([] ++ (l1.take k)) ow (some ⟨vb, 0, none⟩) 1 1 [(due, id)] rfl (fun e => by cases e) (fun ad h j u hu => by injection h with h; subst h; exact HC.out j u hu) (by omega) D2.size
        have D3 : Below wc.heap.size wc z3 := D2.trans ((Only.ofGrown (S := fun k => (y1 : Value).ownBlock = some k) g2 (fun k hk => hk)).below (fun k h => (ow.lt k h).1) D2.size)
        obtain ⟨y3, z4, hrun3, o3, g3, n3⟩ := app_near (P := Try.prog) dc2 dc_one z3 35 35 42 (.agg #[.int .i64 0, .int .u64 0]) Try.underlying35 Try.infoD rfl wc.heap.size y2 (0 + k + 1) ([] ++ (l1.take k) ++ [(due, id)]) o2 (if c1 = k then some (⟨g, off, none⟩ : Addr) else some ⟨g, off + k * 2, none⟩) ((N - k)) ((c1 - k)) (l1.drop k) (by rw [List.length_drop, EN.out]) (fun e => by split at e <;> cases e) ((HH.out.rd.below D3).drop k HH.out.le).src (by omega) D3.size
        have D4 : Below wc.heap.size wc z4 := D3.trans ((Only.ofGrown (S := fun k => y2.ownBlock = some k) g3 (fun k hk => hk)).below (fun k h => (o2.lt k h).1) D3.size)
        have R2 : Hid (RqTo wc b (some ⟨g, off, none⟩) l2 (z4.setCell ⟨b, 0, none⟩ y3)) := by
          obtain ⟨A2, c2, rfl⟩ := own_slice o3
          refine HH.out.put D4 (l' := l2) (by rw [show l2 = [] ++ (l1.take k) ++ [(due, id)] ++ l1.drop k by rw [HP.out]; unfold Qu.ins; rw [HK.out]; simp]; exact o3) (by rw [HP.out, Qu.ins_len, EN.out]; exact HS.out)
        obtain ⟨A2, c2, rfl⟩ := own_slice o3
        have s3 := ST.out _ D3
        have s4 := ST.out _ D4
        have f4 : z4.frozen? ⟨b, 0, none⟩ = false := (D4.frozen (p := ⟨b, 0, none⟩) HH.out.lt).trans (HH.out.fr 0)
        refine last_op 12 rfl (by kernel_rfl) (by rfl) ?_
        refine wp_append_dst 70 (.tmp 65) (.tmp 69) 35 35 rfl rfl rfl rfl hrun2 ⟨fun _ => s3, ?_⟩
        simp only [List.setIfInBounds_toArray, List.set_cons_zero, List.set_cons_succ]
        refine last_op 19 rfl (by kernel_rfl) (by rfl) ?_
        refine wp_append_dst 77 (.tmp 70) (.tmp 76) 35 35 rfl rfl rfl rfl hrun3 ⟨fun _ => s4, ?_⟩
        simp only [List.setIfInBounds_toArray, List.set_cons_zero, List.set_cons_succ]
        clear hrun2 hrun3 o2 g2 n2 o3 g3 n3 D3 D4 BD ST
        refine last_op 20 rfl (by kernel_rfl) (by rfl) ?_
        refine wp_run (v := .pointer (some ⟨b, 0, none⟩)) (w' := z4) rfl (by go_simp) ⟨fun _ => s4, ?_⟩
        simp only [List.setIfInBounds_toArray, List.set_cons_zero, List.set_cons_succ]
        refine last_op 21 rfl (by kernel_rfl) (by rfl) ?_
        refine wp_run (v := .pointer (some ⟨b, 0, none⟩)) (w' := z4) rfl (by go_simp) ⟨fun _ => s4, ?_⟩
        simp only [List.setIfInBounds_toArray, List.set_cons_zero, List.set_cons_succ]
        refine last_op 22 rfl (by kernel_rfl) (by rfl) ?_
        refine wp_skip (w' := z4.setCell ⟨b, 0, none⟩ (.slice A2 (0 + k + 1 + ((N - k))) c2)) rfl (by go_simp) ⟨fun h => absurd rfl h, ?_⟩
        refine last_done (by kernel_rfl) ?_ _
        clear s3 s4 f4 HH c0
        generalize (if c1 = k then some (⟨g, off, none⟩ : Addr) else some ⟨g, off + k * 2, none⟩) = AD at *
        generalize (z4.setCell ⟨b, 0, none⟩ (.slice A2 (0 + k + 1 + ((N - k))) c2)) = z5 at *
        go_wp2
        all_goals
          go_end0
          exact ⟨rfl, AFT.out _ R2.out⟩
      · have BA : Below wc.drew.heap.size wc.drew (wc.drew.alloc (.cells #[.int .i64 id, .int .u64 due] 42)) := (Below.refl _ _).alloc (Nat.le_refl _) _
        have D1 : Below wc.heap.size wc (wc.drew.alloc (.cells #[.int .i64 id, .int .u64 due] 42)) := BD.trans BA
        obtain ⟨y1, z2, hrun1, o1, g1, n1⟩ := app_near (P := Try.prog) dc2 dc_one (wc.drew.alloc (.cells #[.int .i64 id, .int .u64 due] 42)) 35 35 42 (.agg #[.int .i64 0, .int .u64 0]) Try.underlying35 Try.infoD rfl wc.heap.size (.slice none 0 0) 0 [] (World.ownsRow_nil _ _ _ _) (some ⟨g, off, none⟩) k c1 (l1.take k) (by rw [List.length_take, EN.out]; omega) (fun e => by cases e) ((HH.out.rd.below D1).take k).src (by omega) D1.size
        have BG : Below (wc.drew.alloc (.cells #[.int .i64 id, .int .u64 due] 42)).heap.size (wc.drew.alloc (.cells #[.int .i64 id, .int .u64 due] 42)) z2 := (Only.ofGrown (S := fun _ => False) g1 (fun k hk => by cases hk)).below (fun _ h => h.elim) (Nat.le_refl _)
        have D2 : Below wc.heap.size wc z2 := D1.trans (BG.mono D1.size)
        have HC : Hid (∀ j u, (fl dc [((due, id) : Rw)])[j]? = some u → z2.cell? ((⟨wc.heap.size, 0, none⟩ : Addr).add j) = some u) := fun j u hu => by
          have h1 := dcells_lit (w := wc.drew) id due j u hu
          exact (BG.cell (World.block_lt_of_cell? _ _ h1)).trans h1
        have s1 := ST.out _ D1
        have s2 := ST.out _ D2
        refine wp_run (v := .slice (some ⟨wc.heap.size, 0, none⟩) 1 1) (w' := wc.drew.alloc (.cells #[.int .i64 id, .int .u64 due] 42)) rfl (by go_simp) ⟨fun _ => s1, ?_⟩
        simp only [List.setIfInBounds_toArray, List.set_cons_zero, List.set_cons_succ]
        refine last_op 7 rfl (by kernel_rfl) (by rfl) ?_
        refine wp_append_dst 65 (.const (.slice none 0 0)) (.tmp 64) 35 35 rfl rfl rfl rfl hrun1 ⟨fun _ => s2, ?_⟩
        simp only [List.setIfInBounds_toArray, List.set_cons_zero, List.set_cons_succ]
        clear hrun1 g1 n1 s1 s2 D1 BA BG
        obtain ⟨y2, z3, hrun2, o2, g2, n2⟩ := app_near (P := Try.prog) dc2 dc_one z2 35 35 42 (.agg #[.int .i64 0, .int .u64 0]) Try.underlying35 Try.infoD rfl wc.heap.size y1 (0 + k) ([] ++ (l1.take k)) o1 (some ⟨wc.heap.size, 0, none⟩) 1 1 [(due, id)] rfl (fun e => by cases e) (fun ad h j u hu => by injection h with h; subst h; exact HC.out j u hu) (by omega) D2.size
        have D3 : Below wc.heap.size wc z3 := D2.trans ((Only.ofGrown (S := fun k => (y1 : Value).ownBlock = some k) g2 (fun k hk => hk)).below (fun k h => (o1.lt k h).1) D2.size)
        obtain ⟨y3, z4, hrun3, o3, g3, n3⟩ := app_near (P := Try.prog) dc2 dc_one z3 35 35 42 (.agg #[.int .i64 0, .int .u64 0]) Try.underlying35 Try.infoD rfl wc.heap.size y2 (0 + k + 1) ([] ++ (l1.take k) ++ [(due, id)]) o2 (if c1 = k then some (⟨g, off, none⟩ : Addr) else some ⟨g, off + k * 2, none⟩) ((N - k)) ((c1 - k)) (l1.drop k) (by rw [List.length_drop, EN.out]) (fun e => by split at e <;> cases e) ((HH.out.rd.below D3).drop k HH.out.le).src (by omega) D3.size
        have D4 : Below wc.heap.size wc z4 := D3.trans ((Only.ofGrown (S := fun k => y2.ownBlock = some k) g3 (fun k hk => hk)).below (fun k h => (o2.lt k h).1) D3.size)
        have R2 : Hid (RqTo wc b (some ⟨g, off, none⟩) l2 (z4.setCell ⟨b, 0, none⟩ y3)) := by
          obtain ⟨A2, c2, rfl⟩ := own_slice o3
          refine HH.out.put D4 (l' := l2) (by rw [show l2 = [] ++ (l1.take k) ++ [(due, id)] ++ l1.drop k by rw [HP.out]; unfold Qu.ins; rw [HK.out]; simp]; exact o3) (by rw [HP.out, Qu.ins_len, EN.out]; exact HS.out)
        obtain ⟨A2, c2, rfl⟩ := own_slice o3
        have s3 := ST.out _ D3
        have s4 := ST.out _ D4
        have f4 : z4.frozen? ⟨b, 0, none⟩ = false := (D4.frozen (p := ⟨b, 0, none⟩) HH.out.lt).trans (HH.out.fr 0)
        refine last_op 12 rfl (by kernel_rfl) (by rfl) ?_
        refine wp_append_dst 70 (.tmp 65) (.tmp 69) 35 35 rfl rfl rfl rfl hrun2 ⟨fun _ => s3, ?_⟩
        simp only [List.setIfInBounds_toArray, List.set_cons_zero, List.set_cons_succ]
        refine last_op 19 rfl (by kernel_rfl) (by rfl) ?_
        refine wp_append_dst 77 (.tmp 70) (.tmp 76) 35 35 rfl rfl rfl rfl hrun3 ⟨fun _ => s4, ?_⟩
        simp only [List.setIfInBounds_toArray, List.set_cons_zero, List.set_cons_succ]
        clear hrun2 hrun3 o2 g2 n2 o3 g3 n3 D3 D4 BD ST
        refine last_op 20 rfl (by kernel_rfl) (by rfl) ?_
        refine wp_run (v := .pointer (some ⟨b, 0, none⟩)) (w' := z4) rfl (by go_simp) ⟨fun _ => s4, ?_⟩
        simp only [List.setIfInBounds_toArray, List.set_cons_zero, List.set_cons_succ]
        refine last_op 21 rfl (by kernel_rfl) (by rfl) ?_
        refine wp_run (v := .pointer (some ⟨b, 0, none⟩)) (w' := z4) rfl (by go_simp) ⟨fun _ => s4, ?_⟩
        simp only [List.setIfInBounds_toArray, List.set_cons_zero, List.set_cons_succ]
        refine last_op 22 rfl (by kernel_rfl) (by rfl) ?_
        refine wp_skip (w' := z4.setCell ⟨b, 0, none⟩ (.slice A2 (0 + k + 1 + ((N - k))) c2)) rfl (by go_simp) ⟨fun h => absurd rfl h, ?_⟩
        refine last_done (by kernel_rfl) ?_ _
        clear s3 s4 f4 HH c0
        generalize (if c1 = k then some (⟨g, off, none⟩ : Addr) else some ⟨g, off + k * 2, none⟩) = AD at *
        generalize (z4.setCell ⟨b, 0, none⟩ (.slice A2 (0 + k + 1 + ((N - k))) c2)) = z5 at *
        go_wp2
        all_goals
          go_end0
          exact ⟨rfl, AFT.out _ R2.out⟩
end Go.Proofs.Ytlbhiiciajfphaa
