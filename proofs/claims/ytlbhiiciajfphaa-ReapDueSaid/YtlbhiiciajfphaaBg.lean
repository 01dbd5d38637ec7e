/-
  Rows of two cells appended to an owned row, with where it lies afterwards; the library's Insert of one of the program's rows. Conditions: lengths fit.
-/
import Derived.Test.YtlbhiiciajfphaaBf
namespace Go.Proofs.Ytlbhiiciajfphaa
open Go.RowKit Go.Sort

theorem app_near {P : Program} {f : Rw → List Value} (h2 : ∀ r, (f r).length = 2) (h1 : ∀ l, ∀ u ∈ fl f l, u.oneCell' = true) (w : World) (t ty e : TypeId) (z : Value) (ht : P.underlying t = some (.slice e))
    (hinfo : (P.info? e).map (fun i => (i.zero, i.size, i.bytes)) = some (some z, 2, 16)) (hz2 : z.cells.size = 2)
    (base : Nat) (v : Value) (n : Nat) (xs : List Rw) (hown : w.ownsRow base e 2 v n (fl f xs)) (A : Option Addr) (m c : Nat) (l : List Rw) (hm : l.length = m) (hA : A = none → c = 0 ∧ m = 0)
    (hx : ∀ ad, A = some ad → ∀ j u, (fl f l)[j]? = some u → w.cell? (ad.add j) = some u) (hlen : n + m ≤ 1099511627776) (hbase : base ≤ w.heap.size) :
    ∃ v' w', (Builtin.append_ #[t, t] ty #[v, .slice A m c]).run P w = .ok v' w' ∧ w'.ownsRow base e 2 v' (n + m) (fl f (xs ++ l)) ∧ w.grownBy w' v.ownBlock ∧ Near w v v' := by
  obtain ⟨i0, hi, hz0, hz1, hzb⟩ := info_parts hinfo
  have hfl : (fl f l).length = m * 2 := by rw [fl_len h2, hm]
  rcases A with _ | ad
  · obtain ⟨rfl, rfl⟩ := hA rfl
    obtain rfl : l = [] := List.eq_nil_of_length_eq_zero hm
    have hrun := run_append_owned_none (P := P) (w := w) base t ty e i0 2 ht hi v n _ hown
    exact ⟨v, w, hrun, by simpa using hown, World.grownBy.refl w _, Near.same _ _⟩
  · have hcell := hx ad rfl
    obtain ⟨v', w', hrun, o2, g2, hnil⟩ := run_append_own (P := P) w base t ty e i0 z 2 16 ht hi hz0 hz1 hzb hz2 (by omega) v n _ hown ad m c (fl f l) hfl hcell (h1 l) (by unfold maxLen; omega) (by omega) hbase
    refine ⟨v', w', hrun, by rw [fl_app]; exact o2, g2, ?_⟩
    intro k hk
    rcases hown.2 with ⟨rfl, rfl⟩ | ⟨g, cap, cur, rfl, hbg, hg, hnc, hcm, hcs, htake⟩
    · rcases Nat.eq_zero_or_pos m with h0 | h0
      · rw [hnil.2 ⟨rfl, h0⟩] at hk; cases hk
      · have hr2 := run_append_nil (P := P) w t ty e i0 z ht hi hz0 ad m c (fl f l) (by rw [hfl, hz1]) hcell h0 (by omega) (by rw [hzb]; omega)
        rw [hrun] at hr2
        injection hr2 with e1 e2
        subst e1
        injection hk with hk
        exact .inr (by rw [← hk]; exact Nat.le_refl _)
    · by_cases hroom : n + m ≤ cap
      · have hr2 := run_append_room (P := P) w t ty e i0 ht hi g n cap cur hg ad m c (fl f l) (by rw [hfl, hz1]) hcell (h1 l) hroom (by rw [hfl, hcs, hz1]; omega)
        rw [hrun] at hr2
        injection hr2 with e1 e2
        subst e1
        exact .inl hk
      · have holds : ∀ j u, (fl f xs)[j]? = some u → w.cell? ((⟨g, 0, none⟩ : Addr).add j) = some u := hown.cells (g := g) rfl
        have hr2 := run_append_grow (P := P) w t ty e i0 z ht hi hz0 ⟨g, 0, none⟩ n cap (fl f xs) (by rw [hown.1, hz1]) holds ad m c (fl f l) (by rw [hfl, hz1]) hcell (by omega) (by omega) (growslice_fits (by omega) (by rw [hzb]; omega))
        rw [hrun] at hr2
        injection hr2 with e1 e2
        subst e1
        injection hk with hk
        exact .inr (by rw [← hk]; exact Nat.le_refl _)

theorem vb_cells {w : World} {vb : Nat} {r : Rw} {e : TypeId} (hv : w.heap[vb]? = some (.cells (pc r).toArray e (0, 0))) : ∀ j u, (pc r)[j]? = some u → w.cell? ((⟨vb, 0, none⟩ : Addr).add j) = some u := by
  intro j u hu
  rw [Addr.add_lit, Nat.zero_add, cell_of_row _ vb j _ _ (0, 0) hv]
  simpa using hu
set_option maxRecDepth 100000 in
set_option maxHeartbeats 4000000 in
theorem insert_end (base : Nat) (v : Value) (n : Nat) (l : List Rw) (r : Rw) (vb : Nat) (w : World) (hown : w.ownsRow base 56 2 v n (fl pc l)) (hn : n ≤ 1099511627774) (hbase : base ≤ w.heap.size)
    (hv : w.heap[vb]? = some (.cells (pc r).toArray 56 (0, 0))) :
    Calls Try.prog 21 #[v, .int .i64 (n : Int), .slice (some ⟨vb, 0, none⟩) 1 1] w fun e w' => ∃ v', e = .returned v' ∧
      w'.ownsRow base 56 2 v' (n + 1) (fl pc (l ++ [r])) ∧ Only (fun k => v.ownBlock = some k) w w' ∧ Near w v v' := by
  obtain ⟨v', w', hrun, o2, g2, n2⟩ := app_near (P := Try.prog) pc2 pc_one w 52 52 56 (.agg #[.int .u64 0, .int .i64 0]) Try.underlying52 Try.infoR rfl base v n l hown (some ⟨vb, 0, none⟩) 1 1 [r] rfl (fun h => by cases h)
    (fun ad h j u hu => by injection h with h; subst h; exact vb_cells hv j u (by simpa [fl] using hu)) (by omega) hbase
  have R : Hid (w'.ownsRow base 56 2 v' (n + 1) (fl pc (l ++ [r])) ∧ Only (fun k => v.ownBlock = some k) w w' ∧ Near w v v') := ⟨o2, Only.ofGrown g2 fun k hk => hk, n2⟩
  obtain ⟨g', cap', cur', rfl, _, _, _, _, _, _⟩ := own_open o2 (by omega)
  clear o2 g2 n2 hv
  rcases hown.2 with ⟨rfl, rfl⟩ | ⟨g, cap, cur, rfl, _, _, hnc, hcm, _, _⟩
  · clear hown
    go_enter Try.func21, Try.ntmps21
    go_wp2_with (refine wpList_known rfl (fun hK => wp_append_known (.tmp 23) (.tmp 24) 52 52 rfl rfl rfl hrun hK) ?_)
    all_goals
      go_wp2
      go_ret
      exact ⟨_, rfl, R.out⟩
  · have hcap : cap ≤ 9223372036854775807 := by unfold maxLen at hcm; omega
    have q6 : ¬ cap < n := by omega
    clear hown
    go_enter Try.func21, Try.ntmps21
    go_wp2_with (refine wpList_known rfl (fun hK => wp_append_known (.tmp 23) (.tmp 24) 52 52 rfl rfl rfl hrun hK) ?_)
    all_goals
      go_wp2
      go_ret
      exact ⟨_, rfl, R.out⟩
theorem overlaps_no (w : World) (a b : Addr) (la ca lb cb : Nat) (hne : a.block ≠ b.block) (tA tB : TypeId) (kA kB : Nat) (hsa : w.shape? a.block = some (tA, kA)) (hsb : w.shape? b.block = some (tB, kB)) (hkB : kB ≠ 0)
    (hfa : w.frozen? a = false) (hfe : w.frozen? { block := a.block, off := kA } = false) :
    (callFunc 30 #[.slice (some a) la ca, .slice (some b) lb cb]).run Try.prog w = .ok (.value (.bool false)) w := by
  rw [run_callFunc_extern (P := Try.prog) Try.func30 (by kernel_rfl) (by kernel_rfl) (by kernel_rfl) (e := Extern.SlicesOverlaps.overlaps #[52, 52] #[4]) (by kernel_rfl)]
  rw [Lib.run_overlaps_apart w 52 4 56 Try.underlying52 2 (fun w => by kernel_rfl) a b la ca lb cb hne tA tB kA kB hsa hsb hkB hfa hfe]
  rfl
end Go.Proofs.Ytlbhiiciajfphaa
