/-
  What sordinekeep.SameRex does of one and the same tree, twice in memory: it answers true. Conditions: at most 1000 nodes.
-/
import Derived.Test.YteifjiadgbgkbaaEb
namespace Go.Proofs.Yteifjiadgbgkbaa
open Go.RowKit Go.Sort

theorem set_neq (a b c d : Int) : ∀ W, (binOp .neq 23 (.agg #[.int .u64 a, .int .u64 b, .int .u64 c, .int .u64 d]) (.agg #[.int .u64 a, .int .u64 b, .int .u64 c, .int .u64 d])).run Try.prog W = .ok (.bool false) W := by
  intro W
  have h := set_eql a b c d a b c d W
  rw [run_eql_struct] at h
  rw [run_neq_struct]
  cases hq : (Op.equalIn 10000 23 (.agg #[.int .u64 a, .int .u64 b, .int .u64 c, .int .u64 d]) (.agg #[.int .u64 a, .int .u64 b, .int .u64 c, .int .u64 d])).run Try.prog W with
  | ok r W' =>
    rw [hq] at h
    simp only [Result.andThen_ok, beq_self_eq_true, Bool.and_self] at h ⊢
    injection h with h1 h2
    injection h1 with h1
    subst h1 h2
    rfl
  | halt x W' => rw [hq] at h; simp [Result.andThen] at h

set_option maxRecDepth 100000 in
set_option maxHeartbeats 2000000 in
theorem samerex_any : ∀ (n : Nat) (t : Rx) (v v' : Value) (w : World), n ≤ 1000 → Rx.count t ≤ n → IsRx w v t → IsRx w v' t → Calls Try.prog 15 #[v, v'] w fun e w' => e = .returned (.bool true) ∧ Below w.heap.size w w' := by
  intro n
  induction n with
  | zero => intro t v v' w _ hs; have := Rx.count_pos t; omega
  | succ n ih =>
    intro t v v' w hn hs h h'
    cases h with
    | node op a b c d ks A cap blk off V hcap hA hp hc hk =>
      cases h' with
      | node _ _ _ _ _ _ A' cap' blk' off' V' hcap' hA' hp' hc' hk' =>
        rw [Rx.count] at hs
        have hsmall := Rx.len_count ks
        have IH : Hid (∀ j, j < ks.length → ∀ W : World, Below w.heap.size w W → Calls Try.prog 15 #[val6 (V j), val6 (V' j)] W fun e w' => e = .returned (.bool true) ∧ Below W.heap.size W w') := fun j hj W hW => ih _ _ _ W (by omega) (by have := Rx.nth_count hj; omega) ((hk j hj).grown hW) ((hk' j hj).grown hW)
        have HC : Hid (∀ W : World, Below w.heap.size w W → ∀ j i, j < ks.length → i < 6 → W.cell? ⟨blk, off + j * 6 + i, none⟩ = some (V j i) ∧ W.cell? ⟨blk', off' + j * 6 + i, none⟩ = some (V' j i)) := fun W hW j i hj hi => ⟨(hW.cell (World.block_lt_of_cell? w _ (hc j i hj hi))).trans (hc j i hj hi), (hW.cell (World.block_lt_of_cell? w _ (hc' j i hj hi))).trans (hc' j i hj hi)⟩
        have HP := Lib.hid hp
        have HP' := Lib.hid hp'
        have mixed : Try.prog.follows .mixedOrders = true := by kernel_rfl
        clear hp hc hk ih hA hp' hc' hk' hA' hcap hcap'
        obtain ⟨N, hN⟩ : ∃ N, ks.length = N := ⟨_, rfl⟩
        rw [hN] at IH HC HP HP' hsmall ⊢
        have hN1 : N ≤ 1000 := by omega
        clear hN hs hsmall
        have BX := Lib.hid (fun W => box6 (w := w) (v0 := .int .i64 op) (v1 := .int .u64 (a : Int)) (v2 := .int .u64 (b : Int)) (v3 := .int .u64 (c : Int)) (v4 := .int .u64 (d : Int)) (v5 := .slice A N cap) (ty := 26) (W := W))
        have BY := Lib.hid (fun W => box6 (w := w.alloc (.cells #[.int .i64 op, .int .u64 (a : Int), .int .u64 (b : Int), .int .u64 (c : Int), .int .u64 (d : Int), .slice A N cap] 26)) (v0 := .int .i64 op) (v1 := .int .u64 (a : Int)) (v2 := .int .u64 (b : Int)) (v3 := .int .u64 (c : Int)) (v4 := .int .u64 (d : Int)) (v5 := .slice A' N cap') (ty := 26) (W := W))
        have e1 : (w.alloc (.cells #[.int .i64 op, .int .u64 (a : Int), .int .u64 (b : Int), .int .u64 (c : Int), .int .u64 (d : Int), .slice A N cap] 26)).heap.size = w.heap.size + 1 := by simp
        rw [e1] at BY
        have SZ0 : Hid (w.heap.size + 2 ≤ ((w.alloc (.cells #[.int .i64 op, .int .u64 (a : Int), .int .u64 (b : Int), .int .u64 (c : Int), .int .u64 (d : Int), .slice A N cap] 26)).alloc (.cells #[.int .i64 op, .int .u64 (a : Int), .int .u64 (b : Int), .int .u64 (c : Int), .int .u64 (d : Int), .slice A' N cap'] 26)).heap.size) := by show _ ≤ _; simp
        have EQ := set_neq (a : Int) b c d
        clear e1
        go_enter Try.func15, Try.ntmps15
        go_wp2
        clear EQ
        obtain ⟨w0, hw0⟩ : ∃ w0, (w.alloc (.cells #[.int .i64 op, .int .u64 (a : Int), .int .u64 (b : Int), .int .u64 (c : Int), .int .u64 (d : Int), .slice A N cap] 26)).alloc (.cells #[.int .i64 op, .int .u64 (a : Int), .int .u64 (b : Int), .int .u64 (c : Int), .int .u64 (d : Int), .slice A' N cap'] 26) = w0 := ⟨_, rfl⟩
        rw [hw0] at BY SZ0 ⊢
        clear hw0
        go_loopw [5] (fun i wr => ∃ k : Nat, k ≤ N ∧ i = .int .i64 (k : Int) ∧ Hid (Below (w.heap.size + 2) w0 wr)) (fun i _ => N - (intOf i).toNat)
        case atStart => exact ⟨0, by omega, rfl, Below.refl _ _⟩
        case round =>
          obtain ⟨k, hk, rfl, HI⟩ := hrel
          obtain ⟨⟨_, _, _, _, _, q5'⟩, BW1⟩ := BY.out wr HI.out
          obtain ⟨⟨_, _, _, _, _, q5⟩, BW⟩ := BX.out wr BW1
          have BWH := Lib.hid BW
          have A1 := Lib.hid HI.out
          clear BW BW1 HI
          by_cases hkn : k < N
          · have hkz : (k : Int) < (N : Int) := by omega
            have hAe := HP.out (by omega)
            have hAe' := HP'.out (by omega)
            subst hAe hAe'
            obtain ⟨c0, d0⟩ := HC.out wr BWH.out k 0 hkn (by omega)
            obtain ⟨c1, d1⟩ := HC.out wr BWH.out k 1 hkn (by omega)
            obtain ⟨c2, d2⟩ := HC.out wr BWH.out k 2 hkn (by omega)
            obtain ⟨c3, d3⟩ := HC.out wr BWH.out k 3 hkn (by omega)
            obtain ⟨c4, d4⟩ := HC.out wr BWH.out k 4 hkn (by omega)
            obtain ⟨c5, d5⟩ := HC.out wr BWH.out k 5 hkn (by omega)
            simp only [Nat.add_zero] at c0 d0
            replace c0 := cell_regrown c0
            replace c1 := cell_regrown c1
            replace c2 := cell_regrown c2
            replace c3 := cell_regrown c3
            replace c4 := cell_regrown c4
            replace c5 := cell_regrown c5
            replace d0 := cell_regrown d0
            replace d1 := cell_regrown d1
            replace d2 := cell_regrown d2
            replace d3 := cell_regrown d3
            replace d4 := cell_regrown d4
            replace d5 := cell_regrown d5
            have r5 := cell_regrown q5
            have r5' := cell_regrown q5'
            have CK : Hid (∀ q os, Calls Try.prog 15 #[val6 (V k), val6 (V' k)] (grow (redrawn wr q) os) fun e w'' => e = .returned (.bool true) ∧ ∃ p : Regrown, w'' = grow (redrawn wr p.d) p.os) := fun q os => Calls.regrown_of (IH.out k hkn _ (BWH.out.trans ((below_regrown wr q os).mono BWH.out.size)))
            unfold val6 at CK
            have GB : Hid (∀ q os, Below (w.heap.size + 2) w0 (grow (redrawn wr q) os)) := fun q os => A1.out.trans ((below_regrown wr q os).mono (by have := A1.out.size; have := SZ0.out; omega))
            generalize V k 0 = v0 at *
            generalize V k 1 = v1 at *
            generalize V k 2 = v2 at *
            generalize V k 3 = v3 at *
            generalize V k 4 = v4 at *
            generalize V k 5 = v5 at *
            generalize V' k 0 = x0 at *
            generalize V' k 1 = x1 at *
            generalize V' k 2 = x2 at *
            generalize V' k 3 = x3 at *
            generalize V' k 4 = x4 at *
            generalize V' k 5 = x5 at *
            clear HC IH A1
            go_wp2_with fail
            refine wp_region_quiet_below (by assumption) (by kernel_rfl) ?_
            repeat (quiet_step (exact CK.out _ _))
            refine wpQuiet_nil ?_
            intro _ hw'
            obtain ⟨⟨dq, osq⟩, hw''⟩ := hw'
            subst hw''
            have B3 := Lib.hid (GB.out dq osq)
            clear c0 c1 c2 c3 c4 c5 d0 d1 d2 d3 d4 d5 r5 r5' q5 q5' CK GB
            generalize grow (redrawn wr dq) osq = w5 at *
            go_wp2
            go_roundw
            case rel => exact ⟨k + 1, by omega, by go_num, B3⟩
            case measure => simp [intOf]; omega
          · obtain rfl : k = N := by omega
            have hkz : ¬ (k : Int) < (k : Int) := by omega
            clear HC IH
            go_wp2
            go_ret
            exact ⟨rfl, BWH.out⟩
end Go.Proofs.Yteifjiadgbgkbaa
