/-
  The statements of stage 11 as contracts: for all words of 64 bits each law returns true, and leaves what was there as it was. Conditions: the numbers are words of 64 bits.
-/
import Derived.Test.YtpfjlbkhcgkdjaaCa
namespace Go.Proofs.Ytpfjlbkhcgkdjaa
open Go.RowKit

theorem u_lit {n : Int} (h0 : 0 ≤ n) (h1 : n < 18446744073709551616) : U64 n := ⟨h0, h1⟩

set_option maxRecDepth 100000 in
set_option maxHeartbeats 4000000 in
theorem runs11_any (w : World) : Calls Try.prog 3 #[] w fun e w' => e = .returned (.bool true) ∧ w' = w := by
  have S1 := Lib.hid (state_any 5 5 6)
  have S2 := Lib.hid (state_any 6 5 6)
  have S3 := Lib.hid (state_any 4 5 6)
  have G1 := Lib.hid (gone_any 6 5 2 ⟨by omega, by omega⟩ ⟨by omega, by omega⟩ ⟨by omega, by omega⟩)
  have G2 := Lib.hid (gone_any 7 5 2 ⟨by omega, by omega⟩ ⟨by omega, by omega⟩ ⟨by omega, by omega⟩)
  rw [(by decide : stV 5 5 6 = 2)] at S1
  rw [(by decide : stV 6 5 6 = 3)] at S2
  rw [(by decide : stV 4 5 6 = 1)] at S3
  rw [(by decide : goB 6 5 2 = false)] at G1
  rw [(by decide : goB 7 5 2 = true)] at G2
  go_enter Try.func3, Try.ntmps3
  go_wp2_with fail
  refine (S1.out _).mono ?_
  rintro e w1 ⟨rfl, rfl⟩
  go_wp2_with fail
  refine (S2.out _).mono ?_
  rintro e w1 ⟨rfl, rfl⟩
  go_wp2_with fail
  refine (S3.out _).mono ?_
  rintro e w1 ⟨rfl, rfl⟩
  go_wp2_with fail
  refine (G1.out _).mono ?_
  rintro e w1 ⟨rfl, rfl⟩
  go_wp2_with fail
  refine (G2.out _).mono ?_
  rintro e w1 ⟨rfl, rfl⟩
  go_wp2
  go_ret
  exact ⟨rfl, rfl⟩

set_option maxRecDepth 100000 in
set_option maxHeartbeats 4000000 in
theorem clockticks_law (a b : Int) (ha : U64 a) (hb : U64 b) (w : World) : Calls Try.prog 4 #[.int .u64 a, .int .u64 b] w fun e w' => e = .returned (.bool true) ∧ w' = w := by
  have C1 := Lib.hid (tick_any a b ha hb)
  have C2 := Lib.hid (rtick_any a b ha hb)
  have C3 := Lib.hid runs11_any
  generalize tkV a b = x at *
  generalize tkB a b = y at *
  clear ha hb
  go_enter Try.func4, Try.ntmps4
  go_wp2_with fail
  refine (C1.out _).mono ?_
  rintro e w1 ⟨rfl, rfl⟩
  go_wp2_with fail
  refine (C2.out _).mono ?_
  rintro e w1 ⟨rfl, rfl⟩
  go_wp2_with fail
  refine (C3.out _).mono ?_
  rintro e w1 ⟨rfl, rfl⟩
  go_wp2
  go_ret
  exact ⟨rfl, rfl⟩

set_option maxRecDepth 100000 in
set_option maxHeartbeats 4000000 in
theorem clockstates_law (a s e r : Int) (ha : U64 a) (he : U64 e) (hr : U64 r) (w : World) : Calls Try.prog 5 #[.int .u64 a, .int .u64 s, .int .u64 e, .int .u64 r] w fun e w' => e = .returned (.bool true) ∧ w' = w := by
  have C1 := Lib.hid (state_any a s e)
  have C2 := Lib.hid (rstate_any a s e)
  have C3 := Lib.hid (gone_any a e r he hr ha)
  have C4 := Lib.hid (rgone_any a e r he hr ha)
  have C5 := Lib.hid (span_any a s e)
  have C6 := Lib.hid (rspan_any a s e)
  have C7 := Lib.hid runs11_any
  generalize stV a s e = x at *
  generalize goB a e r = y at *
  generalize spB a s e = z at *
  clear ha he hr
  go_enter Try.func5, Try.ntmps5
  go_wp2_with fail
  refine (C1.out _).mono ?_
  rintro e w1 ⟨rfl, rfl⟩
  go_wp2_with fail
  refine (C2.out _).mono ?_
  rintro e w1 ⟨rfl, rfl⟩
  go_wp2_with fail
  refine (C3.out _).mono ?_
  rintro e w1 ⟨rfl, rfl⟩
  go_wp2_with fail
  refine (C4.out _).mono ?_
  rintro e w1 ⟨rfl, rfl⟩
  go_wp2_with fail
  refine (C5.out _).mono ?_
  rintro e w1 ⟨rfl, rfl⟩
  go_wp2_with fail
  refine (C6.out _).mono ?_
  rintro e w1 ⟨rfl, rfl⟩
  go_wp2_with fail
  refine (C7.out _).mono ?_
  rintro e w1 ⟨rfl, rfl⟩
  go_wp2
  go_ret
  exact ⟨rfl, rfl⟩

set_option maxRecDepth 100000 in
set_option maxHeartbeats 4000000 in
theorem clockgoes_law (a n s e r : Int) (ha : U64 a) (hn : U64 n) (he : U64 e) (hr : U64 r) (w : World) : Calls Try.prog 6 #[.int .u64 a, .int .u64 n, .int .u64 s, .int .u64 e, .int .u64 r] w fun e w' => e = .returned (.bool true) ∧ w' = w := by
  have C1 := tick_any a n ha hn
  have CR := Lib.hid runs11_any
  cases hk : tkB a n
  · have h1 : ¬ a + n ≤ 1099511627776 := of_decide_eq_false hk
    rw [hk, show tkV a n = 0 from if_neg h1] at C1
    have C1 := Lib.hid C1
    clear hk h1 ha he hr hn
    go_enter Try.func6, Try.ntmps6
    go_wp2_with fail
    refine (C1.out _).mono ?_
    rintro e w1 ⟨rfl, rfl⟩
    go_wp2_with fail
    refine (CR.out _).mono ?_
    rintro e w1 ⟨rfl, rfl⟩
    go_wp2
    go_ret
    exact ⟨rfl, rfl⟩
  · have h1 : a + n ≤ 1099511627776 := of_decide_eq_true hk
    rw [hk, show tkV a n = a + n from if_pos h1] at C1
    obtain ⟨L, hL⟩ : ∃ L, a + n = L := ⟨_, rfl⟩
    rw [hL] at C1 h1
    have C1 := Lib.hid C1
    obtain ⟨a0, a1⟩ := ha
    obtain ⟨n0, n1⟩ := hn
    have W1 : IntKind.u64.wrap (L - a) = n := by simp [IntKind.wrap, IntKind.bits, IntKind.signed]; omega
    have d1 : decide (L < a) = false := decide_eq_false (by omega)
    have d2 : decide (L > 1099511627776) = false := decide_eq_false (by omega)
    have d3 : decide (stV L s e < stV a s e) = false := decide_eq_false (by unfold stV; split <;> split <;> (try split) <;> (try split) <;> omega)
    have g1 : goB a e r = true → goB L e r = true ∧ stV a s e = 3 := fun h => by
      have h := of_decide_eq_true h
      have hr0 := hr.1
      exact ⟨decide_eq_true (by omega), by unfold stV; rw [if_pos (by omega)]⟩
    have S1 := Lib.hid (state_any L s e)
    have S2 := Lib.hid (state_any a s e)
    have G1 := gone_any a e r he hr ⟨a0, a1⟩
    have G2 := gone_any L e r he hr ⟨by omega, by omega⟩
    cases hg : goB a e r
    · rw [hg] at G1
      have G1 := Lib.hid G1
      generalize stV L s e = x at *
      generalize stV a s e = y at *
      clear g1 G2 h1 hk he hr a0 a1 n0 n1 hL hg
      go_enter Try.func6, Try.ntmps6
      go_wp2_with fail
      refine (C1.out _).mono ?_
      rintro e w1 ⟨rfl, rfl⟩
      go_wp2_with fail
      refine (S1.out _).mono ?_
      rintro e w1 ⟨rfl, rfl⟩
      go_wp2_with fail
      refine (S2.out _).mono ?_
      rintro e w1 ⟨rfl, rfl⟩
      go_wp2_with fail
      refine (G1.out _).mono ?_
      rintro e w1 ⟨rfl, rfl⟩
      go_wp2_with fail
      refine (CR.out _).mono ?_
      rintro e w1 ⟨rfl, rfl⟩
      go_wp2
      go_ret
      exact ⟨rfl, rfl⟩
    · obtain ⟨g2, g3⟩ := g1 hg
      rw [hg] at G1
      rw [g2] at G2
      rw [g3] at S2 d3
      have G1 := Lib.hid G1
      have G2 := Lib.hid G2
      generalize stV L s e = x at *
      clear g1 h1 hk he hr a0 a1 n0 n1 hL hg
      go_enter Try.func6, Try.ntmps6
      go_wp2_with fail
      refine (C1.out _).mono ?_
      rintro e w1 ⟨rfl, rfl⟩
      go_wp2_with fail
      refine (S1.out _).mono ?_
      rintro e w1 ⟨rfl, rfl⟩
      go_wp2_with fail
      refine (S2.out _).mono ?_
      rintro e w1 ⟨rfl, rfl⟩
      go_wp2_with fail
      refine (G1.out _).mono ?_
      rintro e w1 ⟨rfl, rfl⟩
      go_wp2_with fail
      refine (G2.out _).mono ?_
      rintro e w1 ⟨rfl, rfl⟩
      go_wp2_with fail
      refine (S2.out _).mono ?_
      rintro e w1 ⟨rfl, rfl⟩
      go_wp2_with fail
      refine (CR.out _).mono ?_
      rintro e w1 ⟨rfl, rfl⟩
      go_wp2
      go_ret
      exact ⟨rfl, rfl⟩

set_option maxRecDepth 100000 in
set_option maxHeartbeats 4000000 in
theorem clocktwice_law (m a b : Int) (hm : U64 m) (ha : U64 a) (hb : U64 b) (w : World) : Calls Try.prog 7 #[.int .u64 m, .int .u64 a, .int .u64 b] w fun e w' => e = .returned (.bool true) ∧ w' = w := by
  have CR := Lib.hid runs11_any
  by_cases h1 : a > 1099511627776
  · have d1 : decide (a > 1099511627776) = true := decide_eq_true h1
    clear h1 hm ha hb
    go_enter Try.func7, Try.ntmps7
    go_wp2_with fail
    refine (CR.out _).mono ?_
    rintro e w1 ⟨rfl, rfl⟩
    go_wp2
    go_ret
    exact ⟨rfl, rfl⟩
  have d1 : decide (a > 1099511627776) = false := decide_eq_false h1
  by_cases h2 : b > 1099511627776
  · have d2 : decide (b > 1099511627776) = true := decide_eq_true h2
    clear h1 h2 hm ha hb
    go_enter Try.func7, Try.ntmps7
    go_wp2_with fail
    refine (CR.out _).mono ?_
    rintro e w1 ⟨rfl, rfl⟩
    go_wp2
    go_ret
    exact ⟨rfl, rfl⟩
  have d2 : decide (b > 1099511627776) = false := decide_eq_false h2
  have W1 : IntKind.u64.wrap (a + b) = a + b := by obtain ⟨_, _⟩ := ha; obtain ⟨_, _⟩ := hb; simp [IntKind.wrap, IntKind.bits, IntKind.signed]; omega
  have C1 := tick_any m a hm ha
  have hx : U64 (tkV m a) := by obtain ⟨_, _⟩ := ha; obtain ⟨_, _⟩ := hm; unfold tkV; split <;> exact ⟨by omega, by omega⟩
  have C2 := tick_any (tkV m a) b hx hb
  have C3 := tick_any m (a + b) hm (by obtain ⟨_, _⟩ := ha; obtain ⟨_, _⟩ := hb; exact ⟨by omega, by omega⟩)
  obtain ⟨hm0, -⟩ := hm
  obtain ⟨ha0, -⟩ := ha
  obtain ⟨hb0, -⟩ := hb
  have key : (tkB m a = true → tkB (tkV m a) b = tkB m (a + b) ∧ (tkB m (a + b) = true → tkV (tkV m a) b = tkV m (a + b))) ∧ (tkB m a = false → tkB m (a + b) = false) := by
    refine ⟨fun h => ?_, fun h => ?_⟩
    · have h : m + a ≤ 1099511627776 := of_decide_eq_true h
      have e1 : tkV m a = m + a := if_pos h
      rw [e1]
      refine ⟨by unfold tkB; rw [Int.add_assoc], fun _ => by unfold tkV; rw [Int.add_assoc]⟩
    · have h : ¬ m + a ≤ 1099511627776 := of_decide_eq_false h
      exact decide_eq_false (by omega)
  generalize tkV (tkV m a) b = y at *
  generalize tkB (tkV m a) b = is at *
  generalize tkV m a = x at *
  generalize tkV m (a + b) = z at *
  obtain ⟨k1, k2⟩ := key
  generalize tkB m (a + b) = has at *
  generalize tkB m a = ok at *
  clear h1 h2 hx hm0 ha0 hb0
  cases ok
  · obtain rfl := k2 rfl
    have C1 := Lib.hid C1
    have C2 := Lib.hid C2
    have C3 := Lib.hid C3
    clear k1 k2
    go_enter Try.func7, Try.ntmps7
    go_wp2_with fail
    refine (C1.out _).mono ?_
    rintro e w1 ⟨rfl, rfl⟩
    go_wp2_with fail
    refine (C2.out _).mono ?_
    rintro e w1 ⟨rfl, rfl⟩
    go_wp2_with fail
    refine (C3.out _).mono ?_
    rintro e w1 ⟨rfl, rfl⟩
    go_wp2_with fail
    refine (CR.out _).mono ?_
    rintro e w1 ⟨rfl, rfl⟩
    go_wp2
    go_ret
    exact ⟨rfl, rfl⟩
  · obtain ⟨rfl, k3⟩ := k1 rfl
    have C1 := Lib.hid C1
    have C2 := Lib.hid C2
    have C3 := Lib.hid C3
    clear k1 k2
    cases is
    · clear k3
      go_enter Try.func7, Try.ntmps7
      go_wp2_with fail
      refine (C1.out _).mono ?_
      rintro e w1 ⟨rfl, rfl⟩
      go_wp2_with fail
      refine (C2.out _).mono ?_
      rintro e w1 ⟨rfl, rfl⟩
      go_wp2_with fail
      refine (C3.out _).mono ?_
      rintro e w1 ⟨rfl, rfl⟩
      go_wp2_with fail
      refine (CR.out _).mono ?_
      rintro e w1 ⟨rfl, rfl⟩
      go_wp2
      go_ret
      exact ⟨rfl, rfl⟩
    · obtain rfl := k3 rfl
      clear k3
      go_enter Try.func7, Try.ntmps7
      go_wp2_with fail
      refine (C1.out _).mono ?_
      rintro e w1 ⟨rfl, rfl⟩
      go_wp2_with fail
      refine (C2.out _).mono ?_
      rintro e w1 ⟨rfl, rfl⟩
      go_wp2_with fail
      refine (C3.out _).mono ?_
      rintro e w1 ⟨rfl, rfl⟩
      go_wp2_with fail
      refine (CR.out _).mono ?_
      rintro e w1 ⟨rfl, rfl⟩
      go_wp2
      go_ret
      exact ⟨rfl, rfl⟩

set_option maxRecDepth 100000 in
set_option maxHeartbeats 4000000 in
theorem clockspans_law (a s e : Int) (w : World) : Calls Try.prog 8 #[.int .u64 a, .int .u64 s, .int .u64 e] w fun e w' => e = .returned (.bool true) ∧ w' = w := by
  have CR := Lib.hid runs11_any
  have C1 := span_any a s e
  have C2 := span_any e s e
  have C3 := span_any a e e
  rw [show spB e s e = false by unfold spB; simp] at C2
  rw [show spB a e e = false by unfold spB; simp] at C3
  have C2 := Lib.hid C2
  have C3 := Lib.hid C3
  cases hs : spB a s e
  · rw [hs] at C1
    have C1 := Lib.hid C1
    clear hs
    go_enter Try.func8, Try.ntmps8
    go_wp2_with fail
    refine (C1.out _).mono ?_
    rintro e w1 ⟨rfl, rfl⟩
    go_wp2_with fail
    refine (C2.out _).mono ?_
    rintro e w1 ⟨rfl, rfl⟩
    go_wp2_with fail
    refine (C3.out _).mono ?_
    rintro e w1 ⟨rfl, rfl⟩
    go_wp2_with fail
    refine (CR.out _).mono ?_
    rintro e w1 ⟨rfl, rfl⟩
    go_wp2
    go_ret
    exact ⟨rfl, rfl⟩
  · have hh := hs
    rw [hs] at C1
    have C1 := Lib.hid C1
    unfold spB at hh
    rw [Bool.and_eq_true, Bool.and_eq_true, decide_eq_true_iff, decide_eq_true_iff, decide_eq_true_iff] at hh
    obtain ⟨⟨h1, h2⟩, -⟩ := hh
    have S3 := state_any e s e
    rw [show stV e s e = 3 by unfold stV; rw [if_pos (by omega)]] at S3
    have S3 := Lib.hid S3
    by_cases hle : s ≤ a
    · have S1 := state_any a s e
      rw [show stV a s e = 2 by unfold stV; rw [if_neg (by omega), if_neg (by omega)]] at S1
      have S1 := Lib.hid S1
      clear hs h1 h2
      go_enter Try.func8, Try.ntmps8
      go_wp2_with fail
      refine (C1.out _).mono ?_
      rintro e w1 ⟨rfl, rfl⟩
      go_wp2_with fail
      refine (S1.out _).mono ?_
      rintro e w1 ⟨rfl, rfl⟩
      go_wp2_with fail
      refine (S1.out _).mono ?_
      rintro e w1 ⟨rfl, rfl⟩
      go_wp2_with fail
      refine (S3.out _).mono ?_
      rintro e w1 ⟨rfl, rfl⟩
      go_wp2_with fail
      refine (C2.out _).mono ?_
      rintro e w1 ⟨rfl, rfl⟩
      go_wp2_with fail
      refine (C3.out _).mono ?_
      rintro e w1 ⟨rfl, rfl⟩
      go_wp2_with fail
      refine (CR.out _).mono ?_
      rintro e w1 ⟨rfl, rfl⟩
      go_wp2
      go_ret
      exact ⟨rfl, rfl⟩
    · have S1 := state_any a s e
      have S2 := state_any s s e
      rw [show stV a s e = 1 by unfold stV; rw [if_neg (by omega), if_pos (by omega)]] at S1
      rw [show stV s s e = 2 by unfold stV; rw [if_neg (by omega), if_neg (by omega)]] at S2
      have S1 := Lib.hid S1
      have S2 := Lib.hid S2
      clear hs h1 h2
      go_enter Try.func8, Try.ntmps8
      go_wp2_with fail
      refine (C1.out _).mono ?_
      rintro e w1 ⟨rfl, rfl⟩
      go_wp2_with fail
      refine (S1.out _).mono ?_
      rintro e w1 ⟨rfl, rfl⟩
      go_wp2_with fail
      refine (S2.out _).mono ?_
      rintro e w1 ⟨rfl, rfl⟩
      go_wp2_with fail
      refine (S3.out _).mono ?_
      rintro e w1 ⟨rfl, rfl⟩
      go_wp2_with fail
      refine (C2.out _).mono ?_
      rintro e w1 ⟨rfl, rfl⟩
      go_wp2_with fail
      refine (C3.out _).mono ?_
      rintro e w1 ⟨rfl, rfl⟩
      go_wp2_with fail
      refine (CR.out _).mono ?_
      rintro e w1 ⟨rfl, rfl⟩
      go_wp2
      go_ret
      exact ⟨rfl, rfl⟩
end Go.Proofs.Ytpfjlbkhcgkdjaa
