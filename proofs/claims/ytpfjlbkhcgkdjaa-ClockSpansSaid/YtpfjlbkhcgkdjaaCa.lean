/-
  What the functions of times do, the program's (sum, Tick, State, Gone, Span) and the reference's (Tick, State, Gone, Span): for all words of 64 bits they tell the same mathematics, and leave the world as it was. Conditions: the numbers are words of 64 bits, where two are added.
-/
import Derived.Test.YtpfjlbkhcgkdjaaProg
import Derived.WalkKit
import Derived.WalkSpells
import Derived.WalkLawsBesides
import Derived.Lib.Hide
import Derived.KernelRfl
import Derived.BigQuiet
import Derived.Deep.QuietTactic
namespace Go.Proofs.Ytpfjlbkhcgkdjaa
open Go.RowKit

/-- A word of 64 bits. -/
def U64 (x : Int) : Prop := 0 ≤ x ∧ x < 18446744073709551616
/-- What Add64 makes of two words: the word of the sum, and what is carried. -/
def suV (a b : Int) : Int := (a + b) % 18446744073709551616
def caV (a b : Int) : Int := (a + b) / 18446744073709551616
def fiB (a b : Int) : Bool := caV a b == 0
/-- Tick. -/
def tkV (a b : Int) : Int := if a + b ≤ 1099511627776 then a + b else 0
def tkB (a b : Int) : Bool := decide (a + b ≤ 1099511627776)
/-- State. -/
def stV (a s e : Int) : Int := if e ≤ a then 3 else if a < s then 1 else 2
/-- Gone. -/
def goB (a e r : Int) : Bool := decide (e + r ≤ a)
/-- Span. -/
def spB (a s e : Int) : Bool := decide (s < e) && decide (a < e) && decide (e ≤ 1099511627776)

theorem fits_su {a b : Int} (ha : U64 a) (hb : U64 b) (h : fiB a b = true) : suV a b = a + b := by
  obtain ⟨h1, h2⟩ := ha
  obtain ⟨h3, h4⟩ := hb
  simp only [fiB, caV, beq_iff_eq] at h
  unfold suV
  omega
theorem fits_not {a b : Int} (ha : U64 a) (hb : U64 b) (h : fiB a b = false) : 18446744073709551616 ≤ a + b := by
  obtain ⟨h1, h2⟩ := ha
  obtain ⟨h3, h4⟩ := hb
  simp only [fiB, caV, beq_eq_false_iff_ne, ne_eq] at h
  omega
theorem U64.of {x : Int} (h0 : 0 ≤ x) (h1 : x < 18446744073709551616) : U64 x := ⟨h0, h1⟩

theorem add64_run (a b : Int) (ha : U64 a) (hb : U64 b) (w : World) :
    (callFunc 18 #[.int .u64 a, .int .u64 b, .int .u64 0]).run Try.prog w = .ok (.value (.tuple #[.int .u64 (suV a b), .int .u64 (caV a b)])) w := by
  rw [run_callFunc_extern Try.func18 (by kernel_rfl) (by kernel_rfl) (by kernel_rfl) (e := add64Entry) (by kernel_rfl), run_add64 a b 0 ha.1 hb.1 (by omega) (by omega)]
  simp only [Result.andThen, suV, caV, Int.add_zero]

set_option maxRecDepth 100000 in
set_option maxHeartbeats 1000000 in
theorem sum_any (a b : Int) (ha : U64 a) (hb : U64 b) (w : World) : Calls Try.prog 17 #[.int .u64 a, .int .u64 b] w fun e w' => e = .returned (.tuple #[.int .u64 (suV a b), .bool (fiB a b)]) ∧ w' = w := by
  have C := add64_run a b ha hb
  have HF : (caV a b == 0) = fiB a b := rfl
  generalize suV a b = s at *
  generalize fiB a b = f at *
  generalize caV a b = c at *
  clear ha hb
  go_enter Try.func17, Try.ntmps17
  go_wp2_with (simp only [C])
  go_ret2
  exact ⟨rfl, rfl⟩

set_option maxRecDepth 100000 in
set_option maxHeartbeats 1000000 in
theorem tick_any (a b : Int) (ha : U64 a) (hb : U64 b) (w : World) : Calls Try.prog 11 #[.int .u64 a, .int .u64 b] w fun e w' => e = .returned (.tuple #[.int .u64 (tkV a b), .bool (tkB a b)]) ∧ w' = w := by
  have C := sum_any a b ha hb w
  cases hf : fiB a b
  · have h1 := fits_not ha hb hf
    have R : Hid (tkV a b = 0 ∧ tkB a b = false) := ⟨by unfold tkV; rw [if_neg (by omega)], decide_eq_false (by omega)⟩
    rw [hf] at C
    have C := Lib.hid C
    generalize suV a b = s at *
    clear hf h1 ha hb
    go_enter Try.func11, Try.ntmps11
    go_wp2_with fail
    refine C.out.mono ?_
    rintro e w1 ⟨rfl, rfl⟩
    go_wp2
    go_ret2
    exact ⟨by rw [R.out.1, R.out.2]; rfl, rfl⟩
  · have h1 := fits_su ha hb hf
    rw [hf, h1] at C
    obtain ⟨s, hs⟩ : ∃ s, a + b = s := ⟨_, rfl⟩
    rw [hs] at C
    have C := Lib.hid C
    by_cases h2 : s ≤ 1099511627776
    · have R : Hid (tkV a b = s ∧ tkB a b = true) := ⟨by unfold tkV; rw [if_pos (by omega), hs], decide_eq_true (by omega)⟩
      have d1 : decide (s > 1099511627776) = false := decide_eq_false (by omega)
      clear hf h1 h2 ha hb hs
      go_enter Try.func11, Try.ntmps11
      go_wp2_with fail
      refine C.out.mono ?_
      rintro e w1 ⟨rfl, rfl⟩
      go_wp2
      go_ret2
      exact ⟨by rw [R.out.1, R.out.2]; rfl, rfl⟩
    · have R : Hid (tkV a b = 0 ∧ tkB a b = false) := ⟨by unfold tkV; rw [if_neg (by omega)], decide_eq_false (by omega)⟩
      have d1 : decide (s > 1099511627776) = true := decide_eq_true (by omega)
      clear hf h1 h2 ha hb hs
      go_enter Try.func11, Try.ntmps11
      go_wp2_with fail
      refine C.out.mono ?_
      rintro e w1 ⟨rfl, rfl⟩
      go_wp2
      go_ret2
      exact ⟨by rw [R.out.1, R.out.2]; rfl, rfl⟩

set_option maxRecDepth 100000 in
set_option maxHeartbeats 1000000 in
theorem state_any (a s e : Int) (w : World) : Calls Try.prog 9 #[.int .u64 a, .int .u64 s, .int .u64 e] w fun e' w' => e' = .returned (.int .i64 (stV a s e)) ∧ w' = w := by
  by_cases h1 : e ≤ a
  · have R : Hid (stV a s e = 3) := by show _ = _; unfold stV; rw [if_pos h1]
    have d1 : decide (a ≥ e) = true := decide_eq_true h1
    clear h1
    go_enter Try.func9, Try.ntmps9
    go_wp2
    go_ret
    exact ⟨by rw [R.out]; rfl, rfl⟩
  · by_cases h2 : a < s
    · have R : Hid (stV a s e = 1) := by show _ = _; unfold stV; rw [if_neg h1, if_pos h2]
      have d1 : decide (a ≥ e) = false := decide_eq_false h1
      have d2 : decide (a < s) = true := decide_eq_true h2
      clear h1 h2
      go_enter Try.func9, Try.ntmps9
      go_wp2
      go_ret
      exact ⟨by rw [R.out]; rfl, rfl⟩
    · have R : Hid (stV a s e = 2) := by show _ = _; unfold stV; rw [if_neg h1, if_neg h2]
      have d1 : decide (a ≥ e) = false := decide_eq_false h1
      have d2 : decide (a < s) = false := decide_eq_false h2
      clear h1 h2
      go_enter Try.func9, Try.ntmps9
      go_wp2
      go_ret
      exact ⟨by rw [R.out]; rfl, rfl⟩

set_option maxRecDepth 100000 in
set_option maxHeartbeats 1000000 in
theorem rstate_any (a s e : Int) (w : World) : Calls Try.prog 13 #[.int .u64 a, .int .u64 s, .int .u64 e] w fun e' w' => e' = .returned (.int .i64 (stV a s e)) ∧ w' = w := by
  by_cases h1 : e ≤ a
  · have R : Hid (stV a s e = 3) := by show _ = _; unfold stV; rw [if_pos h1]
    have d1 : decide (a ≥ e) = true := decide_eq_true h1
    clear h1
    go_enter Try.func13, Try.ntmps13
    go_wp2
    go_ret
    exact ⟨by rw [R.out]; rfl, rfl⟩
  · by_cases h2 : a < s
    · have R : Hid (stV a s e = 1) := by show _ = _; unfold stV; rw [if_neg h1, if_pos h2]
      have d1 : decide (a ≥ e) = false := decide_eq_false h1
      have d2 : decide (a < s) = true := decide_eq_true h2
      clear h1 h2
      go_enter Try.func13, Try.ntmps13
      go_wp2
      go_ret
      exact ⟨by rw [R.out]; rfl, rfl⟩
    · have R : Hid (stV a s e = 2) := by show _ = _; unfold stV; rw [if_neg h1, if_neg h2]
      have d1 : decide (a ≥ e) = false := decide_eq_false h1
      have d2 : decide (a < s) = false := decide_eq_false h2
      clear h1 h2
      go_enter Try.func13, Try.ntmps13
      go_wp2
      go_ret
      exact ⟨by rw [R.out]; rfl, rfl⟩

set_option maxRecDepth 100000 in
set_option maxHeartbeats 1000000 in
theorem gone_any (a e r : Int) (he : U64 e) (hr : U64 r) (hU : U64 a) (w : World) : Calls Try.prog 10 #[.int .u64 a, .int .u64 e, .int .u64 r] w fun e' w' => e' = .returned (.bool (goB a e r)) ∧ w' = w := by
  have C := sum_any e r he hr w
  cases hf : fiB e r
  · have h1 := fits_not he hr hf
    have R : Hid (goB a e r = false) := decide_eq_false (by have := hU.2; omega)
    rw [hf] at C
    have C := Lib.hid C
    generalize suV e r = s at *
    clear hf h1 he hr hU
    go_enter Try.func10, Try.ntmps10
    go_wp2_with fail
    refine C.out.mono ?_
    rintro e w1 ⟨rfl, rfl⟩
    go_wp2
    go_ret
    exact ⟨by rw [R.out]; rfl, rfl⟩
  · have h1 := fits_su he hr hf
    rw [hf, h1] at C
    have R : Hid (goB a e r = decide (a ≥ e + r)) := rfl
    generalize goB a e r = g at *
    generalize e + r = s at *
    have C := Lib.hid C
    clear hf h1 he hr hU
    go_enter Try.func10, Try.ntmps10
    go_wp2_with fail
    refine C.out.mono ?_
    rintro e w1 ⟨rfl, rfl⟩
    go_wp2
    go_ret
    exact ⟨by rw [R.out]; rfl, rfl⟩

set_option maxRecDepth 100000 in
set_option maxHeartbeats 1000000 in
theorem span_any (a s e : Int) (w : World) : Calls Try.prog 15 #[.int .u64 a, .int .u64 s, .int .u64 e] w fun e' w' => e' = .returned (.bool (spB a s e)) ∧ w' = w := by
  have R : Hid (spB a s e = (decide (s < e) && decide (a < e) && decide (e ≤ 1099511627776))) := rfl
  generalize h1 : decide (s < e) = b1 at *
  generalize h2 : decide (a < e) = b2 at *
  cases b1 <;> cases b2
  all_goals
    go_enter Try.func15, Try.ntmps15
    go_wp2
    go_ret
    exact ⟨by rw [R.out]; simp, rfl⟩
set_option maxRecDepth 100000 in
set_option maxHeartbeats 1000000 in
theorem rspan_any (a s e : Int) (w : World) : Calls Try.prog 16 #[.int .u64 a, .int .u64 s, .int .u64 e] w fun e' w' => e' = .returned (.bool (spB a s e)) ∧ w' = w := by
  have R : Hid (spB a s e = (decide (s < e) && decide (a < e) && decide (e ≤ 1099511627776))) := rfl
  generalize h1 : decide (s < e) = b1 at *
  generalize h2 : decide (a < e) = b2 at *
  cases b1 <;> cases b2
  all_goals
    go_enter Try.func16, Try.ntmps16
    go_wp2
    go_ret
    exact ⟨by rw [R.out]; simp, rfl⟩

set_option maxRecDepth 100000 in
set_option maxHeartbeats 1000000 in
theorem rtick_any (a b : Int) (ha : U64 a) (hb : U64 b) (w : World) : Calls Try.prog 12 #[.int .u64 a, .int .u64 b] w fun e w' => e = .returned (.tuple #[.int .u64 (tkV a b), .bool (tkB a b)]) ∧ w' = w := by
  obtain ⟨a0, a1⟩ := ha
  obtain ⟨b0, b1⟩ := hb
  by_cases h1 : a > 1099511627776
  · have R : Hid (tkV a b = 0 ∧ tkB a b = false) := ⟨by unfold tkV; rw [if_neg (by omega)], decide_eq_false (by omega)⟩
    have d1 : decide (a > 1099511627776) = true := decide_eq_true h1
    clear a0 a1 b0 b1 h1
    go_enter Try.func12, Try.ntmps12
    go_wp2
    go_ret2
    exact ⟨by rw [R.out.1, R.out.2]; rfl, rfl⟩
  · have d1 : decide (a > 1099511627776) = false := decide_eq_false h1
    have W1 : IntKind.u64.wrap (1099511627776 - a) = 1099511627776 - a := by simp [IntKind.wrap, IntKind.bits, IntKind.signed]; omega
    by_cases h2 : b > 1099511627776 - a
    · have R : Hid (tkV a b = 0 ∧ tkB a b = false) := ⟨by unfold tkV; rw [if_neg (by omega)], decide_eq_false (by omega)⟩
      have d2 : decide (b > 1099511627776 - a) = true := decide_eq_true h2
      clear a0 a1 b0 b1 h1 h2
      go_enter Try.func12, Try.ntmps12
      go_wp2
      go_ret2
      exact ⟨by rw [R.out.1, R.out.2]; rfl, rfl⟩
    · have R : Hid (tkV a b = a + b ∧ tkB a b = true) := ⟨by unfold tkV; rw [if_pos (by omega)], decide_eq_true (by omega)⟩
      have d2 : decide (b > 1099511627776 - a) = false := decide_eq_false h2
      have W2 : IntKind.u64.wrap (a + b) = a + b := by simp [IntKind.wrap, IntKind.bits, IntKind.signed]; omega
      clear a0 a1 b0 b1 h1 h2
      go_enter Try.func12, Try.ntmps12
      go_wp2
      go_ret2
      exact ⟨by rw [R.out.1, R.out.2]; rfl, rfl⟩

set_option maxRecDepth 100000 in
set_option maxHeartbeats 1000000 in
theorem rgone_any (a e r : Int) (he : U64 e) (hr : U64 r) (hU : U64 a) (w : World) : Calls Try.prog 14 #[.int .u64 a, .int .u64 e, .int .u64 r] w fun e' w' => e' = .returned (.bool (goB a e r)) ∧ w' = w := by
  obtain ⟨a0, a1⟩ := hU
  obtain ⟨e0, e1⟩ := he
  obtain ⟨r0, r1⟩ := hr
  by_cases h1 : a ≥ e
  · have W1 : IntKind.u64.wrap (a - e) = a - e := by simp [IntKind.wrap, IntKind.bits, IntKind.signed]; omega
    have d1 : decide (a ≥ e) = true := decide_eq_true h1
    have R : Hid (goB a e r = decide (a - e ≥ r)) := by show _ = _; unfold goB; rw [Bool.eq_iff_iff, decide_eq_true_iff, decide_eq_true_iff]; omega
    clear a0 a1 e0 e1 r0 r1 h1
    go_enter Try.func14, Try.ntmps14
    go_wp2
    go_ret
    exact ⟨by rw [R.out]; rfl, rfl⟩
  · have d1 : decide (a ≥ e) = false := decide_eq_false h1
    have R : Hid (goB a e r = false) := decide_eq_false (by omega)
    clear a0 a1 e0 e1 r0 r1 h1
    go_enter Try.func14, Try.ntmps14
    go_wp2
    go_ret
    exact ⟨by rw [R.out]; rfl, rfl⟩
end Go.Proofs.Ytpfjlbkhcgkdjaa
