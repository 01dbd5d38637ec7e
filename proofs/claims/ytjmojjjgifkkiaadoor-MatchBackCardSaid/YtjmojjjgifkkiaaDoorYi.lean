/-
  What sordinekeep's In, name, value, pattern and Mat's Matcher do, whatever is drawn: a matcher that may be. No conditions.
-/
import Derived.Test.YtjmojjjgifkkiaaDoorYh
import Derived.Test.YtjmojjjgifkkiaaDoorZ29
namespace Go.Proofs.YtjmojjjgifkkiaaDoor
open Go.RowKit Go.Sort

set_option maxRecDepth 100000 in
theorem within04 (z : Int) : ∃ i : Nat, 0 ≤ i ∧ i ≤ 4 ∧ ∀ w, Calls Tryd.prog 49 #[.int .i64 z, .int .i64 0, .int .i64 4] w fun e w' => e = .returned (.int .i64 (i : Int)) ∧ w' = w := by
  obtain ⟨h1, h2⟩ := tmod_range z 5 (by omega)
  by_cases h0 : z.tmod 5 < 0
  · obtain ⟨i, hi⟩ : ∃ i : Nat, (i : Int) = (z.tmod 5 + 4 + 1) := ⟨((z.tmod 5 + 4 + 1)).toNat, by omega⟩
    refine ⟨i, by omega, by omega, fun w => ?_⟩
    have E := Lib.hid hi
    clear hi
    go_enter Tryd.func49, Tryd.ntmps49
    go_wp2
    go_ret
    exact ⟨by rw [E.out]; first | rfl | (show Ending.returned (Value.int _ _) = _; congr 2; omega), rfl⟩
  · obtain ⟨i, hi⟩ : ∃ i : Nat, (i : Int) = z.tmod 5 := ⟨(z.tmod 5).toNat, by omega⟩
    refine ⟨i, by omega, by omega, fun w => ?_⟩
    have E := Lib.hid hi
    clear hi
    go_enter Tryd.func49, Tryd.ntmps49
    go_wp2
    go_ret
    exact ⟨by rw [E.out]; first | rfl | (show Ending.returned (Value.int _ _) = _; congr 2; omega), rfl⟩
set_option maxRecDepth 100000 in
theorem in04 (z : Int) : ∃ i : Nat, 0 ≤ i ∧ i ≤ 4 ∧ ∀ w, Calls Tryd.prog 60 #[.int .i64 z, .int .i64 0, .int .i64 4] w fun e w' => e = .returned (.int .i64 (i : Int)) ∧ w' = w := by
  by_cases h : 0 ≤ z ∧ z ≤ 4
  · obtain ⟨i, hi⟩ : ∃ i : Nat, (i : Int) = z := ⟨z.toNat, by omega⟩
    refine ⟨i, by omega, by omega, fun w => ?_⟩
    have E := Lib.hid hi
    clear hi
    obtain ⟨h1, h2⟩ := h
    go_enter Tryd.func60, Tryd.ntmps60
    go_wp2
    go_ret
    exact ⟨by rw [E.out]; rfl, rfl⟩
  · obtain ⟨i, i1, i2, hc⟩ := within04 z
    refine ⟨i, i1, i2, fun w => ?_⟩
    have HC := Lib.hid hc
    clear hc i1 i2
    by_cases h1 : 0 ≤ z
    · have h2 : ¬ z ≤ 4 := fun h2 => h ⟨h1, h2⟩
      clear h
      go_enter Tryd.func60, Tryd.ntmps60
      go_wp2_with fail
      refine (HC.out _).mono ?_
      rintro e w' ⟨rfl, rfl⟩
      go_wp2
      go_ret
      exact ⟨rfl, rfl⟩
    · clear h
      go_enter Tryd.func60, Tryd.ntmps60
      go_wp2_with fail
      refine (HC.out _).mono ?_
      rintro e w' ⟨rfl, rfl⟩
      go_wp2
      go_ret
      exact ⟨rfl, rfl⟩
set_option maxRecDepth 100000 in
theorem within06 (z : Int) : ∃ i : Nat, 0 ≤ i ∧ i ≤ 6 ∧ ∀ w, Calls Tryd.prog 49 #[.int .i64 z, .int .i64 0, .int .i64 6] w fun e w' => e = .returned (.int .i64 (i : Int)) ∧ w' = w := by
  obtain ⟨h1, h2⟩ := tmod_range z 7 (by omega)
  by_cases h0 : z.tmod 7 < 0
  · obtain ⟨i, hi⟩ : ∃ i : Nat, (i : Int) = (z.tmod 7 + 6 + 1) := ⟨((z.tmod 7 + 6 + 1)).toNat, by omega⟩
    refine ⟨i, by omega, by omega, fun w => ?_⟩
    have E := Lib.hid hi
    clear hi
    go_enter Tryd.func49, Tryd.ntmps49
    go_wp2
    go_ret
    exact ⟨by rw [E.out]; first | rfl | (show Ending.returned (Value.int _ _) = _; congr 2; omega), rfl⟩
  · obtain ⟨i, hi⟩ : ∃ i : Nat, (i : Int) = z.tmod 7 := ⟨(z.tmod 7).toNat, by omega⟩
    refine ⟨i, by omega, by omega, fun w => ?_⟩
    have E := Lib.hid hi
    clear hi
    go_enter Tryd.func49, Tryd.ntmps49
    go_wp2
    go_ret
    exact ⟨by rw [E.out]; first | rfl | (show Ending.returned (Value.int _ _) = _; congr 2; omega), rfl⟩
set_option maxRecDepth 100000 in
theorem in06 (z : Int) : ∃ i : Nat, 0 ≤ i ∧ i ≤ 6 ∧ ∀ w, Calls Tryd.prog 60 #[.int .i64 z, .int .i64 0, .int .i64 6] w fun e w' => e = .returned (.int .i64 (i : Int)) ∧ w' = w := by
  by_cases h : 0 ≤ z ∧ z ≤ 6
  · obtain ⟨i, hi⟩ : ∃ i : Nat, (i : Int) = z := ⟨z.toNat, by omega⟩
    refine ⟨i, by omega, by omega, fun w => ?_⟩
    have E := Lib.hid hi
    clear hi
    obtain ⟨h1, h2⟩ := h
    go_enter Tryd.func60, Tryd.ntmps60
    go_wp2
    go_ret
    exact ⟨by rw [E.out]; rfl, rfl⟩
  · obtain ⟨i, i1, i2, hc⟩ := within06 z
    refine ⟨i, i1, i2, fun w => ?_⟩
    have HC := Lib.hid hc
    clear hc i1 i2
    by_cases h1 : 0 ≤ z
    · have h2 : ¬ z ≤ 6 := fun h2 => h ⟨h1, h2⟩
      clear h
      go_enter Tryd.func60, Tryd.ntmps60
      go_wp2_with fail
      refine (HC.out _).mono ?_
      rintro e w' ⟨rfl, rfl⟩
      go_wp2
      go_ret
      exact ⟨rfl, rfl⟩
    · clear h
      go_enter Tryd.func60, Tryd.ntmps60
      go_wp2_with fail
      refine (HC.out _).mono ?_
      rintro e w' ⟨rfl, rfl⟩
      go_wp2
      go_ret
      exact ⟨rfl, rfl⟩
set_option maxRecDepth 100000 in
theorem within08 (z : Int) : ∃ i : Nat, 0 ≤ i ∧ i ≤ 8 ∧ ∀ w, Calls Tryd.prog 49 #[.int .i64 z, .int .i64 0, .int .i64 8] w fun e w' => e = .returned (.int .i64 (i : Int)) ∧ w' = w := by
  obtain ⟨h1, h2⟩ := tmod_range z 9 (by omega)
  by_cases h0 : z.tmod 9 < 0
  · obtain ⟨i, hi⟩ : ∃ i : Nat, (i : Int) = (z.tmod 9 + 8 + 1) := ⟨((z.tmod 9 + 8 + 1)).toNat, by omega⟩
    refine ⟨i, by omega, by omega, fun w => ?_⟩
    have E := Lib.hid hi
    clear hi
    go_enter Tryd.func49, Tryd.ntmps49
    go_wp2
    go_ret
    exact ⟨by rw [E.out]; first | rfl | (show Ending.returned (Value.int _ _) = _; congr 2; omega), rfl⟩
  · obtain ⟨i, hi⟩ : ∃ i : Nat, (i : Int) = z.tmod 9 := ⟨(z.tmod 9).toNat, by omega⟩
    refine ⟨i, by omega, by omega, fun w => ?_⟩
    have E := Lib.hid hi
    clear hi
    go_enter Tryd.func49, Tryd.ntmps49
    go_wp2
    go_ret
    exact ⟨by rw [E.out]; first | rfl | (show Ending.returned (Value.int _ _) = _; congr 2; omega), rfl⟩
set_option maxRecDepth 100000 in
theorem in08 (z : Int) : ∃ i : Nat, 0 ≤ i ∧ i ≤ 8 ∧ ∀ w, Calls Tryd.prog 60 #[.int .i64 z, .int .i64 0, .int .i64 8] w fun e w' => e = .returned (.int .i64 (i : Int)) ∧ w' = w := by
  by_cases h : 0 ≤ z ∧ z ≤ 8
  · obtain ⟨i, hi⟩ : ∃ i : Nat, (i : Int) = z := ⟨z.toNat, by omega⟩
    refine ⟨i, by omega, by omega, fun w => ?_⟩
    have E := Lib.hid hi
    clear hi
    obtain ⟨h1, h2⟩ := h
    go_enter Tryd.func60, Tryd.ntmps60
    go_wp2
    go_ret
    exact ⟨by rw [E.out]; rfl, rfl⟩
  · obtain ⟨i, i1, i2, hc⟩ := within08 z
    refine ⟨i, i1, i2, fun w => ?_⟩
    have HC := Lib.hid hc
    clear hc i1 i2
    by_cases h1 : 0 ≤ z
    · have h2 : ¬ z ≤ 8 := fun h2 => h ⟨h1, h2⟩
      clear h
      go_enter Tryd.func60, Tryd.ntmps60
      go_wp2_with fail
      refine (HC.out _).mono ?_
      rintro e w' ⟨rfl, rfl⟩
      go_wp2
      go_ret
      exact ⟨rfl, rfl⟩
    · clear h
      go_enter Tryd.func60, Tryd.ntmps60
      go_wp2_with fail
      refine (HC.out _).mono ?_
      rintro e w' ⟨rfl, rfl⟩
      go_wp2
      go_ret
      exact ⟨rfl, rfl⟩
set_option maxRecDepth 100000 in
theorem within14 (z : Int) : ∃ i : Nat, 1 ≤ i ∧ i ≤ 4 ∧ ∀ w, Calls Tryd.prog 49 #[.int .i64 z, .int .i64 1, .int .i64 4] w fun e w' => e = .returned (.int .i64 (i : Int)) ∧ w' = w := by
  obtain ⟨h1, h2⟩ := tmod_range z 4 (by omega)
  by_cases h0 : z.tmod 4 < 0
  · obtain ⟨i, hi⟩ : ∃ i : Nat, (i : Int) = 1 + (z.tmod 4 + 4 - 1 + 1) := ⟨(1 + (z.tmod 4 + 4 - 1 + 1)).toNat, by omega⟩
    refine ⟨i, by omega, by omega, fun w => ?_⟩
    have E := Lib.hid hi
    clear hi
    go_enter Tryd.func49, Tryd.ntmps49
    go_wp2
    go_ret
    exact ⟨by rw [E.out]; first | rfl | (show Ending.returned (Value.int _ _) = _; congr 2; omega), rfl⟩
  · obtain ⟨i, hi⟩ : ∃ i : Nat, (i : Int) = 1 + z.tmod 4 := ⟨(1 + z.tmod 4).toNat, by omega⟩
    refine ⟨i, by omega, by omega, fun w => ?_⟩
    have E := Lib.hid hi
    clear hi
    go_enter Tryd.func49, Tryd.ntmps49
    go_wp2
    go_ret
    exact ⟨by rw [E.out]; first | rfl | (show Ending.returned (Value.int _ _) = _; congr 2; omega), rfl⟩
set_option maxRecDepth 100000 in
theorem in14 (z : Int) : ∃ i : Nat, 1 ≤ i ∧ i ≤ 4 ∧ ∀ w, Calls Tryd.prog 60 #[.int .i64 z, .int .i64 1, .int .i64 4] w fun e w' => e = .returned (.int .i64 (i : Int)) ∧ w' = w := by
  by_cases h : 1 ≤ z ∧ z ≤ 4
  · obtain ⟨i, hi⟩ : ∃ i : Nat, (i : Int) = z := ⟨z.toNat, by omega⟩
    refine ⟨i, by omega, by omega, fun w => ?_⟩
    have E := Lib.hid hi
    clear hi
    obtain ⟨h1, h2⟩ := h
    go_enter Tryd.func60, Tryd.ntmps60
    go_wp2
    go_ret
    exact ⟨by rw [E.out]; rfl, rfl⟩
  · obtain ⟨i, i1, i2, hc⟩ := within14 z
    refine ⟨i, i1, i2, fun w => ?_⟩
    have HC := Lib.hid hc
    clear hc i1 i2
    by_cases h1 : 1 ≤ z
    · have h2 : ¬ z ≤ 4 := fun h2 => h ⟨h1, h2⟩
      clear h
      go_enter Tryd.func60, Tryd.ntmps60
      go_wp2_with fail
      refine (HC.out _).mono ?_
      rintro e w' ⟨rfl, rfl⟩
      go_wp2
      go_ret
      exact ⟨rfl, rfl⟩
    · clear h
      go_enter Tryd.func60, Tryd.ntmps60
      go_wp2_with fail
      refine (HC.out _).mono ?_
      rintro e w' ⟨rfl, rfl⟩
      go_wp2
      go_ret
      exact ⟨rfl, rfl⟩
set_option maxRecDepth 100000 in
set_option maxHeartbeats 1000000 in
theorem name_z (z : Int) : ∃ s, (La.name s = true ∧ s.size ≤ 12) ∧ ∀ w, Calls Tryd.prog 48 #[.int .i64 z] w fun e w' => e = .returned (.string s) ∧ w' = w := by
  obtain ⟨i, _, i2, hc⟩ := in04 z
  have HC := Lib.hid hc
  clear hc
  match i, i2, HC with
  | 0, _, HC =>
    refine ⟨⟨#[115, 101, 118]⟩, by decide +kernel, fun w => ?_⟩
    have IX : ∀ W, (Instr.index 99 (.agg #[.string ⟨#[115, 101, 118]⟩, .string ⟨#[106, 111, 98]⟩, .string ⟨#[104, 111, 115, 116]⟩, .string ⟨#[95, 120]⟩, .string ⟨#[90, 111, 110, 101, 57]⟩]) (.int .i64 0)).run Tryd.prog W = .ok (.string ⟨#[115, 101, 118]⟩) W := fun W => by rfl
    go_enter Tryd.func48, Tryd.ntmps48
    go_wp2_with fail
    refine (HC.out _).mono ?_
    rintro e w' ⟨rfl, rfl⟩
    go_wp2
    go_ret
    exact ⟨rfl, rfl⟩
  | 1, _, HC =>
    refine ⟨⟨#[106, 111, 98]⟩, by decide +kernel, fun w => ?_⟩
    have IX : ∀ W, (Instr.index 99 (.agg #[.string ⟨#[115, 101, 118]⟩, .string ⟨#[106, 111, 98]⟩, .string ⟨#[104, 111, 115, 116]⟩, .string ⟨#[95, 120]⟩, .string ⟨#[90, 111, 110, 101, 57]⟩]) (.int .i64 1)).run Tryd.prog W = .ok (.string ⟨#[106, 111, 98]⟩) W := fun W => by rfl
    go_enter Tryd.func48, Tryd.ntmps48
    go_wp2_with fail
    refine (HC.out _).mono ?_
    rintro e w' ⟨rfl, rfl⟩
    go_wp2
    go_ret
    exact ⟨rfl, rfl⟩
  | 2, _, HC =>
    refine ⟨⟨#[104, 111, 115, 116]⟩, by decide +kernel, fun w => ?_⟩
    have IX : ∀ W, (Instr.index 99 (.agg #[.string ⟨#[115, 101, 118]⟩, .string ⟨#[106, 111, 98]⟩, .string ⟨#[104, 111, 115, 116]⟩, .string ⟨#[95, 120]⟩, .string ⟨#[90, 111, 110, 101, 57]⟩]) (.int .i64 2)).run Tryd.prog W = .ok (.string ⟨#[104, 111, 115, 116]⟩) W := fun W => by rfl
    go_enter Tryd.func48, Tryd.ntmps48
    go_wp2_with fail
    refine (HC.out _).mono ?_
    rintro e w' ⟨rfl, rfl⟩
    go_wp2
    go_ret
    exact ⟨rfl, rfl⟩
  | 3, _, HC =>
    refine ⟨⟨#[95, 120]⟩, by decide +kernel, fun w => ?_⟩
    have IX : ∀ W, (Instr.index 99 (.agg #[.string ⟨#[115, 101, 118]⟩, .string ⟨#[106, 111, 98]⟩, .string ⟨#[104, 111, 115, 116]⟩, .string ⟨#[95, 120]⟩, .string ⟨#[90, 111, 110, 101, 57]⟩]) (.int .i64 3)).run Tryd.prog W = .ok (.string ⟨#[95, 120]⟩) W := fun W => by rfl
    go_enter Tryd.func48, Tryd.ntmps48
    go_wp2_with fail
    refine (HC.out _).mono ?_
    rintro e w' ⟨rfl, rfl⟩
    go_wp2
    go_ret
    exact ⟨rfl, rfl⟩
  | 4, _, HC =>
    refine ⟨⟨#[90, 111, 110, 101, 57]⟩, by decide +kernel, fun w => ?_⟩
    have IX : ∀ W, (Instr.index 99 (.agg #[.string ⟨#[115, 101, 118]⟩, .string ⟨#[106, 111, 98]⟩, .string ⟨#[104, 111, 115, 116]⟩, .string ⟨#[95, 120]⟩, .string ⟨#[90, 111, 110, 101, 57]⟩]) (.int .i64 4)).run Tryd.prog W = .ok (.string ⟨#[90, 111, 110, 101, 57]⟩) W := fun W => by rfl
    go_enter Tryd.func48, Tryd.ntmps48
    go_wp2_with fail
    refine (HC.out _).mono ?_
    rintro e w' ⟨rfl, rfl⟩
    go_wp2
    go_ret
    exact ⟨rfl, rfl⟩
set_option maxRecDepth 100000 in
set_option maxHeartbeats 1000000 in
theorem value_z (z : Int) : ∃ s, s.size ≤ 24 ∧ ∀ w, Calls Tryd.prog 50 #[.int .i64 z] w fun e w' => e = .returned (.string s) ∧ w' = w := by
  obtain ⟨i, _, i2, hc⟩ := in06 z
  have HC := Lib.hid hc
  clear hc
  match i, i2, HC with
  | 0, _, HC =>
    refine ⟨⟨#[97]⟩, by decide +kernel, fun w => ?_⟩
    have IX : ∀ W, (Instr.index 100 (.agg #[.string ⟨#[97]⟩, .string ⟨#[98]⟩, .string ⟨#[99, 114, 105, 116]⟩, .string ⟨#[119, 97, 114, 110]⟩, .string ⟨#[97, 98]⟩, .string ⟨#[0, 255]⟩, .string ⟨#[97, 98, 97, 98, 97, 98, 97, 98, 97, 98, 97, 98, 97, 98, 97, 98, 97, 98, 97, 98, 97, 98, 97, 98]⟩]) (.int .i64 0)).run Tryd.prog W = .ok (.string ⟨#[97]⟩) W := fun W => by rfl
    go_enter Tryd.func50, Tryd.ntmps50
    go_wp2_with fail
    refine (HC.out _).mono ?_
    rintro e w' ⟨rfl, rfl⟩
    go_wp2
    go_ret
    exact ⟨rfl, rfl⟩
  | 1, _, HC =>
    refine ⟨⟨#[98]⟩, by decide +kernel, fun w => ?_⟩
    have IX : ∀ W, (Instr.index 100 (.agg #[.string ⟨#[97]⟩, .string ⟨#[98]⟩, .string ⟨#[99, 114, 105, 116]⟩, .string ⟨#[119, 97, 114, 110]⟩, .string ⟨#[97, 98]⟩, .string ⟨#[0, 255]⟩, .string ⟨#[97, 98, 97, 98, 97, 98, 97, 98, 97, 98, 97, 98, 97, 98, 97, 98, 97, 98, 97, 98, 97, 98, 97, 98]⟩]) (.int .i64 1)).run Tryd.prog W = .ok (.string ⟨#[98]⟩) W := fun W => by rfl
    go_enter Tryd.func50, Tryd.ntmps50
    go_wp2_with fail
    refine (HC.out _).mono ?_
    rintro e w' ⟨rfl, rfl⟩
    go_wp2
    go_ret
    exact ⟨rfl, rfl⟩
  | 2, _, HC =>
    refine ⟨⟨#[99, 114, 105, 116]⟩, by decide +kernel, fun w => ?_⟩
    have IX : ∀ W, (Instr.index 100 (.agg #[.string ⟨#[97]⟩, .string ⟨#[98]⟩, .string ⟨#[99, 114, 105, 116]⟩, .string ⟨#[119, 97, 114, 110]⟩, .string ⟨#[97, 98]⟩, .string ⟨#[0, 255]⟩, .string ⟨#[97, 98, 97, 98, 97, 98, 97, 98, 97, 98, 97, 98, 97, 98, 97, 98, 97, 98, 97, 98, 97, 98, 97, 98]⟩]) (.int .i64 2)).run Tryd.prog W = .ok (.string ⟨#[99, 114, 105, 116]⟩) W := fun W => by rfl
    go_enter Tryd.func50, Tryd.ntmps50
    go_wp2_with fail
    refine (HC.out _).mono ?_
    rintro e w' ⟨rfl, rfl⟩
    go_wp2
    go_ret
    exact ⟨rfl, rfl⟩
  | 3, _, HC =>
    refine ⟨⟨#[119, 97, 114, 110]⟩, by decide +kernel, fun w => ?_⟩
    have IX : ∀ W, (Instr.index 100 (.agg #[.string ⟨#[97]⟩, .string ⟨#[98]⟩, .string ⟨#[99, 114, 105, 116]⟩, .string ⟨#[119, 97, 114, 110]⟩, .string ⟨#[97, 98]⟩, .string ⟨#[0, 255]⟩, .string ⟨#[97, 98, 97, 98, 97, 98, 97, 98, 97, 98, 97, 98, 97, 98, 97, 98, 97, 98, 97, 98, 97, 98, 97, 98]⟩]) (.int .i64 3)).run Tryd.prog W = .ok (.string ⟨#[119, 97, 114, 110]⟩) W := fun W => by rfl
    go_enter Tryd.func50, Tryd.ntmps50
    go_wp2_with fail
    refine (HC.out _).mono ?_
    rintro e w' ⟨rfl, rfl⟩
    go_wp2
    go_ret
    exact ⟨rfl, rfl⟩
  | 4, _, HC =>
    refine ⟨⟨#[97, 98]⟩, by decide +kernel, fun w => ?_⟩
    have IX : ∀ W, (Instr.index 100 (.agg #[.string ⟨#[97]⟩, .string ⟨#[98]⟩, .string ⟨#[99, 114, 105, 116]⟩, .string ⟨#[119, 97, 114, 110]⟩, .string ⟨#[97, 98]⟩, .string ⟨#[0, 255]⟩, .string ⟨#[97, 98, 97, 98, 97, 98, 97, 98, 97, 98, 97, 98, 97, 98, 97, 98, 97, 98, 97, 98, 97, 98, 97, 98]⟩]) (.int .i64 4)).run Tryd.prog W = .ok (.string ⟨#[97, 98]⟩) W := fun W => by rfl
    go_enter Tryd.func50, Tryd.ntmps50
    go_wp2_with fail
    refine (HC.out _).mono ?_
    rintro e w' ⟨rfl, rfl⟩
    go_wp2
    go_ret
    exact ⟨rfl, rfl⟩
  | 5, _, HC =>
    refine ⟨⟨#[0, 255]⟩, by decide +kernel, fun w => ?_⟩
    have IX : ∀ W, (Instr.index 100 (.agg #[.string ⟨#[97]⟩, .string ⟨#[98]⟩, .string ⟨#[99, 114, 105, 116]⟩, .string ⟨#[119, 97, 114, 110]⟩, .string ⟨#[97, 98]⟩, .string ⟨#[0, 255]⟩, .string ⟨#[97, 98, 97, 98, 97, 98, 97, 98, 97, 98, 97, 98, 97, 98, 97, 98, 97, 98, 97, 98, 97, 98, 97, 98]⟩]) (.int .i64 5)).run Tryd.prog W = .ok (.string ⟨#[0, 255]⟩) W := fun W => by rfl
    go_enter Tryd.func50, Tryd.ntmps50
    go_wp2_with fail
    refine (HC.out _).mono ?_
    rintro e w' ⟨rfl, rfl⟩
    go_wp2
    go_ret
    exact ⟨rfl, rfl⟩
  | 6, _, HC =>
    refine ⟨⟨#[97, 98, 97, 98, 97, 98, 97, 98, 97, 98, 97, 98, 97, 98, 97, 98, 97, 98, 97, 98, 97, 98, 97, 98]⟩, by decide +kernel, fun w => ?_⟩
    have IX : ∀ W, (Instr.index 100 (.agg #[.string ⟨#[97]⟩, .string ⟨#[98]⟩, .string ⟨#[99, 114, 105, 116]⟩, .string ⟨#[119, 97, 114, 110]⟩, .string ⟨#[97, 98]⟩, .string ⟨#[0, 255]⟩, .string ⟨#[97, 98, 97, 98, 97, 98, 97, 98, 97, 98, 97, 98, 97, 98, 97, 98, 97, 98, 97, 98, 97, 98, 97, 98]⟩]) (.int .i64 6)).run Tryd.prog W = .ok (.string ⟨#[97, 98, 97, 98, 97, 98, 97, 98, 97, 98, 97, 98, 97, 98, 97, 98, 97, 98, 97, 98, 97, 98, 97, 98]⟩) W := fun W => by rfl
    go_enter Tryd.func50, Tryd.ntmps50
    go_wp2_with fail
    refine (HC.out _).mono ?_
    rintro e w' ⟨rfl, rfl⟩
    go_wp2
    go_ret
    exact ⟨rfl, rfl⟩
set_option maxRecDepth 100000 in
set_option maxHeartbeats 1000000 in
theorem pattern_z (z : Int) : ∃ s, (s.size ≤ 40 ∧ (Pz.parse (txt8 s)).isSome = true) ∧ ∀ w, Calls Tryd.prog 61 #[.int .i64 z] w fun e w' => e = .returned (.string s) ∧ w' = w := by
  obtain ⟨i, _, i2, hc⟩ := in08 z
  have HC := Lib.hid hc
  clear hc
  match i, i2, HC with
  | 0, _, HC =>
    refine ⟨⟨#[97, 124, 98]⟩, by decide +kernel, fun w => ?_⟩
    have IX : ∀ W, (Instr.index 104 (.agg #[.string ⟨#[97, 124, 98]⟩, .string ⟨#[]⟩, .string ⟨#[40, 99, 114, 105, 116, 124, 119, 97, 114, 110, 41]⟩, .string ⟨#[91, 97, 45, 99, 93, 43, 46, 42]⟩, .string ⟨#[46, 43]⟩, .string ⟨#[40, 97, 98, 41, 42]⟩, .string ⟨#[97, 63, 98, 63]⟩, .string ⟨#[91, 94, 97, 93, 42]⟩, .string ⟨#[97, 42, 97, 42, 97, 42, 97, 42, 97, 42, 97, 42, 97, 42, 97, 42, 97, 42, 97, 42, 97, 42, 97, 42, 97, 42, 97, 42]⟩]) (.int .i64 0)).run Tryd.prog W = .ok (.string ⟨#[97, 124, 98]⟩) W := fun W => by rfl
    go_enter Tryd.func61, Tryd.ntmps61
    go_wp2_with fail
    refine (HC.out _).mono ?_
    rintro e w' ⟨rfl, rfl⟩
    go_wp2
    go_ret
    exact ⟨rfl, rfl⟩
  | 1, _, HC =>
    refine ⟨⟨#[]⟩, by decide +kernel, fun w => ?_⟩
    have IX : ∀ W, (Instr.index 104 (.agg #[.string ⟨#[97, 124, 98]⟩, .string ⟨#[]⟩, .string ⟨#[40, 99, 114, 105, 116, 124, 119, 97, 114, 110, 41]⟩, .string ⟨#[91, 97, 45, 99, 93, 43, 46, 42]⟩, .string ⟨#[46, 43]⟩, .string ⟨#[40, 97, 98, 41, 42]⟩, .string ⟨#[97, 63, 98, 63]⟩, .string ⟨#[91, 94, 97, 93, 42]⟩, .string ⟨#[97, 42, 97, 42, 97, 42, 97, 42, 97, 42, 97, 42, 97, 42, 97, 42, 97, 42, 97, 42, 97, 42, 97, 42, 97, 42, 97, 42]⟩]) (.int .i64 1)).run Tryd.prog W = .ok (.string ⟨#[]⟩) W := fun W => by rfl
    go_enter Tryd.func61, Tryd.ntmps61
    go_wp2_with fail
    refine (HC.out _).mono ?_
    rintro e w' ⟨rfl, rfl⟩
    go_wp2
    go_ret
    exact ⟨rfl, rfl⟩
  | 2, _, HC =>
    refine ⟨⟨#[40, 99, 114, 105, 116, 124, 119, 97, 114, 110, 41]⟩, by decide +kernel, fun w => ?_⟩
    have IX : ∀ W, (Instr.index 104 (.agg #[.string ⟨#[97, 124, 98]⟩, .string ⟨#[]⟩, .string ⟨#[40, 99, 114, 105, 116, 124, 119, 97, 114, 110, 41]⟩, .string ⟨#[91, 97, 45, 99, 93, 43, 46, 42]⟩, .string ⟨#[46, 43]⟩, .string ⟨#[40, 97, 98, 41, 42]⟩, .string ⟨#[97, 63, 98, 63]⟩, .string ⟨#[91, 94, 97, 93, 42]⟩, .string ⟨#[97, 42, 97, 42, 97, 42, 97, 42, 97, 42, 97, 42, 97, 42, 97, 42, 97, 42, 97, 42, 97, 42, 97, 42, 97, 42, 97, 42]⟩]) (.int .i64 2)).run Tryd.prog W = .ok (.string ⟨#[40, 99, 114, 105, 116, 124, 119, 97, 114, 110, 41]⟩) W := fun W => by rfl
    go_enter Tryd.func61, Tryd.ntmps61
    go_wp2_with fail
    refine (HC.out _).mono ?_
    rintro e w' ⟨rfl, rfl⟩
    go_wp2
    go_ret
    exact ⟨rfl, rfl⟩
  | 3, _, HC =>
    refine ⟨⟨#[91, 97, 45, 99, 93, 43, 46, 42]⟩, by decide +kernel, fun w => ?_⟩
    have IX : ∀ W, (Instr.index 104 (.agg #[.string ⟨#[97, 124, 98]⟩, .string ⟨#[]⟩, .string ⟨#[40, 99, 114, 105, 116, 124, 119, 97, 114, 110, 41]⟩, .string ⟨#[91, 97, 45, 99, 93, 43, 46, 42]⟩, .string ⟨#[46, 43]⟩, .string ⟨#[40, 97, 98, 41, 42]⟩, .string ⟨#[97, 63, 98, 63]⟩, .string ⟨#[91, 94, 97, 93, 42]⟩, .string ⟨#[97, 42, 97, 42, 97, 42, 97, 42, 97, 42, 97, 42, 97, 42, 97, 42, 97, 42, 97, 42, 97, 42, 97, 42, 97, 42, 97, 42]⟩]) (.int .i64 3)).run Tryd.prog W = .ok (.string ⟨#[91, 97, 45, 99, 93, 43, 46, 42]⟩) W := fun W => by rfl
    go_enter Tryd.func61, Tryd.ntmps61
    go_wp2_with fail
    refine (HC.out _).mono ?_
    rintro e w' ⟨rfl, rfl⟩
    go_wp2
    go_ret
    exact ⟨rfl, rfl⟩
  | 4, _, HC =>
    refine ⟨⟨#[46, 43]⟩, by decide +kernel, fun w => ?_⟩
    have IX : ∀ W, (Instr.index 104 (.agg #[.string ⟨#[97, 124, 98]⟩, .string ⟨#[]⟩, .string ⟨#[40, 99, 114, 105, 116, 124, 119, 97, 114, 110, 41]⟩, .string ⟨#[91, 97, 45, 99, 93, 43, 46, 42]⟩, .string ⟨#[46, 43]⟩, .string ⟨#[40, 97, 98, 41, 42]⟩, .string ⟨#[97, 63, 98, 63]⟩, .string ⟨#[91, 94, 97, 93, 42]⟩, .string ⟨#[97, 42, 97, 42, 97, 42, 97, 42, 97, 42, 97, 42, 97, 42, 97, 42, 97, 42, 97, 42, 97, 42, 97, 42, 97, 42, 97, 42]⟩]) (.int .i64 4)).run Tryd.prog W = .ok (.string ⟨#[46, 43]⟩) W := fun W => by rfl
    go_enter Tryd.func61, Tryd.ntmps61
    go_wp2_with fail
    refine (HC.out _).mono ?_
    rintro e w' ⟨rfl, rfl⟩
    go_wp2
    go_ret
    exact ⟨rfl, rfl⟩
  | 5, _, HC =>
    refine ⟨⟨#[40, 97, 98, 41, 42]⟩, by decide +kernel, fun w => ?_⟩
    have IX : ∀ W, (Instr.index 104 (.agg #[.string ⟨#[97, 124, 98]⟩, .string ⟨#[]⟩, .string ⟨#[40, 99, 114, 105, 116, 124, 119, 97, 114, 110, 41]⟩, .string ⟨#[91, 97, 45, 99, 93, 43, 46, 42]⟩, .string ⟨#[46, 43]⟩, .string ⟨#[40, 97, 98, 41, 42]⟩, .string ⟨#[97, 63, 98, 63]⟩, .string ⟨#[91, 94, 97, 93, 42]⟩, .string ⟨#[97, 42, 97, 42, 97, 42, 97, 42, 97, 42, 97, 42, 97, 42, 97, 42, 97, 42, 97, 42, 97, 42, 97, 42, 97, 42, 97, 42]⟩]) (.int .i64 5)).run Tryd.prog W = .ok (.string ⟨#[40, 97, 98, 41, 42]⟩) W := fun W => by rfl
    go_enter Tryd.func61, Tryd.ntmps61
    go_wp2_with fail
    refine (HC.out _).mono ?_
    rintro e w' ⟨rfl, rfl⟩
    go_wp2
    go_ret
    exact ⟨rfl, rfl⟩
  | 6, _, HC =>
    refine ⟨⟨#[97, 63, 98, 63]⟩, by decide +kernel, fun w => ?_⟩
    have IX : ∀ W, (Instr.index 104 (.agg #[.string ⟨#[97, 124, 98]⟩, .string ⟨#[]⟩, .string ⟨#[40, 99, 114, 105, 116, 124, 119, 97, 114, 110, 41]⟩, .string ⟨#[91, 97, 45, 99, 93, 43, 46, 42]⟩, .string ⟨#[46, 43]⟩, .string ⟨#[40, 97, 98, 41, 42]⟩, .string ⟨#[97, 63, 98, 63]⟩, .string ⟨#[91, 94, 97, 93, 42]⟩, .string ⟨#[97, 42, 97, 42, 97, 42, 97, 42, 97, 42, 97, 42, 97, 42, 97, 42, 97, 42, 97, 42, 97, 42, 97, 42, 97, 42, 97, 42]⟩]) (.int .i64 6)).run Tryd.prog W = .ok (.string ⟨#[97, 63, 98, 63]⟩) W := fun W => by rfl
    go_enter Tryd.func61, Tryd.ntmps61
    go_wp2_with fail
    refine (HC.out _).mono ?_
    rintro e w' ⟨rfl, rfl⟩
    go_wp2
    go_ret
    exact ⟨rfl, rfl⟩
  | 7, _, HC =>
    refine ⟨⟨#[91, 94, 97, 93, 42]⟩, by decide +kernel, fun w => ?_⟩
    have IX : ∀ W, (Instr.index 104 (.agg #[.string ⟨#[97, 124, 98]⟩, .string ⟨#[]⟩, .string ⟨#[40, 99, 114, 105, 116, 124, 119, 97, 114, 110, 41]⟩, .string ⟨#[91, 97, 45, 99, 93, 43, 46, 42]⟩, .string ⟨#[46, 43]⟩, .string ⟨#[40, 97, 98, 41, 42]⟩, .string ⟨#[97, 63, 98, 63]⟩, .string ⟨#[91, 94, 97, 93, 42]⟩, .string ⟨#[97, 42, 97, 42, 97, 42, 97, 42, 97, 42, 97, 42, 97, 42, 97, 42, 97, 42, 97, 42, 97, 42, 97, 42, 97, 42, 97, 42]⟩]) (.int .i64 7)).run Tryd.prog W = .ok (.string ⟨#[91, 94, 97, 93, 42]⟩) W := fun W => by rfl
    go_enter Tryd.func61, Tryd.ntmps61
    go_wp2_with fail
    refine (HC.out _).mono ?_
    rintro e w' ⟨rfl, rfl⟩
    go_wp2
    go_ret
    exact ⟨rfl, rfl⟩
  | 8, _, HC =>
    refine ⟨⟨#[97, 42, 97, 42, 97, 42, 97, 42, 97, 42, 97, 42, 97, 42, 97, 42, 97, 42, 97, 42, 97, 42, 97, 42, 97, 42, 97, 42]⟩, by decide +kernel, fun w => ?_⟩
    have IX : ∀ W, (Instr.index 104 (.agg #[.string ⟨#[97, 124, 98]⟩, .string ⟨#[]⟩, .string ⟨#[40, 99, 114, 105, 116, 124, 119, 97, 114, 110, 41]⟩, .string ⟨#[91, 97, 45, 99, 93, 43, 46, 42]⟩, .string ⟨#[46, 43]⟩, .string ⟨#[40, 97, 98, 41, 42]⟩, .string ⟨#[97, 63, 98, 63]⟩, .string ⟨#[91, 94, 97, 93, 42]⟩, .string ⟨#[97, 42, 97, 42, 97, 42, 97, 42, 97, 42, 97, 42, 97, 42, 97, 42, 97, 42, 97, 42, 97, 42, 97, 42, 97, 42, 97, 42]⟩]) (.int .i64 8)).run Tryd.prog W = .ok (.string ⟨#[97, 42, 97, 42, 97, 42, 97, 42, 97, 42, 97, 42, 97, 42, 97, 42, 97, 42, 97, 42, 97, 42, 97, 42, 97, 42, 97, 42]⟩) W := fun W => by rfl
    go_enter Tryd.func61, Tryd.ntmps61
    go_wp2_with fail
    refine (HC.out _).mono ?_
    rintro e w' ⟨rfl, rfl⟩
    go_wp2
    go_ret
    exact ⟨rfl, rfl⟩
end Go.Proofs.YtjmojjjgifkkiaaDoor
