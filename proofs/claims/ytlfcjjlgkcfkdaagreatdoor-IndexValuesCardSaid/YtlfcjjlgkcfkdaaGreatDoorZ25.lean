/-
  What sordinekeep's In, name, value, pattern and Mat's Matcher do, whatever is drawn: a matcher that may be. No conditions.
  What Mat's Matcher does, whatever is drawn: a matcher that may be. No conditions.
-/
import Derived.Test.YtlfcjjlgkcfkdaaGreatDoorProg
import Derived.Test.YtlfcjjlgkcfkdaaGreatDoorZ01
import Derived.Test.YtlfcjjlgkcfkdaaGreatDoorZ02
import Derived.Test.YtlfcjjlgkcfkdaaGreatDoorZ03
import Derived.Test.YtlfcjjlgkcfkdaaGreatDoorZ04
import Derived.Test.YtlfcjjlgkcfkdaaGreatDoorZ05
import Derived.Test.YtlfcjjlgkcfkdaaGreatDoorZ08
import Derived.Test.YtlfcjjlgkcfkdaaGreatDoorZ09
import Derived.Test.YtlfcjjlgkcfkdaaGreatDoorZ10
import Derived.Test.YtlfcjjlgkcfkdaaGreatDoorZ11
import Derived.Test.YtlfcjjlgkcfkdaaGreatDoorZ15
import Derived.Test.YtlfcjjlgkcfkdaaGreatDoorZ19
import Derived.Test.YtlfcjjlgkcfkdaaGreatDoorZ24
import Derived.Test.YtlfcjjlgkcfkdaaGreatDoorZ07
import Derived.Test.YtlfcjjlgkcfkdaaGreatDoorZ13
import Derived.Test.YtlfcjjlgkcfkdaaGreatDoorZ14
import Derived.Test.YtlfcjjlgkcfkdaaGreatDoorZ16
import Derived.Test.YtlfcjjlgkcfkdaaGreatDoorZ17
import Derived.Test.YtlfcjjlgkcfkdaaGreatDoorZ20
import Derived.Below
import Derived.WalkKit
import Derived.WalkSpells
import Derived.WalkLawsBesides
import Derived.Lib.Hide
import Derived.Lib.AppendStr
import Derived.Laws.BytesArg
import Derived.Laws.AppendOwnNone
import Derived.KernelRfl
import Derived.Lib.Bytealg
import Derived.Deep.RegionHeld3
import Derived.BigQuiet
import Derived.Lib.QuietBelow
import Derived.Laws.StructEq
import Derived.Laws.MakeOwn
import Derived.Laws.OwnMore
import Derived.OwnWalk
import Derived.Laws.CopyOwn
import Derived.Laws.AppendOwn
import Derived.Deep.QuietTactic
import Derived.Laws.Externs
import Derived.Maps.AppendAt
import Derived.StillTailTactics
import Derived.Laws.ResultCell
import Derived.Deep.LoopGhost
import Derived.Deep.MidRow
import Derived.Deep.Upon
import Derived.Deep.Cut
import Derived.Lib.TrailingZeros
import Derived.Laws.Bits64b
import Derived.Deep.CutRange
import Derived.Lib.LazyBuf
import Derived.Deep.Slices
import Derived.Deep.SlicePairs
import Derived.OpenShut
namespace Go.Proofs.YtlfcjjlgkcfkdaaGreatDoor
open Go.RowKit Go.Sort

set_option maxRecDepth 100000 in
theorem within04 (z : Int) : ∃ i : Nat, 0 ≤ i ∧ i ≤ 4 ∧ ∀ w, Calls Tryz.prog 77 #[.int .i64 z, .int .i64 0, .int .i64 4] w fun e w' => e = .returned (.int .i64 (i : Int)) ∧ w' = w := by
  obtain ⟨h1, h2⟩ := tmod_range z 5 (by omega)
  by_cases h0 : z.tmod 5 < 0
  · obtain ⟨i, hi⟩ : ∃ i : Nat, (i : Int) = (z.tmod 5 + 4 + 1) := ⟨((z.tmod 5 + 4 + 1)).toNat, by omega⟩
    refine ⟨i, by omega, by omega, fun w => ?_⟩
    have E := Lib.hid hi
    clear hi
    go_enter Tryz.func77, Tryz.ntmps77
    go_wp2
    go_ret
    exact ⟨by rw [E.out]; first | rfl | (show Ending.returned (Value.int _ _) = _; congr 2; omega), rfl⟩
  · obtain ⟨i, hi⟩ : ∃ i : Nat, (i : Int) = z.tmod 5 := ⟨(z.tmod 5).toNat, by omega⟩
    refine ⟨i, by omega, by omega, fun w => ?_⟩
    have E := Lib.hid hi
    clear hi
    go_enter Tryz.func77, Tryz.ntmps77
    go_wp2
    go_ret
    exact ⟨by rw [E.out]; first | rfl | (show Ending.returned (Value.int _ _) = _; congr 2; omega), rfl⟩
set_option maxRecDepth 100000 in
theorem in04 (z : Int) : ∃ i : Nat, 0 ≤ i ∧ i ≤ 4 ∧ ∀ w, Calls Tryz.prog 62 #[.int .i64 z, .int .i64 0, .int .i64 4] w fun e w' => e = .returned (.int .i64 (i : Int)) ∧ w' = w := by
  by_cases h : 0 ≤ z ∧ z ≤ 4
  · obtain ⟨i, hi⟩ : ∃ i : Nat, (i : Int) = z := ⟨z.toNat, by omega⟩
    refine ⟨i, by omega, by omega, fun w => ?_⟩
    have E := Lib.hid hi
    clear hi
    obtain ⟨h1, h2⟩ := h
    go_enter Tryz.func62, Tryz.ntmps62
    go_wp2
    go_ret
    exact ⟨by rw [E.out]; rfl, rfl⟩
  · obtain ⟨i, i1, i2, hc⟩ := within04 z
    refine ⟨i, i1, i2, fun w => ?_⟩
    have HC := Lib.hid hc
    clear hc i1 i2
    by_cases h1 : 0 ≤ z
    · have h2 : ¬ z ≤ 4 := fun h2 => h ⟨h1, h2⟩
      clear h
      go_enter Tryz.func62, Tryz.ntmps62
      go_wp2_with fail
      refine (HC.out _).mono ?_
      rintro e w' ⟨rfl, rfl⟩
      go_wp2
      go_ret
      exact ⟨rfl, rfl⟩
    · clear h
      go_enter Tryz.func62, Tryz.ntmps62
      go_wp2_with fail
      refine (HC.out _).mono ?_
      rintro e w' ⟨rfl, rfl⟩
      go_wp2
      go_ret
      exact ⟨rfl, rfl⟩
set_option maxRecDepth 100000 in
theorem within06 (z : Int) : ∃ i : Nat, 0 ≤ i ∧ i ≤ 6 ∧ ∀ w, Calls Tryz.prog 77 #[.int .i64 z, .int .i64 0, .int .i64 6] w fun e w' => e = .returned (.int .i64 (i : Int)) ∧ w' = w := by
  obtain ⟨h1, h2⟩ := tmod_range z 7 (by omega)
  by_cases h0 : z.tmod 7 < 0
  · obtain ⟨i, hi⟩ : ∃ i : Nat, (i : Int) = (z.tmod 7 + 6 + 1) := ⟨((z.tmod 7 + 6 + 1)).toNat, by omega⟩
    refine ⟨i, by omega, by omega, fun w => ?_⟩
    have E := Lib.hid hi
    clear hi
    go_enter Tryz.func77, Tryz.ntmps77
    go_wp2
    go_ret
    exact ⟨by rw [E.out]; first | rfl | (show Ending.returned (Value.int _ _) = _; congr 2; omega), rfl⟩
  · obtain ⟨i, hi⟩ : ∃ i : Nat, (i : Int) = z.tmod 7 := ⟨(z.tmod 7).toNat, by omega⟩
    refine ⟨i, by omega, by omega, fun w => ?_⟩
    have E := Lib.hid hi
    clear hi
    go_enter Tryz.func77, Tryz.ntmps77
    go_wp2
    go_ret
    exact ⟨by rw [E.out]; first | rfl | (show Ending.returned (Value.int _ _) = _; congr 2; omega), rfl⟩
set_option maxRecDepth 100000 in
theorem in06 (z : Int) : ∃ i : Nat, 0 ≤ i ∧ i ≤ 6 ∧ ∀ w, Calls Tryz.prog 62 #[.int .i64 z, .int .i64 0, .int .i64 6] w fun e w' => e = .returned (.int .i64 (i : Int)) ∧ w' = w := by
  by_cases h : 0 ≤ z ∧ z ≤ 6
  · obtain ⟨i, hi⟩ : ∃ i : Nat, (i : Int) = z := ⟨z.toNat, by omega⟩
    refine ⟨i, by omega, by omega, fun w => ?_⟩
    have E := Lib.hid hi
    clear hi
    obtain ⟨h1, h2⟩ := h
    go_enter Tryz.func62, Tryz.ntmps62
    go_wp2
    go_ret
    exact ⟨by rw [E.out]; rfl, rfl⟩
  · obtain ⟨i, i1, i2, hc⟩ := within06 z
    refine ⟨i, i1, i2, fun w => ?_⟩
    have HC := Lib.hid hc
    clear hc i1 i2
    by_cases h1 : 0 ≤ z
    · have h2 : ¬ z ≤ 6 := fun h2 => h ⟨h1, h2⟩
      clear h
      go_enter Tryz.func62, Tryz.ntmps62
      go_wp2_with fail
      refine (HC.out _).mono ?_
      rintro e w' ⟨rfl, rfl⟩
      go_wp2
      go_ret
      exact ⟨rfl, rfl⟩
    · clear h
      go_enter Tryz.func62, Tryz.ntmps62
      go_wp2_with fail
      refine (HC.out _).mono ?_
      rintro e w' ⟨rfl, rfl⟩
      go_wp2
      go_ret
      exact ⟨rfl, rfl⟩
set_option maxRecDepth 100000 in
theorem within08 (z : Int) : ∃ i : Nat, 0 ≤ i ∧ i ≤ 8 ∧ ∀ w, Calls Tryz.prog 77 #[.int .i64 z, .int .i64 0, .int .i64 8] w fun e w' => e = .returned (.int .i64 (i : Int)) ∧ w' = w := by
  obtain ⟨h1, h2⟩ := tmod_range z 9 (by omega)
  by_cases h0 : z.tmod 9 < 0
  · obtain ⟨i, hi⟩ : ∃ i : Nat, (i : Int) = (z.tmod 9 + 8 + 1) := ⟨((z.tmod 9 + 8 + 1)).toNat, by omega⟩
    refine ⟨i, by omega, by omega, fun w => ?_⟩
    have E := Lib.hid hi
    clear hi
    go_enter Tryz.func77, Tryz.ntmps77
    go_wp2
    go_ret
    exact ⟨by rw [E.out]; first | rfl | (show Ending.returned (Value.int _ _) = _; congr 2; omega), rfl⟩
  · obtain ⟨i, hi⟩ : ∃ i : Nat, (i : Int) = z.tmod 9 := ⟨(z.tmod 9).toNat, by omega⟩
    refine ⟨i, by omega, by omega, fun w => ?_⟩
    have E := Lib.hid hi
    clear hi
    go_enter Tryz.func77, Tryz.ntmps77
    go_wp2
    go_ret
    exact ⟨by rw [E.out]; first | rfl | (show Ending.returned (Value.int _ _) = _; congr 2; omega), rfl⟩
set_option maxRecDepth 100000 in
theorem in08 (z : Int) : ∃ i : Nat, 0 ≤ i ∧ i ≤ 8 ∧ ∀ w, Calls Tryz.prog 62 #[.int .i64 z, .int .i64 0, .int .i64 8] w fun e w' => e = .returned (.int .i64 (i : Int)) ∧ w' = w := by
  by_cases h : 0 ≤ z ∧ z ≤ 8
  · obtain ⟨i, hi⟩ : ∃ i : Nat, (i : Int) = z := ⟨z.toNat, by omega⟩
    refine ⟨i, by omega, by omega, fun w => ?_⟩
    have E := Lib.hid hi
    clear hi
    obtain ⟨h1, h2⟩ := h
    go_enter Tryz.func62, Tryz.ntmps62
    go_wp2
    go_ret
    exact ⟨by rw [E.out]; rfl, rfl⟩
  · obtain ⟨i, i1, i2, hc⟩ := within08 z
    refine ⟨i, i1, i2, fun w => ?_⟩
    have HC := Lib.hid hc
    clear hc i1 i2
    by_cases h1 : 0 ≤ z
    · have h2 : ¬ z ≤ 8 := fun h2 => h ⟨h1, h2⟩
      clear h
      go_enter Tryz.func62, Tryz.ntmps62
      go_wp2_with fail
      refine (HC.out _).mono ?_
      rintro e w' ⟨rfl, rfl⟩
      go_wp2
      go_ret
      exact ⟨rfl, rfl⟩
    · clear h
      go_enter Tryz.func62, Tryz.ntmps62
      go_wp2_with fail
      refine (HC.out _).mono ?_
      rintro e w' ⟨rfl, rfl⟩
      go_wp2
      go_ret
      exact ⟨rfl, rfl⟩
set_option maxRecDepth 100000 in
theorem within14 (z : Int) : ∃ i : Nat, 1 ≤ i ∧ i ≤ 4 ∧ ∀ w, Calls Tryz.prog 77 #[.int .i64 z, .int .i64 1, .int .i64 4] w fun e w' => e = .returned (.int .i64 (i : Int)) ∧ w' = w := by
  obtain ⟨h1, h2⟩ := tmod_range z 4 (by omega)
  by_cases h0 : z.tmod 4 < 0
  · obtain ⟨i, hi⟩ : ∃ i : Nat, (i : Int) = 1 + (z.tmod 4 + 4 - 1 + 1) := ⟨(1 + (z.tmod 4 + 4 - 1 + 1)).toNat, by omega⟩
    refine ⟨i, by omega, by omega, fun w => ?_⟩
    have E := Lib.hid hi
    clear hi
    go_enter Tryz.func77, Tryz.ntmps77
    go_wp2
    go_ret
    exact ⟨by rw [E.out]; first | rfl | (show Ending.returned (Value.int _ _) = _; congr 2; omega), rfl⟩
  · obtain ⟨i, hi⟩ : ∃ i : Nat, (i : Int) = 1 + z.tmod 4 := ⟨(1 + z.tmod 4).toNat, by omega⟩
    refine ⟨i, by omega, by omega, fun w => ?_⟩
    have E := Lib.hid hi
    clear hi
    go_enter Tryz.func77, Tryz.ntmps77
    go_wp2
    go_ret
    exact ⟨by rw [E.out]; first | rfl | (show Ending.returned (Value.int _ _) = _; congr 2; omega), rfl⟩
set_option maxRecDepth 100000 in
theorem in14 (z : Int) : ∃ i : Nat, 1 ≤ i ∧ i ≤ 4 ∧ ∀ w, Calls Tryz.prog 62 #[.int .i64 z, .int .i64 1, .int .i64 4] w fun e w' => e = .returned (.int .i64 (i : Int)) ∧ w' = w := by
  by_cases h : 1 ≤ z ∧ z ≤ 4
  · obtain ⟨i, hi⟩ : ∃ i : Nat, (i : Int) = z := ⟨z.toNat, by omega⟩
    refine ⟨i, by omega, by omega, fun w => ?_⟩
    have E := Lib.hid hi
    clear hi
    obtain ⟨h1, h2⟩ := h
    go_enter Tryz.func62, Tryz.ntmps62
    go_wp2
    go_ret
    exact ⟨by rw [E.out]; rfl, rfl⟩
  · obtain ⟨i, i1, i2, hc⟩ := within14 z
    refine ⟨i, i1, i2, fun w => ?_⟩
    have HC := Lib.hid hc
    clear hc i1 i2
    by_cases h1 : 1 ≤ z
    · have h2 : ¬ z ≤ 4 := fun h2 => h ⟨h1, h2⟩
      clear h
      go_enter Tryz.func62, Tryz.ntmps62
      go_wp2_with fail
      refine (HC.out _).mono ?_
      rintro e w' ⟨rfl, rfl⟩
      go_wp2
      go_ret
      exact ⟨rfl, rfl⟩
    · clear h
      go_enter Tryz.func62, Tryz.ntmps62
      go_wp2_with fail
      refine (HC.out _).mono ?_
      rintro e w' ⟨rfl, rfl⟩
      go_wp2
      go_ret
      exact ⟨rfl, rfl⟩
set_option maxRecDepth 100000 in
set_option maxHeartbeats 1000000 in
theorem name_z (z : Int) : ∃ s, (La.name s = true ∧ s.size ≤ 12) ∧ ∀ w, Calls Tryz.prog 63 #[.int .i64 z] w fun e w' => e = .returned (.string s) ∧ w' = w := by
  obtain ⟨i, _, i2, hc⟩ := in04 z
  have HC := Lib.hid hc
  clear hc
  match i, i2, HC with
  | 0, _, HC =>
    refine ⟨⟨#[115, 101, 118]⟩, by decide +kernel, fun w => ?_⟩
    have IX : ∀ W, (Instr.index 129 (.agg #[.string ⟨#[115, 101, 118]⟩, .string ⟨#[106, 111, 98]⟩, .string ⟨#[104, 111, 115, 116]⟩, .string ⟨#[95, 120]⟩, .string ⟨#[90, 111, 110, 101, 57]⟩]) (.int .i64 0)).run Tryz.prog W = .ok (.string ⟨#[115, 101, 118]⟩) W := fun W => by rfl
    go_enter Tryz.func63, Tryz.ntmps63
    go_wp2_with fail
    refine (HC.out _).mono ?_
    rintro e w' ⟨rfl, rfl⟩
    go_wp2
    go_ret
    exact ⟨rfl, rfl⟩
  | 1, _, HC =>
    refine ⟨⟨#[106, 111, 98]⟩, by decide +kernel, fun w => ?_⟩
    have IX : ∀ W, (Instr.index 129 (.agg #[.string ⟨#[115, 101, 118]⟩, .string ⟨#[106, 111, 98]⟩, .string ⟨#[104, 111, 115, 116]⟩, .string ⟨#[95, 120]⟩, .string ⟨#[90, 111, 110, 101, 57]⟩]) (.int .i64 1)).run Tryz.prog W = .ok (.string ⟨#[106, 111, 98]⟩) W := fun W => by rfl
    go_enter Tryz.func63, Tryz.ntmps63
    go_wp2_with fail
    refine (HC.out _).mono ?_
    rintro e w' ⟨rfl, rfl⟩
    go_wp2
    go_ret
    exact ⟨rfl, rfl⟩
  | 2, _, HC =>
    refine ⟨⟨#[104, 111, 115, 116]⟩, by decide +kernel, fun w => ?_⟩
    have IX : ∀ W, (Instr.index 129 (.agg #[.string ⟨#[115, 101, 118]⟩, .string ⟨#[106, 111, 98]⟩, .string ⟨#[104, 111, 115, 116]⟩, .string ⟨#[95, 120]⟩, .string ⟨#[90, 111, 110, 101, 57]⟩]) (.int .i64 2)).run Tryz.prog W = .ok (.string ⟨#[104, 111, 115, 116]⟩) W := fun W => by rfl
    go_enter Tryz.func63, Tryz.ntmps63
    go_wp2_with fail
    refine (HC.out _).mono ?_
    rintro e w' ⟨rfl, rfl⟩
    go_wp2
    go_ret
    exact ⟨rfl, rfl⟩
  | 3, _, HC =>
    refine ⟨⟨#[95, 120]⟩, by decide +kernel, fun w => ?_⟩
    have IX : ∀ W, (Instr.index 129 (.agg #[.string ⟨#[115, 101, 118]⟩, .string ⟨#[106, 111, 98]⟩, .string ⟨#[104, 111, 115, 116]⟩, .string ⟨#[95, 120]⟩, .string ⟨#[90, 111, 110, 101, 57]⟩]) (.int .i64 3)).run Tryz.prog W = .ok (.string ⟨#[95, 120]⟩) W := fun W => by rfl
    go_enter Tryz.func63, Tryz.ntmps63
    go_wp2_with fail
    refine (HC.out _).mono ?_
    rintro e w' ⟨rfl, rfl⟩
    go_wp2
    go_ret
    exact ⟨rfl, rfl⟩
  | 4, _, HC =>
    refine ⟨⟨#[90, 111, 110, 101, 57]⟩, by decide +kernel, fun w => ?_⟩
    have IX : ∀ W, (Instr.index 129 (.agg #[.string ⟨#[115, 101, 118]⟩, .string ⟨#[106, 111, 98]⟩, .string ⟨#[104, 111, 115, 116]⟩, .string ⟨#[95, 120]⟩, .string ⟨#[90, 111, 110, 101, 57]⟩]) (.int .i64 4)).run Tryz.prog W = .ok (.string ⟨#[90, 111, 110, 101, 57]⟩) W := fun W => by rfl
    go_enter Tryz.func63, Tryz.ntmps63
    go_wp2_with fail
    refine (HC.out _).mono ?_
    rintro e w' ⟨rfl, rfl⟩
    go_wp2
    go_ret
    exact ⟨rfl, rfl⟩
set_option maxRecDepth 100000 in
set_option maxHeartbeats 1000000 in
theorem value_z (z : Int) : ∃ s, s.size ≤ 24 ∧ ∀ w, Calls Tryz.prog 65 #[.int .i64 z] w fun e w' => e = .returned (.string s) ∧ w' = w := by
  obtain ⟨i, _, i2, hc⟩ := in06 z
  have HC := Lib.hid hc
  clear hc
  match i, i2, HC with
  | 0, _, HC =>
    refine ⟨⟨#[97]⟩, by decide +kernel, fun w => ?_⟩
    have IX : ∀ W, (Instr.index 131 (.agg #[.string ⟨#[97]⟩, .string ⟨#[98]⟩, .string ⟨#[99, 114, 105, 116]⟩, .string ⟨#[119, 97, 114, 110]⟩, .string ⟨#[97, 98]⟩, .string ⟨#[0, 255]⟩, .string ⟨#[97, 98, 97, 98, 97, 98, 97, 98, 97, 98, 97, 98, 97, 98, 97, 98, 97, 98, 97, 98, 97, 98, 97, 98]⟩]) (.int .i64 0)).run Tryz.prog W = .ok (.string ⟨#[97]⟩) W := fun W => by rfl
    go_enter Tryz.func65, Tryz.ntmps65
    go_wp2_with fail
    refine (HC.out _).mono ?_
    rintro e w' ⟨rfl, rfl⟩
    go_wp2
    go_ret
    exact ⟨rfl, rfl⟩
  | 1, _, HC =>
    refine ⟨⟨#[98]⟩, by decide +kernel, fun w => ?_⟩
    have IX : ∀ W, (Instr.index 131 (.agg #[.string ⟨#[97]⟩, .string ⟨#[98]⟩, .string ⟨#[99, 114, 105, 116]⟩, .string ⟨#[119, 97, 114, 110]⟩, .string ⟨#[97, 98]⟩, .string ⟨#[0, 255]⟩, .string ⟨#[97, 98, 97, 98, 97, 98, 97, 98, 97, 98, 97, 98, 97, 98, 97, 98, 97, 98, 97, 98, 97, 98, 97, 98]⟩]) (.int .i64 1)).run Tryz.prog W = .ok (.string ⟨#[98]⟩) W := fun W => by rfl
    go_enter Tryz.func65, Tryz.ntmps65
    go_wp2_with fail
    refine (HC.out _).mono ?_
    rintro e w' ⟨rfl, rfl⟩
    go_wp2
    go_ret
    exact ⟨rfl, rfl⟩
  | 2, _, HC =>
    refine ⟨⟨#[99, 114, 105, 116]⟩, by decide +kernel, fun w => ?_⟩
    have IX : ∀ W, (Instr.index 131 (.agg #[.string ⟨#[97]⟩, .string ⟨#[98]⟩, .string ⟨#[99, 114, 105, 116]⟩, .string ⟨#[119, 97, 114, 110]⟩, .string ⟨#[97, 98]⟩, .string ⟨#[0, 255]⟩, .string ⟨#[97, 98, 97, 98, 97, 98, 97, 98, 97, 98, 97, 98, 97, 98, 97, 98, 97, 98, 97, 98, 97, 98, 97, 98]⟩]) (.int .i64 2)).run Tryz.prog W = .ok (.string ⟨#[99, 114, 105, 116]⟩) W := fun W => by rfl
    go_enter Tryz.func65, Tryz.ntmps65
    go_wp2_with fail
    refine (HC.out _).mono ?_
    rintro e w' ⟨rfl, rfl⟩
    go_wp2
    go_ret
    exact ⟨rfl, rfl⟩
  | 3, _, HC =>
    refine ⟨⟨#[119, 97, 114, 110]⟩, by decide +kernel, fun w => ?_⟩
    have IX : ∀ W, (Instr.index 131 (.agg #[.string ⟨#[97]⟩, .string ⟨#[98]⟩, .string ⟨#[99, 114, 105, 116]⟩, .string ⟨#[119, 97, 114, 110]⟩, .string ⟨#[97, 98]⟩, .string ⟨#[0, 255]⟩, .string ⟨#[97, 98, 97, 98, 97, 98, 97, 98, 97, 98, 97, 98, 97, 98, 97, 98, 97, 98, 97, 98, 97, 98, 97, 98]⟩]) (.int .i64 3)).run Tryz.prog W = .ok (.string ⟨#[119, 97, 114, 110]⟩) W := fun W => by rfl
    go_enter Tryz.func65, Tryz.ntmps65
    go_wp2_with fail
    refine (HC.out _).mono ?_
    rintro e w' ⟨rfl, rfl⟩
    go_wp2
    go_ret
    exact ⟨rfl, rfl⟩
  | 4, _, HC =>
    refine ⟨⟨#[97, 98]⟩, by decide +kernel, fun w => ?_⟩
    have IX : ∀ W, (Instr.index 131 (.agg #[.string ⟨#[97]⟩, .string ⟨#[98]⟩, .string ⟨#[99, 114, 105, 116]⟩, .string ⟨#[119, 97, 114, 110]⟩, .string ⟨#[97, 98]⟩, .string ⟨#[0, 255]⟩, .string ⟨#[97, 98, 97, 98, 97, 98, 97, 98, 97, 98, 97, 98, 97, 98, 97, 98, 97, 98, 97, 98, 97, 98, 97, 98]⟩]) (.int .i64 4)).run Tryz.prog W = .ok (.string ⟨#[97, 98]⟩) W := fun W => by rfl
    go_enter Tryz.func65, Tryz.ntmps65
    go_wp2_with fail
    refine (HC.out _).mono ?_
    rintro e w' ⟨rfl, rfl⟩
    go_wp2
    go_ret
    exact ⟨rfl, rfl⟩
  | 5, _, HC =>
    refine ⟨⟨#[0, 255]⟩, by decide +kernel, fun w => ?_⟩
    have IX : ∀ W, (Instr.index 131 (.agg #[.string ⟨#[97]⟩, .string ⟨#[98]⟩, .string ⟨#[99, 114, 105, 116]⟩, .string ⟨#[119, 97, 114, 110]⟩, .string ⟨#[97, 98]⟩, .string ⟨#[0, 255]⟩, .string ⟨#[97, 98, 97, 98, 97, 98, 97, 98, 97, 98, 97, 98, 97, 98, 97, 98, 97, 98, 97, 98, 97, 98, 97, 98]⟩]) (.int .i64 5)).run Tryz.prog W = .ok (.string ⟨#[0, 255]⟩) W := fun W => by rfl
    go_enter Tryz.func65, Tryz.ntmps65
    go_wp2_with fail
    refine (HC.out _).mono ?_
    rintro e w' ⟨rfl, rfl⟩
    go_wp2
    go_ret
    exact ⟨rfl, rfl⟩
  | 6, _, HC =>
    refine ⟨⟨#[97, 98, 97, 98, 97, 98, 97, 98, 97, 98, 97, 98, 97, 98, 97, 98, 97, 98, 97, 98, 97, 98, 97, 98]⟩, by decide +kernel, fun w => ?_⟩
    have IX : ∀ W, (Instr.index 131 (.agg #[.string ⟨#[97]⟩, .string ⟨#[98]⟩, .string ⟨#[99, 114, 105, 116]⟩, .string ⟨#[119, 97, 114, 110]⟩, .string ⟨#[97, 98]⟩, .string ⟨#[0, 255]⟩, .string ⟨#[97, 98, 97, 98, 97, 98, 97, 98, 97, 98, 97, 98, 97, 98, 97, 98, 97, 98, 97, 98, 97, 98, 97, 98]⟩]) (.int .i64 6)).run Tryz.prog W = .ok (.string ⟨#[97, 98, 97, 98, 97, 98, 97, 98, 97, 98, 97, 98, 97, 98, 97, 98, 97, 98, 97, 98, 97, 98, 97, 98]⟩) W := fun W => by rfl
    go_enter Tryz.func65, Tryz.ntmps65
    go_wp2_with fail
    refine (HC.out _).mono ?_
    rintro e w' ⟨rfl, rfl⟩
    go_wp2
    go_ret
    exact ⟨rfl, rfl⟩
set_option maxRecDepth 100000 in
set_option maxHeartbeats 1000000 in
theorem pattern_z (z : Int) : ∃ s, (s.size ≤ 40 ∧ (Pz.parse (txt8 s)).isSome = true) ∧ ∀ w, Calls Tryz.prog 64 #[.int .i64 z] w fun e w' => e = .returned (.string s) ∧ w' = w := by
  obtain ⟨i, _, i2, hc⟩ := in08 z
  have HC := Lib.hid hc
  clear hc
  match i, i2, HC with
  | 0, _, HC =>
    refine ⟨⟨#[97, 124, 98]⟩, by decide +kernel, fun w => ?_⟩
    have IX : ∀ W, (Instr.index 130 (.agg #[.string ⟨#[97, 124, 98]⟩, .string ⟨#[]⟩, .string ⟨#[40, 99, 114, 105, 116, 124, 119, 97, 114, 110, 41]⟩, .string ⟨#[91, 97, 45, 99, 93, 43, 46, 42]⟩, .string ⟨#[46, 43]⟩, .string ⟨#[40, 97, 98, 41, 42]⟩, .string ⟨#[97, 63, 98, 63]⟩, .string ⟨#[91, 94, 97, 93, 42]⟩, .string ⟨#[97, 42, 97, 42, 97, 42, 97, 42, 97, 42, 97, 42, 97, 42, 97, 42, 97, 42, 97, 42, 97, 42, 97, 42, 97, 42, 97, 42]⟩]) (.int .i64 0)).run Tryz.prog W = .ok (.string ⟨#[97, 124, 98]⟩) W := fun W => by rfl
    go_enter Tryz.func64, Tryz.ntmps64
    go_wp2_with fail
    refine (HC.out _).mono ?_
    rintro e w' ⟨rfl, rfl⟩
    go_wp2
    go_ret
    exact ⟨rfl, rfl⟩
  | 1, _, HC =>
    refine ⟨⟨#[]⟩, by decide +kernel, fun w => ?_⟩
    have IX : ∀ W, (Instr.index 130 (.agg #[.string ⟨#[97, 124, 98]⟩, .string ⟨#[]⟩, .string ⟨#[40, 99, 114, 105, 116, 124, 119, 97, 114, 110, 41]⟩, .string ⟨#[91, 97, 45, 99, 93, 43, 46, 42]⟩, .string ⟨#[46, 43]⟩, .string ⟨#[40, 97, 98, 41, 42]⟩, .string ⟨#[97, 63, 98, 63]⟩, .string ⟨#[91, 94, 97, 93, 42]⟩, .string ⟨#[97, 42, 97, 42, 97, 42, 97, 42, 97, 42, 97, 42, 97, 42, 97, 42, 97, 42, 97, 42, 97, 42, 97, 42, 97, 42, 97, 42]⟩]) (.int .i64 1)).run Tryz.prog W = .ok (.string ⟨#[]⟩) W := fun W => by rfl
    go_enter Tryz.func64, Tryz.ntmps64
    go_wp2_with fail
    refine (HC.out _).mono ?_
    rintro e w' ⟨rfl, rfl⟩
    go_wp2
    go_ret
    exact ⟨rfl, rfl⟩
  | 2, _, HC =>
    refine ⟨⟨#[40, 99, 114, 105, 116, 124, 119, 97, 114, 110, 41]⟩, by decide +kernel, fun w => ?_⟩
    have IX : ∀ W, (Instr.index 130 (.agg #[.string ⟨#[97, 124, 98]⟩, .string ⟨#[]⟩, .string ⟨#[40, 99, 114, 105, 116, 124, 119, 97, 114, 110, 41]⟩, .string ⟨#[91, 97, 45, 99, 93, 43, 46, 42]⟩, .string ⟨#[46, 43]⟩, .string ⟨#[40, 97, 98, 41, 42]⟩, .string ⟨#[97, 63, 98, 63]⟩, .string ⟨#[91, 94, 97, 93, 42]⟩, .string ⟨#[97, 42, 97, 42, 97, 42, 97, 42, 97, 42, 97, 42, 97, 42, 97, 42, 97, 42, 97, 42, 97, 42, 97, 42, 97, 42, 97, 42]⟩]) (.int .i64 2)).run Tryz.prog W = .ok (.string ⟨#[40, 99, 114, 105, 116, 124, 119, 97, 114, 110, 41]⟩) W := fun W => by rfl
    go_enter Tryz.func64, Tryz.ntmps64
    go_wp2_with fail
    refine (HC.out _).mono ?_
    rintro e w' ⟨rfl, rfl⟩
    go_wp2
    go_ret
    exact ⟨rfl, rfl⟩
  | 3, _, HC =>
    refine ⟨⟨#[91, 97, 45, 99, 93, 43, 46, 42]⟩, by decide +kernel, fun w => ?_⟩
    have IX : ∀ W, (Instr.index 130 (.agg #[.string ⟨#[97, 124, 98]⟩, .string ⟨#[]⟩, .string ⟨#[40, 99, 114, 105, 116, 124, 119, 97, 114, 110, 41]⟩, .string ⟨#[91, 97, 45, 99, 93, 43, 46, 42]⟩, .string ⟨#[46, 43]⟩, .string ⟨#[40, 97, 98, 41, 42]⟩, .string ⟨#[97, 63, 98, 63]⟩, .string ⟨#[91, 94, 97, 93, 42]⟩, .string ⟨#[97, 42, 97, 42, 97, 42, 97, 42, 97, 42, 97, 42, 97, 42, 97, 42, 97, 42, 97, 42, 97, 42, 97, 42, 97, 42, 97, 42]⟩]) (.int .i64 3)).run Tryz.prog W = .ok (.string ⟨#[91, 97, 45, 99, 93, 43, 46, 42]⟩) W := fun W => by rfl
    go_enter Tryz.func64, Tryz.ntmps64
    go_wp2_with fail
    refine (HC.out _).mono ?_
    rintro e w' ⟨rfl, rfl⟩
    go_wp2
    go_ret
    exact ⟨rfl, rfl⟩
  | 4, _, HC =>
    refine ⟨⟨#[46, 43]⟩, by decide +kernel, fun w => ?_⟩
    have IX : ∀ W, (Instr.index 130 (.agg #[.string ⟨#[97, 124, 98]⟩, .string ⟨#[]⟩, .string ⟨#[40, 99, 114, 105, 116, 124, 119, 97, 114, 110, 41]⟩, .string ⟨#[91, 97, 45, 99, 93, 43, 46, 42]⟩, .string ⟨#[46, 43]⟩, .string ⟨#[40, 97, 98, 41, 42]⟩, .string ⟨#[97, 63, 98, 63]⟩, .string ⟨#[91, 94, 97, 93, 42]⟩, .string ⟨#[97, 42, 97, 42, 97, 42, 97, 42, 97, 42, 97, 42, 97, 42, 97, 42, 97, 42, 97, 42, 97, 42, 97, 42, 97, 42, 97, 42]⟩]) (.int .i64 4)).run Tryz.prog W = .ok (.string ⟨#[46, 43]⟩) W := fun W => by rfl
    go_enter Tryz.func64, Tryz.ntmps64
    go_wp2_with fail
    refine (HC.out _).mono ?_
    rintro e w' ⟨rfl, rfl⟩
    go_wp2
    go_ret
    exact ⟨rfl, rfl⟩
  | 5, _, HC =>
    refine ⟨⟨#[40, 97, 98, 41, 42]⟩, by decide +kernel, fun w => ?_⟩
    have IX : ∀ W, (Instr.index 130 (.agg #[.string ⟨#[97, 124, 98]⟩, .string ⟨#[]⟩, .string ⟨#[40, 99, 114, 105, 116, 124, 119, 97, 114, 110, 41]⟩, .string ⟨#[91, 97, 45, 99, 93, 43, 46, 42]⟩, .string ⟨#[46, 43]⟩, .string ⟨#[40, 97, 98, 41, 42]⟩, .string ⟨#[97, 63, 98, 63]⟩, .string ⟨#[91, 94, 97, 93, 42]⟩, .string ⟨#[97, 42, 97, 42, 97, 42, 97, 42, 97, 42, 97, 42, 97, 42, 97, 42, 97, 42, 97, 42, 97, 42, 97, 42, 97, 42, 97, 42]⟩]) (.int .i64 5)).run Tryz.prog W = .ok (.string ⟨#[40, 97, 98, 41, 42]⟩) W := fun W => by rfl
    go_enter Tryz.func64, Tryz.ntmps64
    go_wp2_with fail
    refine (HC.out _).mono ?_
    rintro e w' ⟨rfl, rfl⟩
    go_wp2
    go_ret
    exact ⟨rfl, rfl⟩
  | 6, _, HC =>
    refine ⟨⟨#[97, 63, 98, 63]⟩, by decide +kernel, fun w => ?_⟩
    have IX : ∀ W, (Instr.index 130 (.agg #[.string ⟨#[97, 124, 98]⟩, .string ⟨#[]⟩, .string ⟨#[40, 99, 114, 105, 116, 124, 119, 97, 114, 110, 41]⟩, .string ⟨#[91, 97, 45, 99, 93, 43, 46, 42]⟩, .string ⟨#[46, 43]⟩, .string ⟨#[40, 97, 98, 41, 42]⟩, .string ⟨#[97, 63, 98, 63]⟩, .string ⟨#[91, 94, 97, 93, 42]⟩, .string ⟨#[97, 42, 97, 42, 97, 42, 97, 42, 97, 42, 97, 42, 97, 42, 97, 42, 97, 42, 97, 42, 97, 42, 97, 42, 97, 42, 97, 42]⟩]) (.int .i64 6)).run Tryz.prog W = .ok (.string ⟨#[97, 63, 98, 63]⟩) W := fun W => by rfl
    go_enter Tryz.func64, Tryz.ntmps64
    go_wp2_with fail
    refine (HC.out _).mono ?_
    rintro e w' ⟨rfl, rfl⟩
    go_wp2
    go_ret
    exact ⟨rfl, rfl⟩
  | 7, _, HC =>
    refine ⟨⟨#[91, 94, 97, 93, 42]⟩, by decide +kernel, fun w => ?_⟩
    have IX : ∀ W, (Instr.index 130 (.agg #[.string ⟨#[97, 124, 98]⟩, .string ⟨#[]⟩, .string ⟨#[40, 99, 114, 105, 116, 124, 119, 97, 114, 110, 41]⟩, .string ⟨#[91, 97, 45, 99, 93, 43, 46, 42]⟩, .string ⟨#[46, 43]⟩, .string ⟨#[40, 97, 98, 41, 42]⟩, .string ⟨#[97, 63, 98, 63]⟩, .string ⟨#[91, 94, 97, 93, 42]⟩, .string ⟨#[97, 42, 97, 42, 97, 42, 97, 42, 97, 42, 97, 42, 97, 42, 97, 42, 97, 42, 97, 42, 97, 42, 97, 42, 97, 42, 97, 42]⟩]) (.int .i64 7)).run Tryz.prog W = .ok (.string ⟨#[91, 94, 97, 93, 42]⟩) W := fun W => by rfl
    go_enter Tryz.func64, Tryz.ntmps64
    go_wp2_with fail
    refine (HC.out _).mono ?_
    rintro e w' ⟨rfl, rfl⟩
    go_wp2
    go_ret
    exact ⟨rfl, rfl⟩
  | 8, _, HC =>
    refine ⟨⟨#[97, 42, 97, 42, 97, 42, 97, 42, 97, 42, 97, 42, 97, 42, 97, 42, 97, 42, 97, 42, 97, 42, 97, 42, 97, 42, 97, 42]⟩, by decide +kernel, fun w => ?_⟩
    have IX : ∀ W, (Instr.index 130 (.agg #[.string ⟨#[97, 124, 98]⟩, .string ⟨#[]⟩, .string ⟨#[40, 99, 114, 105, 116, 124, 119, 97, 114, 110, 41]⟩, .string ⟨#[91, 97, 45, 99, 93, 43, 46, 42]⟩, .string ⟨#[46, 43]⟩, .string ⟨#[40, 97, 98, 41, 42]⟩, .string ⟨#[97, 63, 98, 63]⟩, .string ⟨#[91, 94, 97, 93, 42]⟩, .string ⟨#[97, 42, 97, 42, 97, 42, 97, 42, 97, 42, 97, 42, 97, 42, 97, 42, 97, 42, 97, 42, 97, 42, 97, 42, 97, 42, 97, 42]⟩]) (.int .i64 8)).run Tryz.prog W = .ok (.string ⟨#[97, 42, 97, 42, 97, 42, 97, 42, 97, 42, 97, 42, 97, 42, 97, 42, 97, 42, 97, 42, 97, 42, 97, 42, 97, 42, 97, 42]⟩) W := fun W => by rfl
    go_enter Tryz.func64, Tryz.ntmps64
    go_wp2_with fail
    refine (HC.out _).mono ?_
    rintro e w' ⟨rfl, rfl⟩
    go_wp2
    go_ret
    exact ⟨rfl, rfl⟩

end Go.Proofs.YtlfcjjlgkcfkdaaGreatDoor
namespace Go.Proofs.YtlfcjjlgkcfkdaaGreatDoor
open Go.RowKit Go.Sort

theorem Tryz.sizeM : (Tryz.prog.info? 32).map (·.size) = some 3 := by kernel_rfl
/-- The value that is drawn. -/
def selV (i : Nat) (vl : Int) (u p : ByteArray) : ByteArray := if i < 3 then if vl < 0 then ⟨#[]⟩ else u else p
theorem none_size : (⟨#[]⟩ : ByteArray).size = 0 := rfl

set_option maxRecDepth 100000 in
set_option maxHeartbeats 4000000 in
theorem matcher_any (kd nm vl : Int) : ∃ m : Mat, m.ok = true ∧ (m.k = 1 ∨ m.k = 2 ∨ m.k = 3 ∨ m.k = 4) ∧ (m.n.size ≤ 12 ∧ m.v.size ≤ 40) ∧ ∀ w, Calls Tryz.prog 42 #[.agg #[.int .i64 kd, .int .i64 nm, .int .i64 vl]] w fun e w' => e = .returned (.agg #[.int .i64 m.k, .string m.n, .string m.v]) ∧ Below w.heap.size w w' := by
  obtain ⟨i, i1, i4, hi⟩ := in14 kd
  obtain ⟨n, ⟨hn, hn12⟩, hcn⟩ := name_z nm
  obtain ⟨p, ⟨hp, hpp⟩, hcp⟩ := pattern_z vl
  obtain ⟨u, hu, hcu⟩ := value_z vl
  have CI := Lib.hid hi
  have CN := Lib.hid hcn
  have CP := Lib.hid hcp
  have CU := Lib.hid hcu
  clear hi hcn hcp hcu
  refine ⟨⟨i, n, selV i vl u p⟩, ?_, by simp only; omega, ⟨hn12, ?_⟩, fun w => ?_⟩
  · unfold Mat.ok Mat.okV
    simp only [hn, Bool.true_and]
    unfold selV
    by_cases h3 : i < 3
    · rw [if_pos (by omega), if_pos h3]
      refine decide_eq_true ?_
      split
      · rw [none_size]; omega
      · exact hu
    · rw [if_neg (by omega), if_pos (by omega), if_neg h3]; exact hpp
  · show (if i < 3 then if vl < 0 then (⟨#[]⟩ : ByteArray) else u else p).size ≤ 40
    split
    · split
      · rw [none_size]; omega
      · omega
    · exact hp
  show Calls Tryz.prog 42 #[.agg #[.int .i64 kd, .int .i64 nm, .int .i64 vl]] w fun e w' => e = .returned (.agg #[.int .i64 (i : Int), .string n, .string (selV i vl u p)]) ∧ Below w.heap.size w w'
  clear hn hn12 hp hpp hu i1 i4
  obtain ⟨w2, hw2⟩ : ∃ w2, (w.alloc (.cells #[.int .i64 kd, .int .i64 nm, .int .i64 vl] 83)).alloc (.cells #[.int .i64 0, .string ⟨#[]⟩, .string ⟨#[]⟩] 32) = w2 := ⟨_, rfl⟩
  obtain ⟨⟨c0, c1, c2⟩, _⟩ := box33 (w := w) (u0 := .int .i64 kd) (u1 := .int .i64 nm) (u2 := .int .i64 vl) (v0 := .int .i64 0) (v1 := .string ⟨#[]⟩) (v2 := .string ⟨#[]⟩) (tu := 83) (tv := 32)
  have b0 : Below w.heap.size w w2 := by rw [← hw2]; exact below_two w _ _
  have s2 : w2.heap.size = w.heap.size + 2 := by rw [← hw2]; simp
  have r2 : w2.heap[w.heap.size + 1]? = some (.cells #[.int .i64 0, .string ⟨#[]⟩, .string ⟨#[]⟩] 32) := by
    have := heap_alloc_new (w.alloc (.cells #[.int .i64 kd, .int .i64 nm, .int .i64 vl] 83)) (.cells #[.int .i64 0, .string ⟨#[]⟩, .string ⟨#[]⟩] 32)
    rw [hw2] at this
    simpa using this
  rw [hw2] at c0 c1 c2
  have HC : Hid (∀ W, Below w2.heap.size w2 W → W.cell? ⟨w.heap.size, 0, none⟩ = some (.int .i64 kd) ∧ W.cell? ⟨w.heap.size, 1, none⟩ = some (.int .i64 nm) ∧ W.cell? ⟨w.heap.size, 2, none⟩ = some (.int .i64 vl)) := fun W hW => ⟨cell_grow hW c0, cell_grow hW c1, cell_grow hW c2⟩

  have hPw : w.heap.size + 2 ≤ w2.heap.size := by omega
  have FACTS : Hid (∀ W, w2.drew.alloc (.cells #[.int .i64 (i : Int), .string n, .string p] 32) = W → W.cell? ⟨w2.heap.size, 0, none⟩ = some (.int .i64 (i : Int)) ∧ W.cell? ⟨w2.heap.size, 1, none⟩ = some (.string n) ∧ W.cell? ⟨w2.heap.size, 2, none⟩ = some (.string p) ∧ W.cell? ⟨w.heap.size, 2, none⟩ = some (.int .i64 vl) ∧ W.heap[w.heap.size + 1]? = some (.cells #[.int .i64 0, .string ⟨#[]⟩, .string ⟨#[]⟩] 32) ∧ Below w.heap.size w W ∧ W.frozen? ⟨w2.heap.size, 2, none⟩ = false) := fun W hW => by
    have bW : Below w2.heap.size w2 W := by rw [← hW]; exact ((Below.refl _ _).drew).alloc (Nat.le_refl _) _
    obtain ⟨q0, q1, q2⟩ := (box3 (w := w2.drew) (v0 := .int .i64 (i : Int)) (v1 := .string n) (v2 := .string p) (ty := 32) (W := W) (by rw [hW]; exact Below.refl _ _)).1
    have e : w2.drew.heap.size = w2.heap.size := rfl
    rw [e] at q0 q1 q2
    have hf := heap_alloc_new w2.drew (.cells #[.int .i64 (i : Int), .string n, .string p] 32)
    rw [hW, e] at hf
    exact ⟨q0, q1, q2, cell_grow bW c2, (bW.block _ (by omega)).trans r2, b0.trans (bW.mono b0.size), frozen_of_row W _ 2 _ _ hf⟩
  have HW2 := Lib.hid hw2
  clear hw2 c0 c1 c2 b0 s2 r2
  go_enter Tryz.func42, Tryz.ntmps42
  go_upto_region 1 with fail
  simp only [HW2.out]
  clear HW2
  refine wp_region_held_drew (S := fun W => Below w2.heap.size w2 W) (by kernel_rfl) ((Below.refl _ _).drew) (fun hHeld => ?_)
  refine held_take 0 4 (v := (.pointer (some ⟨w.heap.size, 0, none⟩))) rfl rfl (by kernel_rfl) (by kernel_rfl) (by kernel_rfl) (by rfl) (fun _ _ _ h => h) (by assumption) ?_ ?_
  · intro W hW
    go_simp
  simp only [List.setIfInBounds_toArray, List.set_cons_zero, List.set_cons_succ]
  refine held_take 1 5 (v := (.int .i64 kd)) rfl rfl (by kernel_rfl) (by kernel_rfl) (by kernel_rfl) (by rfl) (fun _ _ _ h => h) (by assumption) ?_ ?_
  · intro W hW
    obtain ⟨c0, c1, c2⟩ := HC.out W hW
    go_simp
  simp only [List.setIfInBounds_toArray, List.set_cons_zero, List.set_cons_succ]
  refine held_take 3 7 (v := (.pointer (some ⟨w.heap.size, 1, none⟩))) rfl rfl (by kernel_rfl) (by kernel_rfl) (by kernel_rfl) (by rfl) (fun _ _ _ h => h) (by assumption) ?_ ?_
  · intro W hW
    go_simp
  simp only [List.setIfInBounds_toArray, List.set_cons_zero, List.set_cons_succ]
  refine held_take 4 8 (v := (.int .i64 nm)) rfl rfl (by kernel_rfl) (by kernel_rfl) (by kernel_rfl) (by rfl) (fun _ _ _ h => h) (by assumption) ?_ ?_
  · intro W hW
    obtain ⟨c0, c1, c2⟩ := HC.out W hW
    go_simp
  simp only [List.setIfInBounds_toArray, List.set_cons_zero, List.set_cons_succ]
  refine held_take 6 10 (v := (.pointer (some ⟨w.heap.size, 2, none⟩))) rfl rfl (by kernel_rfl) (by kernel_rfl) (by kernel_rfl) (by rfl) (fun _ _ _ h => h) (by assumption) ?_ ?_
  · intro W hW
    go_simp
  simp only [List.setIfInBounds_toArray, List.set_cons_zero, List.set_cons_succ]
  refine held_take 7 11 (v := (.int .i64 vl)) rfl rfl (by kernel_rfl) (by kernel_rfl) (by kernel_rfl) (by rfl) (fun _ _ _ h => h) (by assumption) ?_ ?_
  · intro W hW
    obtain ⟨c0, c1, c2⟩ := HC.out W hW
    go_simp
  simp only [List.setIfInBounds_toArray, List.set_cons_zero, List.set_cons_succ]
  refine held_two 2 10 rfl rfl (by kernel_rfl) (by rfl) (by rfl) ?_ ?_
  · refine wp_call (f := 62) (args := #[.int .i64 kd, .int .i64 1, .int .i64 4]) rfl (by go_simp) ?_
    refine (CI.out _).mono ?_
    rintro e w' ⟨rfl, hw'⟩
    subst hw'
    refine ⟨_, rfl, by assumption, ?_⟩
    simp only [List.setIfInBounds_toArray, List.set_cons_zero, List.set_cons_succ]
    refine held_two 5 10 rfl rfl (by kernel_rfl) (by rfl) (by rfl) ?_ ?_
    · refine wp_call (f := 63) (args := #[.int .i64 nm]) rfl (by go_simp) ?_
      refine (CN.out _).mono ?_
      rintro e w' ⟨rfl, hw'⟩
      subst hw'
      refine ⟨_, rfl, by assumption, ?_⟩
      simp only [List.setIfInBounds_toArray, List.set_cons_zero, List.set_cons_succ]
      refine held_two 8 10 rfl rfl (by kernel_rfl) (by rfl) (by rfl) ?_ ?_
      · refine wp_call (f := 64) (args := #[.int .i64 vl]) rfl (by go_simp) ?_
        refine (CP.out _).mono ?_
        rintro e w' ⟨rfl, hw'⟩
        subst hw'
        refine ⟨_, rfl, by assumption, ?_⟩
        simp only [List.setIfInBounds_toArray, List.set_cons_zero, List.set_cons_succ]
        refine held_take 9 13 (v := (.agg #[.int .i64 (i : Int), .string n, .string p])) rfl rfl (by kernel_rfl) (by kernel_rfl) (by kernel_rfl) (by rfl) (fun _ _ _ h => h) (by assumption) ?_ ?_
        · intro W hW
          go_simp
        simp only [List.setIfInBounds_toArray, List.set_cons_zero, List.set_cons_succ]
        refine held_op 10 rfl (by kernel_rfl) (by rfl) ?_
        have dA : Below w2.heap.size w2 (w2.drew.alloc (.cells #[.int .i64 0, .string ⟨#[]⟩, .string ⟨#[]⟩] 32)) := ((Below.refl _ _).drew).alloc (Nat.le_refl _) _
        refine wp_run (v := .pointer (some ⟨w2.heap.size, 0, none⟩)) (w' := w2.drew.alloc (.cells #[.int .i64 0, .string ⟨#[]⟩, .string ⟨#[]⟩] 32)) rfl (by go_simp) ⟨dA, ?_⟩
        simp only [List.setIfInBounds_toArray, List.set_cons_zero, List.set_cons_succ]
        have dB : Below w2.heap.size w2 (w2.drew.alloc (.cells #[.int .i64 (i : Int), .string n, .string p] 32)) := ((Below.refl _ _).drew).alloc (Nat.le_refl _) _
        refine held_op 11 rfl (by kernel_rfl) (by rfl) ?_
        refine wp_skip (w' := w2.drew.alloc (.cells #[.int .i64 (i : Int), .string n, .string p] 32)) rfl (by go_simp) ⟨dB, ?_⟩
        refine wpAnyH_done (by kernel_rfl) ?_ _
        clear dB dA hHeld
        have HH := FACTS.out (w2.drew.alloc (.cells #[.int .i64 (i : Int), .string n, .string p] 32)) rfl
        clear FACTS HC
        obtain ⟨d0, d1, d2, c2, R4, B4, fz⟩ := HH
        generalize w2.drew.alloc (.cells #[.int .i64 (i : Int), .string n, .string p] 32) = w4 at *
        by_cases h3 : i < 3
        · have hz : ((i : Int) < 3) = True := by simp; omega
          go_wp2_with fail
          refine (CU.out _).mono ?_
          rintro e w' ⟨rfl, hw'⟩
          subst w'
          by_cases h0 : vl < 0
          · have HV : Hid (selV i vl u p = ⟨#[]⟩) := by show _ = _; unfold selV; rw [if_pos h3, if_pos h0]
            have R5 : ((w4.setCell ⟨w2.heap.size, 2, none⟩ (.string u)).setCell ⟨w2.heap.size, 2, none⟩ (.string ⟨#[]⟩)).heap[w.heap.size + 1]? = some (.cells #[.int .i64 0, .string ⟨#[]⟩, .string ⟨#[]⟩] 32) := (heap_setCell_other _ _ _ _ (by show _ ≠ w2.heap.size; omega)).trans ((heap_setCell_other _ _ _ _ (by show _ ≠ w2.heap.size; omega)).trans R4)
            have B5 : Hid (Below w.heap.size w ((w4.setCell ⟨w2.heap.size, 2, none⟩ (.string u)).setCell ⟨w2.heap.size, 2, none⟩ (.string ⟨#[]⟩))) := (B4.setCell (by show _ ≤ w2.heap.size; omega) _).setCell (by show _ ≤ w2.heap.size; omega) _
            go_wp2_with (refine wpList_store_row rfl 32 (.tmp 2) (.tmp 25) rfl (w.heap.size + 1) #[.int .i64 (i : Int), .string n, .string ⟨#[]⟩] rfl rfl 32 _ R5 Tryz.sizeM rfl (by simp [Value.oneCell']) ?_)
            refine bodyPost_ret (results_cell_row rfl _ _ (w.heap.size + 1) 32 #[.int .i64 (i : Int), .string n, .string ⟨#[]⟩] (0, 0) _ rfl (setRow_heap _ _ _ _ _ _ R5) Tryz.underlying32 rfl Tryz.sizeM) rfl ⟨by rw [HV.out], ?_⟩
            exact ⟨B5.out.os, B5.out.tape, B5.out.output, by rw [setRow_size]; exact B5.out.size, fun k hk => (setRow_other _ _ _ _ (by omega)).trans (B5.out.block k hk)⟩
          · have HV : Hid (selV i vl u p = u) := by show _ = _; unfold selV; rw [if_pos h3, if_neg h0]
            have R5 : (w4.setCell ⟨w2.heap.size, 2, none⟩ (.string u)).heap[w.heap.size + 1]? = some (.cells #[.int .i64 0, .string ⟨#[]⟩, .string ⟨#[]⟩] 32) := (heap_setCell_other _ _ _ _ (by show _ ≠ w2.heap.size; omega)).trans R4
            have B5 : Hid (Below w.heap.size w (w4.setCell ⟨w2.heap.size, 2, none⟩ (.string u))) := B4.setCell (by show _ ≤ w2.heap.size; omega) _
            go_wp2_with (refine wpList_store_row rfl 32 (.tmp 2) (.tmp 25) rfl (w.heap.size + 1) #[.int .i64 (i : Int), .string n, .string u] rfl rfl 32 _ R5 Tryz.sizeM rfl (by simp [Value.oneCell']) ?_)
            refine bodyPost_ret (results_cell_row rfl _ _ (w.heap.size + 1) 32 #[.int .i64 (i : Int), .string n, .string u] (0, 0) _ rfl (setRow_heap _ _ _ _ _ _ R5) Tryz.underlying32 rfl Tryz.sizeM) rfl ⟨by rw [HV.out], ?_⟩
            exact ⟨B5.out.os, B5.out.tape, B5.out.output, by rw [setRow_size]; exact B5.out.size, fun k hk => (setRow_other _ _ _ _ (by omega)).trans (B5.out.block k hk)⟩
        · have hz : ((i : Int) < 3) = False := by simp; omega
          have HV : Hid (selV i vl u p = p) := by show _ = _; unfold selV; rw [if_neg h3]
          have R5 := R4
          have B5 := Lib.hid B4
          go_wp2_with (refine wpList_store_row rfl 32 (.tmp 2) (.tmp 25) rfl (w.heap.size + 1) #[.int .i64 (i : Int), .string n, .string p] rfl rfl 32 _ R5 Tryz.sizeM rfl (by simp [Value.oneCell']) ?_)
          refine bodyPost_ret (results_cell_row rfl _ _ (w.heap.size + 1) 32 #[.int .i64 (i : Int), .string n, .string p] (0, 0) _ rfl (setRow_heap _ _ _ _ _ _ R5) Tryz.underlying32 rfl Tryz.sizeM) rfl ⟨by rw [HV.out], ?_⟩
          exact ⟨B5.out.os, B5.out.tape, B5.out.output, by rw [setRow_size]; exact B5.out.size, fun k hk => (setRow_other _ _ _ _ (by omega)).trans (B5.out.block k hk)⟩
      · have dA : Below w2.heap.size w2 (w2.drew.alloc (.cells #[.int .i64 0, .string ⟨#[]⟩, .string ⟨#[]⟩] 32)) := ((Below.refl _ _).drew).alloc (Nat.le_refl _) _
        refine wp_run (v := .pointer (some ⟨w2.heap.size, 0, none⟩)) (w' := w2.drew.alloc (.cells #[.int .i64 0, .string ⟨#[]⟩, .string ⟨#[]⟩] 32)) rfl (by go_simp) ⟨dA, ?_⟩
        simp only [List.setIfInBounds_toArray, List.set_cons_zero, List.set_cons_succ]
        refine held_op 8 rfl (by kernel_rfl) (by rfl) ?_
        refine wp_call (f := 64) (args := #[.int .i64 vl]) rfl (by go_simp) ?_
        refine (CP.out _).mono ?_
        rintro e w' ⟨rfl, hw'⟩
        subst hw'
        refine ⟨_, rfl, by assumption, ?_⟩
        simp only [List.setIfInBounds_toArray, List.set_cons_zero, List.set_cons_succ]
        refine held_take 9 13 (v := (.agg #[.int .i64 (i : Int), .string n, .string p])) rfl rfl (by kernel_rfl) (by kernel_rfl) (by kernel_rfl) (by rfl) (fun _ _ _ h => h) (by assumption) ?_ ?_
        · intro W hW
          go_simp
        simp only [List.setIfInBounds_toArray, List.set_cons_zero, List.set_cons_succ]
        have dB : Below w2.heap.size w2 (w2.drew.alloc (.cells #[.int .i64 (i : Int), .string n, .string p] 32)) := ((Below.refl _ _).drew).alloc (Nat.le_refl _) _
        refine held_op 11 rfl (by kernel_rfl) (by rfl) ?_
        refine wp_skip (w' := w2.drew.alloc (.cells #[.int .i64 (i : Int), .string n, .string p] 32)) rfl (by go_simp) ⟨dB, ?_⟩
        refine wpAnyH_done (by kernel_rfl) ?_ _
        clear dB dA hHeld
        have HH := FACTS.out (w2.drew.alloc (.cells #[.int .i64 (i : Int), .string n, .string p] 32)) rfl
        clear FACTS HC
        obtain ⟨d0, d1, d2, c2, R4, B4, fz⟩ := HH
        generalize w2.drew.alloc (.cells #[.int .i64 (i : Int), .string n, .string p] 32) = w4 at *
        by_cases h3 : i < 3
        · have hz : ((i : Int) < 3) = True := by simp; omega
          go_wp2_with fail
          refine (CU.out _).mono ?_
          rintro e w' ⟨rfl, hw'⟩
          subst w'
          by_cases h0 : vl < 0
          · have HV : Hid (selV i vl u p = ⟨#[]⟩) := by show _ = _; unfold selV; rw [if_pos h3, if_pos h0]
            have R5 : ((w4.setCell ⟨w2.heap.size, 2, none⟩ (.string u)).setCell ⟨w2.heap.size, 2, none⟩ (.string ⟨#[]⟩)).heap[w.heap.size + 1]? = some (.cells #[.int .i64 0, .string ⟨#[]⟩, .string ⟨#[]⟩] 32) := (heap_setCell_other _ _ _ _ (by show _ ≠ w2.heap.size; omega)).trans ((heap_setCell_other _ _ _ _ (by show _ ≠ w2.heap.size; omega)).trans R4)
            have B5 : Hid (Below w.heap.size w ((w4.setCell ⟨w2.heap.size, 2, none⟩ (.string u)).setCell ⟨w2.heap.size, 2, none⟩ (.string ⟨#[]⟩))) := (B4.setCell (by show _ ≤ w2.heap.size; omega) _).setCell (by show _ ≤ w2.heap.size; omega) _
            go_wp2_with (refine wpList_store_row rfl 32 (.tmp 2) (.tmp 25) rfl (w.heap.size + 1) #[.int .i64 (i : Int), .string n, .string ⟨#[]⟩] rfl rfl 32 _ R5 Tryz.sizeM rfl (by simp [Value.oneCell']) ?_)
            refine bodyPost_ret (results_cell_row rfl _ _ (w.heap.size + 1) 32 #[.int .i64 (i : Int), .string n, .string ⟨#[]⟩] (0, 0) _ rfl (setRow_heap _ _ _ _ _ _ R5) Tryz.underlying32 rfl Tryz.sizeM) rfl ⟨by rw [HV.out], ?_⟩
            exact ⟨B5.out.os, B5.out.tape, B5.out.output, by rw [setRow_size]; exact B5.out.size, fun k hk => (setRow_other _ _ _ _ (by omega)).trans (B5.out.block k hk)⟩
          · have HV : Hid (selV i vl u p = u) := by show _ = _; unfold selV; rw [if_pos h3, if_neg h0]
            have R5 : (w4.setCell ⟨w2.heap.size, 2, none⟩ (.string u)).heap[w.heap.size + 1]? = some (.cells #[.int .i64 0, .string ⟨#[]⟩, .string ⟨#[]⟩] 32) := (heap_setCell_other _ _ _ _ (by show _ ≠ w2.heap.size; omega)).trans R4
            have B5 : Hid (Below w.heap.size w (w4.setCell ⟨w2.heap.size, 2, none⟩ (.string u))) := B4.setCell (by show _ ≤ w2.heap.size; omega) _
            go_wp2_with (refine wpList_store_row rfl 32 (.tmp 2) (.tmp 25) rfl (w.heap.size + 1) #[.int .i64 (i : Int), .string n, .string u] rfl rfl 32 _ R5 Tryz.sizeM rfl (by simp [Value.oneCell']) ?_)
            refine bodyPost_ret (results_cell_row rfl _ _ (w.heap.size + 1) 32 #[.int .i64 (i : Int), .string n, .string u] (0, 0) _ rfl (setRow_heap _ _ _ _ _ _ R5) Tryz.underlying32 rfl Tryz.sizeM) rfl ⟨by rw [HV.out], ?_⟩
            exact ⟨B5.out.os, B5.out.tape, B5.out.output, by rw [setRow_size]; exact B5.out.size, fun k hk => (setRow_other _ _ _ _ (by omega)).trans (B5.out.block k hk)⟩
        · have hz : ((i : Int) < 3) = False := by simp; omega
          have HV : Hid (selV i vl u p = p) := by show _ = _; unfold selV; rw [if_neg h3]
          have R5 := R4
          have B5 := Lib.hid B4
          go_wp2_with (refine wpList_store_row rfl 32 (.tmp 2) (.tmp 25) rfl (w.heap.size + 1) #[.int .i64 (i : Int), .string n, .string p] rfl rfl 32 _ R5 Tryz.sizeM rfl (by simp [Value.oneCell']) ?_)
          refine bodyPost_ret (results_cell_row rfl _ _ (w.heap.size + 1) 32 #[.int .i64 (i : Int), .string n, .string p] (0, 0) _ rfl (setRow_heap _ _ _ _ _ _ R5) Tryz.underlying32 rfl Tryz.sizeM) rfl ⟨by rw [HV.out], ?_⟩
          exact ⟨B5.out.os, B5.out.tape, B5.out.output, by rw [setRow_size]; exact B5.out.size, fun k hk => (setRow_other _ _ _ _ (by omega)).trans (B5.out.block k hk)⟩
    · have dA : Below w2.heap.size w2 (w2.drew.alloc (.cells #[.int .i64 0, .string ⟨#[]⟩, .string ⟨#[]⟩] 32)) := ((Below.refl _ _).drew).alloc (Nat.le_refl _) _
      refine wp_run (v := .pointer (some ⟨w2.heap.size, 0, none⟩)) (w' := w2.drew.alloc (.cells #[.int .i64 0, .string ⟨#[]⟩, .string ⟨#[]⟩] 32)) rfl (by go_simp) ⟨dA, ?_⟩
      simp only [List.setIfInBounds_toArray, List.set_cons_zero, List.set_cons_succ]
      refine held_op 5 rfl (by kernel_rfl) (by rfl) ?_
      refine wp_call (f := 63) (args := #[.int .i64 nm]) rfl (by go_simp) ?_
      refine (CN.out _).mono ?_
      rintro e w' ⟨rfl, hw'⟩
      subst hw'
      refine ⟨_, rfl, by assumption, ?_⟩
      simp only [List.setIfInBounds_toArray, List.set_cons_zero, List.set_cons_succ]
      refine held_op 8 rfl (by kernel_rfl) (by rfl) ?_
      refine wp_call (f := 64) (args := #[.int .i64 vl]) rfl (by go_simp) ?_
      refine (CP.out _).mono ?_
      rintro e w' ⟨rfl, hw'⟩
      subst hw'
      refine ⟨_, rfl, by assumption, ?_⟩
      simp only [List.setIfInBounds_toArray, List.set_cons_zero, List.set_cons_succ]
      refine held_take 9 13 (v := (.agg #[.int .i64 (i : Int), .string n, .string p])) rfl rfl (by kernel_rfl) (by kernel_rfl) (by kernel_rfl) (by rfl) (fun _ _ _ h => h) (by assumption) ?_ ?_
      · intro W hW
        go_simp
      simp only [List.setIfInBounds_toArray, List.set_cons_zero, List.set_cons_succ]
      have dB : Below w2.heap.size w2 (w2.drew.alloc (.cells #[.int .i64 (i : Int), .string n, .string p] 32)) := ((Below.refl _ _).drew).alloc (Nat.le_refl _) _
      refine held_op 11 rfl (by kernel_rfl) (by rfl) ?_
      refine wp_skip (w' := w2.drew.alloc (.cells #[.int .i64 (i : Int), .string n, .string p] 32)) rfl (by go_simp) ⟨dB, ?_⟩
      refine wpAnyH_done (by kernel_rfl) ?_ _
      clear dB dA hHeld
      have HH := FACTS.out (w2.drew.alloc (.cells #[.int .i64 (i : Int), .string n, .string p] 32)) rfl
      clear FACTS HC
      obtain ⟨d0, d1, d2, c2, R4, B4, fz⟩ := HH
      generalize w2.drew.alloc (.cells #[.int .i64 (i : Int), .string n, .string p] 32) = w4 at *
      by_cases h3 : i < 3
      · have hz : ((i : Int) < 3) = True := by simp; omega
        go_wp2_with fail
        refine (CU.out _).mono ?_
        rintro e w' ⟨rfl, hw'⟩
        subst w'
        by_cases h0 : vl < 0
        · have HV : Hid (selV i vl u p = ⟨#[]⟩) := by show _ = _; unfold selV; rw [if_pos h3, if_pos h0]
          have R5 : ((w4.setCell ⟨w2.heap.size, 2, none⟩ (.string u)).setCell ⟨w2.heap.size, 2, none⟩ (.string ⟨#[]⟩)).heap[w.heap.size + 1]? = some (.cells #[.int .i64 0, .string ⟨#[]⟩, .string ⟨#[]⟩] 32) := (heap_setCell_other _ _ _ _ (by show _ ≠ w2.heap.size; omega)).trans ((heap_setCell_other _ _ _ _ (by show _ ≠ w2.heap.size; omega)).trans R4)
          have B5 : Hid (Below w.heap.size w ((w4.setCell ⟨w2.heap.size, 2, none⟩ (.string u)).setCell ⟨w2.heap.size, 2, none⟩ (.string ⟨#[]⟩))) := (B4.setCell (by show _ ≤ w2.heap.size; omega) _).setCell (by show _ ≤ w2.heap.size; omega) _
          go_wp2_with (refine wpList_store_row rfl 32 (.tmp 2) (.tmp 25) rfl (w.heap.size + 1) #[.int .i64 (i : Int), .string n, .string ⟨#[]⟩] rfl rfl 32 _ R5 Tryz.sizeM rfl (by simp [Value.oneCell']) ?_)
          refine bodyPost_ret (results_cell_row rfl _ _ (w.heap.size + 1) 32 #[.int .i64 (i : Int), .string n, .string ⟨#[]⟩] (0, 0) _ rfl (setRow_heap _ _ _ _ _ _ R5) Tryz.underlying32 rfl Tryz.sizeM) rfl ⟨by rw [HV.out], ?_⟩
          exact ⟨B5.out.os, B5.out.tape, B5.out.output, by rw [setRow_size]; exact B5.out.size, fun k hk => (setRow_other _ _ _ _ (by omega)).trans (B5.out.block k hk)⟩
        · have HV : Hid (selV i vl u p = u) := by show _ = _; unfold selV; rw [if_pos h3, if_neg h0]
          have R5 : (w4.setCell ⟨w2.heap.size, 2, none⟩ (.string u)).heap[w.heap.size + 1]? = some (.cells #[.int .i64 0, .string ⟨#[]⟩, .string ⟨#[]⟩] 32) := (heap_setCell_other _ _ _ _ (by show _ ≠ w2.heap.size; omega)).trans R4
          have B5 : Hid (Below w.heap.size w (w4.setCell ⟨w2.heap.size, 2, none⟩ (.string u))) := B4.setCell (by show _ ≤ w2.heap.size; omega) _
          go_wp2_with (refine wpList_store_row rfl 32 (.tmp 2) (.tmp 25) rfl (w.heap.size + 1) #[.int .i64 (i : Int), .string n, .string u] rfl rfl 32 _ R5 Tryz.sizeM rfl (by simp [Value.oneCell']) ?_)
          refine bodyPost_ret (results_cell_row rfl _ _ (w.heap.size + 1) 32 #[.int .i64 (i : Int), .string n, .string u] (0, 0) _ rfl (setRow_heap _ _ _ _ _ _ R5) Tryz.underlying32 rfl Tryz.sizeM) rfl ⟨by rw [HV.out], ?_⟩
          exact ⟨B5.out.os, B5.out.tape, B5.out.output, by rw [setRow_size]; exact B5.out.size, fun k hk => (setRow_other _ _ _ _ (by omega)).trans (B5.out.block k hk)⟩
      · have hz : ((i : Int) < 3) = False := by simp; omega
        have HV : Hid (selV i vl u p = p) := by show _ = _; unfold selV; rw [if_neg h3]
        have R5 := R4
        have B5 := Lib.hid B4
        go_wp2_with (refine wpList_store_row rfl 32 (.tmp 2) (.tmp 25) rfl (w.heap.size + 1) #[.int .i64 (i : Int), .string n, .string p] rfl rfl 32 _ R5 Tryz.sizeM rfl (by simp [Value.oneCell']) ?_)
        refine bodyPost_ret (results_cell_row rfl _ _ (w.heap.size + 1) 32 #[.int .i64 (i : Int), .string n, .string p] (0, 0) _ rfl (setRow_heap _ _ _ _ _ _ R5) Tryz.underlying32 rfl Tryz.sizeM) rfl ⟨by rw [HV.out], ?_⟩
        exact ⟨B5.out.os, B5.out.tape, B5.out.output, by rw [setRow_size]; exact B5.out.size, fun k hk => (setRow_other _ _ _ _ (by omega)).trans (B5.out.block k hk)⟩
  · have dA : Below w2.heap.size w2 (w2.drew.alloc (.cells #[.int .i64 0, .string ⟨#[]⟩, .string ⟨#[]⟩] 32)) := ((Below.refl _ _).drew).alloc (Nat.le_refl _) _
    refine wp_run (v := .pointer (some ⟨w2.heap.size, 0, none⟩)) (w' := w2.drew.alloc (.cells #[.int .i64 0, .string ⟨#[]⟩, .string ⟨#[]⟩] 32)) rfl (by go_simp) ⟨dA, ?_⟩
    simp only [List.setIfInBounds_toArray, List.set_cons_zero, List.set_cons_succ]
    refine held_op 2 rfl (by kernel_rfl) (by rfl) ?_
    refine wp_call (f := 62) (args := #[.int .i64 kd, .int .i64 1, .int .i64 4]) rfl (by go_simp) ?_
    refine (CI.out _).mono ?_
    rintro e w' ⟨rfl, hw'⟩
    subst hw'
    refine ⟨_, rfl, by assumption, ?_⟩
    simp only [List.setIfInBounds_toArray, List.set_cons_zero, List.set_cons_succ]
    refine held_op 5 rfl (by kernel_rfl) (by rfl) ?_
    refine wp_call (f := 63) (args := #[.int .i64 nm]) rfl (by go_simp) ?_
    refine (CN.out _).mono ?_
    rintro e w' ⟨rfl, hw'⟩
    subst hw'
    refine ⟨_, rfl, by assumption, ?_⟩
    simp only [List.setIfInBounds_toArray, List.set_cons_zero, List.set_cons_succ]
    refine held_op 8 rfl (by kernel_rfl) (by rfl) ?_
    refine wp_call (f := 64) (args := #[.int .i64 vl]) rfl (by go_simp) ?_
    refine (CP.out _).mono ?_
    rintro e w' ⟨rfl, hw'⟩
    subst hw'
    refine ⟨_, rfl, by assumption, ?_⟩
    simp only [List.setIfInBounds_toArray, List.set_cons_zero, List.set_cons_succ]
    refine held_take 9 13 (v := (.agg #[.int .i64 (i : Int), .string n, .string p])) rfl rfl (by kernel_rfl) (by kernel_rfl) (by kernel_rfl) (by rfl) (fun _ _ _ h => h) (by assumption) ?_ ?_
    · intro W hW
      go_simp
    simp only [List.setIfInBounds_toArray, List.set_cons_zero, List.set_cons_succ]
    have dB : Below w2.heap.size w2 (w2.drew.alloc (.cells #[.int .i64 (i : Int), .string n, .string p] 32)) := ((Below.refl _ _).drew).alloc (Nat.le_refl _) _
    refine held_op 11 rfl (by kernel_rfl) (by rfl) ?_
    refine wp_skip (w' := w2.drew.alloc (.cells #[.int .i64 (i : Int), .string n, .string p] 32)) rfl (by go_simp) ⟨dB, ?_⟩
    refine wpAnyH_done (by kernel_rfl) ?_ _
    clear dB dA hHeld
    have HH := FACTS.out (w2.drew.alloc (.cells #[.int .i64 (i : Int), .string n, .string p] 32)) rfl
    clear FACTS HC
    obtain ⟨d0, d1, d2, c2, R4, B4, fz⟩ := HH
    generalize w2.drew.alloc (.cells #[.int .i64 (i : Int), .string n, .string p] 32) = w4 at *
    by_cases h3 : i < 3
    · have hz : ((i : Int) < 3) = True := by simp; omega
      go_wp2_with fail
      refine (CU.out _).mono ?_
      rintro e w' ⟨rfl, hw'⟩
      subst w'
      by_cases h0 : vl < 0
      · have HV : Hid (selV i vl u p = ⟨#[]⟩) := by show _ = _; unfold selV; rw [if_pos h3, if_pos h0]
        have R5 : ((w4.setCell ⟨w2.heap.size, 2, none⟩ (.string u)).setCell ⟨w2.heap.size, 2, none⟩ (.string ⟨#[]⟩)).heap[w.heap.size + 1]? = some (.cells #[.int .i64 0, .string ⟨#[]⟩, .string ⟨#[]⟩] 32) := (heap_setCell_other _ _ _ _ (by show _ ≠ w2.heap.size; omega)).trans ((heap_setCell_other _ _ _ _ (by show _ ≠ w2.heap.size; omega)).trans R4)
        have B5 : Hid (Below w.heap.size w ((w4.setCell ⟨w2.heap.size, 2, none⟩ (.string u)).setCell ⟨w2.heap.size, 2, none⟩ (.string ⟨#[]⟩))) := (B4.setCell (by show _ ≤ w2.heap.size; omega) _).setCell (by show _ ≤ w2.heap.size; omega) _
        go_wp2_with (refine wpList_store_row rfl 32 (.tmp 2) (.tmp 25) rfl (w.heap.size + 1) #[.int .i64 (i : Int), .string n, .string ⟨#[]⟩] rfl rfl 32 _ R5 Tryz.sizeM rfl (by simp [Value.oneCell']) ?_)
        refine bodyPost_ret (results_cell_row rfl _ _ (w.heap.size + 1) 32 #[.int .i64 (i : Int), .string n, .string ⟨#[]⟩] (0, 0) _ rfl (setRow_heap _ _ _ _ _ _ R5) Tryz.underlying32 rfl Tryz.sizeM) rfl ⟨by rw [HV.out], ?_⟩
        exact ⟨B5.out.os, B5.out.tape, B5.out.output, by rw [setRow_size]; exact B5.out.size, fun k hk => (setRow_other _ _ _ _ (by omega)).trans (B5.out.block k hk)⟩
      · have HV : Hid (selV i vl u p = u) := by show _ = _; unfold selV; rw [if_pos h3, if_neg h0]
        have R5 : (w4.setCell ⟨w2.heap.size, 2, none⟩ (.string u)).heap[w.heap.size + 1]? = some (.cells #[.int .i64 0, .string ⟨#[]⟩, .string ⟨#[]⟩] 32) := (heap_setCell_other _ _ _ _ (by show _ ≠ w2.heap.size; omega)).trans R4
        have B5 : Hid (Below w.heap.size w (w4.setCell ⟨w2.heap.size, 2, none⟩ (.string u))) := B4.setCell (by show _ ≤ w2.heap.size; omega) _
        go_wp2_with (refine wpList_store_row rfl 32 (.tmp 2) (.tmp 25) rfl (w.heap.size + 1) #[.int .i64 (i : Int), .string n, .string u] rfl rfl 32 _ R5 Tryz.sizeM rfl (by simp [Value.oneCell']) ?_)
        refine bodyPost_ret (results_cell_row rfl _ _ (w.heap.size + 1) 32 #[.int .i64 (i : Int), .string n, .string u] (0, 0) _ rfl (setRow_heap _ _ _ _ _ _ R5) Tryz.underlying32 rfl Tryz.sizeM) rfl ⟨by rw [HV.out], ?_⟩
        exact ⟨B5.out.os, B5.out.tape, B5.out.output, by rw [setRow_size]; exact B5.out.size, fun k hk => (setRow_other _ _ _ _ (by omega)).trans (B5.out.block k hk)⟩
    · have hz : ((i : Int) < 3) = False := by simp; omega
      have HV : Hid (selV i vl u p = p) := by show _ = _; unfold selV; rw [if_neg h3]
      have R5 := R4
      have B5 := Lib.hid B4
      go_wp2_with (refine wpList_store_row rfl 32 (.tmp 2) (.tmp 25) rfl (w.heap.size + 1) #[.int .i64 (i : Int), .string n, .string p] rfl rfl 32 _ R5 Tryz.sizeM rfl (by simp [Value.oneCell']) ?_)
      refine bodyPost_ret (results_cell_row rfl _ _ (w.heap.size + 1) 32 #[.int .i64 (i : Int), .string n, .string p] (0, 0) _ rfl (setRow_heap _ _ _ _ _ _ R5) Tryz.underlying32 rfl Tryz.sizeM) rfl ⟨by rw [HV.out], ?_⟩
      exact ⟨B5.out.os, B5.out.tape, B5.out.output, by rw [setRow_size]; exact B5.out.size, fun k hk => (setRow_other _ _ _ _ (by omega)).trans (B5.out.block k hk)⟩

end Go.Proofs.YtlfcjjlgkcfkdaaGreatDoor

