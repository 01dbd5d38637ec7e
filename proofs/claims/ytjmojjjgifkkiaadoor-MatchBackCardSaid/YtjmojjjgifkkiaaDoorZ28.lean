/-
  What sordinekeep's In, name, value and sordinebook's Within do where label sets are drawn. Conditions: as they are called there.
-/
import Derived.Test.YtjmojjjgifkkiaaDoorProg
import Derived.Test.YtjmojjjgifkkiaaDoorZ23
import Derived.Test.YtjmojjjgifkkiaaDoorZ27
import Derived.Lib.QuietBelow
import Derived.Laws.Externs
import Derived.Below
import Derived.Laws.AppendOwn
import Derived.Lib.LazyBuf
import Derived.BigQuiet
import Derived.Laws.StructEq
import Derived.Lib.Bytealg
import Derived.Laws.ResultCell
import Derived.Laws.OwnMore
import Derived.Lib.AppendStr
import Derived.WalkKit
import Derived.WalkSpells
import Derived.WalkLawsBesides
import Derived.Lib.Hide
import Derived.Laws.BytesArg
import Derived.Shelf.Bytes.SlSmallAll
import Derived.Laws.AppendOwnNone
import Derived.KernelRfl
import Derived.Deep.RegionHeld3
namespace Go.Proofs.YtjmojjjgifkkiaaDoor
open Go.RowKit La

set_option maxRecDepth 100000 in
theorem in_any (i m : Nat) (hi : i ≤ m) (w : World) : Calls Tryd.prog 60 #[.int .i64 (i : Int), .int .i64 0, .int .i64 (m : Int)] w fun e w' => e = .returned (.int .i64 (i : Int)) ∧ w' = w := by
  have h1 : (0 : Int) ≤ (i : Int) := by omega
  have h2 : (i : Int) ≤ (m : Int) := by omega
  go_enter Tryd.func60, Tryd.ntmps60
  go_wp2
  go_ret
  exact ⟨rfl, rfl⟩
theorem tmod_range (z : Int) (k : Int) (hk : 0 < k) : -k < z.tmod k ∧ z.tmod k < k := by
  rw [Int.tmod_eq_emod]
  have h1 := Int.emod_nonneg z (show k ≠ 0 by omega)
  have h2 := Int.emod_lt_of_pos z hk
  have h3 : (k.natAbs : Int) = k := by omega
  split
  · omega
  · rename_i h
    have : z % k ≠ 0 := fun e => h (.inr (Int.dvd_of_emod_eq_zero e))
    omega
set_option maxRecDepth 100000 in
theorem within4 (z : Int) (w : World) : Calls Tryd.prog 49 #[.int .i64 z, .int .i64 0, .int .i64 4] w fun e w' => (∃ i : Nat, i ≤ 4 ∧ e = .returned (.int .i64 (i : Int))) ∧ w' = w := by
  obtain ⟨h1, h2⟩ := tmod_range z 5 (by omega)
  go_enter Tryd.func49, Tryd.ntmps49
  by_cases h0 : z.tmod 5 < 0
  · have e : Hid (((z.tmod 5 + 4 + 1).toNat : Int) = z.tmod 5 + 4 + 1) := by show _ = _; omega
    go_wp2
    go_ret
    exact ⟨⟨(z.tmod 5 + 4 + 1).toNat, by omega, by rw [e.out]; rfl⟩, rfl⟩
  · have e : Hid (((z.tmod 5).toNat : Int) = z.tmod 5) := by show _ = _; omega
    go_wp2
    go_ret
    exact ⟨⟨(z.tmod 5).toNat, by omega, by rw [e.out]; rfl⟩, rfl⟩
set_option maxRecDepth 100000 in
theorem within6 (z : Int) (w : World) : Calls Tryd.prog 49 #[.int .i64 z, .int .i64 0, .int .i64 6] w fun e w' => (∃ i : Nat, i ≤ 6 ∧ e = .returned (.int .i64 (i : Int))) ∧ w' = w := by
  obtain ⟨h1, h2⟩ := tmod_range z 7 (by omega)
  go_enter Tryd.func49, Tryd.ntmps49
  by_cases h0 : z.tmod 7 < 0
  · have e : Hid (((z.tmod 7 + 6 + 1).toNat : Int) = z.tmod 7 + 6 + 1) := by show _ = _; omega
    go_wp2
    go_ret
    exact ⟨⟨(z.tmod 7 + 6 + 1).toNat, by omega, by rw [e.out]; rfl⟩, rfl⟩
  · have e : Hid (((z.tmod 7).toNat : Int) = z.tmod 7) := by show _ = _; omega
    go_wp2
    go_ret
    exact ⟨⟨(z.tmod 7).toNat, by omega, by rw [e.out]; rfl⟩, rfl⟩
set_option maxRecDepth 100000 in
set_option maxHeartbeats 1000000 in
theorem kname_any (i : Nat) (hi : i ≤ 4) (w : World) : Calls Tryd.prog 48 #[.int .i64 (i : Int)] w fun e w' => (∃ s, La.name s = true ∧ e = .returned (.string s)) ∧ w' = w := by
  have C := Lib.hid (fun i hi => in_any i 4 hi w)
  match i, hi with
  | 0, hi =>
    have C2 := Lib.hid (C.out 0 hi)
    have IX : ∀ W, (Instr.index 99 (.agg #[.string ⟨#[115, 101, 118]⟩, .string ⟨#[106, 111, 98]⟩, .string ⟨#[104, 111, 115, 116]⟩, .string ⟨#[95, 120]⟩, .string ⟨#[90, 111, 110, 101, 57]⟩]) (.int .i64 0)).run Tryd.prog W = .ok (.string ⟨#[115, 101, 118]⟩) W := fun W => by rfl
    clear C
    go_enter Tryd.func48, Tryd.ntmps48
    go_wp2_with fail
    refine C2.out.mono ?_
    rintro e w' ⟨rfl, rfl⟩
    clear C2
    go_wp2
    go_ret
    exact ⟨⟨_, by decide +kernel, rfl⟩, rfl⟩
  | 1, hi =>
    have C2 := Lib.hid (C.out 1 hi)
    have IX : ∀ W, (Instr.index 99 (.agg #[.string ⟨#[115, 101, 118]⟩, .string ⟨#[106, 111, 98]⟩, .string ⟨#[104, 111, 115, 116]⟩, .string ⟨#[95, 120]⟩, .string ⟨#[90, 111, 110, 101, 57]⟩]) (.int .i64 1)).run Tryd.prog W = .ok (.string ⟨#[106, 111, 98]⟩) W := fun W => by rfl
    clear C
    go_enter Tryd.func48, Tryd.ntmps48
    go_wp2_with fail
    refine C2.out.mono ?_
    rintro e w' ⟨rfl, rfl⟩
    clear C2
    go_wp2
    go_ret
    exact ⟨⟨_, by decide +kernel, rfl⟩, rfl⟩
  | 2, hi =>
    have C2 := Lib.hid (C.out 2 hi)
    have IX : ∀ W, (Instr.index 99 (.agg #[.string ⟨#[115, 101, 118]⟩, .string ⟨#[106, 111, 98]⟩, .string ⟨#[104, 111, 115, 116]⟩, .string ⟨#[95, 120]⟩, .string ⟨#[90, 111, 110, 101, 57]⟩]) (.int .i64 2)).run Tryd.prog W = .ok (.string ⟨#[104, 111, 115, 116]⟩) W := fun W => by rfl
    clear C
    go_enter Tryd.func48, Tryd.ntmps48
    go_wp2_with fail
    refine C2.out.mono ?_
    rintro e w' ⟨rfl, rfl⟩
    clear C2
    go_wp2
    go_ret
    exact ⟨⟨_, by decide +kernel, rfl⟩, rfl⟩
  | 3, hi =>
    have C2 := Lib.hid (C.out 3 hi)
    have IX : ∀ W, (Instr.index 99 (.agg #[.string ⟨#[115, 101, 118]⟩, .string ⟨#[106, 111, 98]⟩, .string ⟨#[104, 111, 115, 116]⟩, .string ⟨#[95, 120]⟩, .string ⟨#[90, 111, 110, 101, 57]⟩]) (.int .i64 3)).run Tryd.prog W = .ok (.string ⟨#[95, 120]⟩) W := fun W => by rfl
    clear C
    go_enter Tryd.func48, Tryd.ntmps48
    go_wp2_with fail
    refine C2.out.mono ?_
    rintro e w' ⟨rfl, rfl⟩
    clear C2
    go_wp2
    go_ret
    exact ⟨⟨_, by decide +kernel, rfl⟩, rfl⟩
  | 4, hi =>
    have C2 := Lib.hid (C.out 4 hi)
    have IX : ∀ W, (Instr.index 99 (.agg #[.string ⟨#[115, 101, 118]⟩, .string ⟨#[106, 111, 98]⟩, .string ⟨#[104, 111, 115, 116]⟩, .string ⟨#[95, 120]⟩, .string ⟨#[90, 111, 110, 101, 57]⟩]) (.int .i64 4)).run Tryd.prog W = .ok (.string ⟨#[90, 111, 110, 101, 57]⟩) W := fun W => by rfl
    clear C
    go_enter Tryd.func48, Tryd.ntmps48
    go_wp2_with fail
    refine C2.out.mono ?_
    rintro e w' ⟨rfl, rfl⟩
    clear C2
    go_wp2
    go_ret
    exact ⟨⟨_, by decide +kernel, rfl⟩, rfl⟩
set_option maxRecDepth 100000 in
set_option maxHeartbeats 1000000 in
theorem kvalue_any (i : Nat) (hi : i ≤ 6) (w : World) : Calls Tryd.prog 50 #[.int .i64 (i : Int)] w fun e w' => (∃ s, La.value s = true ∧ e = .returned (.string s)) ∧ w' = w := by
  have C := Lib.hid (fun i hi => in_any i 6 hi w)
  match i, hi with
  | 0, hi =>
    have C2 := Lib.hid (C.out 0 hi)
    have IX : ∀ W, (Instr.index 100 (.agg #[.string ⟨#[97]⟩, .string ⟨#[98]⟩, .string ⟨#[99, 114, 105, 116]⟩, .string ⟨#[119, 97, 114, 110]⟩, .string ⟨#[97, 98]⟩, .string ⟨#[0, 255]⟩, .string ⟨#[97, 98, 97, 98, 97, 98, 97, 98, 97, 98, 97, 98, 97, 98, 97, 98, 97, 98, 97, 98, 97, 98, 97, 98]⟩]) (.int .i64 0)).run Tryd.prog W = .ok (.string ⟨#[97]⟩) W := fun W => by rfl
    clear C
    go_enter Tryd.func50, Tryd.ntmps50
    go_wp2_with fail
    refine C2.out.mono ?_
    rintro e w' ⟨rfl, rfl⟩
    clear C2
    go_wp2
    go_ret
    exact ⟨⟨_, by decide +kernel, rfl⟩, rfl⟩
  | 1, hi =>
    have C2 := Lib.hid (C.out 1 hi)
    have IX : ∀ W, (Instr.index 100 (.agg #[.string ⟨#[97]⟩, .string ⟨#[98]⟩, .string ⟨#[99, 114, 105, 116]⟩, .string ⟨#[119, 97, 114, 110]⟩, .string ⟨#[97, 98]⟩, .string ⟨#[0, 255]⟩, .string ⟨#[97, 98, 97, 98, 97, 98, 97, 98, 97, 98, 97, 98, 97, 98, 97, 98, 97, 98, 97, 98, 97, 98, 97, 98]⟩]) (.int .i64 1)).run Tryd.prog W = .ok (.string ⟨#[98]⟩) W := fun W => by rfl
    clear C
    go_enter Tryd.func50, Tryd.ntmps50
    go_wp2_with fail
    refine C2.out.mono ?_
    rintro e w' ⟨rfl, rfl⟩
    clear C2
    go_wp2
    go_ret
    exact ⟨⟨_, by decide +kernel, rfl⟩, rfl⟩
  | 2, hi =>
    have C2 := Lib.hid (C.out 2 hi)
    have IX : ∀ W, (Instr.index 100 (.agg #[.string ⟨#[97]⟩, .string ⟨#[98]⟩, .string ⟨#[99, 114, 105, 116]⟩, .string ⟨#[119, 97, 114, 110]⟩, .string ⟨#[97, 98]⟩, .string ⟨#[0, 255]⟩, .string ⟨#[97, 98, 97, 98, 97, 98, 97, 98, 97, 98, 97, 98, 97, 98, 97, 98, 97, 98, 97, 98, 97, 98, 97, 98]⟩]) (.int .i64 2)).run Tryd.prog W = .ok (.string ⟨#[99, 114, 105, 116]⟩) W := fun W => by rfl
    clear C
    go_enter Tryd.func50, Tryd.ntmps50
    go_wp2_with fail
    refine C2.out.mono ?_
    rintro e w' ⟨rfl, rfl⟩
    clear C2
    go_wp2
    go_ret
    exact ⟨⟨_, by decide +kernel, rfl⟩, rfl⟩
  | 3, hi =>
    have C2 := Lib.hid (C.out 3 hi)
    have IX : ∀ W, (Instr.index 100 (.agg #[.string ⟨#[97]⟩, .string ⟨#[98]⟩, .string ⟨#[99, 114, 105, 116]⟩, .string ⟨#[119, 97, 114, 110]⟩, .string ⟨#[97, 98]⟩, .string ⟨#[0, 255]⟩, .string ⟨#[97, 98, 97, 98, 97, 98, 97, 98, 97, 98, 97, 98, 97, 98, 97, 98, 97, 98, 97, 98, 97, 98, 97, 98]⟩]) (.int .i64 3)).run Tryd.prog W = .ok (.string ⟨#[119, 97, 114, 110]⟩) W := fun W => by rfl
    clear C
    go_enter Tryd.func50, Tryd.ntmps50
    go_wp2_with fail
    refine C2.out.mono ?_
    rintro e w' ⟨rfl, rfl⟩
    clear C2
    go_wp2
    go_ret
    exact ⟨⟨_, by decide +kernel, rfl⟩, rfl⟩
  | 4, hi =>
    have C2 := Lib.hid (C.out 4 hi)
    have IX : ∀ W, (Instr.index 100 (.agg #[.string ⟨#[97]⟩, .string ⟨#[98]⟩, .string ⟨#[99, 114, 105, 116]⟩, .string ⟨#[119, 97, 114, 110]⟩, .string ⟨#[97, 98]⟩, .string ⟨#[0, 255]⟩, .string ⟨#[97, 98, 97, 98, 97, 98, 97, 98, 97, 98, 97, 98, 97, 98, 97, 98, 97, 98, 97, 98, 97, 98, 97, 98]⟩]) (.int .i64 4)).run Tryd.prog W = .ok (.string ⟨#[97, 98]⟩) W := fun W => by rfl
    clear C
    go_enter Tryd.func50, Tryd.ntmps50
    go_wp2_with fail
    refine C2.out.mono ?_
    rintro e w' ⟨rfl, rfl⟩
    clear C2
    go_wp2
    go_ret
    exact ⟨⟨_, by decide +kernel, rfl⟩, rfl⟩
  | 5, hi =>
    have C2 := Lib.hid (C.out 5 hi)
    have IX : ∀ W, (Instr.index 100 (.agg #[.string ⟨#[97]⟩, .string ⟨#[98]⟩, .string ⟨#[99, 114, 105, 116]⟩, .string ⟨#[119, 97, 114, 110]⟩, .string ⟨#[97, 98]⟩, .string ⟨#[0, 255]⟩, .string ⟨#[97, 98, 97, 98, 97, 98, 97, 98, 97, 98, 97, 98, 97, 98, 97, 98, 97, 98, 97, 98, 97, 98, 97, 98]⟩]) (.int .i64 5)).run Tryd.prog W = .ok (.string ⟨#[0, 255]⟩) W := fun W => by rfl
    clear C
    go_enter Tryd.func50, Tryd.ntmps50
    go_wp2_with fail
    refine C2.out.mono ?_
    rintro e w' ⟨rfl, rfl⟩
    clear C2
    go_wp2
    go_ret
    exact ⟨⟨_, by decide +kernel, rfl⟩, rfl⟩
  | 6, hi =>
    have C2 := Lib.hid (C.out 6 hi)
    have IX : ∀ W, (Instr.index 100 (.agg #[.string ⟨#[97]⟩, .string ⟨#[98]⟩, .string ⟨#[99, 114, 105, 116]⟩, .string ⟨#[119, 97, 114, 110]⟩, .string ⟨#[97, 98]⟩, .string ⟨#[0, 255]⟩, .string ⟨#[97, 98, 97, 98, 97, 98, 97, 98, 97, 98, 97, 98, 97, 98, 97, 98, 97, 98, 97, 98, 97, 98, 97, 98]⟩]) (.int .i64 6)).run Tryd.prog W = .ok (.string ⟨#[97, 98, 97, 98, 97, 98, 97, 98, 97, 98, 97, 98, 97, 98, 97, 98, 97, 98, 97, 98, 97, 98, 97, 98]⟩) W := fun W => by rfl
    clear C
    go_enter Tryd.func50, Tryd.ntmps50
    go_wp2_with fail
    refine C2.out.mono ?_
    rintro e w' ⟨rfl, rfl⟩
    clear C2
    go_wp2
    go_ret
    exact ⟨⟨_, by decide +kernel, rfl⟩, rfl⟩

end Go.Proofs.YtjmojjjgifkkiaaDoor
