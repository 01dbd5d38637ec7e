/-
  Arguments of stage 4 opened: slices of labels, of strings, of ints, of bytes. No condition.
  What sordinekeep's In, name, value and sordinebook's Within do where label sets are drawn. Conditions: as they are called there.
-/
import Derived.Test.YtlfcjjlgkcfkdaaGreatDoorProg
import Derived.Test.YtlfcjjlgkcfkdaaGreatDoorZ01
import Derived.Test.YtlfcjjlgkcfkdaaGreatDoorZ16
import Derived.Test.YtlfcjjlgkcfkdaaGreatDoorZ19
import Derived.Test.YtlfcjjlgkcfkdaaGreatDoorZ21
import Derived.Test.YtlfcjjlgkcfkdaaGreatDoorZ23
import Derived.Deep.Slices
import Derived.Deep.SlicePairs
import Derived.OpenShut
import Derived.Below
import Derived.WalkKit
import Derived.WalkSpells
import Derived.WalkLawsBesides
import Derived.Lib.Hide
import Derived.Lib.AppendStr
import Derived.Laws.BytesArg
import Derived.Laws.AppendOwnNone
import Derived.KernelRfl
import Derived.Lib.Bytealg
import Derived.Deep.RegionHeld3
import Derived.Laws.AppendOwn
import Derived.BigQuiet
import Derived.Laws.StructEq
import Derived.Laws.OwnMore
import Derived.Lib.QuietBelow
import Derived.Laws.Externs
import Derived.Lib.LazyBuf
import Derived.Laws.ResultCell
namespace Go.Proofs.YtlfcjjlgkcfkdaaGreatDoor
open Go.ChangeShapes Go.WideShapes Go.RowKit La

section
variable {H : Type} {enc : TypeId × Value → H} {W : World} {base : Nat} {v : Value} {d : DataW H} {p : List MemPlace}

set_option maxRecDepth 100000 in
theorem addr_addN (b off j : Nat) : (⟨b, off, none⟩ : Addr).add j = ⟨b, off + j, none⟩ := by unfold Addr.add; split <;> simp_all
def intV : Value → Int
  | .int _ n => n
  | _ => 0
/-- The slice at address a reads as these ints. -/
def IsInts (w : World) (a : Option Addr) (zs : List Int) : Prop :=
  0 < zs.length → ∃ b off, a = some ⟨b, off, none⟩ ∧ ∀ j, j < zs.length → w.cell? ⟨b, off + j, none⟩ = some (.int .i64 (zs.getD j 0))
set_option maxRecDepth 100000 in
theorem IsInts.below {w w' : World} {a : Option Addr} {zs : List Int} (h : IsInts w a zs) (hb : Below w.heap.size w w') : IsInts w' a zs := by
  intro hp
  obtain ⟨b, off, e, hc⟩ := h hp
  exact ⟨b, off, e, fun j hj => (hb.cell (World.block_lt_of_cell? w _ (hc j hj))).trans (hc j hj)⟩
end

end Go.Proofs.YtlfcjjlgkcfkdaaGreatDoor
namespace Go.Proofs.YtlfcjjlgkcfkdaaGreatDoor
open Go.RowKit La

set_option maxRecDepth 100000 in
theorem in_any (i m : Nat) (hi : i ≤ m) (w : World) : Calls Tryz.prog 62 #[.int .i64 (i : Int), .int .i64 0, .int .i64 (m : Int)] w fun e w' => e = .returned (.int .i64 (i : Int)) ∧ w' = w := by
  have h1 : (0 : Int) ≤ (i : Int) := by omega
  have h2 : (i : Int) ≤ (m : Int) := by omega
  go_enter Tryz.func62, Tryz.ntmps62
  go_wp2
  go_ret
  exact ⟨rfl, rfl⟩
theorem tmod_range (z : Int) (k : Int) (hk : 0 < k) : -k < z.tmod k ∧ z.tmod k < k := by
  rw [Int.tmod_eq_emod]
  have h1 := Int.emod_nonneg z (show k ≠ 0 by omega)
  have h2 := Int.emod_lt_of_pos z hk
  have h3 : (k.natAbs : Int) = k := by omega
  split
  · omega
  · rename_i h
    have : z % k ≠ 0 := fun e => h (.inr (Int.dvd_of_emod_eq_zero e))
    omega
set_option maxRecDepth 100000 in
theorem within4 (z : Int) (w : World) : Calls Tryz.prog 77 #[.int .i64 z, .int .i64 0, .int .i64 4] w fun e w' => (∃ i : Nat, i ≤ 4 ∧ e = .returned (.int .i64 (i : Int))) ∧ w' = w := by
  obtain ⟨h1, h2⟩ := tmod_range z 5 (by omega)
  go_enter Tryz.func77, Tryz.ntmps77
  by_cases h0 : z.tmod 5 < 0
  · have e : Hid (((z.tmod 5 + 4 + 1).toNat : Int) = z.tmod 5 + 4 + 1) := by show _ = _; omega
    go_wp2
    go_ret
    exact ⟨⟨(z.tmod 5 + 4 + 1).toNat, by omega, by rw [e.out]; rfl⟩, rfl⟩
  · have e : Hid (((z.tmod 5).toNat : Int) = z.tmod 5) := by show _ = _; omega
    go_wp2
    go_ret
    exact ⟨⟨(z.tmod 5).toNat, by omega, by rw [e.out]; rfl⟩, rfl⟩
set_option maxRecDepth 100000 in
theorem within6 (z : Int) (w : World) : Calls Tryz.prog 77 #[.int .i64 z, .int .i64 0, .int .i64 6] w fun e w' => (∃ i : Nat, i ≤ 6 ∧ e = .returned (.int .i64 (i : Int))) ∧ w' = w := by
  obtain ⟨h1, h2⟩ := tmod_range z 7 (by omega)
  go_enter Tryz.func77, Tryz.ntmps77
  by_cases h0 : z.tmod 7 < 0
  · have e : Hid (((z.tmod 7 + 6 + 1).toNat : Int) = z.tmod 7 + 6 + 1) := by show _ = _; omega
    go_wp2
    go_ret
    exact ⟨⟨(z.tmod 7 + 6 + 1).toNat, by omega, by rw [e.out]; rfl⟩, rfl⟩
  · have e : Hid (((z.tmod 7).toNat : Int) = z.tmod 7) := by show _ = _; omega
    go_wp2
    go_ret
    exact ⟨⟨(z.tmod 7).toNat, by omega, by rw [e.out]; rfl⟩, rfl⟩
set_option maxRecDepth 100000 in
set_option maxHeartbeats 1000000 in
theorem kname_any (i : Nat) (hi : i ≤ 4) (w : World) : Calls Tryz.prog 63 #[.int .i64 (i : Int)] w fun e w' => (∃ s, La.name s = true ∧ e = .returned (.string s)) ∧ w' = w := by
  have C := Lib.hid (fun i hi => in_any i 4 hi w)
  match i, hi with
  | 0, hi =>
    have C2 := Lib.hid (C.out 0 hi)
    have IX : ∀ W, (Instr.index 129 (.agg #[.string ⟨#[115, 101, 118]⟩, .string ⟨#[106, 111, 98]⟩, .string ⟨#[104, 111, 115, 116]⟩, .string ⟨#[95, 120]⟩, .string ⟨#[90, 111, 110, 101, 57]⟩]) (.int .i64 0)).run Tryz.prog W = .ok (.string ⟨#[115, 101, 118]⟩) W := fun W => by rfl
    clear C
    go_enter Tryz.func63, Tryz.ntmps63
    go_wp2_with fail
    refine C2.out.mono ?_
    rintro e w' ⟨rfl, rfl⟩
    clear C2
    go_wp2
    go_ret
    exact ⟨⟨_, by decide +kernel, rfl⟩, rfl⟩
  | 1, hi =>
    have C2 := Lib.hid (C.out 1 hi)
    have IX : ∀ W, (Instr.index 129 (.agg #[.string ⟨#[115, 101, 118]⟩, .string ⟨#[106, 111, 98]⟩, .string ⟨#[104, 111, 115, 116]⟩, .string ⟨#[95, 120]⟩, .string ⟨#[90, 111, 110, 101, 57]⟩]) (.int .i64 1)).run Tryz.prog W = .ok (.string ⟨#[106, 111, 98]⟩) W := fun W => by rfl
    clear C
    go_enter Tryz.func63, Tryz.ntmps63
    go_wp2_with fail
    refine C2.out.mono ?_
    rintro e w' ⟨rfl, rfl⟩
    clear C2
    go_wp2
    go_ret
    exact ⟨⟨_, by decide +kernel, rfl⟩, rfl⟩
  | 2, hi =>
    have C2 := Lib.hid (C.out 2 hi)
    have IX : ∀ W, (Instr.index 129 (.agg #[.string ⟨#[115, 101, 118]⟩, .string ⟨#[106, 111, 98]⟩, .string ⟨#[104, 111, 115, 116]⟩, .string ⟨#[95, 120]⟩, .string ⟨#[90, 111, 110, 101, 57]⟩]) (.int .i64 2)).run Tryz.prog W = .ok (.string ⟨#[104, 111, 115, 116]⟩) W := fun W => by rfl
    clear C
    go_enter Tryz.func63, Tryz.ntmps63
    go_wp2_with fail
    refine C2.out.mono ?_
    rintro e w' ⟨rfl, rfl⟩
    clear C2
    go_wp2
    go_ret
    exact ⟨⟨_, by decide +kernel, rfl⟩, rfl⟩
  | 3, hi =>
    have C2 := Lib.hid (C.out 3 hi)
    have IX : ∀ W, (Instr.index 129 (.agg #[.string ⟨#[115, 101, 118]⟩, .string ⟨#[106, 111, 98]⟩, .string ⟨#[104, 111, 115, 116]⟩, .string ⟨#[95, 120]⟩, .string ⟨#[90, 111, 110, 101, 57]⟩]) (.int .i64 3)).run Tryz.prog W = .ok (.string ⟨#[95, 120]⟩) W := fun W => by rfl
    clear C
    go_enter Tryz.func63, Tryz.ntmps63
    go_wp2_with fail
    refine C2.out.mono ?_
    rintro e w' ⟨rfl, rfl⟩
    clear C2
    go_wp2
    go_ret
    exact ⟨⟨_, by decide +kernel, rfl⟩, rfl⟩
  | 4, hi =>
    have C2 := Lib.hid (C.out 4 hi)
    have IX : ∀ W, (Instr.index 129 (.agg #[.string ⟨#[115, 101, 118]⟩, .string ⟨#[106, 111, 98]⟩, .string ⟨#[104, 111, 115, 116]⟩, .string ⟨#[95, 120]⟩, .string ⟨#[90, 111, 110, 101, 57]⟩]) (.int .i64 4)).run Tryz.prog W = .ok (.string ⟨#[90, 111, 110, 101, 57]⟩) W := fun W => by rfl
    clear C
    go_enter Tryz.func63, Tryz.ntmps63
    go_wp2_with fail
    refine C2.out.mono ?_
    rintro e w' ⟨rfl, rfl⟩
    clear C2
    go_wp2
    go_ret
    exact ⟨⟨_, by decide +kernel, rfl⟩, rfl⟩
set_option maxRecDepth 100000 in
set_option maxHeartbeats 1000000 in
theorem kvalue_any (i : Nat) (hi : i ≤ 6) (w : World) : Calls Tryz.prog 65 #[.int .i64 (i : Int)] w fun e w' => (∃ s, La.value s = true ∧ e = .returned (.string s)) ∧ w' = w := by
  have C := Lib.hid (fun i hi => in_any i 6 hi w)
  match i, hi with
  | 0, hi =>
    have C2 := Lib.hid (C.out 0 hi)
    have IX : ∀ W, (Instr.index 131 (.agg #[.string ⟨#[97]⟩, .string ⟨#[98]⟩, .string ⟨#[99, 114, 105, 116]⟩, .string ⟨#[119, 97, 114, 110]⟩, .string ⟨#[97, 98]⟩, .string ⟨#[0, 255]⟩, .string ⟨#[97, 98, 97, 98, 97, 98, 97, 98, 97, 98, 97, 98, 97, 98, 97, 98, 97, 98, 97, 98, 97, 98, 97, 98]⟩]) (.int .i64 0)).run Tryz.prog W = .ok (.string ⟨#[97]⟩) W := fun W => by rfl
    clear C
    go_enter Tryz.func65, Tryz.ntmps65
    go_wp2_with fail
    refine C2.out.mono ?_
    rintro e w' ⟨rfl, rfl⟩
    clear C2
    go_wp2
    go_ret
    exact ⟨⟨_, by decide +kernel, rfl⟩, rfl⟩
  | 1, hi =>
    have C2 := Lib.hid (C.out 1 hi)
    have IX : ∀ W, (Instr.index 131 (.agg #[.string ⟨#[97]⟩, .string ⟨#[98]⟩, .string ⟨#[99, 114, 105, 116]⟩, .string ⟨#[119, 97, 114, 110]⟩, .string ⟨#[97, 98]⟩, .string ⟨#[0, 255]⟩, .string ⟨#[97, 98, 97, 98, 97, 98, 97, 98, 97, 98, 97, 98, 97, 98, 97, 98, 97, 98, 97, 98, 97, 98, 97, 98]⟩]) (.int .i64 1)).run Tryz.prog W = .ok (.string ⟨#[98]⟩) W := fun W => by rfl
    clear C
    go_enter Tryz.func65, Tryz.ntmps65
    go_wp2_with fail
    refine C2.out.mono ?_
    rintro e w' ⟨rfl, rfl⟩
    clear C2
    go_wp2
    go_ret
    exact ⟨⟨_, by decide +kernel, rfl⟩, rfl⟩
  | 2, hi =>
    have C2 := Lib.hid (C.out 2 hi)
    have IX : ∀ W, (Instr.index 131 (.agg #[.string ⟨#[97]⟩, .string ⟨#[98]⟩, .string ⟨#[99, 114, 105, 116]⟩, .string ⟨#[119, 97, 114, 110]⟩, .string ⟨#[97, 98]⟩, .string ⟨#[0, 255]⟩, .string ⟨#[97, 98, 97, 98, 97, 98, 97, 98, 97, 98, 97, 98, 97, 98, 97, 98, 97, 98, 97, 98, 97, 98, 97, 98]⟩]) (.int .i64 2)).run Tryz.prog W = .ok (.string ⟨#[99, 114, 105, 116]⟩) W := fun W => by rfl
    clear C
    go_enter Tryz.func65, Tryz.ntmps65
    go_wp2_with fail
    refine C2.out.mono ?_
    rintro e w' ⟨rfl, rfl⟩
    clear C2
    go_wp2
    go_ret
    exact ⟨⟨_, by decide +kernel, rfl⟩, rfl⟩
  | 3, hi =>
    have C2 := Lib.hid (C.out 3 hi)
    have IX : ∀ W, (Instr.index 131 (.agg #[.string ⟨#[97]⟩, .string ⟨#[98]⟩, .string ⟨#[99, 114, 105, 116]⟩, .string ⟨#[119, 97, 114, 110]⟩, .string ⟨#[97, 98]⟩, .string ⟨#[0, 255]⟩, .string ⟨#[97, 98, 97, 98, 97, 98, 97, 98, 97, 98, 97, 98, 97, 98, 97, 98, 97, 98, 97, 98, 97, 98, 97, 98]⟩]) (.int .i64 3)).run Tryz.prog W = .ok (.string ⟨#[119, 97, 114, 110]⟩) W := fun W => by rfl
    clear C
    go_enter Tryz.func65, Tryz.ntmps65
    go_wp2_with fail
    refine C2.out.mono ?_
    rintro e w' ⟨rfl, rfl⟩
    clear C2
    go_wp2
    go_ret
    exact ⟨⟨_, by decide +kernel, rfl⟩, rfl⟩
  | 4, hi =>
    have C2 := Lib.hid (C.out 4 hi)
    have IX : ∀ W, (Instr.index 131 (.agg #[.string ⟨#[97]⟩, .string ⟨#[98]⟩, .string ⟨#[99, 114, 105, 116]⟩, .string ⟨#[119, 97, 114, 110]⟩, .string ⟨#[97, 98]⟩, .string ⟨#[0, 255]⟩, .string ⟨#[97, 98, 97, 98, 97, 98, 97, 98, 97, 98, 97, 98, 97, 98, 97, 98, 97, 98, 97, 98, 97, 98, 97, 98]⟩]) (.int .i64 4)).run Tryz.prog W = .ok (.string ⟨#[97, 98]⟩) W := fun W => by rfl
    clear C
    go_enter Tryz.func65, Tryz.ntmps65
    go_wp2_with fail
    refine C2.out.mono ?_
    rintro e w' ⟨rfl, rfl⟩
    clear C2
    go_wp2
    go_ret
    exact ⟨⟨_, by decide +kernel, rfl⟩, rfl⟩
  | 5, hi =>
    have C2 := Lib.hid (C.out 5 hi)
    have IX : ∀ W, (Instr.index 131 (.agg #[.string ⟨#[97]⟩, .string ⟨#[98]⟩, .string ⟨#[99, 114, 105, 116]⟩, .string ⟨#[119, 97, 114, 110]⟩, .string ⟨#[97, 98]⟩, .string ⟨#[0, 255]⟩, .string ⟨#[97, 98, 97, 98, 97, 98, 97, 98, 97, 98, 97, 98, 97, 98, 97, 98, 97, 98, 97, 98, 97, 98, 97, 98]⟩]) (.int .i64 5)).run Tryz.prog W = .ok (.string ⟨#[0, 255]⟩) W := fun W => by rfl
    clear C
    go_enter Tryz.func65, Tryz.ntmps65
    go_wp2_with fail
    refine C2.out.mono ?_
    rintro e w' ⟨rfl, rfl⟩
    clear C2
    go_wp2
    go_ret
    exact ⟨⟨_, by decide +kernel, rfl⟩, rfl⟩
  | 6, hi =>
    have C2 := Lib.hid (C.out 6 hi)
    have IX : ∀ W, (Instr.index 131 (.agg #[.string ⟨#[97]⟩, .string ⟨#[98]⟩, .string ⟨#[99, 114, 105, 116]⟩, .string ⟨#[119, 97, 114, 110]⟩, .string ⟨#[97, 98]⟩, .string ⟨#[0, 255]⟩, .string ⟨#[97, 98, 97, 98, 97, 98, 97, 98, 97, 98, 97, 98, 97, 98, 97, 98, 97, 98, 97, 98, 97, 98, 97, 98]⟩]) (.int .i64 6)).run Tryz.prog W = .ok (.string ⟨#[97, 98, 97, 98, 97, 98, 97, 98, 97, 98, 97, 98, 97, 98, 97, 98, 97, 98, 97, 98, 97, 98, 97, 98]⟩) W := fun W => by rfl
    clear C
    go_enter Tryz.func65, Tryz.ntmps65
    go_wp2_with fail
    refine C2.out.mono ?_
    rintro e w' ⟨rfl, rfl⟩
    clear C2
    go_wp2
    go_ret
    exact ⟨⟨_, by decide +kernel, rfl⟩, rfl⟩

end Go.Proofs.YtlfcjjlgkcfkdaaGreatDoor

