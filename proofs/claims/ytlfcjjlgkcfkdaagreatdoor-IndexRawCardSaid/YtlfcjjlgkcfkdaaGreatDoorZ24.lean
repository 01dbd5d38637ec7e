/-
  Arguments of stage 4 opened: slices of labels, of strings, of ints, of bytes. No condition.
  What sordinekeep's In, name, value and sordinebook's Within do where label sets are drawn. Conditions: as they are called there.
-/
import Derived.Test.YtlfcjjlgkcfkdaaGreatDoorProg
import Derived.Test.YtlfcjjlgkcfkdaaGreatDoorZ01
import Derived.Test.YtlfcjjlgkcfkdaaGreatDoorZ16
import Derived.Test.YtlfcjjlgkcfkdaaGreatDoorZ19
import Derived.Test.YtlfcjjlgkcfkdaaGreatDoorZ21
import Derived.Test.YtlfcjjlgkcfkdaaGreatDoorZ23
import Derived.Deep.Slices
import Derived.Deep.SlicePairs
import Derived.OpenShut
import Derived.Below
import Derived.WalkKit
import Derived.WalkSpells
import Derived.WalkLawsBesides
import Derived.Lib.Hide
import Derived.Lib.AppendStr
import Derived.Laws.BytesArg
import Derived.Laws.AppendOwnNone
import Derived.KernelRfl
import Derived.Lib.Bytealg
import Derived.Deep.RegionHeld3
import Derived.Laws.AppendOwn
import Derived.BigQuiet
import Derived.Laws.StructEq
import Derived.Laws.OwnMore
import Derived.Lib.QuietBelow
import Derived.Laws.Externs
import Derived.Lib.LazyBuf
import Derived.Laws.ResultCell
namespace Go.Proofs.YtlfcjjlgkcfkdaaGreatDoor
open Go.ChangeShapes Go.WideShapes Go.RowKit La

section
variable {H : Type} {enc : TypeId × Value → H} {W : World} {base : Nat} {v : Value} {d : DataW H} {p : List MemPlace}

set_option maxRecDepth 100000 in
theorem addr_addN (b off j : Nat) : (⟨b, off, none⟩ : Addr).add j = ⟨b, off + j, none⟩ := by unfold Addr.add; split <;> simp_all
def strV : Value → ByteArray
  | .string s => s
  | _ => ⟨#[]⟩
/-- The slice at address a reads as these ints. -/
def IsInts (w : World) (a : Option Addr) (zs : List Int) : Prop :=
  0 < zs.length → ∃ b off, a = some ⟨b, off, none⟩ ∧ ∀ j, j < zs.length → w.cell? ⟨b, off + j, none⟩ = some (.int .i64 (zs.getD j 0))
set_option maxRecDepth 100000 in
theorem IsInts.below {w w' : World} {a : Option Addr} {zs : List Int} (h : IsInts w a zs) (hb : Below w.heap.size w w') : IsInts w' a zs := by
  intro hp
  obtain ⟨b, off, e, hc⟩ := h hp
  exact ⟨b, off, e, fun j hj => (hb.cell (World.block_lt_of_cell? w _ (hc j hj))).trans (hc j hj)⟩
set_option maxRecDepth 100000 in
theorem open_labs (hv : Value.okWide Tryz.prog W .any base 27 v) (h : DataW.Trod enc Tryz.prog W 0 (fun _ => true) true 27 v d p) :
    ∃ (a : Option Addr) (cap : Nat) (ls : List Lab), v = .slice a ls.length cap ∧ ls.length ≤ cap ∧ (a = none → cap = 0) ∧ IsLabs W a ls := by
  obtain ⟨a, len, cap, rfl⟩ := okWide_slice Tryz.underlying27 hv
  obtain ⟨fuel, hf⟩ := h
  rcases Go.Deep.open_slice_pairs Tryz.underlying27 Tryz.underlying26 (by kernel_rfl) rfl rfl (by kernel_rfl) (by kernel_rfl) hf with ⟨hcs, _⟩ | ⟨x, n, c, m, k, V0, V1, D0, D1, P0, P1, hcs, _, hl, hm, hmm, _, hx⟩
  · simp [Value.cells] at hcs
    obtain ⟨rfl, rfl, rfl⟩ := hcs
    exact ⟨none, 0, [], rfl, Nat.le_refl _, fun _ => rfl, fun hp => absurd hp (by simp)⟩
  · simp [Value.cells] at hcs
    obtain ⟨rfl, rfl, rfl⟩ := hcs
    obtain rfl : m = cap := by simpa using hmm
    have each : ∀ i, i < len → V0 i = .string (strV (V0 i)) ∧ V1 i = .string (strV (V1 i)) := fun i hi => by
      obtain ⟨_, _, h3, h4⟩ := hx i (by omega)
      obtain ⟨s0, e0, _⟩ := DataW.trod_string Tryz.underlying9 h3
      obtain ⟨s1, e1, _⟩ := DataW.trod_string Tryz.underlying9 h4
      simp only [List.cons.injEq, and_true] at e0 e1
      rw [e0, e1]
      exact ⟨rfl, rfl⟩
    have hlen : ((List.range len).map fun i => ((strV (V0 i), strV (V1 i)) : Lab)).length = len := by simp
    refine ⟨some x, m, (List.range len).map fun i => (strV (V0 i), strV (V1 i)), by rw [hlen], by omega, (fun e => by cases e), fun hp => ?_⟩
    rw [hlen] at hp
    have hc := (hx 0 (by omega)).1
    obtain ⟨b, off, spot⟩ := x
    have hspot : spot = none := by simpa [Addr.add] using World.cell?_spot hc
    subst hspot
    refine ⟨b, off, rfl, fun j hj => ?_⟩
    have hj' : j < len := by rw [hlen] at hj; exact hj
    obtain ⟨h1, h2, _, _⟩ := hx j (by omega)
    have e := each j hj'
    rw [addr_addN, e.1] at h1
    rw [addr_addN, e.2, ← Nat.add_assoc] at h2
    rw [h1, h2]
    simp [nth, hj']
end

end Go.Proofs.YtlfcjjlgkcfkdaaGreatDoor
