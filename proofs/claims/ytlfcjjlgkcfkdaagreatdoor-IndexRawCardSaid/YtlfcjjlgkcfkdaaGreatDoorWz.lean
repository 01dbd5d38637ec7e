/-
  The condition on the library's table, opened; the heap that the program's own text leaves meets it. No conditions.
-/
import Derived.Test.YtlfcjjlgkcfkdaaGreatDoorProg
import Derived.Test.YtlfcjjlgkcfkdaaGreatDoorRows
import Derived.Test.YtlfcjjlgkcfkdaaGreatDoorZ04
import Derived.Test.YtlfcjjlgkcfkdaaGreatDoorZ05
import Derived.Test.YtlfcjjlgkcfkdaaGreatDoorZ08
import Derived.Test.YtlfcjjlgkcfkdaaGreatDoorZ09
import Derived.Test.YtlfcjjlgkcfkdaaGreatDoorZ14
import Derived.Test.YtlfcjjlgkcfkdaaGreatDoorZ16
import Derived.ProofKit
import Derived.LaidMore
import Derived.OpenShut
import Derived.ChangeSame
import Derived.Stop.Joined
import Derived.Deep.RegionHeld3
import Derived.WalkKit
import Derived.WalkSpells
import Derived.WalkLawsBesides
import Derived.Lib.Hide
import Derived.Below
import Derived.BigQuiet
import Derived.Lib.QuietBelow
import Derived.Laws.StructEq
import Derived.KernelRfl
import Derived.Laws.MakeOwn
import Derived.Laws.OwnMore
import Derived.OwnWalk
import Derived.Laws.CopyOwn
import Derived.Laws.AppendOwn
import Derived.Deep.QuietTactic
import Derived.Lib.Bytealg
import Derived.Laws.Externs
import Derived.Maps.AppendAt
import Derived.StillTailTactics
import Derived.Laws.ResultCell
import Derived.Deep.LoopGhost
import Derived.Lib.TrailingZeros
import Derived.Laws.Bits64b
namespace Go.Proofs.YtlfcjjlgkcfkdaaGreatDoor
open Go.ChangeShapes Go.WideShapes Go.ChangeAt Go.WideMaps Go.WideElems Go.RowKit

def laid1 : List (String × DataW Unit) := [("math/bits.deBruijn64tab", Rows.laid_math_bits_deBruijn64tab)]
set_option maxRecDepth 100000 in
theorem Tryz.own : ownKnob Tryz.prog.godebug = none := by kernel_rfl
set_option maxRecDepth 100000 in
theorem Tryz.laidOut : laidOutB Tryz.prog = true := by kernel_rfl
set_option maxRecDepth 100000 in
theorem gTab : Tryz.prog.globalNamed "math/bits.deBruijn64tab" = some 0 := by kernel_rfl
set_option maxRecDepth 100000 in
theorem tTab : (Tryz.prog.globals[0]?).map (·.type) = some 176 := by kernel_rfl
set_option maxRecDepth 100000 in
theorem lTab : (Rows.laid_math_bits_deBruijn64tab : DataW Unit) = .agg (Lib.deBruijn64tab.map fun (x : Nat) => .lit (.int .u8 (x : Int))) := by rfl
set_option maxRecDepth 100000 in
theorem tab_of {enc : TypeId × Value → Unit} {W : World} {n : String} {g f B : Nat} {sp : Nat → Bool} {hd : Bool} {cs : Array Value} {ps : List MemPlace} (hg : Tryz.prog.globalNamed n = some g) (hv : World.var? Tryz.prog W n = some cs)
    (h : DataW.trod enc Tryz.prog W B sp hd f 176 cs.toList = some (.agg (Lib.deBruijn64tab.map fun (x : Nat) => .lit (.int .u8 (x : Int))), ps)) : g < W.heap.size ∧ ∀ j, j < 64 → W.cell? ⟨g, j, none⟩ = some (.int .u8 ((Lib.deBruijn64tab.getD j 0 : Nat) : Int)) := by
  obtain ⟨xs, m1, rfl, hx1, hlen, hn, hel⟩ := DataW.trod_array Tryz.underlying176 h
  have c1 : Tryz.prog.cellsOf 5 = 1 := by kernel_rfl
  have c64 : Tryz.prog.cellsOf 176 = 64 := by kernel_rfl
  rw [c64] at hlen
  simp only [Prod.mk.injEq, DataW.agg.injEq] at hx1
  have hk : ∀ j, j < 64 → W.cell? ⟨g, j, none⟩ = some (.int .u8 ((Lib.deBruijn64tab.getD j 0 : Nat) : Int)) := by
    intro j hj
    have h0 := hel j hj
    rw [c1, Nat.mul_one, List.getElem?_eq_getElem (show j < xs.length by omega)] at h0
    obtain ⟨k, e1, e2, _⟩ := DataW.trod_int Tryz.underlying5 h0
    have hm : (xs.map (·.1))[j]? = some (DataW.lit (.int .u8 k)) := by
      rw [List.getElem?_map, List.getElem?_eq_getElem (show j < xs.length by omega), e2]; rfl
    rw [← hx1.1, List.getElem?_map] at hm
    have hjk : j < Lib.deBruijn64tab.length := hj
    rw [List.getElem?_eq_getElem hjk] at hm
    simp only [Option.map_some, Option.some.injEq, DataW.lit.injEq, Lit.int.injEq, true_and] at hm
    rw [World.var?_cell hg hv j, List.getD, List.getElem?_eq_getElem hjk, Option.getD_some, hm]
    have h3 : (cs.toList.drop j)[0]? = some (Value.int .u8 k) := by
      have := congrArg (fun l : List Value => l[0]?) e1
      simpa using this
    simpa using h3
  exact ⟨World.block_lt_of_cell? W ⟨g, 0, none⟩ (hk 0 (by decide)), hk⟩
set_option maxRecDepth 100000 in
theorem of_laid1 {W : World} (h : laidMetH Tryz.prog laid1 W) : DTab W := by
  rw [MakeChecks.laidMetH_plain _ _ _ (by kernel_rfl)] at h
  obtain ⟨ps, ⟨g0, t0, cs0, f0, p0, q0, hg0, ht0, hv0, hd0, _⟩, _⟩ := h
  obtain rfl := Option.some.inj (gTab.symm.trans hg0)
  obtain rfl := Option.some.inj (tTab.symm.trans ht0)
  rw [lTab] at hd0
  exact tab_of hg0 hv0 hd0
/-- The door's own heap meets the condition. -/
theorem door_met1 (os : Os) (args : Array Value) : laidMetH Tryz.prog laid1 ((World.doorLaid Tryz.prog 400 os).forCall (fun _ _ => 0) ⟨#[], args, []⟩).memory :=
  laidMetH_of_parts3 (fuel := 8) (laidMet_of_run' 8 (by kernel_rfl) (by kernel_rfl)) (by kernel_rfl) (by kernel_rfl)

end Go.Proofs.YtlfcjjlgkcfkdaaGreatDoor

