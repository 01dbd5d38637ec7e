/-
  The condition on the listed variables, opened: the two tables of constants lie in their variables; the heap that the program's own text leaves meets the condition. No conditions.
-/
import Derived.Test.YtolokcmlpecpdaaDoorRows
import Derived.Test.YtolokcmlpecpdaaDoorPf
import Derived.ProofKit
import Derived.LaidMore
import Derived.OpenShut
import Derived.Stop.Joined
namespace Go.Proofs.YtolokcmlpecpdaaDoor
open Go.ChangeShapes Go.WideShapes Go.ChangeAt Go.WideMaps Go.WideElems Go.RowKit

def laid1 : List (String × DataW Unit) := [("sordine/sha.cubeRoots", Rows.laid_sordine_sha_cubeRoots)]
def laid2 : List (String × DataW Unit) := [("sordine/sha.cubeRoots", Rows.laid_sordine_sha_cubeRoots), ("sordine/sordineref1.k", Rows.laid_sordine_sordineref1_k)]
theorem Tryd.own : ownKnob Tryd.prog.godebug = none := by kernel_rfl
theorem gOwn : Tryd.prog.globalNamed "sordine/sha.cubeRoots" = some 0 := by kernel_rfl
theorem gRef : Tryd.prog.globalNamed "sordine/sordineref1.k" = some 1 := by kernel_rfl
theorem tOwn : (Tryd.prog.globals[0]?).map (·.type) = some 38 := by kernel_rfl
theorem tRef : (Tryd.prog.globals[1]?).map (·.type) = some 38 := by kernel_rfl

theorem ks_own : (Rows.laid_sordine_sha_cubeRoots : DataW Unit) = .agg (Sm.ks.map fun x => .lit (.int .u32 (wi x))) := by rfl
theorem ks_ref : (Rows.laid_sordine_sordineref1_k : DataW Unit) = .agg (Sm.ks.map fun x => .lit (.int .u32 (wi x))) := by rfl

theorem tab_of {enc : TypeId × Value → Unit} {W : World} {n : String} {g f B : Nat} {sp : Nat → Bool} {hd : Bool} {cs : Array Value} {ps : List MemPlace} (hg : Tryd.prog.globalNamed n = some g) (hv : World.var? Tryd.prog W n = some cs)
    (h : DataW.trod enc Tryd.prog W B sp hd f 38 cs.toList = some (.agg (Sm.ks.map fun x => .lit (.int .u32 (wi x))), ps)) : KTab W g := by
  obtain ⟨xs, m1, rfl, hx1, hlen, hn, hel⟩ := DataW.trod_array Tryd.underlying38 h
  have c1 : Tryd.prog.cellsOf 28 = 1 := by kernel_rfl
  have c64 : Tryd.prog.cellsOf 38 = 64 := by kernel_rfl
  rw [c64] at hlen
  simp only [Prod.mk.injEq, DataW.agg.injEq] at hx1
  have hk : ∀ j, j < 64 → W.cell? ⟨g, j, none⟩ = some (.int .u32 (wi (Sm.ks.getD j 0))) := by
    intro j hj
    have h0 := hel j hj
    rw [c1, Nat.mul_one, List.getElem?_eq_getElem (show j < xs.length by omega)] at h0
    obtain ⟨k, e1, e2, _⟩ := DataW.trod_int Tryd.underlying28 h0
    have hm : (xs.map (·.1))[j]? = some (DataW.lit (.int .u32 k)) := by
      rw [List.getElem?_map, List.getElem?_eq_getElem (show j < xs.length by omega), e2]; rfl
    rw [← hx1.1, List.getElem?_map] at hm
    have hjk : j < Sm.ks.length := hj
    rw [List.getElem?_eq_getElem hjk] at hm
    simp only [Option.map_some, Option.some.injEq, DataW.lit.injEq, Lit.int.injEq, true_and] at hm
    rw [World.var?_cell hg hv j, List.getD, List.getElem?_eq_getElem hjk, Option.getD_some, hm]
    have h3 : (cs.toList.drop j)[0]? = some (Value.int .u32 k) := by
      have := congrArg (fun l : List Value => l[0]?) e1
      simpa using this
    simpa using h3
  exact ⟨World.block_lt_of_cell? W ⟨g, 0, none⟩ (hk 0 (by decide)), hk⟩

theorem of_laid1 {W : World} (h : laidMetH Tryd.prog laid1 W) : KTab W 0 := by
  rw [MakeChecks.laidMetH_plain _ _ _ (by kernel_rfl)] at h
  obtain ⟨ps, ⟨g0, t0, cs0, f0, p0, q0, hg0, ht0, hv0, hd0, _⟩, _⟩ := h
  obtain rfl := Option.some.inj (gOwn.symm.trans hg0)
  obtain rfl := Option.some.inj (tOwn.symm.trans ht0)
  rw [ks_own] at hd0
  exact tab_of hg0 hv0 hd0
theorem of_laid2 {W : World} (h : laidMetH Tryd.prog laid2 W) : KTab W 0 ∧ KTab W 1 := by
  rw [MakeChecks.laidMetH_plain _ _ _ (by kernel_rfl)] at h
  obtain ⟨ps, ⟨g0, t0, cs0, f0, p0, q0, hg0, ht0, hv0, hd0, ⟨g1, t1, cs1, f1, p1, q1, hg1, ht1, hv1, hd1, _⟩, _⟩, _⟩ := h
  obtain rfl := Option.some.inj (gOwn.symm.trans hg0)
  obtain rfl := Option.some.inj (tOwn.symm.trans ht0)
  obtain rfl := Option.some.inj (gRef.symm.trans hg1)
  obtain rfl := Option.some.inj (tRef.symm.trans ht1)
  rw [ks_own] at hd0
  rw [ks_ref] at hd1
  exact ⟨tab_of hg0 hv0 hd0, tab_of hg1 hv1 hd1⟩

/-- The door's own heap meets the condition. -/
theorem door_met1 (os : Os) (args : Array Value) : laidMetH Tryd.prog laid1 ((World.doorLaid Tryd.prog 400 os).forCall (fun _ _ => 0) ⟨#[], args, []⟩).memory :=
  laidMetH_of_parts3 (fuel := 8) (laidMet_of_run' 8 (by kernel_rfl) (by kernel_rfl)) (by kernel_rfl) (by kernel_rfl)
theorem door_met2 (os : Os) (args : Array Value) : laidMetH Tryd.prog laid2 ((World.doorLaid Tryd.prog 400 os).forCall (fun _ _ => 0) ⟨#[], args, []⟩).memory :=
  laidMetH_of_parts3 (fuel := 8) (laidMet_of_run' 8 (by kernel_rfl) (by kernel_rfl)) (by kernel_rfl) (by kernel_rfl)
end Go.Proofs.YtolokcmlpecpdaaDoor
