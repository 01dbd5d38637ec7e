/-
  Arguments of stage 7 opened: a slice of steps whose words fit, a word, a byte; the condition on the library's table, opened; the heap that the program's own text leaves meets it. No conditions.
-/
import Derived.Test.YtonfmbnankihbaaDoorRows
import Derived.Test.YtonfmbnankihbaaDoorZ38
import Derived.Test.YtonfmbnankihbaaDoorZ19
import Derived.ProofKit
import Derived.LaidMore
import Derived.OpenShut
import Derived.ChangeSame
import Derived.Stop.Joined
namespace Go.Proofs.YtonfmbnankihbaaDoor
open Go.ChangeShapes Go.WideShapes Go.ChangeAt Go.WideMaps Go.WideElems Go.RowKit

def laid1 : List (String × DataW Unit) := [("math/bits.deBruijn64tab", Rows.laid_math_bits_deBruijn64tab)]
theorem Tryd.own : ownKnob Tryd.prog.godebug = none := by kernel_rfl
theorem Tryd.laidOut : laidOutB Tryd.prog = true := by kernel_rfl
theorem gTab : Tryd.prog.globalNamed "math/bits.deBruijn64tab" = some 0 := by kernel_rfl
theorem tTab : (Tryd.prog.globals[0]?).map (·.type) = some 79 := by kernel_rfl
theorem lTab : (Rows.laid_math_bits_deBruijn64tab : DataW Unit) = .agg (Lib.deBruijn64tab.map fun (x : Nat) => .lit (.int .u8 (x : Int))) := by rfl
theorem tab_of {enc : TypeId × Value → Unit} {W : World} {n : String} {g f B : Nat} {sp : Nat → Bool} {hd : Bool} {cs : Array Value} {ps : List MemPlace} (hg : Tryd.prog.globalNamed n = some g) (hv : World.var? Tryd.prog W n = some cs)
    (h : DataW.trod enc Tryd.prog W B sp hd f 79 cs.toList = some (.agg (Lib.deBruijn64tab.map fun (x : Nat) => .lit (.int .u8 (x : Int))), ps)) : g < W.heap.size ∧ ∀ j, j < 64 → W.cell? ⟨g, j, none⟩ = some (.int .u8 ((Lib.deBruijn64tab.getD j 0 : Nat) : Int)) := by
  obtain ⟨xs, m1, rfl, hx1, hlen, hn, hel⟩ := DataW.trod_array Tryd.underlying79 h
  have c1 : Tryd.prog.cellsOf 5 = 1 := by kernel_rfl
  have c64 : Tryd.prog.cellsOf 79 = 64 := by kernel_rfl
  rw [c64] at hlen
  simp only [Prod.mk.injEq, DataW.agg.injEq] at hx1
  have hk : ∀ j, j < 64 → W.cell? ⟨g, j, none⟩ = some (.int .u8 ((Lib.deBruijn64tab.getD j 0 : Nat) : Int)) := by
    intro j hj
    have h0 := hel j hj
    rw [c1, Nat.mul_one, List.getElem?_eq_getElem (show j < xs.length by omega)] at h0
    obtain ⟨k, e1, e2, _⟩ := DataW.trod_int Tryd.underlying5 h0
    have hm : (xs.map (·.1))[j]? = some (DataW.lit (.int .u8 k)) := by
      rw [List.getElem?_map, List.getElem?_eq_getElem (show j < xs.length by omega), e2]; rfl
    rw [← hx1.1, List.getElem?_map] at hm
    have hjk : j < Lib.deBruijn64tab.length := hj
    rw [List.getElem?_eq_getElem hjk] at hm
    simp only [Option.map_some, Option.some.injEq, DataW.lit.injEq, Lit.int.injEq, true_and] at hm
    rw [World.var?_cell hg hv j, List.getD, List.getElem?_eq_getElem hjk, Option.getD_some, hm]
    have h3 : (cs.toList.drop j)[0]? = some (Value.int .u8 k) := by
      have := congrArg (fun l : List Value => l[0]?) e1
      simpa using this
    simpa using h3
  exact ⟨World.block_lt_of_cell? W ⟨g, 0, none⟩ (hk 0 (by decide)), hk⟩
theorem of_laid1 {W : World} (h : laidMetH Tryd.prog laid1 W) : DTab W := by
  rw [MakeChecks.laidMetH_plain _ _ _ (by kernel_rfl)] at h
  obtain ⟨ps, ⟨g0, t0, cs0, f0, p0, q0, hg0, ht0, hv0, hd0, _⟩, _⟩ := h
  obtain rfl := Option.some.inj (gTab.symm.trans hg0)
  obtain rfl := Option.some.inj (tTab.symm.trans ht0)
  rw [lTab] at hd0
  exact tab_of hg0 hv0 hd0
/-- The door's own heap meets the condition. -/
theorem door_met1 (os : Os) (args : Array Value) : laidMetH Tryd.prog laid1 ((World.doorLaid Tryd.prog 400 os).forCall (fun _ _ => 0) ⟨#[], args, []⟩).memory :=
  laidMetH_of_parts3 (fuel := 8) (laidMet_of_run' 8 (by kernel_rfl) (by kernel_rfl)) (by kernel_rfl) (by kernel_rfl)

section
variable {H : Type} {enc : TypeId × Value → H} {W : World}
theorem fit_nil : Fit4 0 0 0 0 := ⟨by omega, by omega, by omega, by omega⟩
theorem stepF_of_trod (fuel : Nat) (cs : List Value) (x : DataW H × List MemPlace) (h : DataW.trod enc Tryd.prog W 0 (fun _ => true) true fuel 48 cs = some x) : ∃ s : St, cs = cells7 s ∧ Fit4 s.a s.b s.c s.d := by
  obtain ⟨xs, n, hn, _, hlen, hxl, hf⟩ := DataW.trod_struct Tryd.underlying48 h
  have hlen7 : cs.length = 7 := hlen.trans (by kernel_rfl)
  match cs, hlen7 with
  | [v0, v1, v2, v3, v4, v5, v6], _ =>
    have c3 : Tryd.prog.cellsOf 3 = 1 := by kernel_rfl
    have c4 : Tryd.prog.cellsOf 31 = 4 := by kernel_rfl
    have c1 : Tryd.prog.cellsOf 25 = 1 := by kernel_rfl
    have g0 := hf 0 _ rfl
    have g1 := hf 1 _ rfl
    have g2 := hf 2 _ rfl
    have g3 := hf 3 _ rfl
    have hx4 : xs.length = 4 := hxl
    match xs, hx4 with
    | [y0, y1, y2, y3], _ =>
      simp [c3] at g0
      simp [c4] at g1
      simp [c3] at g2
      simp [c3] at g3
      obtain ⟨op, rfl⟩ := int_of (show DataW.trod enc Tryd.prog W 0 (fun _ => true) true n 3 [v0] = some y0 from g0)
      obtain ⟨x, rfl⟩ := int_of (show DataW.trod enc Tryd.prog W 0 (fun _ => true) true n 3 [v5] = some y2 from g2)
      obtain ⟨y, rfl⟩ := int_of (show DataW.trod enc Tryd.prog W 0 (fun _ => true) true n 3 [v6] = some y3 from g3)
      obtain ⟨zs, m, hm, _, _, hzl, hz⟩ := DataW.trod_array Tryd.underlying31 (show DataW.trod enc Tryd.prog W 0 (fun _ => true) true n 31 [v1, v2, v3, v4] = some y1 from g1)
      simp only [c1] at hz
      match zs, hzl with
      | [z1, z2, z3, z4], _ =>
        obtain ⟨e1, f1⟩ := u64_of (show DataW.trod enc Tryd.prog W 0 (fun _ => true) true m 25 [v1] = some z1 from hz 0 (by omega))
        obtain ⟨e2, f2⟩ := u64_of (show DataW.trod enc Tryd.prog W 0 (fun _ => true) true m 25 [v2] = some z2 from hz 1 (by omega))
        obtain ⟨e3, f3⟩ := u64_of (show DataW.trod enc Tryd.prog W 0 (fun _ => true) true m 25 [v3] = some z3 from hz 2 (by omega))
        obtain ⟨e4, f4⟩ := u64_of (show DataW.trod enc Tryd.prog W 0 (fun _ => true) true m 25 [v4] = some z4 from hz 3 (by omega))
        exact ⟨⟨op, natV v1, natV v2, natV v3, natV v4, x, y⟩, by rw [e1, e2, e3, e4]; rfl, f1, f2, f3, f4⟩
theorem open_stepsF {base : Nat} {v : Value} {d : DataW H} {p : List MemPlace} (hv : Value.okWide Tryd.prog W .any base 22 v) (h : DataW.Trod enc Tryd.prog W 0 (fun _ => true) true 22 v d p) :
    ∃ (a : Option Addr) (cap : Nat) (l : List St), v = .slice a l.length cap ∧ l.length ≤ cap ∧ (a = none → cap = 0) ∧ IsSt W a l ∧ FitS l := by
  obtain ⟨a, len, cap, rfl⟩ := okWide_slice Tryd.underlying22 hv
  obtain ⟨fuel, hf⟩ := h
  have c7 : Tryd.prog.cellsOf 48 = 7 := by kernel_rfl
  rcases DataW.trod_slice Tryd.underlying22 hf with ⟨hcs, _⟩ | ⟨ad, len', cap', elems, rest, k, hk, hcs, _, _, hle, _, hel, hE, _⟩
  · simp [Value.cells] at hcs
    obtain ⟨rfl, rfl, rfl⟩ := hcs
    exact ⟨none, 0, [], rfl, Nat.le_refl _, fun _ => rfl, IsSt.nil _ _, fun k => fit_nil⟩
  · simp [Value.cells] at hcs
    obtain ⟨rfl, rfl, rfl⟩ := hcs
    simp only [c7] at hE
    have each : ∀ i, i < len → ∃ s : St, W.cells? 0 (ad.add (i * 7)) 7 = some (cells7 s) ∧ Fit4 s.a s.b s.c s.d := fun i hi => by
      have := hE i hi
      rw [List.getElem?_eq_getElem (by omega)] at this
      obtain ⟨cs', h1, h2⟩ := Option.bind_eq_some_iff.1 this
      obtain ⟨s, e, f⟩ := stepF_of_trod k cs' _ h2
      exact ⟨s, by rw [← e]; exact h1, f⟩
    obtain ⟨S, hS⟩ := choose_st each
    have hlen : ((List.range len).map S).length = len := by simp
    refine ⟨some ad, cap, (List.range len).map S, by rw [hlen], by rw [hlen]; exact hle, (fun e => by cases e), fun hp => ?_, fun i => ?_⟩
    rotate_left
    · by_cases hi : i < len
      · have e : nthS ((List.range len).map S) i = S i := by simp [nthS, List.getD, hi]
        rw [e]; exact (hS i hi).2
      · have e : nthS ((List.range len).map S) i = St.nil := by simp [nthS, List.getD, List.getElem?_eq_none (show ((List.range len).map S).length ≤ i by rw [hlen]; omega)]
        rw [e]; exact fit_nil
    rw [hlen] at hp
    have spot : ∃ blk off, ad = ⟨blk, off, none⟩ := by
      have h1 := (World.cells?_some (hS 0 hp).1).2.2 0 (by omega)
      have h2 : (cells7 (S 0))[0]? = some (cellS (S 0) 0) := cells7_get _ (by omega)
      rw [h2] at h1
      obtain ⟨blk, off, sp⟩ := ad
      have hspot : sp = none := by simpa [Addr.add] using World.cell?_spot h1
      subst hspot
      exact ⟨blk, off, rfl⟩
    obtain ⟨blk, off, rfl⟩ := spot
    refine ⟨blk, off, rfl, fun i j hi hj => ?_⟩
    rw [hlen] at hi
    have h1 := (World.cells?_some (hS i hi).1).2.2 j hj
    rw [addrN, addrN, cells7_get _ hj] at h1
    have e : nthS ((List.range len).map S) i = S i := by simp [nthS, List.getD, hi]
    rw [h1, e]
theorem open_u64n {base : Nat} {v : Value} {d : DataW H} {p : List MemPlace} (hv : Value.okWide Tryd.prog W .any base 25 v) (h : DataW.Trod enc Tryd.prog W 0 (fun _ => true) true 25 v d p) :
    ∃ x : Nat, v = .int .u64 (x : Int) ∧ x < 18446744073709551616 := by
  obtain ⟨z, rfl, _, _, hz⟩ := open_int Tryd.underlying25 hv h
  have := bounds_u64 hz
  exact ⟨z.toNat, by rw [Int.toNat_of_nonneg (by omega)], by omega⟩
theorem open_u8n {base : Nat} {v : Value} {d : DataW H} {p : List MemPlace} (hv : Value.okWide Tryd.prog W .any base 5 v) (h : DataW.Trod enc Tryd.prog W 0 (fun _ => true) true 5 v d p) :
    ∃ x : Nat, v = .int .u8 (x : Int) ∧ x < 256 := by
  obtain ⟨z, rfl, _, _, hz⟩ := open_int Tryd.underlying5 hv h
  have := bounds_u8 hz
  exact ⟨z.toNat, by rw [Int.toNat_of_nonneg (by omega)], by omega⟩
end
end Go.Proofs.YtonfmbnankihbaaDoor
