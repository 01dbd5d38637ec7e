/-
  An argument of the law's steps opened. No conditions.
-/
import Derived.Test.YtlfcjjlgkcfkdaaGreatDoorDl
import Derived.Test.YtlfcjjlgkcfkdaaGreatDoorZ28
import Derived.Deep.Slices
namespace Go.Proofs.YtlfcjjlgkcfkdaaGreatDoor
open Go.ChangeShapes Go.WideShapes Go.ChangeAt Go.WideMaps Go.WideElems Go.RowKit

section
variable {H : Type} {enc : TypeId × Value → H} {W : World}
set_option maxRecDepth 100000 in
theorem ints_of10 {fuel : Nat} {v : Value} {x : DataW H × List MemPlace} (hf : DataW.trod enc Tryz.prog W 0 (fun _ => true) true fuel 29 [v] = some x) : ∃ (a : Option Addr) (zs : List Int) (cap : Nat), v = .slice a zs.length cap ∧ IsInts W a zs := by
  rcases Go.Deep.open_slice1 Tryz.underlying29 (by kernel_rfl) hf with ⟨hcs, _⟩ | ⟨x, n, c, m, k, V, D, Pl, hcs, _, hl, hm, hmm, _, hx⟩
  · simp only [List.cons.injEq, and_true] at hcs
    exact ⟨none, [], 0, hcs, fun hp => absurd hp (by simp)⟩
  · simp only [List.cons.injEq, and_true] at hcs
    subst hcs
    obtain rfl : m = c := by simpa using hmm
    have each : ∀ i, i < n → V i = .int .i64 (intV (V i)) := fun i hi => by
      obtain ⟨s0, e0, _⟩ := DataW.trod_int Tryz.underlying3 (hx i (by omega)).2
      simp only [List.cons.injEq, and_true] at e0
      rw [e0]
      rfl
    have hlen : ((List.range n).map fun i => intV (V i)).length = n := by simp
    refine ⟨some x, (List.range n).map fun i => intV (V i), m, by rw [hlen], fun hp => ?_⟩
    rw [hlen] at hp
    have hc := (hx 0 (by omega)).1
    obtain ⟨b, off, spot⟩ := x
    have hspot : spot = none := by simpa [Addr.add] using World.cell?_spot hc
    subst hspot
    refine ⟨b, off, rfl, fun j hj => ?_⟩
    have hj' : j < n := by rw [hlen] at hj; exact hj
    have hcj := (hx j (by omega)).1
    rw [addr_addN, each j hj'] at hcj
    rw [hcj]
    simp [hj']
set_option maxRecDepth 100000 in
theorem stp_of_trod (fuel : Nat) (cs : List Value) (x : DataW H × List MemPlace) (h : DataW.trod enc Tryz.prog W 0 (fun _ => true) true fuel 74 cs = some x) : ∃ m : StpC, cs = [.bool m.1, .int .i64 m.2.1, m.2.2] ∧ GoodT W m := by
  obtain ⟨xs, n, hn, _, hlen, hxl, hf⟩ := DataW.trod_struct Tryz.underlying74 h
  have hlen3 : cs.length = 3 := hlen.trans (by kernel_rfl)
  match cs, hlen3 with
  | [v0, v1, v2], _ =>
    have c3 : Tryz.prog.cellsOf 3 = 1 := by kernel_rfl
    have c4 : Tryz.prog.cellsOf 4 = 1 := by kernel_rfl
    have c9 : Tryz.prog.cellsOf 29 = 1 := by kernel_rfl
    have g0 := hf 0 _ rfl
    have g1 := hf 1 _ rfl
    have g2 := hf 2 _ rfl
    have hx3 : xs.length = 3 := hxl
    match xs, hx3 with
    | [y0, y1, y2], _ =>
      simp [c4] at g0
      simp [c3] at g1
      simp [c9] at g2
      obtain ⟨k, e0, _⟩ := DataW.trod_bool Tryz.underlying4 (show DataW.trod enc Tryz.prog W 0 (fun _ => true) true n 4 [v0] = some y0 from g0)
      obtain ⟨a, e1, _, hw⟩ := DataW.trod_int Tryz.underlying3 (show DataW.trod enc Tryz.prog W 0 (fun _ => true) true n 3 [v1] = some y1 from g1)
      obtain ⟨A, zs, c, e2, hi⟩ := ints_of10 (show DataW.trod enc Tryz.prog W 0 (fun _ => true) true n 29 [v2] = some y2 from g2)
      simp only [List.cons.injEq, and_true] at e0 e1
      subst e0 e1 e2
      exact ⟨(k, a, .slice A zs.length c), rfl, hw, A, zs, c, rfl, hi⟩
instance : Inhabited StpC := ⟨(false, 0, .slice none 0 0)⟩
theorem stn_range {n : Nat} (f : Nat → StpC) {j : Nat} (h : j < n) : stn ((List.range n).map f) j = f j := by simp [stn, List.getD, h]
set_option maxRecDepth 100000 in
theorem open_stps {base : Nat} {v : Value} {d : DataW H} {p : List MemPlace} (hv : Value.okWide Tryz.prog W .any base 36 v) (h : DataW.Trod enc Tryz.prog W 0 (fun _ => true) true 36 v d p) :
    ∃ (a : Option Addr) (cap : Nat) (l : List StpC), v = .slice a l.length cap ∧ StepsR W a l := by
  obtain ⟨a, len, cap, rfl⟩ := okWide_slice Tryz.underlying36 hv
  obtain ⟨fuel, hf⟩ := h
  have c7 : Tryz.prog.cellsOf 74 = 3 := by kernel_rfl
  rcases DataW.trod_slice Tryz.underlying36 hf with ⟨hcs, _⟩ | ⟨ad, len', cap', elems, rest, k, hk, hcs, _, _, hle, hmx, hel, hE, _⟩
  · simp [Value.cells] at hcs
    obtain ⟨rfl, rfl, rfl⟩ := hcs
    exact ⟨none, 0, [], rfl, fun h => absurd h (by simp), fun p hp => by cases hp⟩
  · simp [Value.cells] at hcs
    obtain ⟨rfl, rfl, rfl⟩ := hcs
    simp only [c7] at hE
    have each : ∀ i, i < len → ∃ m : StpC, W.cells? 0 (ad.add (i * 3)) 3 = some [.bool m.1, .int .i64 m.2.1, m.2.2] ∧ GoodT W m := fun i hi => by
      have := hE i hi
      rw [List.getElem?_eq_getElem (by omega)] at this
      obtain ⟨cs', h1, h2⟩ := Option.bind_eq_some_iff.1 this
      obtain ⟨s, e, hg⟩ := stp_of_trod k cs' _ h2
      exact ⟨s, by rw [← e]; exact h1, hg⟩
    obtain ⟨S, hS⟩ := choose8 each
    have hlen : ((List.range len).map S).length = len := by simp
    refine ⟨some ad, cap, (List.range len).map S, by rw [hlen], fun hp => ?_, fun p hp => ?_⟩
    · rw [hlen] at hp
      have spot : ∃ blk off, ad = ⟨blk, off, none⟩ := by
        have h1 := (World.cells?_some (hS 0 hp).1).2.2 0 (by omega)
        obtain ⟨blk, off, sp⟩ := ad
        have hspot : sp = none := by
          have h2 : W.cell? (((⟨blk, off, sp⟩ : Addr).add (0 * 3)).add 0) = some (.bool (S 0).1) := h1
          simpa [Addr.add] using World.cell?_spot h2
        subst hspot
        exact ⟨blk, off, rfl⟩
      obtain ⟨blk, off, rfl⟩ := spot
      refine ⟨blk, off, rfl, fun i hi => ?_⟩
      rw [hlen] at hi
      have hc := (World.cells?_some (hS i hi).1).2.2
      have h0 := hc 0 (by omega)
      have h1 := hc 1 (by omega)
      have h2 := hc 2 (by omega)
      rw [addr_addN, addr_addN] at h0 h1 h2
      rw [stn_range S hi]
      exact ⟨by simpa using h0, by simpa using h1, by simpa using h2⟩
    · obtain ⟨i, hi, rfl⟩ := List.mem_map.1 hp
      exact (hS i (by simpa using hi)).2
end
end Go.Proofs.YtlfcjjlgkcfkdaaGreatDoor
