/-
  Arguments of stage 8 opened: a matcher, a slice of matchers, what is drawn for a matcher, a slice of that. No conditions.
-/
import Derived.Test.YtjmojjjgifkkiaaDoorYl
import Derived.Test.YtjmojjjgifkkiaaDoorZ29
import Derived.ProofKit
import Derived.LaidMore
import Derived.OpenShut
import Derived.ChangeSame
import Derived.Stop.Joined
namespace Go.Proofs.YtjmojjjgifkkiaaDoor
open Go.ChangeShapes Go.WideShapes Go.ChangeAt Go.WideMaps Go.WideElems Go.RowKit

section
variable {H : Type} {enc : TypeId × Value → H} {W : World}
set_option maxRecDepth 100000 in
theorem int_of8 {fuel : Nat} {v : Value} {x : DataW H × List MemPlace} (h : DataW.trod enc Tryd.prog W 0 (fun _ => true) true fuel 3 [v] = some x) : ∃ z : Int, v = .int .i64 z := by
  obtain ⟨z, e, _⟩ := DataW.trod_int Tryd.underlying3 h
  simp only [List.cons.injEq, and_true] at e
  exact ⟨z, e⟩
set_option maxRecDepth 100000 in
theorem string_of8 {fuel : Nat} {v : Value} {x : DataW H × List MemPlace} (h : DataW.trod enc Tryd.prog W 0 (fun _ => true) true fuel 9 [v] = some x) : ∃ s : ByteArray, v = .string s := by
  obtain ⟨s, e, _⟩ := DataW.trod_string Tryd.underlying9 h
  simp only [List.cons.injEq, and_true] at e
  exact ⟨s, e⟩
set_option maxRecDepth 100000 in
theorem mat_of_trod (fuel : Nat) (cs : List Value) (x : DataW H × List MemPlace) (h : DataW.trod enc Tryd.prog W 0 (fun _ => true) true fuel 26 cs = some x) : ∃ m : Mat, cs = [.int .i64 m.k, .string m.n, .string m.v] := by
  obtain ⟨xs, n, hn, _, hlen, hxl, hf⟩ := DataW.trod_struct Tryd.underlying26 h
  have hlen3 : cs.length = 3 := hlen.trans (by kernel_rfl)
  match cs, hlen3 with
  | [v0, v1, v2], _ =>
    have c3 : Tryd.prog.cellsOf 3 = 1 := by kernel_rfl
    have c9 : Tryd.prog.cellsOf 9 = 1 := by kernel_rfl
    have g0 := hf 0 _ rfl
    have g1 := hf 1 _ rfl
    have g2 := hf 2 _ rfl
    have hx3 : xs.length = 3 := hxl
    match xs, hx3 with
    | [y0, y1, y2], _ =>
      simp [c3] at g0
      simp [c9] at g1
      simp [c9] at g2
      obtain ⟨k, rfl⟩ := int_of8 (show DataW.trod enc Tryd.prog W 0 (fun _ => true) true n 3 [v0] = some y0 from g0)
      obtain ⟨a, rfl⟩ := string_of8 (show DataW.trod enc Tryd.prog W 0 (fun _ => true) true n 9 [v1] = some y1 from g1)
      obtain ⟨b, rfl⟩ := string_of8 (show DataW.trod enc Tryd.prog W 0 (fun _ => true) true n 9 [v2] = some y2 from g2)
      exact ⟨⟨k, a, b⟩, rfl⟩
set_option maxRecDepth 100000 in
theorem draw_of_trod (fuel : Nat) (cs : List Value) (x : DataW H × List MemPlace) (h : DataW.trod enc Tryd.prog W 0 (fun _ => true) true fuel 46 cs = some x) : ∃ m : Int × Int × Int, cs = [.int .i64 m.1, .int .i64 m.2.1, .int .i64 m.2.2] := by
  obtain ⟨xs, n, hn, _, hlen, hxl, hf⟩ := DataW.trod_struct Tryd.underlying46 h
  have hlen3 : cs.length = 3 := hlen.trans (by kernel_rfl)
  match cs, hlen3 with
  | [v0, v1, v2], _ =>
    have c3 : Tryd.prog.cellsOf 3 = 1 := by kernel_rfl
    have g0 := hf 0 _ rfl
    have g1 := hf 1 _ rfl
    have g2 := hf 2 _ rfl
    have hx3 : xs.length = 3 := hxl
    match xs, hx3 with
    | [y0, y1, y2], _ =>
      simp [c3] at g0
      simp [c3] at g1
      simp [c3] at g2
      obtain ⟨k, rfl⟩ := int_of8 (show DataW.trod enc Tryd.prog W 0 (fun _ => true) true n 3 [v0] = some y0 from g0)
      obtain ⟨a, rfl⟩ := int_of8 (show DataW.trod enc Tryd.prog W 0 (fun _ => true) true n 3 [v1] = some y1 from g1)
      obtain ⟨b, rfl⟩ := int_of8 (show DataW.trod enc Tryd.prog W 0 (fun _ => true) true n 3 [v2] = some y2 from g2)
      exact ⟨⟨k, a, b⟩, rfl⟩
theorem choose8 {α : Type} [Inhabited α] {n : Nat} {p : Nat → α → Prop} (h : ∀ i, i < n → ∃ t, p i t) : ∃ f : Nat → α, ∀ i, i < n → p i (f i) :=
  ⟨fun i => if hi : i < n then Classical.choose (h i hi) else default, fun i hi => by show p i (dite _ _ _); rw [dif_pos hi]; exact Classical.choose_spec (h i hi)⟩
theorem Mat.nth_range {n : Nat} (f : Nat → Mat) {j : Nat} (h : j < n) : Mat.nth ((List.range n).map f) j = f j := by simp [Mat.nth, List.getD, h]
theorem dnth_range {n : Nat} (f : Nat → Int × Int × Int) {j : Nat} (h : j < n) : dnth ((List.range n).map f) j = f j := by simp [dnth, List.getD, h]
set_option maxRecDepth 100000 in
theorem open_mat {base : Nat} {v : Value} {d : DataW H} {p : List MemPlace} (hv : Value.okWide Tryd.prog W .any base 26 v) (h : DataW.Trod enc Tryd.prog W 0 (fun _ => true) true 26 v d p) : ∃ m : Mat, v = .agg #[.int .i64 m.k, .string m.n, .string m.v] := by
  obtain ⟨fuel, hf⟩ := h
  unfold Value.okWide at hv
  rw [Tryd.underlying26] at hv
  obtain ⟨cs, rfl, _, _⟩ := hv
  obtain ⟨m, e⟩ := mat_of_trod fuel _ _ hf
  refine ⟨m, ?_⟩
  have : cs.toList = [.int .i64 m.k, .string m.n, .string m.v] := by simpa [Value.cells] using e
  obtain ⟨l⟩ := cs
  simp only at this
  subst this
  rfl
set_option maxRecDepth 100000 in
theorem open_draw {base : Nat} {v : Value} {d : DataW H} {p : List MemPlace} (hv : Value.okWide Tryd.prog W .any base 46 v) (h : DataW.Trod enc Tryd.prog W 0 (fun _ => true) true 46 v d p) : ∃ m : Int × Int × Int, v = .agg #[.int .i64 m.1, .int .i64 m.2.1, .int .i64 m.2.2] := by
  obtain ⟨fuel, hf⟩ := h
  unfold Value.okWide at hv
  rw [Tryd.underlying46] at hv
  obtain ⟨cs, rfl, _, _⟩ := hv
  obtain ⟨m, e⟩ := draw_of_trod fuel _ _ hf
  refine ⟨m, ?_⟩
  have : cs.toList = [.int .i64 m.1, .int .i64 m.2.1, .int .i64 m.2.2] := by simpa [Value.cells] using e
  obtain ⟨l⟩ := cs
  simp only at this
  subst this
  rfl
set_option maxRecDepth 100000 in
theorem open_mats {base : Nat} {v : Value} {d : DataW H} {p : List MemPlace} (hv : Value.okWide Tryd.prog W .any base 31 v) (h : DataW.Trod enc Tryd.prog W 0 (fun _ => true) true 31 v d p) :
    ∃ (a : Option Addr) (cap : Nat) (l : List Mat), v = .slice a l.length cap ∧ l.length ≤ cap ∧ (a = none → cap = 0) ∧ IsMats W a l := by
  obtain ⟨a, len, cap, rfl⟩ := okWide_slice Tryd.underlying31 hv
  obtain ⟨fuel, hf⟩ := h
  have c7 : Tryd.prog.cellsOf 26 = 3 := by kernel_rfl
  rcases DataW.trod_slice Tryd.underlying31 hf with ⟨hcs, _⟩ | ⟨ad, len', cap', elems, rest, k, hk, hcs, _, _, hle, _, hel, hE, _⟩
  · simp [Value.cells] at hcs
    obtain ⟨rfl, rfl, rfl⟩ := hcs
    exact ⟨none, 0, [], rfl, Nat.le_refl _, fun _ => rfl, IsMats.nil _ _⟩
  · simp [Value.cells] at hcs
    obtain ⟨rfl, rfl, rfl⟩ := hcs
    simp only [c7] at hE
    have each : ∀ i, i < len → ∃ m : Mat, W.cells? 0 (ad.add (i * 3)) 3 = some [.int .i64 m.k, .string m.n, .string m.v] := fun i hi => by
      have := hE i hi
      rw [List.getElem?_eq_getElem (by omega)] at this
      obtain ⟨cs', h1, h2⟩ := Option.bind_eq_some_iff.1 this
      obtain ⟨s, e⟩ := mat_of_trod k cs' _ h2
      exact ⟨s, by rw [← e]; exact h1⟩
    letI : Inhabited Mat := ⟨Mat.none0⟩
    obtain ⟨S, hS⟩ := choose8 each
    have hlen : ((List.range len).map S).length = len := by simp
    refine ⟨some ad, cap, (List.range len).map S, by rw [hlen], by rw [hlen]; exact hle, (fun e => by cases e), fun hp => ?_⟩
    rw [hlen] at hp
    have spot : ∃ blk off, ad = ⟨blk, off, none⟩ := by
      have h1 := (World.cells?_some (hS 0 hp)).2.2 0 (by omega)
      obtain ⟨blk, off, sp⟩ := ad
      have hspot : sp = none := by
        have h2 : W.cell? (((⟨blk, off, sp⟩ : Addr).add (0 * 3)).add 0) = some (.int .i64 (S 0).k) := h1
        simpa [Addr.add] using World.cell?_spot h2
      subst hspot
      exact ⟨blk, off, rfl⟩
    obtain ⟨blk, off, rfl⟩ := spot
    refine ⟨blk, off, rfl, fun i hi => ?_⟩
    rw [hlen] at hi
    have hc := (World.cells?_some (hS i hi)).2.2
    have h0 := hc 0 (by omega)
    have h1 := hc 1 (by omega)
    have h2 := hc 2 (by omega)
    rw [addr_addN, addr_addN] at h0 h1 h2
    rw [Mat.nth_range S hi]
    exact ⟨by simpa using h0, by simpa using h1, by simpa using h2⟩
set_option maxRecDepth 100000 in
theorem open_draws {base : Nat} {v : Value} {d : DataW H} {p : List MemPlace} (hv : Value.okWide Tryd.prog W .any base 33 v) (h : DataW.Trod enc Tryd.prog W 0 (fun _ => true) true 33 v d p) :
    ∃ (a : Option Addr) (cap : Nat) (l : List (Int × Int × Int)), v = .slice a l.length cap ∧ l.length ≤ maxLen ∧ (a = none → cap = 0) ∧ IsDraws W a l := by
  obtain ⟨a, len, cap, rfl⟩ := okWide_slice Tryd.underlying33 hv
  obtain ⟨fuel, hf⟩ := h
  have c7 : Tryd.prog.cellsOf 46 = 3 := by kernel_rfl
  rcases DataW.trod_slice Tryd.underlying33 hf with ⟨hcs, _⟩ | ⟨ad, len', cap', elems, rest, k, hk, hcs, _, _, hle, hmx, hel, hE, _⟩
  · simp [Value.cells] at hcs
    obtain ⟨rfl, rfl, rfl⟩ := hcs
    exact ⟨none, 0, [], rfl, Nat.zero_le _, fun _ => rfl, fun h => absurd h (by simp)⟩
  · simp [Value.cells] at hcs
    obtain ⟨rfl, rfl, rfl⟩ := hcs
    simp only [c7] at hE
    have each : ∀ i, i < len → ∃ m : Int × Int × Int, W.cells? 0 (ad.add (i * 3)) 3 = some [.int .i64 m.1, .int .i64 m.2.1, .int .i64 m.2.2] := fun i hi => by
      have := hE i hi
      rw [List.getElem?_eq_getElem (by omega)] at this
      obtain ⟨cs', h1, h2⟩ := Option.bind_eq_some_iff.1 this
      obtain ⟨s, e⟩ := draw_of_trod k cs' _ h2
      exact ⟨s, by rw [← e]; exact h1⟩
    obtain ⟨S, hS⟩ := choose8 each
    have hlen : ((List.range len).map S).length = len := by simp
    refine ⟨some ad, cap, (List.range len).map S, by rw [hlen], by rw [hlen]; exact Nat.le_trans hle hmx, (fun e => by cases e), fun hp => ?_⟩
    rw [hlen] at hp
    have spot : ∃ blk off, ad = ⟨blk, off, none⟩ := by
      have h1 := (World.cells?_some (hS 0 hp)).2.2 0 (by omega)
      obtain ⟨blk, off, sp⟩ := ad
      have hspot : sp = none := by
        have h2 : W.cell? (((⟨blk, off, sp⟩ : Addr).add (0 * 3)).add 0) = some (.int .i64 (S 0).1) := h1
        simpa [Addr.add] using World.cell?_spot h2
      subst hspot
      exact ⟨blk, off, rfl⟩
    obtain ⟨blk, off, rfl⟩ := spot
    refine ⟨blk, off, rfl, fun i hi => ?_⟩
    rw [hlen] at hi
    have hc := (World.cells?_some (hS i hi)).2.2
    have h0 := hc 0 (by omega)
    have h1 := hc 1 (by omega)
    have h2 := hc 2 (by omega)
    rw [addr_addN, addr_addN] at h0 h1 h2
    rw [dnth_range S hi]
    exact ⟨by simpa using h0, by simpa using h1, by simpa using h2⟩
end
end Go.Proofs.YtjmojjjgifkkiaaDoor
