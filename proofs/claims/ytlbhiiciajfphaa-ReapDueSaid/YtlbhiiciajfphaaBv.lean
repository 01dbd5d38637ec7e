/-
  Arguments opened: a row of reap's steps (kind, id, time); rows of ints and of times. No conditions.
-/
import Derived.Test.YtlbhiiciajfphaaIa
import Derived.WalkKit
import Derived.ProofKit
import Derived.OpenShut
import Derived.ChangeOld
import Derived.ChangeSame
import Derived.Below
import Derived.Deep.Slices
namespace Go.Proofs.Ytlbhiiciajfphaa
open Go.RowKit

/-- The slice at address A reads as these times. -/
def IsU (w : World) (A : Option Addr) (l : List Int) : Prop := 0 < l.length → ∃ b off, A = some ⟨b, off, none⟩ ∧ ∀ j, j < l.length → w.cell? ⟨b, off + j, none⟩ = some (.int .u64 (l.getD j 0))
theorem IsU.below {w w' : World} {A : Option Addr} {l : List Int} (h : IsU w A l) (hb : Below w.heap.size w w') : IsU w' A l := fun hp => by
  obtain ⟨b, off, e, hc⟩ := h hp
  exact ⟨b, off, e, fun j hj => (hb.cell (World.block_lt_of_cell? w _ (hc j hj))).trans (hc j hj)⟩
section
open Go.ChangeShapes Go.WideShapes
variable {H : Type} {enc : TypeId × Value → H} {W : World} {base : Nat} {v : Value} {d : DataW H} {p : List MemPlace}
theorem addr_addNZ (b off j : Nat) : (⟨b, off, none⟩ : Addr).add j = ⟨b, off + j, none⟩ := by
  unfold Addr.add
  split <;> simp_all
def intZ : Value → Int
  | .int _ z => z
  | _ => 0
set_option maxRecDepth 100000 in
theorem open_z (hv : Value.okWide Try.prog W .any base 30 v) (h : DataW.Trod enc Try.prog W 0 (fun _ => true) true 30 v d p) :
    ∃ (a : Option Addr) (cap : Nat) (l : List Int), v = .slice a l.length cap ∧ l.length ≤ cap ∧ (a = none → cap = 0) ∧ IsZ W a l := by
  obtain ⟨a, len, cap, rfl⟩ := okWide_slice Try.underlying30 hv
  obtain ⟨fuel, hf⟩ := h
  rcases Go.Deep.open_slice1 Try.underlying30 (by kernel_rfl) hf with ⟨hcs, _⟩ | ⟨x, n, c, m, k, V, D, Pl, hcs, _, hl, hm, hmm, _, hx⟩
  · simp [Value.cells] at hcs
    obtain ⟨rfl, rfl, rfl⟩ := hcs
    exact ⟨none, 0, [], rfl, Nat.le_refl _, fun _ => rfl, fun hp => absurd hp (by simp)⟩
  · simp [Value.cells] at hcs
    obtain ⟨rfl, rfl, rfl⟩ := hcs
    obtain rfl : m = cap := by simpa using hmm
    have each : ∀ i, i < len → V i = .int .i64 (intZ (V i)) := fun i hi => by
      obtain ⟨s0, e0, _⟩ := DataW.trod_int Try.underlying3 (hx i (by omega)).2
      simp only [List.cons.injEq, and_true] at e0
      rw [e0]
      rfl
    have hlen : ((List.range len).map fun i => intZ (V i)).length = len := by simp
    refine ⟨some x, m, (List.range len).map fun i => intZ (V i), by rw [hlen], by omega, (fun e => by cases e), fun hp => ?_⟩
    rw [hlen] at hp
    have hc := (hx 0 (by omega)).1
    obtain ⟨b, off, spot⟩ := x
    have hspot : spot = none := by simpa [Addr.add] using World.cell?_spot hc
    subst hspot
    refine ⟨b, off, rfl, fun j hj => ?_⟩
    have hj' : j < len := by rw [hlen] at hj; exact hj
    have hcj := (hx j (by omega)).1
    rw [addr_addNZ, each j hj'] at hcj
    rw [hcj]
    simp [hj']
set_option maxRecDepth 100000 in
theorem open_us (hv : Value.okWide Try.prog W .any base 46 v) (h : DataW.Trod enc Try.prog W 0 (fun _ => true) true 46 v d p) :
    ∃ (a : Option Addr) (cap : Nat) (l : List Int), v = .slice a l.length cap ∧ l.length ≤ cap ∧ (a = none → cap = 0) ∧ IsU W a l := by
  obtain ⟨a, len, cap, rfl⟩ := okWide_slice Try.underlying46 hv
  obtain ⟨fuel, hf⟩ := h
  rcases Go.Deep.open_slice1 Try.underlying46 (by kernel_rfl) hf with ⟨hcs, _⟩ | ⟨x, n, c, m, k, V, D, Pl, hcs, _, hl, hm, hmm, _, hx⟩
  · simp [Value.cells] at hcs
    obtain ⟨rfl, rfl, rfl⟩ := hcs
    exact ⟨none, 0, [], rfl, Nat.le_refl _, fun _ => rfl, fun hp => absurd hp (by simp)⟩
  · simp [Value.cells] at hcs
    obtain ⟨rfl, rfl, rfl⟩ := hcs
    obtain rfl : m = cap := by simpa using hmm
    have each : ∀ i, i < len → V i = .int .u64 (intZ (V i)) := fun i hi => by
      obtain ⟨s0, e0, _⟩ := DataW.trod_int Try.underlying25 (hx i (by omega)).2
      simp only [List.cons.injEq, and_true] at e0
      rw [e0]
      rfl
    have hlen : ((List.range len).map fun i => intZ (V i)).length = len := by simp
    refine ⟨some x, m, (List.range len).map fun i => intZ (V i), by rw [hlen], by omega, (fun e => by cases e), fun hp => ?_⟩
    rw [hlen] at hp
    have hc := (hx 0 (by omega)).1
    obtain ⟨b, off, spot⟩ := x
    have hspot : spot = none := by simpa [Addr.add] using World.cell?_spot hc
    subst hspot
    refine ⟨b, off, rfl, fun j hj => ?_⟩
    have hj' : j < len := by rw [hlen] at hj; exact hj
    have hcj := (hx j (by omega)).1
    rw [addr_addNZ, each j hj'] at hcj
    rw [hcj]
    simp [hj']
end
/-- A step: its kind, an id, a time. -/
abbrev StT := Int × Int × Int
def stn (S : List StT) (j : Nat) : StT := S.getD j (0, 0, 0)
/-- Steps that may be read. -/
def IsStps (w : World) (A : Option Addr) (S : List StT) : Prop := 0 < S.length → ∃ b off, A = some ⟨b, off, none⟩ ∧ ∀ j, j < S.length → w.cell? ⟨b, off + j * 3, none⟩ = some (.int .u8 (stn S j).1) ∧ w.cell? ⟨b, off + j * 3 + 1, none⟩ = some (.int .i64 (stn S j).2.1) ∧ w.cell? ⟨b, off + j * 3 + 2, none⟩ = some (.int .u64 (stn S j).2.2)
theorem IsStps.below {w w' : World} {A : Option Addr} {S : List StT} (h : IsStps w A S) (hb : Below w.heap.size w w') : IsStps w' A S := fun hp => by
  obtain ⟨b, off, e, hc⟩ := h hp
  refine ⟨b, off, e, fun j hj => ?_⟩
  obtain ⟨h1, h2, h3⟩ := hc j hj
  exact ⟨(hb.cell (World.block_lt_of_cell? w _ h1)).trans h1, (hb.cell (World.block_lt_of_cell? w _ h2)).trans h2, (hb.cell (World.block_lt_of_cell? w _ h3)).trans h3⟩

section
open Go.ChangeShapes Go.WideShapes Go.ChangeAt Go.WideMaps Go.WideElems
variable {H : Type} {enc : TypeId × Value → H} {W : World}
theorem st_choose {n : Nat} {p : Nat → StT → Prop} (h : ∀ i, i < n → ∃ t, p i t) : ∃ f : Nat → StT, ∀ i, i < n → p i (f i) :=
  ⟨fun i => if hi : i < n then Classical.choose (h i hi) else (0, 0, 0), fun i hi => by show p i (dite _ _ _); rw [dif_pos hi]; exact Classical.choose_spec (h i hi)⟩
theorem stn_range {n : Nat} (f : Nat → StT) {j : Nat} (h : j < n) : stn ((List.range n).map f) j = f j := by simp [stn, List.getD, h]
set_option maxRecDepth 100000 in
theorem stp_of_trod (fuel : Nat) (cs : List Value) (x : DataW H × List MemPlace) (h : DataW.trod enc Try.prog W 0 (fun _ => true) true fuel 40 cs = some x) : ∃ m : StT, cs = [.int .u8 m.1, .int .i64 m.2.1, .int .u64 m.2.2] := by
  obtain ⟨xs, n, hn, _, hlen, hxl, hf⟩ := DataW.trod_struct Try.underlying40 h
  have hlen2 : cs.length = 3 := hlen.trans (by kernel_rfl)
  match cs, hlen2 with
  | [v0, v1, v2], _ =>
    have c5 : Try.prog.cellsOf 5 = 1 := by kernel_rfl
    have c3 : Try.prog.cellsOf 3 = 1 := by kernel_rfl
    have c25 : Try.prog.cellsOf 25 = 1 := by kernel_rfl
    have g0 := hf 0 _ rfl
    have g1 := hf 1 _ rfl
    have g2 := hf 2 _ rfl
    have hx2 : xs.length = 3 := hxl
    match xs, hx2 with
    | [y0, y1, y2], _ =>
      simp [c5] at g0
      simp [c3] at g1
      simp [c25] at g2
      obtain ⟨k, e0, _⟩ := DataW.trod_int Try.underlying5 (show DataW.trod enc Try.prog W 0 (fun _ => true) true n 5 [v0] = some y0 from g0)
      obtain ⟨a, e1, _⟩ := DataW.trod_int Try.underlying3 (show DataW.trod enc Try.prog W 0 (fun _ => true) true n 3 [v1] = some y1 from g1)
      obtain ⟨d, e2, _⟩ := DataW.trod_int Try.underlying25 (show DataW.trod enc Try.prog W 0 (fun _ => true) true n 25 [v2] = some y2 from g2)
      simp only [List.cons.injEq, and_true] at e0 e1 e2
      subst e0 e1 e2
      exact ⟨(k, a, d), rfl⟩
set_option maxRecDepth 100000 in
theorem open_stps {base : Nat} {v : Value} {d : DataW H} {p : List MemPlace} (hv : Value.okWide Try.prog W .any base 33 v) (h : DataW.Trod enc Try.prog W 0 (fun _ => true) true 33 v d p) :
    ∃ (a : Option Addr) (cap : Nat) (l : List StT), v = .slice a l.length cap ∧ IsStps W a l := by
  obtain ⟨a, len, cap, rfl⟩ := okWide_slice Try.underlying33 hv
  obtain ⟨fuel, hf⟩ := h
  have c7 : Try.prog.cellsOf 40 = 3 := by kernel_rfl
  rcases DataW.trod_slice Try.underlying33 hf with ⟨hcs, _⟩ | ⟨ad, len', cap', elems, rest, k, hk, hcs, _, _, hle, hmx, hel, hE, _⟩
  · simp [Value.cells] at hcs
    obtain ⟨rfl, rfl, rfl⟩ := hcs
    exact ⟨none, 0, [], rfl, fun h => absurd h (by simp)⟩
  · simp [Value.cells] at hcs
    obtain ⟨rfl, rfl, rfl⟩ := hcs
    simp only [c7] at hE
    have each : ∀ i, i < len → ∃ m : StT, W.cells? 0 (ad.add (i * 3)) 3 = some [.int .u8 m.1, .int .i64 m.2.1, .int .u64 m.2.2] := fun i hi => by
      have := hE i hi
      rw [List.getElem?_eq_getElem (by omega)] at this
      obtain ⟨cs', h1, h2⟩ := Option.bind_eq_some_iff.1 this
      obtain ⟨s, e⟩ := stp_of_trod k cs' _ h2
      exact ⟨s, by rw [← e]; exact h1⟩
    obtain ⟨S, hS⟩ := st_choose each
    have hlen : ((List.range len).map S).length = len := by simp
    refine ⟨some ad, cap, (List.range len).map S, by rw [hlen], fun hp => ?_⟩
    rw [hlen] at hp
    have spot : ∃ blk off, ad = ⟨blk, off, none⟩ := by
      have h1 := (World.cells?_some (hS 0 hp)).2.2 0 (by omega)
      obtain ⟨blk, off, sp⟩ := ad
      have hspot : sp = none := by
        have h2 : W.cell? (((⟨blk, off, sp⟩ : Addr).add (0 * 3)).add 0) = some (.int .u8 (S 0).1) := h1
        simpa [Addr.add] using World.cell?_spot h2
      subst hspot
      exact ⟨blk, off, rfl⟩
    obtain ⟨blk, off, rfl⟩ := spot
    refine ⟨blk, off, rfl, fun i hi => ?_⟩
    rw [hlen] at hi
    have hc := (World.cells?_some (hS i hi)).2.2
    have h0 := hc 0 (by omega)
    have h1 := hc 1 (by omega)
    have h2 := hc 2 (by omega)
    rw [addr_addNZ, addr_addNZ] at h0 h1 h2
    rw [stn_range S hi]
    exact ⟨by simpa using h0, by simpa using h1, by simpa using h2⟩
end
end Go.Proofs.Ytlbhiiciajfphaa
