/-
  An argument of pool's steps opened: a row of (give?, number). No conditions.
-/
import Derived.Test.YtaklabggojfijaaZb
import Derived.WalkKit
import Derived.ProofKit
import Derived.OpenShut
import Derived.ChangeOld
import Derived.ChangeSame
import Derived.Below
import Derived.Deep.Slices
namespace Go.Proofs.Ytaklabggojfijaa
open Go.RowKit

/-- A step: give back or take, a number. -/
abbrev GiveT := Bool × Int
def gvn (S : List GiveT) (j : Nat) : GiveT := S.getD j (false, 0)
/-- Steps that may be read. -/
def IsGives (w : World) (A : Option Addr) (S : List GiveT) : Prop := 0 < S.length → ∃ b off, A = some ⟨b, off, none⟩ ∧ ∀ j, j < S.length → w.cell? ⟨b, off + j * 2, none⟩ = some (.bool (gvn S j).1) ∧ w.cell? ⟨b, off + j * 2 + 1, none⟩ = some (.int .i64 (gvn S j).2)
theorem IsGives.below {w w' : World} {A : Option Addr} {S : List GiveT} (h : IsGives w A S) (hb : Below w.heap.size w w') : IsGives w' A S := fun hp => by
  obtain ⟨b, off, e, hc⟩ := h hp
  refine ⟨b, off, e, fun j hj => ?_⟩
  obtain ⟨h1, h2⟩ := hc j hj
  exact ⟨(hb.cell (World.block_lt_of_cell? w _ h1)).trans h1, (hb.cell (World.block_lt_of_cell? w _ h2)).trans h2⟩

section
open Go.ChangeShapes Go.WideShapes Go.ChangeAt Go.WideMaps Go.WideElems
variable {H : Type} {enc : TypeId × Value → H} {W : World}
theorem gv_choose {n : Nat} {p : Nat → GiveT → Prop} (h : ∀ i, i < n → ∃ t, p i t) : ∃ f : Nat → GiveT, ∀ i, i < n → p i (f i) :=
  ⟨fun i => if hi : i < n then Classical.choose (h i hi) else (false, 0), fun i hi => by show p i (dite _ _ _); rw [dif_pos hi]; exact Classical.choose_spec (h i hi)⟩
theorem gvn_range {n : Nat} (f : Nat → GiveT) {j : Nat} (h : j < n) : gvn ((List.range n).map f) j = f j := by simp [gvn, List.getD, h]
set_option maxRecDepth 100000 in
theorem give_of_trod (fuel : Nat) (cs : List Value) (x : DataW H × List MemPlace) (h : DataW.trod enc Try.prog W 0 (fun _ => true) true fuel 32 cs = some x) : ∃ m : GiveT, cs = [.bool m.1, .int .i64 m.2] := by
  obtain ⟨xs, n, hn, _, hlen, hxl, hf⟩ := DataW.trod_struct Try.underlying32 h
  have hlen2 : cs.length = 2 := hlen.trans (by kernel_rfl)
  match cs, hlen2 with
  | [v0, v1], _ =>
    have c3 : Try.prog.cellsOf 3 = 1 := by kernel_rfl
    have c4 : Try.prog.cellsOf 4 = 1 := by kernel_rfl
    have g0 := hf 0 _ rfl
    have g1 := hf 1 _ rfl
    have hx2 : xs.length = 2 := hxl
    match xs, hx2 with
    | [y0, y1], _ =>
      simp [c4] at g0
      simp [c3] at g1
      obtain ⟨k, e0, _⟩ := DataW.trod_bool Try.underlying4 (show DataW.trod enc Try.prog W 0 (fun _ => true) true n 4 [v0] = some y0 from g0)
      obtain ⟨a, e1, _⟩ := DataW.trod_int Try.underlying3 (show DataW.trod enc Try.prog W 0 (fun _ => true) true n 3 [v1] = some y1 from g1)
      simp only [List.cons.injEq, and_true] at e0 e1
      subst e0 e1
      exact ⟨(k, a), rfl⟩
set_option maxRecDepth 100000 in
theorem open_gives {base : Nat} {v : Value} {d : DataW H} {p : List MemPlace} (hv : Value.okWide Try.prog W .any base 29 v) (h : DataW.Trod enc Try.prog W 0 (fun _ => true) true 29 v d p) :
    ∃ (a : Option Addr) (cap : Nat) (l : List GiveT), v = .slice a l.length cap ∧ IsGives W a l := by
  obtain ⟨a, len, cap, rfl⟩ := okWide_slice Try.underlying29 hv
  obtain ⟨fuel, hf⟩ := h
  have c7 : Try.prog.cellsOf 32 = 2 := by kernel_rfl
  rcases DataW.trod_slice Try.underlying29 hf with ⟨hcs, _⟩ | ⟨ad, len', cap', elems, rest, k, hk, hcs, _, _, hle, hmx, hel, hE, _⟩
  · simp [Value.cells] at hcs
    obtain ⟨rfl, rfl, rfl⟩ := hcs
    exact ⟨none, 0, [], rfl, fun h => absurd h (by simp)⟩
  · simp [Value.cells] at hcs
    obtain ⟨rfl, rfl, rfl⟩ := hcs
    simp only [c7] at hE
    have each : ∀ i, i < len → ∃ m : GiveT, W.cells? 0 (ad.add (i * 2)) 2 = some [.bool m.1, .int .i64 m.2] := fun i hi => by
      have := hE i hi
      rw [List.getElem?_eq_getElem (by omega)] at this
      obtain ⟨cs', h1, h2⟩ := Option.bind_eq_some_iff.1 this
      obtain ⟨s, e⟩ := give_of_trod k cs' _ h2
      exact ⟨s, by rw [← e]; exact h1⟩
    obtain ⟨S, hS⟩ := gv_choose each
    have hlen : ((List.range len).map S).length = len := by simp
    refine ⟨some ad, cap, (List.range len).map S, by rw [hlen], fun hp => ?_⟩
    rw [hlen] at hp
    have spot : ∃ blk off, ad = ⟨blk, off, none⟩ := by
      have h1 := (World.cells?_some (hS 0 hp)).2.2 0 (by omega)
      obtain ⟨blk, off, sp⟩ := ad
      have hspot : sp = none := by
        have h2 : W.cell? (((⟨blk, off, sp⟩ : Addr).add (0 * 2)).add 0) = some (.bool (S 0).1) := h1
        simpa [Addr.add] using World.cell?_spot h2
      subst hspot
      exact ⟨blk, off, rfl⟩
    obtain ⟨blk, off, rfl⟩ := spot
    refine ⟨blk, off, rfl, fun i hi => ?_⟩
    rw [hlen] at hi
    have hc := (World.cells?_some (hS i hi)).2.2
    have h0 := hc 0 (by omega)
    have h1 := hc 1 (by omega)
    rw [addr_addNZ, addr_addNZ] at h0 h1
    rw [gvn_range S hi]
    exact ⟨by simpa using h0, by simpa using h1⟩
end
end Go.Proofs.Ytaklabggojfijaa
