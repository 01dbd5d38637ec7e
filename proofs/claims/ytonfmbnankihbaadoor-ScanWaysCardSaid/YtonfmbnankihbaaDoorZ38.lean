/-
  Arguments of stage 5 opened: a tree. No condition.
  Arguments of stage 6 opened: a slice of steps. No condition.
  RexTrees as a contract: whether any tree may be, and where its matches end. No conditions.
-/
import Derived.Test.YtonfmbnankihbaaDoorProg
import Derived.Test.YtonfmbnankihbaaDoorZ01
import Derived.Test.YtonfmbnankihbaaDoorZ03
import Derived.Test.YtonfmbnankihbaaDoorZ08
import Derived.Test.YtonfmbnankihbaaDoorZ06
import Derived.Test.YtonfmbnankihbaaDoorZ07
import Derived.Test.YtonfmbnankihbaaDoorZ09
import Derived.Test.YtonfmbnankihbaaDoorZ11
import Derived.Test.YtonfmbnankihbaaDoorZ12
import Derived.Test.YtonfmbnankihbaaDoorZ16
import Derived.Test.YtonfmbnankihbaaDoorZ30
import Derived.OpenShut
import Derived.Laws.MakeOwn
import Derived.Laws.OwnMore
import Derived.OwnWalk
import Derived.WalkKit
import Derived.WalkSpells
import Derived.WalkLawsBesides
import Derived.Lib.Hide
import Derived.Below
import Derived.BigQuiet
import Derived.Lib.QuietBelow
import Derived.Laws.StructEq
import Derived.KernelRfl
import Derived.Laws.AppendOwn
import Derived.Deep.RegionHeld3
import Derived.Laws.CopyOwn
import Derived.StillTailTactics
import Derived.Deep.LoopGhost
import Derived.Maps.AppendAt
import Derived.Deep.QuietTactic
import Derived.Lib.Bytealg
import Derived.Laws.Externs
import Derived.Laws.ResultCell
import Derived.Deep.MidRow
import Derived.Deep.Upon
namespace Go.Proofs.YtonfmbnankihbaaDoor
open Go.ChangeShapes Go.WideShapes Go.RowKit

section
variable {H : Type} {enc : TypeId × Value → H} {W : World}

def natV : Value → Nat
  | .int _ n => n.toNat
  | _ => 0
theorem u64_of {fuel : Nat} {v : Value} {x : DataW H × List MemPlace} (h : DataW.trod enc Tryd.prog W 0 (fun _ => true) true fuel 25 [v] = some x) : v = .int .u64 (natV v : Int) ∧ natV v < 18446744073709551616 := by
  obtain ⟨n, e, _, hw⟩ := DataW.trod_int Tryd.underlying25 h
  simp only [List.cons.injEq, and_true] at e
  subst e
  have b := bounds_u64 hw
  simp only [natV]
  exact ⟨by congr 1; omega, by omega⟩
theorem addrN (b off j : Nat) : (⟨b, off, none⟩ : Addr).add j = ⟨b, off + j, none⟩ := by unfold Addr.add; split <;> simp_all
theorem Rx.fitL_of : ∀ {ks : List Rx}, (∀ j, j < ks.length → Rx.fit (Rx.nth ks j)) → Rx.fitL ks
  | [], _ => by rw [Rx.fitL]; trivial
  | k :: r, h => by
    rw [Rx.fitL]
    exact ⟨h 0 (by simp), Rx.fitL_of (ks := r) (fun j hj => h (j + 1) (by simpa using hj))⟩
theorem nth_range {n : Nat} (f : Nat → Rx) {j : Nat} (h : j < n) : Rx.nth ((List.range n).map f) j = f j := by simp [Rx.nth, List.getD, h]
theorem choose_rx {n : Nat} {p : Nat → Rx → Prop} (h : ∀ i, i < n → ∃ t, p i t) : ∃ f : Nat → Rx, ∀ i, i < n → p i (f i) :=
  ⟨fun i => if hi : i < n then Classical.choose (h i hi) else Rx.nil, fun i hi => by show p i (dite _ _ _); rw [dif_pos hi]; exact Classical.choose_spec (h i hi)⟩
theorem choose_cells {n : Nat} {p : Nat → List Value → Prop} (h : ∀ i, i < n → ∃ cs, p i cs) : ∃ f : Nat → List Value, ∀ i, i < n → p i (f i) :=
  ⟨fun i => if hi : i < n then Classical.choose (h i hi) else [], fun i hi => by show p i (dite _ _ _); rw [dif_pos hi]; exact Classical.choose_spec (h i hi)⟩
theorem rx_of_trod : ∀ (fuel : Nat) (cs : List Value) (x : DataW H × List MemPlace), DataW.trod enc Tryd.prog W 0 (fun _ => true) true fuel 34 cs = some x → ∃ t, IsRx W (.agg cs.toArray) t ∧ Rx.fit t := by
  intro fuel
  induction fuel using Nat.strongRecOn with
  | _ fuel ih =>
    intro cs x h
    obtain ⟨xs, n, hn, _, hlen, hxl, hf⟩ := DataW.trod_struct Tryd.underlying34 h
    have hlen6 : cs.length = 6 := hlen.trans (by kernel_rfl)
    match cs, hlen6 with
    | [v0, v1, v2, v3, v4, v5], _ =>
      have c3 : Tryd.prog.cellsOf 3 = 1 := by kernel_rfl
      have c4 : Tryd.prog.cellsOf 31 = 4 := by kernel_rfl
      have c24 : Tryd.prog.cellsOf 32 = 1 := by kernel_rfl
      have c1 : Tryd.prog.cellsOf 25 = 1 := by kernel_rfl
      have c6' : Tryd.prog.cellsOf 34 = 6 := by kernel_rfl
      have g0 := hf 0 _ rfl
      have g1 := hf 1 _ rfl
      have g2 := hf 2 _ rfl
      have hx3 : xs.length = 3 := hxl
      match xs, hx3 with
      | [y0, y1, y2], _ =>
        simp [c3] at g0
        simp [c4] at g1
        simp [c24] at g2
        obtain ⟨op, e0, _, _⟩ := DataW.trod_int Tryd.underlying3 (show DataW.trod enc Tryd.prog W 0 (fun _ => true) true n 3 [v0] = some y0 from g0)
        simp only [List.cons.injEq, and_true] at e0
        subst e0
        obtain ⟨zs, m, hm, _, _, hzl, hz⟩ := DataW.trod_array Tryd.underlying31 (show DataW.trod enc Tryd.prog W 0 (fun _ => true) true n 31 [v1, v2, v3, v4] = some y1 from g1)
        simp only [c1] at hz
        match zs, hzl with
        | [z1, z2, z3, z4], _ =>
          obtain ⟨e1, f1⟩ := u64_of (show DataW.trod enc Tryd.prog W 0 (fun _ => true) true m 25 [v1] = some z1 from hz 0 (by omega))
          obtain ⟨e2, f2⟩ := u64_of (show DataW.trod enc Tryd.prog W 0 (fun _ => true) true m 25 [v2] = some z2 from hz 1 (by omega))
          obtain ⟨e3, f3⟩ := u64_of (show DataW.trod enc Tryd.prog W 0 (fun _ => true) true m 25 [v3] = some z3 from hz 2 (by omega))
          obtain ⟨e4, f4⟩ := u64_of (show DataW.trod enc Tryd.prog W 0 (fun _ => true) true m 25 [v4] = some z4 from hz 3 (by omega))
          rw [e1, e2, e3, e4]
          generalize natV v1 = a at *
          generalize natV v2 = b at *
          generalize natV v3 = c at *
          generalize natV v4 = d at *
          rcases DataW.trod_slice Tryd.underlying32 (show DataW.trod enc Tryd.prog W 0 (fun _ => true) true n 32 [v5] = some y2 from g2) with ⟨hcs, _⟩ | ⟨ad, len, cap, elems, rest, k, hk, hcs, _, _, hle, _, hel, hE, _⟩
          · simp only [List.cons.injEq, and_true] at hcs
            subst hcs
            exact ⟨.mk op a b c d [], .node op a b c d [] none 0 0 0 (fun _ _ => Go.undef) (Nat.le_refl _) (fun _ => rfl) (fun h => absurd h (by simp)) (fun _ _ h => absurd h (by simp)) (fun _ h => absurd h (by simp)), by rw [Rx.fit, Rx.fitL]; exact ⟨⟨f1, f2, f3, f4⟩, trivial⟩⟩
          · simp only [List.cons.injEq, and_true] at hcs
            subst hcs
            simp only [c6'] at hE
            have each : ∀ i, i < len → ∃ cs', (W.cells? 0 (ad.add (i * 6)) 6 = some cs' ∧ ∃ x', DataW.trod enc Tryd.prog W 0 (fun _ => true) true k 34 cs' = some x') := fun i hi => by
              have := hE i hi
              rw [List.getElem?_eq_getElem (by omega)] at this
              obtain ⟨cs', h1, h2⟩ := Option.bind_eq_some_iff.1 this
              exact ⟨cs', h1, _, h2⟩
            obtain ⟨CS, hCS⟩ := choose_cells each
            have eachT : ∀ i, i < len → ∃ t, IsRx W (.agg (CS i).toArray) t ∧ Rx.fit t := fun i hi => by
              obtain ⟨_, x', h2⟩ := hCS i hi
              exact ih k (by omega) _ _ h2
            obtain ⟨T, hT⟩ := choose_rx eachT
            have L6 : ∀ i, i < len → (CS i).length = 6 := fun i hi => (World.cells?_some (hCS i hi).1).2.1
            have AG : ∀ i, i < len → Value.agg (CS i).toArray = val6 (fun j => (CS i).getD j Go.undef) := fun i hi => by
              have := L6 i hi
              match CS i, this with
              | [_, _, _, _, _, _], _ => rfl
            have hlenT : ((List.range len).map T).length = len := by simp
            have spot : 0 < len → ∃ blk off, ad = ⟨blk, off, none⟩ := fun hp => by
              have h1 := (World.cells?_some (hCS 0 hp).1).2.2 0 (by omega)
              have h2 : (CS 0)[0]? = some ((CS 0)[0]'(by rw [L6 0 hp]; omega)) := List.getElem?_eq_getElem _
              rw [h2] at h1
              obtain ⟨blk, off, sp⟩ := ad
              have hspot : sp = none := by simpa [Addr.add] using World.cell?_spot h1
              subst hspot
              exact ⟨blk, off, rfl⟩
            have IS : IsRx W (.agg #[.int .i64 op, .int .u64 (a : Int), .int .u64 (b : Int), .int .u64 (c : Int), .int .u64 (d : Int), .slice (some ad) ((List.range len).map T).length cap]) (.mk op a b c d ((List.range len).map T)) := by
              rcases Nat.eq_zero_or_pos len with h0 | hp
              · refine .node op a b c d _ (some ad) cap 0 0 (fun _ _ => Go.undef) (by rw [hlenT]; exact hle) (fun e => by cases e) (fun h => by rw [hlenT] at h; omega) (fun _ _ h => by rw [hlenT] at h; omega) (fun _ h => by rw [hlenT] at h; omega)
              · obtain ⟨blk, off, rfl⟩ := spot hp
                refine .node op a b c d _ (some ⟨blk, off, none⟩) cap blk off (fun i j => (CS i).getD j Go.undef) (by rw [hlenT]; exact hle) (fun e => by cases e) (fun _ => rfl) (fun i j hi hj => ?_) (fun i hi => ?_)
                · rw [hlenT] at hi
                  have h1 := (World.cells?_some (hCS i hi).1).2.2 j hj
                  rw [addrN, addrN] at h1
                  rw [h1, List.getElem?_eq_getElem (by rw [L6 i hi]; exact hj)]
                  simp [List.getD, List.getElem?_eq_getElem (show j < (CS i).length by rw [L6 i hi]; exact hj)]
                · rw [hlenT] at hi
                  rw [nth_range T hi, ← AG i hi]
                  exact (hT i hi).1
            rw [hlenT] at IS
            refine ⟨_, IS, ?_⟩
            rw [Rx.fit]
            exact ⟨⟨f1, f2, f3, f4⟩, Rx.fitL_of (fun j hj => by rw [hlenT] at hj; rw [nth_range T hj]; exact (hT j hj).2)⟩
theorem open_rex {base : Nat} {v : Value} {d : DataW H} {p : List MemPlace} (hv : Value.okWide Tryd.prog W .any base 34 v) (h : DataW.Trod enc Tryd.prog W 0 (fun _ => true) true 34 v d p) : ∃ t, IsRx W v t ∧ Rx.fit t := by
  obtain ⟨fuel, hf⟩ := h
  unfold Value.okWide at hv
  rw [Tryd.underlying34] at hv
  obtain ⟨cs, rfl, _, _⟩ := hv
  obtain ⟨t, h1, h2⟩ := rx_of_trod fuel _ _ hf
  refine ⟨t, ?_, h2⟩
  simpa [Value.cells] using h1
end

end Go.Proofs.YtonfmbnankihbaaDoor
namespace Go.Proofs.YtonfmbnankihbaaDoor
open Go.ChangeShapes Go.WideShapes Go.RowKit

section
variable {H : Type} {enc : TypeId × Value → H} {W : World}

theorem int_of {fuel : Nat} {v : Value} {x : DataW H × List MemPlace} (h : DataW.trod enc Tryd.prog W 0 (fun _ => true) true fuel 3 [v] = some x) : ∃ z : Int, v = .int .i64 z := by
  obtain ⟨n, e, _, hw⟩ := DataW.trod_int Tryd.underlying3 h
  simp only [List.cons.injEq, and_true] at e
  exact ⟨n, e⟩
theorem step_of_trod (fuel : Nat) (cs : List Value) (x : DataW H × List MemPlace) (h : DataW.trod enc Tryd.prog W 0 (fun _ => true) true fuel 48 cs = some x) : ∃ s : St, cs = cells7 s := by
  obtain ⟨xs, n, hn, _, hlen, hxl, hf⟩ := DataW.trod_struct Tryd.underlying48 h
  have hlen7 : cs.length = 7 := hlen.trans (by kernel_rfl)
  match cs, hlen7 with
  | [v0, v1, v2, v3, v4, v5, v6], _ =>
    have c3 : Tryd.prog.cellsOf 3 = 1 := by kernel_rfl
    have c4 : Tryd.prog.cellsOf 31 = 4 := by kernel_rfl
    have c1 : Tryd.prog.cellsOf 25 = 1 := by kernel_rfl
    have g0 := hf 0 _ rfl
    have g1 := hf 1 _ rfl
    have g2 := hf 2 _ rfl
    have g3 := hf 3 _ rfl
    have hx4 : xs.length = 4 := hxl
    match xs, hx4 with
    | [y0, y1, y2, y3], _ =>
      simp [c3] at g0
      simp [c4] at g1
      simp [c3] at g2
      simp [c3] at g3
      obtain ⟨op, rfl⟩ := int_of (show DataW.trod enc Tryd.prog W 0 (fun _ => true) true n 3 [v0] = some y0 from g0)
      obtain ⟨x, rfl⟩ := int_of (show DataW.trod enc Tryd.prog W 0 (fun _ => true) true n 3 [v5] = some y2 from g2)
      obtain ⟨y, rfl⟩ := int_of (show DataW.trod enc Tryd.prog W 0 (fun _ => true) true n 3 [v6] = some y3 from g3)
      obtain ⟨zs, m, hm, _, _, hzl, hz⟩ := DataW.trod_array Tryd.underlying31 (show DataW.trod enc Tryd.prog W 0 (fun _ => true) true n 31 [v1, v2, v3, v4] = some y1 from g1)
      simp only [c1] at hz
      match zs, hzl with
      | [z1, z2, z3, z4], _ =>
        obtain ⟨e1, f1⟩ := u64_of (show DataW.trod enc Tryd.prog W 0 (fun _ => true) true m 25 [v1] = some z1 from hz 0 (by omega))
        obtain ⟨e2, f2⟩ := u64_of (show DataW.trod enc Tryd.prog W 0 (fun _ => true) true m 25 [v2] = some z2 from hz 1 (by omega))
        obtain ⟨e3, f3⟩ := u64_of (show DataW.trod enc Tryd.prog W 0 (fun _ => true) true m 25 [v3] = some z3 from hz 2 (by omega))
        obtain ⟨e4, f4⟩ := u64_of (show DataW.trod enc Tryd.prog W 0 (fun _ => true) true m 25 [v4] = some z4 from hz 3 (by omega))
        exact ⟨⟨op, natV v1, natV v2, natV v3, natV v4, x, y⟩, by rw [e1, e2, e3, e4]; rfl⟩
theorem choose_st {n : Nat} {p : Nat → St → Prop} (h : ∀ i, i < n → ∃ t, p i t) : ∃ f : Nat → St, ∀ i, i < n → p i (f i) :=
  ⟨fun i => if hi : i < n then Classical.choose (h i hi) else St.nil, fun i hi => by show p i (dite _ _ _); rw [dif_pos hi]; exact Classical.choose_spec (h i hi)⟩
theorem open_steps {base : Nat} {v : Value} {d : DataW H} {p : List MemPlace} (hv : Value.okWide Tryd.prog W .any base 22 v) (h : DataW.Trod enc Tryd.prog W 0 (fun _ => true) true 22 v d p) :
    ∃ (a : Option Addr) (cap : Nat) (l : List St), v = .slice a l.length cap ∧ l.length ≤ cap ∧ (a = none → cap = 0) ∧ IsSt W a l := by
  obtain ⟨a, len, cap, rfl⟩ := okWide_slice Tryd.underlying22 hv
  obtain ⟨fuel, hf⟩ := h
  have c7 : Tryd.prog.cellsOf 48 = 7 := by kernel_rfl
  rcases DataW.trod_slice Tryd.underlying22 hf with ⟨hcs, _⟩ | ⟨ad, len', cap', elems, rest, k, hk, hcs, _, _, hle, _, hel, hE, _⟩
  · simp [Value.cells] at hcs
    obtain ⟨rfl, rfl, rfl⟩ := hcs
    exact ⟨none, 0, [], rfl, Nat.le_refl _, fun _ => rfl, IsSt.nil _ _⟩
  · simp [Value.cells] at hcs
    obtain ⟨rfl, rfl, rfl⟩ := hcs
    simp only [c7] at hE
    have each : ∀ i, i < len → ∃ s : St, W.cells? 0 (ad.add (i * 7)) 7 = some (cells7 s) := fun i hi => by
      have := hE i hi
      rw [List.getElem?_eq_getElem (by omega)] at this
      obtain ⟨cs', h1, h2⟩ := Option.bind_eq_some_iff.1 this
      obtain ⟨s, e⟩ := step_of_trod k cs' _ h2
      exact ⟨s, by rw [← e]; exact h1⟩
    obtain ⟨S, hS⟩ := choose_st each
    have hlen : ((List.range len).map S).length = len := by simp
    refine ⟨some ad, cap, (List.range len).map S, by rw [hlen], by rw [hlen]; exact hle, (fun e => by cases e), fun hp => ?_⟩
    rw [hlen] at hp
    have spot : ∃ blk off, ad = ⟨blk, off, none⟩ := by
      have h1 := (World.cells?_some (hS 0 hp)).2.2 0 (by omega)
      have h2 : (cells7 (S 0))[0]? = some (cellS (S 0) 0) := cells7_get _ (by omega)
      rw [h2] at h1
      obtain ⟨blk, off, sp⟩ := ad
      have hspot : sp = none := by simpa [Addr.add] using World.cell?_spot h1
      subst hspot
      exact ⟨blk, off, rfl⟩
    obtain ⟨blk, off, rfl⟩ := spot
    refine ⟨blk, off, rfl, fun i j hi hj => ?_⟩
    rw [hlen] at hi
    have h1 := (World.cells?_some (hS i hi)).2.2 j hj
    rw [addrN, addrN, cells7_get _ hj] at h1
    have e : nthS ((List.range len).map S) i = S i := by simp [nthS, List.getD, hi]
    rw [h1, e]
end

end Go.Proofs.YtonfmbnankihbaaDoor
namespace Go.Proofs.YtonfmbnankihbaaDoor
open Go.RowKit Go.Sort
open Pz

theorem IsRx.form6 {w : World} {v : Value} {t : Rx} (h : IsRx w v t) : ∃ op a b c d A n cap, v = .agg #[.int .i64 op, .int .u64 ((a : Nat) : Int), .int .u64 ((b : Nat) : Int), .int .u64 ((c : Nat) : Int), .int .u64 ((d : Nat) : Int), .slice A n cap] := by
  cases h with
  | node op a b c d ks A cap blk off V hcap hA hp hc hk => exact ⟨op, a, b, c, d, A, ks.length, cap, rfl⟩
/-- The nodes are few. -/
theorem nodes14 (t : Rx) (v : Value) (w : World) (h : IsRx w v t) : Calls Tryd.prog 17 #[v, .int .i64 14] w fun e w' => e = .returned (.int .i64 ((min (Rx.count t) 15 : Nat) : Int)) ∧ Below w.heap.size w w' :=
  nodes_any (Rx.count t) t v 14 w (by omega) (Nat.le_refl _) h

end Go.Proofs.YtonfmbnankihbaaDoor
