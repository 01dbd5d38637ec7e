/-
  Arguments of stage 5 opened: a tree. No condition.
-/
import Derived.Test.YtjnikeiboefnbaaProg
import Derived.Test.YtjnikeiboefnbaaEa
import Derived.Test.YtjnikeiboefnbaaEn
import Derived.Test.YtjnikeiboefnbaaEf
import Derived.Test.YtjnikeiboefnbaaEl
import Derived.OpenShut
import Derived.Laws.AppendOwn
import Derived.Laws.CopyOwn
import Derived.Laws.MakeOwn
import Derived.Laws.OwnMore
import Derived.OwnWalk
import Derived.WalkKit
import Derived.WalkSpells
import Derived.WalkLawsBesides
import Derived.Lib.Hide
import Derived.Below
import Derived.BigQuiet
import Derived.Lib.QuietBelow
import Derived.Laws.StructEq
import Derived.KernelRfl
import Derived.Deep.RegionHeld3
namespace Go.Proofs.Ytjnikeiboefnbaa
open Go.ChangeShapes Go.WideShapes Go.RowKit

section
variable {H : Type} {enc : TypeId × Value → H} {W : World}

def natV : Value → Nat
  | .int _ n => n.toNat
  | _ => 0
theorem u64_of {fuel : Nat} {v : Value} {x : DataW H × List MemPlace} (h : DataW.trod enc Try.prog W 0 (fun _ => true) true fuel 22 [v] = some x) : v = .int .u64 (natV v : Int) ∧ natV v < 18446744073709551616 := by
  obtain ⟨n, e, _, hw⟩ := DataW.trod_int Try.underlying22 h
  simp only [List.cons.injEq, and_true] at e
  subst e
  have b := bounds_u64 hw
  simp only [natV]
  exact ⟨by congr 1; omega, by omega⟩
theorem addrN (b off j : Nat) : (⟨b, off, none⟩ : Addr).add j = ⟨b, off + j, none⟩ := by unfold Addr.add; split <;> simp_all
theorem Rx.fitL_of : ∀ {ks : List Rx}, (∀ j, j < ks.length → Rx.fit (Rx.nth ks j)) → Rx.fitL ks
  | [], _ => by rw [Rx.fitL]; trivial
  | k :: r, h => by
    rw [Rx.fitL]
    exact ⟨h 0 (by simp), Rx.fitL_of (ks := r) (fun j hj => h (j + 1) (by simpa using hj))⟩
theorem nth_range {n : Nat} (f : Nat → Rx) {j : Nat} (h : j < n) : Rx.nth ((List.range n).map f) j = f j := by simp [Rx.nth, List.getD, h]
theorem choose_rx {n : Nat} {p : Nat → Rx → Prop} (h : ∀ i, i < n → ∃ t, p i t) : ∃ f : Nat → Rx, ∀ i, i < n → p i (f i) :=
  ⟨fun i => if hi : i < n then Classical.choose (h i hi) else Rx.nil, fun i hi => by show p i (dite _ _ _); rw [dif_pos hi]; exact Classical.choose_spec (h i hi)⟩
theorem choose_cells {n : Nat} {p : Nat → List Value → Prop} (h : ∀ i, i < n → ∃ cs, p i cs) : ∃ f : Nat → List Value, ∀ i, i < n → p i (f i) :=
  ⟨fun i => if hi : i < n then Classical.choose (h i hi) else [], fun i hi => by show p i (dite _ _ _); rw [dif_pos hi]; exact Classical.choose_spec (h i hi)⟩
theorem rx_of_trod : ∀ (fuel : Nat) (cs : List Value) (x : DataW H × List MemPlace), DataW.trod enc Try.prog W 0 (fun _ => true) true fuel 26 cs = some x → ∃ t, IsRx W (.agg cs.toArray) t ∧ Rx.fit t := by
  intro fuel
  induction fuel using Nat.strongRecOn with
  | _ fuel ih =>
    intro cs x h
    obtain ⟨xs, n, hn, _, hlen, hxl, hf⟩ := DataW.trod_struct Try.underlying26 h
    have hlen6 : cs.length = 6 := hlen.trans (by kernel_rfl)
    match cs, hlen6 with
    | [v0, v1, v2, v3, v4, v5], _ =>
      have c3 : Try.prog.cellsOf 3 = 1 := by kernel_rfl
      have c4 : Try.prog.cellsOf 23 = 4 := by kernel_rfl
      have c24 : Try.prog.cellsOf 24 = 1 := by kernel_rfl
      have c1 : Try.prog.cellsOf 22 = 1 := by kernel_rfl
      have c6' : Try.prog.cellsOf 26 = 6 := by kernel_rfl
      have g0 := hf 0 _ rfl
      have g1 := hf 1 _ rfl
      have g2 := hf 2 _ rfl
      have hx3 : xs.length = 3 := hxl
      match xs, hx3 with
      | [y0, y1, y2], _ =>
        simp [c3] at g0
        simp [c4] at g1
        simp [c24] at g2
        obtain ⟨op, e0, _, _⟩ := DataW.trod_int Try.underlying3 (show DataW.trod enc Try.prog W 0 (fun _ => true) true n 3 [v0] = some y0 from g0)
        simp only [List.cons.injEq, and_true] at e0
        subst e0
        obtain ⟨zs, m, hm, _, _, hzl, hz⟩ := DataW.trod_array Try.underlying23 (show DataW.trod enc Try.prog W 0 (fun _ => true) true n 23 [v1, v2, v3, v4] = some y1 from g1)
        simp only [c1] at hz
        match zs, hzl with
        | [z1, z2, z3, z4], _ =>
          obtain ⟨e1, f1⟩ := u64_of (show DataW.trod enc Try.prog W 0 (fun _ => true) true m 22 [v1] = some z1 from hz 0 (by omega))
          obtain ⟨e2, f2⟩ := u64_of (show DataW.trod enc Try.prog W 0 (fun _ => true) true m 22 [v2] = some z2 from hz 1 (by omega))
          obtain ⟨e3, f3⟩ := u64_of (show DataW.trod enc Try.prog W 0 (fun _ => true) true m 22 [v3] = some z3 from hz 2 (by omega))
          obtain ⟨e4, f4⟩ := u64_of (show DataW.trod enc Try.prog W 0 (fun _ => true) true m 22 [v4] = some z4 from hz 3 (by omega))
          rw [e1, e2, e3, e4]
          generalize natV v1 = a at *
          generalize natV v2 = b at *
          generalize natV v3 = c at *
          generalize natV v4 = d at *
          rcases DataW.trod_slice Try.underlying24 (show DataW.trod enc Try.prog W 0 (fun _ => true) true n 24 [v5] = some y2 from g2) with ⟨hcs, _⟩ | ⟨ad, len, cap, elems, rest, k, hk, hcs, _, _, hle, _, hel, hE, _⟩
          · simp only [List.cons.injEq, and_true] at hcs
            subst hcs
            exact ⟨.mk op a b c d [], .node op a b c d [] none 0 0 0 (fun _ _ => Go.undef) (Nat.le_refl _) (fun _ => rfl) (fun h => absurd h (by simp)) (fun _ _ h => absurd h (by simp)) (fun _ h => absurd h (by simp)), by rw [Rx.fit, Rx.fitL]; exact ⟨⟨f1, f2, f3, f4⟩, trivial⟩⟩
          · simp only [List.cons.injEq, and_true] at hcs
            subst hcs
            simp only [c6'] at hE
            have each : ∀ i, i < len → ∃ cs', (W.cells? 0 (ad.add (i * 6)) 6 = some cs' ∧ ∃ x', DataW.trod enc Try.prog W 0 (fun _ => true) true k 26 cs' = some x') := fun i hi => by
              have := hE i hi
              rw [List.getElem?_eq_getElem (by omega)] at this
              obtain ⟨cs', h1, h2⟩ := Option.bind_eq_some_iff.1 this
              exact ⟨cs', h1, _, h2⟩
            obtain ⟨CS, hCS⟩ := choose_cells each
            have eachT : ∀ i, i < len → ∃ t, IsRx W (.agg (CS i).toArray) t ∧ Rx.fit t := fun i hi => by
              obtain ⟨_, x', h2⟩ := hCS i hi
              exact ih k (by omega) _ _ h2
            obtain ⟨T, hT⟩ := choose_rx eachT
            have L6 : ∀ i, i < len → (CS i).length = 6 := fun i hi => (World.cells?_some (hCS i hi).1).2.1
            have AG : ∀ i, i < len → Value.agg (CS i).toArray = val6 (fun j => (CS i).getD j Go.undef) := fun i hi => by
              have := L6 i hi
              match CS i, this with
              | [_, _, _, _, _, _], _ => rfl
            have hlenT : ((List.range len).map T).length = len := by simp
            have spot : 0 < len → ∃ blk off, ad = ⟨blk, off, none⟩ := fun hp => by
              have h1 := (World.cells?_some (hCS 0 hp).1).2.2 0 (by omega)
              have h2 : (CS 0)[0]? = some ((CS 0)[0]'(by rw [L6 0 hp]; omega)) := List.getElem?_eq_getElem _
              rw [h2] at h1
              obtain ⟨blk, off, sp⟩ := ad
              have hspot : sp = none := by simpa [Addr.add] using World.cell?_spot h1
              subst hspot
              exact ⟨blk, off, rfl⟩
            have IS : IsRx W (.agg #[.int .i64 op, .int .u64 (a : Int), .int .u64 (b : Int), .int .u64 (c : Int), .int .u64 (d : Int), .slice (some ad) ((List.range len).map T).length cap]) (.mk op a b c d ((List.range len).map T)) := by
              rcases Nat.eq_zero_or_pos len with h0 | hp
              · refine .node op a b c d _ (some ad) cap 0 0 (fun _ _ => Go.undef) (by rw [hlenT]; exact hle) (fun e => by cases e) (fun h => by rw [hlenT] at h; omega) (fun _ _ h => by rw [hlenT] at h; omega) (fun _ h => by rw [hlenT] at h; omega)
              · obtain ⟨blk, off, rfl⟩ := spot hp
                refine .node op a b c d _ (some ⟨blk, off, none⟩) cap blk off (fun i j => (CS i).getD j Go.undef) (by rw [hlenT]; exact hle) (fun e => by cases e) (fun _ => rfl) (fun i j hi hj => ?_) (fun i hi => ?_)
                · rw [hlenT] at hi
                  have h1 := (World.cells?_some (hCS i hi).1).2.2 j hj
                  rw [addrN, addrN] at h1
                  rw [h1, List.getElem?_eq_getElem (by rw [L6 i hi]; exact hj)]
                  simp [List.getD, List.getElem?_eq_getElem (show j < (CS i).length by rw [L6 i hi]; exact hj)]
                · rw [hlenT] at hi
                  rw [nth_range T hi, ← AG i hi]
                  exact (hT i hi).1
            rw [hlenT] at IS
            refine ⟨_, IS, ?_⟩
            rw [Rx.fit]
            exact ⟨⟨f1, f2, f3, f4⟩, Rx.fitL_of (fun j hj => by rw [hlenT] at hj; rw [nth_range T hj]; exact (hT j hj).2)⟩
theorem open_rex {base : Nat} {v : Value} {d : DataW H} {p : List MemPlace} (hv : Value.okWide Try.prog W .any base 26 v) (h : DataW.Trod enc Try.prog W 0 (fun _ => true) true 26 v d p) : ∃ t, IsRx W v t ∧ Rx.fit t := by
  obtain ⟨fuel, hf⟩ := h
  unfold Value.okWide at hv
  rw [Try.underlying26] at hv
  obtain ⟨cs, rfl, _, _⟩ := hv
  obtain ⟨t, h1, h2⟩ := rx_of_trod fuel _ _ hf
  refine ⟨t, ?_, h2⟩
  simpa [Value.cells] using h1
end

end Go.Proofs.Ytjnikeiboefnbaa
