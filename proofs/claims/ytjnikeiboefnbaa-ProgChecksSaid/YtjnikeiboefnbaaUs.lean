/-
  Arguments of stage 6 opened: a slice of steps. No condition.
-/
import Derived.Test.YtjnikeiboefnbaaKb
import Derived.Test.YtjnikeiboefnbaaUk
import Derived.OpenShut
namespace Go.Proofs.Ytjnikeiboefnbaa
open Go.ChangeShapes Go.WideShapes Go.RowKit

section
variable {H : Type} {enc : TypeId × Value → H} {W : World}

theorem int_of {fuel : Nat} {v : Value} {x : DataW H × List MemPlace} (h : DataW.trod enc Try.prog W 0 (fun _ => true) true fuel 3 [v] = some x) : ∃ z : Int, v = .int .i64 z := by
  obtain ⟨n, e, _, hw⟩ := DataW.trod_int Try.underlying3 h
  simp only [List.cons.injEq, and_true] at e
  exact ⟨n, e⟩
theorem step_of_trod (fuel : Nat) (cs : List Value) (x : DataW H × List MemPlace) (h : DataW.trod enc Try.prog W 0 (fun _ => true) true fuel 33 cs = some x) : ∃ s : St, cs = cells7 s := by
  obtain ⟨xs, n, hn, _, hlen, hxl, hf⟩ := DataW.trod_struct Try.underlying33 h
  have hlen7 : cs.length = 7 := hlen.trans (by kernel_rfl)
  match cs, hlen7 with
  | [v0, v1, v2, v3, v4, v5, v6], _ =>
    have c3 : Try.prog.cellsOf 3 = 1 := by kernel_rfl
    have c4 : Try.prog.cellsOf 23 = 4 := by kernel_rfl
    have c1 : Try.prog.cellsOf 22 = 1 := by kernel_rfl
    have g0 := hf 0 _ rfl
    have g1 := hf 1 _ rfl
    have g2 := hf 2 _ rfl
    have g3 := hf 3 _ rfl
    have hx4 : xs.length = 4 := hxl
    match xs, hx4 with
    | [y0, y1, y2, y3], _ =>
      simp [c3] at g0
      simp [c4] at g1
      simp [c3] at g2
      simp [c3] at g3
      obtain ⟨op, rfl⟩ := int_of (show DataW.trod enc Try.prog W 0 (fun _ => true) true n 3 [v0] = some y0 from g0)
      obtain ⟨x, rfl⟩ := int_of (show DataW.trod enc Try.prog W 0 (fun _ => true) true n 3 [v5] = some y2 from g2)
      obtain ⟨y, rfl⟩ := int_of (show DataW.trod enc Try.prog W 0 (fun _ => true) true n 3 [v6] = some y3 from g3)
      obtain ⟨zs, m, hm, _, _, hzl, hz⟩ := DataW.trod_array Try.underlying23 (show DataW.trod enc Try.prog W 0 (fun _ => true) true n 23 [v1, v2, v3, v4] = some y1 from g1)
      simp only [c1] at hz
      match zs, hzl with
      | [z1, z2, z3, z4], _ =>
        obtain ⟨e1, f1⟩ := u64_of (show DataW.trod enc Try.prog W 0 (fun _ => true) true m 22 [v1] = some z1 from hz 0 (by omega))
        obtain ⟨e2, f2⟩ := u64_of (show DataW.trod enc Try.prog W 0 (fun _ => true) true m 22 [v2] = some z2 from hz 1 (by omega))
        obtain ⟨e3, f3⟩ := u64_of (show DataW.trod enc Try.prog W 0 (fun _ => true) true m 22 [v3] = some z3 from hz 2 (by omega))
        obtain ⟨e4, f4⟩ := u64_of (show DataW.trod enc Try.prog W 0 (fun _ => true) true m 22 [v4] = some z4 from hz 3 (by omega))
        exact ⟨⟨op, natV v1, natV v2, natV v3, natV v4, x, y⟩, by rw [e1, e2, e3, e4]; rfl⟩
theorem choose_st {n : Nat} {p : Nat → St → Prop} (h : ∀ i, i < n → ∃ t, p i t) : ∃ f : Nat → St, ∀ i, i < n → p i (f i) :=
  ⟨fun i => if hi : i < n then Classical.choose (h i hi) else St.nil, fun i hi => by show p i (dite _ _ _); rw [dif_pos hi]; exact Classical.choose_spec (h i hi)⟩
theorem open_steps {base : Nat} {v : Value} {d : DataW H} {p : List MemPlace} (hv : Value.okWide Try.prog W .any base 29 v) (h : DataW.Trod enc Try.prog W 0 (fun _ => true) true 29 v d p) :
    ∃ (a : Option Addr) (cap : Nat) (l : List St), v = .slice a l.length cap ∧ l.length ≤ cap ∧ (a = none → cap = 0) ∧ IsSt W a l := by
  obtain ⟨a, len, cap, rfl⟩ := okWide_slice Try.underlying29 hv
  obtain ⟨fuel, hf⟩ := h
  have c7 : Try.prog.cellsOf 33 = 7 := by kernel_rfl
  rcases DataW.trod_slice Try.underlying29 hf with ⟨hcs, _⟩ | ⟨ad, len', cap', elems, rest, k, hk, hcs, _, _, hle, _, hel, hE, _⟩
  · simp [Value.cells] at hcs
    obtain ⟨rfl, rfl, rfl⟩ := hcs
    exact ⟨none, 0, [], rfl, Nat.le_refl _, fun _ => rfl, IsSt.nil _ _⟩
  · simp [Value.cells] at hcs
    obtain ⟨rfl, rfl, rfl⟩ := hcs
    simp only [c7] at hE
    have each : ∀ i, i < len → ∃ s : St, W.cells? 0 (ad.add (i * 7)) 7 = some (cells7 s) := fun i hi => by
      have := hE i hi
      rw [List.getElem?_eq_getElem (by omega)] at this
      obtain ⟨cs', h1, h2⟩ := Option.bind_eq_some_iff.1 this
      obtain ⟨s, e⟩ := step_of_trod k cs' _ h2
      exact ⟨s, by rw [← e]; exact h1⟩
    obtain ⟨S, hS⟩ := choose_st each
    have hlen : ((List.range len).map S).length = len := by simp
    refine ⟨some ad, cap, (List.range len).map S, by rw [hlen], by rw [hlen]; exact hle, (fun e => by cases e), fun hp => ?_⟩
    rw [hlen] at hp
    have spot : ∃ blk off, ad = ⟨blk, off, none⟩ := by
      have h1 := (World.cells?_some (hS 0 hp)).2.2 0 (by omega)
      have h2 : (cells7 (S 0))[0]? = some (cellS (S 0) 0) := cells7_get _ (by omega)
      rw [h2] at h1
      obtain ⟨blk, off, sp⟩ := ad
      have hspot : sp = none := by simpa [Addr.add] using World.cell?_spot h1
      subst hspot
      exact ⟨blk, off, rfl⟩
    obtain ⟨blk, off, rfl⟩ := spot
    refine ⟨blk, off, rfl, fun i j hi hj => ?_⟩
    rw [hlen] at hi
    have h1 := (World.cells?_some (hS i hi)).2.2 j hj
    rw [addrN, addrN, cells7_get _ hj] at h1
    have e : nthS ((List.range len).map S) i = S i := by simp [nthS, List.getD, hi]
    rw [h1, e]
end
end Go.Proofs.Ytjnikeiboefnbaa
