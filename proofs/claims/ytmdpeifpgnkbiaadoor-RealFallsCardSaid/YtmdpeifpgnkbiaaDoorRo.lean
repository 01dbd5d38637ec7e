/-
  Arguments of stage 3 opened: a float64, a slice of float64, a Band. No condition.
-/
import Derived.Test.YtmdpeifpgnkbiaaDoorRl
import Derived.Test.YtmdpeifpgnkbiaaDoorRe
import Derived.Deep.Slices
import Derived.Lib.SmallJoins
import Derived.Laws.Cover2
import Derived.OpenShut
namespace Go.Proofs.YtmdpeifpgnkbiaaDoor
open Go.ChangeShapes Go.WideShapes Go.ChangeAt Go.WideMaps Go.WideElems Go.RowKit

section
variable {H : Type} {enc : TypeId × Value → H} {W : World} {base : Nat} {v : Value} {d : DataW H} {p : List MemPlace}

theorem wf_W {x : Nat} (h : (Lit.float .f64 x).wf = true) : Fm.W x := by
  unfold Fm.W
  simpa [Lit.wf] using h
theorem trod_f64 {fuel : Nat} {cs : List Value} {x : DataW H × List MemPlace} (h : DataW.trod enc Tryd.prog W 0 (fun _ => true) true fuel 22 cs = some x) : ∃ n, cs = [.float .f64 n] ∧ x = (.lit (.float .f64 n), []) ∧ Fm.W n := by
  cases fuel with
  | zero => simp [DataW.trod] at h
  | succ n =>
    unfold DataW.trod at h
    rw [Tryd.underlying22] at h
    split at h <;> simp_all [wf_W]
theorem open_f64 (hv : Value.okWide Tryd.prog W .any base 22 v) (h : DataW.Trod enc Tryd.prog W 0 (fun _ => true) true 22 v d p) :
    ∃ x, v = .float .f64 x ∧ Fm.W x := by
  obtain ⟨x, rfl, _, _, hx⟩ := open_float Tryd.underlying22 hv h
  exact ⟨x, rfl, wf_W hx⟩
theorem open_u64 (hv : Value.okWide Tryd.prog W .any base 35 v) (h : DataW.Trod enc Tryd.prog W 0 (fun _ => true) true 35 v d p) :
    ∃ x : Nat, v = .int .u64 (x : Int) ∧ Fm.W x := by
  obtain ⟨z, rfl, _, _, hz⟩ := open_int Tryd.underlying35 hv h
  have := bounds_u64 hz
  refine ⟨z.toNat, by rw [Int.toNat_of_nonneg (by omega)], by unfold Fm.W; omega⟩
theorem open_band (hv : Value.okWide Tryd.prog W .any base 31 v) (h : DataW.Trod enc Tryd.prog W 0 (fun _ => true) true 31 v d p) :
    ∃ any lo hi, v = .agg (band any lo hi) ∧ Fm.W lo ∧ Fm.W hi := by
  obtain ⟨c0, c1, c2, y0, y1, y2, m, rfl, _, _, h0, h1, h2⟩ := Go.Joins.open_agg3 Tryd.underlying31 (by kernel_rfl) (by kernel_rfl) hv h
  obtain ⟨x, e0, _⟩ := DataW.trod_bool Tryd.underlying4 h0
  obtain ⟨lo, e1, _, w1⟩ := trod_f64 h1
  obtain ⟨hi, e2, _, w2⟩ := trod_f64 h2
  simp only [List.cons.injEq, and_true] at e0 e1 e2
  subst e0 e1 e2
  exact ⟨x, lo, hi, rfl, w1, w2⟩
theorem addr_add1 (b off j : Nat) : (⟨b, off, none⟩ : Addr).add j = ⟨b, off + j, none⟩ := by unfold Addr.add; split <;> simp_all
def f64Of : Value → Nat
  | .float _ n => n
  | _ => 0
theorem open_f64s (hv : Value.okWide Tryd.prog W .any base 27 v) (h : DataW.Trod enc Tryd.prog W 0 (fun _ => true) true 27 v d p) :
    ∃ (a : Option Addr) (cap : Nat) (l : List Nat), v = .slice a l.length cap ∧ l.length ≤ cap ∧ (a = none → cap = 0) ∧ l.length ≤ maxLen ∧ (∀ x ∈ l, Fm.W x) ∧ IsRow1 W a (fl64 l) := by
  obtain ⟨a, len, cap, rfl⟩ := okWide_slice Tryd.underlying27 hv
  obtain ⟨fuel, hf⟩ := h
  rcases Go.Deep.open_slice1 Tryd.underlying27 (by kernel_rfl) hf with ⟨hcs, _⟩ | ⟨x, n, c, m, k, V, D, Pl, hcs, _, hl, hm, hmm, _, hx⟩
  · simp [Value.cells] at hcs
    obtain ⟨rfl, rfl, rfl⟩ := hcs
    exact ⟨none, 0, [], rfl, Nat.le_refl _, fun _ => rfl, by simp, by simp, fun hp => absurd hp (by simp [fl64])⟩
  · simp [Value.cells] at hcs
    obtain ⟨rfl, rfl, rfl⟩ := hcs
    obtain rfl : m = cap := by simpa using hmm
    have each : ∀ i, i < len → V i = .float .f64 (f64Of (V i)) ∧ Fm.W (f64Of (V i)) := fun i hi => by
      obtain ⟨z, e, _, wz⟩ := trod_f64 (hx i (by omega)).2
      simp only [List.cons.injEq, and_true] at e
      rw [e]
      exact ⟨rfl, wz⟩
    have hlen : ((List.range len).map fun i => f64Of (V i)).length = len := by simp
    refine ⟨some x, m, (List.range len).map fun i => f64Of (V i), by rw [hlen], by omega, (fun e => by cases e), by omega, fun y hy => ?_, fun hp => ?_⟩
    · simp only [List.mem_map, List.mem_range] at hy
      obtain ⟨i, hi, rfl⟩ := hy
      exact (each i hi).2
    · have hp' : 0 < len := by rw [fl64_len, hlen] at hp; exact hp
      have hc := (hx 0 (by omega)).1
      obtain ⟨b, off, spot⟩ := x
      have hspot : spot = none := by simpa [Addr.add] using World.cell?_spot hc
      subst hspot
      refine ⟨b, off, rfl, fun j hj => ?_⟩
      have hj' : j < len := by rw [fl64_len, hlen] at hj; exact hj
      have hcj := (hx j (by omega)).1
      have e := addr_add1 b off j
      rw [e, (each j hj').1] at hcj
      rw [hcj]
      simp [fl64, hj']
end
end Go.Proofs.YtmdpeifpgnkbiaaDoor
