/-
  Slices of ints in a walk; what the reference's SameInts and Has do. Conditions: lengths fit.
-/
import Derived.Test.YtlbhiiciajfphaaProg
import Derived.Test.YtlbhiiciajfphaaEa
import Derived.Test.YtlbhiiciajfphaaEd
import Derived.Test.YtlbhiiciajfphaaEf
import Derived.Test.YtlbhiiciajfphaaEo
import Derived.Deep.QuietTactic
import Derived.Deep.RegionHeld3
import Derived.WalkKit
import Derived.WalkSpells
import Derived.WalkLawsBesides
import Derived.Lib.Hide
import Derived.Below
import Derived.BigQuiet
import Derived.Lib.QuietBelow
import Derived.Laws.StructEq
import Derived.KernelRfl
import Derived.Laws.MakeOwn
import Derived.Laws.OwnMore
import Derived.OwnWalk
import Derived.Laws.CopyOwn
import Derived.Laws.AppendOwn
namespace Go.Proofs.Ytlbhiiciajfphaa
open Go.RowKit

/-- Ints as cells. -/
def zs (l : List Int) : List Value := l.map fun k => Value.int .i64 k
def zn (l : List Nat) : List Int := l.map fun k : Nat => (k : Int)
theorem zs_len (l : List Int) : (zs l).length = l.length := by simp [zs]
theorem zs_app (a b : List Int) : zs (a ++ b) = zs a ++ zs b := by simp [zs]
theorem zn_len (l : List Nat) : (zn l).length = l.length := by simp [zn]
theorem iz_zs (l : List Nat) : iz l = zs (zn l) := by simp [iz, zs, zn]
theorem zn_inj {a b : List Nat} : zn a = zn b ↔ a = b := by
  constructor
  · intro h
    have := congrArg (List.map Int.toNat) h
    simpa [zn, Function.comp_def] using this
  · rintro rfl; rfl
theorem zn_mem {l : List Nat} {k : Nat} : (k : Int) ∈ zn l ↔ k ∈ l := by
  simp only [zn, List.mem_map]
  constructor
  · rintro ⟨a, h, e⟩
    obtain rfl : a = k := by omega
    exact h
  · intro h; exact ⟨k, h, rfl⟩
/-- The slice at address a reads as these ints. -/
def IsZ (w : World) (a : Option Addr) (l : List Int) : Prop := 0 < l.length → ∃ b off, a = some ⟨b, off, none⟩ ∧ ∀ j, j < l.length → w.cell? ⟨b, off + j, none⟩ = some (.int .i64 (l.getD j 0))
theorem IsZ.drewN {w : World} {a : Option Addr} {l : List Int} (h : IsZ w a l) (n : Nat) : IsZ (w.drewN n) a l := h
theorem IsZ.below {w w' : World} {a : Option Addr} {l : List Int} (h : IsZ w a l) (hb : Below w.heap.size w w') : IsZ w' a l := by
  intro hp
  obtain ⟨b, off, e, hc⟩ := h hp
  exact ⟨b, off, e, fun j hj => (hb.cell (World.block_lt_of_cell? w _ (hc j hj))).trans (hc j hj)⟩
theorem IsZ.nil (w : World) (a : Option Addr) : IsZ w a [] := fun h => absurd h (by simp)
theorem zeq_of_getD {xs ys : List Int} (hl : xs.length = ys.length) (h : ∀ j, j < xs.length → xs.getD j 0 = ys.getD j 0) : xs = ys := by
  refine List.ext_getElem hl fun j h1 h2 => ?_
  have := h j h1
  simpa [List.getD, List.getElem?_eq_getElem h1, List.getElem?_eq_getElem h2] using this
/-- A slice of ints that one owns reads so. -/
theorem own_z {w : World} {base n : Nat} {v : Value} {l : List Int} (h : w.ownsRow base 3 1 v n (zs l)) : ∃ A c, v = .slice A n c ∧ n ≤ c ∧ (A = none → c = 0) ∧ IsZ w A l ∧ l.length = n := by
  have hl : l.length = n := by have := h.1; rw [zs_len] at this; omega
  rcases h.2 with ⟨rfl, rfl⟩ | ⟨g, cap, cur, rfl, _, hg, hc, _⟩
  · exact ⟨none, 0, rfl, Nat.le_refl _, fun _ => rfl, fun hp => by omega, hl⟩
  · refine ⟨_, cap, rfl, hc, (fun e => by cases e), fun _ => ⟨g, 0, rfl, fun j hj => ?_⟩, hl⟩
    have e : (zs l)[j]? = some (.int .i64 (l.getD j 0)) := by simp [zs, List.getD, List.getElem?_eq_getElem hj]
    have := h.cells (g := g) rfl j _ e
    rw [Nat.zero_add]
    have e2 : (⟨g, 0, none⟩ : Addr).add j = ⟨g, j, none⟩ := by unfold Addr.add; split <;> simp_all
    rwa [e2] at this
set_option maxRecDepth 100000 in
set_option maxHeartbeats 400000 in
theorem same_any (xs ys : List Int) (A B : Option Addr) (nx ny ca cb : Nat) (w : World) (ex : xs.length = nx) (ey : ys.length = ny) (hx : nx ≤ 1099511627776) (hy : ny ≤ 1099511627776) (ha : IsZ w A xs) (hb : IsZ w B ys) :
    Calls Try.prog 11 #[.slice A nx ca, .slice B ny cb] w fun e w' => e = .returned (.bool (decide (xs = ys))) ∧ ∃ n, w' = w.drewN n := by
  have HA := Lib.hid ha
  have HB := Lib.hid hb
  clear ha hb
  by_cases hl : nx = ny
  · subst hl
    have HE : Hid ((∀ j, j < nx → xs.getD j 0 = ys.getD j 0) → xs = ys) := fun h => zeq_of_getD (by omega) (by rw [ex]; exact h)
    have HL := Lib.hid (And.intro ex ey)
    clear ex ey
    go_enter Try.func11, Try.ntmps11
    go_wp2
    go_loopw [5] (fun i wr => ∃ k : Nat, k ≤ nx ∧ i = .int .i64 (k : Int) ∧ (∀ j, j < k → xs.getD j 0 = ys.getD j 0) ∧ ∃ q, wr = w.drewN q) (fun i _ => nx - (intOf i).toNat)
    case atStart => exact ⟨0, by omega, rfl, fun j hj => by omega, 0, rfl⟩
    case round =>
      obtain ⟨k, hk, rfl, hall, hq⟩ := hrel
      have HQ := Lib.hid hq
      clear hq
      have HALL := Lib.hid hall
      clear hall
      by_cases hkn : k < nx
      · obtain ⟨b1, o1, rfl, h1⟩ := HA.out (by rw [HL.out.1]; omega)
        obtain ⟨b2, o2, rfl, h2⟩ := HB.out (by rw [HL.out.2]; omega)
        have c1 : wr.cell? ⟨b1, o1 + k, none⟩ = some (.int .i64 (xs.getD k 0)) := by obtain ⟨q, rfl⟩ := HQ.out; exact h1 k (by rw [HL.out.1]; exact hkn)
        have c2 : wr.cell? ⟨b2, o2 + k, none⟩ = some (.int .i64 (ys.getD k 0)) := by obtain ⟨q, rfl⟩ := HQ.out; exact h2 k (by rw [HL.out.2]; exact hkn)
        clear h1 h2
        by_cases e : xs.getD k 0 = ys.getD k 0
        · rw [e] at c1
          have HE2 := Lib.hid e
          clear e
          generalize ys.getD k 0 = y at c1 c2
          go_wp2
          go_quiet (fail)
          go_wp2
          go_roundw
          case rel => exact ⟨k + 1, by omega, by go_num, fun j hj => by
            by_cases hjk : j < k
            · exact HALL.out j hjk
            · obtain rfl : j = k := by omega
              exact HE2.out, by obtain ⟨q, rfl⟩ := HQ.out; exact ⟨q + nq, World.drewN_drewN _ _ _⟩⟩
          case measure => simp [intOf]; omega
        · have HNE : Hid (decide (xs = ys) = false) := by show _ = _; rw [decide_eq_false_iff_not]; intro h; exact e (by rw [h])
          have ne2 : (xs.getD k 0 != ys.getD k 0) = true := by simpa using e
          clear e
          generalize xs.getD k 0 = x at *
          generalize ys.getD k 0 = y at *
          go_wp2
          go_quiet (fail)
          go_wp2
          go_ret
          exact ⟨by rw [HNE.out]; rfl, by obtain ⟨q, rfl⟩ := HQ.out; exact ⟨q + nq, World.drewN_drewN _ _ _⟩⟩
      · obtain rfl : k = nx := by omega
        have HT : Hid (decide (xs = ys) = true) := by show _ = _; rw [decide_eq_true_iff]; exact HE.out HALL.out
        go_wp2
        go_ret
        exact ⟨by rw [HT.out]; rfl, HQ.out⟩
  · have HNE : Hid (decide (xs = ys) = false) := by show _ = _; rw [decide_eq_false_iff_not]; intro h; exact hl (by rw [← ex, ← ey, h])
    have ne2 : ((nx : Int) != (ny : Int)) = true := by simp; omega
    clear ex ey hl
    go_enter Try.func11, Try.ntmps11
    go_wp2
    go_ret
    exact ⟨by rw [HNE.out]; rfl, 0, rfl⟩
theorem mem_take_succ {xs : List Int} {k : Nat} {x : Int} (h : k < xs.length) : x ∈ xs.take (k + 1) ↔ x ∈ xs.take k ∨ x = xs.getD k 0 := by
  rw [List.take_succ_eq_append_getElem h, List.mem_append, List.mem_singleton, show xs.getD k 0 = xs[k] by simp [List.getD, List.getElem?_eq_getElem h]]
set_option maxRecDepth 100000 in
set_option maxHeartbeats 400000 in
theorem hasz_any (xs : List Int) (x : Int) (A : Option Addr) (nx ca : Nat) (w : World) (ex : xs.length = nx) (hx : nx ≤ 1099511627776) (ha : IsZ w A xs) :
    Calls Try.prog 16 #[.slice A nx ca, .int .i64 x] w fun e w' => e = .returned (.bool (decide (x ∈ xs))) ∧ w = w' := by
  have HA := Lib.hid ha
  have MT := Lib.hid (fun k (h : k < nx) => mem_take_succ (xs := xs) (k := k) (x := x) (by rw [ex]; exact h))
  have EX := Lib.hid ex
  clear ha ex
  go_enter Try.func16, Try.ntmps16
  go_wp2
  go_loop [5] (fun i => ∃ k : Nat, k ≤ nx ∧ i = .int .i64 (k : Int) ∧ Hid (¬ x ∈ xs.take k)) (fun i => nx - (intOf i).toNat)
  case atStart => exact ⟨0, by omega, rfl, by show ¬ _; simp⟩
  case round =>
    obtain ⟨k, hk, rfl, HN⟩ := hrel
    by_cases hkn : k < nx
    · obtain ⟨b1, o1, rfl, h1⟩ := HA.out (by rw [EX.out]; omega)
      have c1 := h1 k (by rw [EX.out]; exact hkn)
      clear h1
      have MK := Lib.hid (MT.out k hkn)
      by_cases e : xs.getD k 0 = x
      · have R : Hid (decide (x ∈ xs) = true) := decide_eq_true (List.mem_of_mem_take (MK.out.2 (.inr e.symm)))
        rw [e] at c1
        clear e
        go_wp2
        go_ret
        exact ⟨by rw [R.out]; rfl, rfl⟩
      · have e2 : (xs.getD k 0 == x) = false := by simpa using e
        have R : Hid (¬ x ∈ xs.take (k + 1)) := fun h => by
          rcases MK.out.1 h with h | h
          · exact HN.out h
          · exact e h.symm
        clear e
        generalize xs.getD k 0 = y at *
        go_wp2
        go_round
        case rel => exact ⟨k + 1, by omega, by go_num, R⟩
        case measure => simp [intOf]; omega
    · obtain rfl : k = nx := by omega
      have R : Hid (decide (x ∈ xs) = false) := decide_eq_false (by have := HN.out; rwa [List.take_of_length_le (by rw [EX.out]; exact Nat.le_refl _)] at this)
      go_wp2
      go_ret
      exact ⟨by rw [R.out]; rfl, rfl⟩

end Go.Proofs.Ytlbhiiciajfphaa
