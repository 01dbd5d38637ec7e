/-
  Slices of floats and of ints in a walk; what the reference's SameInts and ahead do. Conditions: lengths fit.
-/
import Derived.Test.YtmdpeifpgnkbiaaDoorRe
namespace Go.Proofs.YtmdpeifpgnkbiaaDoor
open Go.RowKit

/-- The slice at address a reads as these cells. -/
def IsRow1 (w : World) (a : Option Addr) (l : List Value) : Prop := 0 < l.length → ∃ b off, a = some ⟨b, off, none⟩ ∧ ∀ j, j < l.length → w.cell? ⟨b, off + j, none⟩ = l[j]?
def fl64 (l : List Nat) : List Value := l.map fun k => Value.float .f64 k
def in64 (l : List Nat) : List Value := l.map fun k : Nat => Value.int .i64 (k : Int)
theorem fl64_len (l : List Nat) : (fl64 l).length = l.length := by simp [fl64]
theorem in64_len (l : List Nat) : (in64 l).length = l.length := by simp [in64]
theorem IsRow1.drewN {w : World} {a : Option Addr} {l : List Value} (h : IsRow1 w a l) (n : Nat) : IsRow1 (w.drewN n) a l := h
theorem IsRow1.below {w w' : World} {a : Option Addr} {l : List Value} (h : IsRow1 w a l) (hb : Below w.heap.size w w') : IsRow1 w' a l := by
  intro hp
  obtain ⟨b, off, e, hc⟩ := h hp
  refine ⟨b, off, e, fun j hj => ?_⟩
  have h1 := hc j hj
  rw [List.getElem?_eq_getElem hj] at h1 ⊢
  exact (hb.cell (World.block_lt_of_cell? w _ h1)).trans h1
theorem fl64_cell {w : World} {b off : Nat} {l : List Nat} (h : ∀ j, j < (fl64 l).length → w.cell? ⟨b, off + j, none⟩ = (fl64 l)[j]?) {j : Nat} (hj : j < l.length) : w.cell? ⟨b, off + j, none⟩ = some (.float .f64 (l.getD j 0)) := by
  rw [h j (by rw [fl64_len]; exact hj)]
  simp [fl64, List.getElem?_eq_getElem hj]
theorem in64_cell {w : World} {b off : Nat} {l : List Nat} (h : ∀ j, j < (in64 l).length → w.cell? ⟨b, off + j, none⟩ = (in64 l)[j]?) {j : Nat} (hj : j < l.length) : w.cell? ⟨b, off + j, none⟩ = some (.int .i64 ((l.getD j 0 : Nat) : Int)) := by
  rw [h j (by rw [in64_len]; exact hj)]
  simp [in64, List.getElem?_eq_getElem hj]
theorem eq_of_getD {xs ys : List Nat} (hl : xs.length = ys.length) (h : ∀ j, j < xs.length → xs.getD j 0 = ys.getD j 0) : xs = ys := by
  refine List.ext_getElem hl fun j h1 h2 => ?_
  have := h j h1
  simpa [List.getD, List.getElem?_eq_getElem h1, List.getElem?_eq_getElem h2] using this

section
set_option maxRecDepth 100000 in
set_option maxHeartbeats 400000 in
theorem same_any (xs ys : List Nat) (A B : Option Addr) (ca cb : Nat) (w : World) (hx : xs.length ≤ 1099511627776) (hy : ys.length ≤ 1099511627776) (ha : IsRow1 w A (in64 xs)) (hb : IsRow1 w B (in64 ys)) :
    Calls Tryd.prog 18 #[.slice A xs.length ca, .slice B ys.length cb] w fun e w' => e = .returned (.bool (decide (xs = ys))) ∧ ∃ n, w' = w.drewN n := by
  have HA := Lib.hid ha
  have HB := Lib.hid hb
  clear ha hb
  by_cases hl : xs.length = ys.length
  · have HE : Hid ((∀ j, j < xs.length → xs.getD j 0 = ys.getD j 0) → xs = ys) := fun h => eq_of_getD hl h
    have HLX : Hid (xs.length = ys.length) := hl
    generalize hn : ys.length = n at *
    rw [hl] at hx ⊢
    have HN := Lib.hid hn
    clear hl hn
    go_enter Tryd.func18, Tryd.ntmps18
    go_wp2
    go_loopw [5] (fun i wr => ∃ k : Nat, k ≤ n ∧ i = .int .i64 (k : Int) ∧ (∀ j, j < k → xs.getD j 0 = ys.getD j 0) ∧ ∃ q, wr = w.drewN q) (fun i _ => n - (intOf i).toNat)
    case atStart => exact ⟨0, by omega, rfl, fun j hj => by omega, 0, rfl⟩
    case round =>
      obtain ⟨k, hk, rfl, hall, hq⟩ := hrel
      have HQ := Lib.hid hq
      clear hq
      have HALL := Lib.hid hall
      clear hall
      by_cases hkn : k < n
      · obtain ⟨b1, o1, rfl, h1⟩ := HA.out (by rw [in64_len, HLX.out]; omega)
        obtain ⟨b2, o2, rfl, h2⟩ := HB.out (by rw [in64_len, HN.out]; omega)
        have c1 : wr.cell? ⟨b1, o1 + k, none⟩ = some (.int .i64 ((xs.getD k 0 : Nat) : Int)) := by obtain ⟨q, rfl⟩ := HQ.out; exact in64_cell h1 (by rw [HLX.out]; exact hkn)
        have c2 : wr.cell? ⟨b2, o2 + k, none⟩ = some (.int .i64 ((ys.getD k 0 : Nat) : Int)) := by obtain ⟨q, rfl⟩ := HQ.out; exact in64_cell h2 (by rw [HN.out]; exact hkn)
        clear h1 h2
        by_cases e : xs.getD k 0 = ys.getD k 0
        · rw [e] at c1
          have HE2 := Lib.hid e
          clear e
          generalize ys.getD k 0 = y at c1 c2
          go_wp2
          go_quiet (fail)
          go_wp2
          go_roundw
          case rel => exact ⟨k + 1, by omega, by go_num, fun j hj => by
            by_cases hjk : j < k
            · exact HALL.out j hjk
            · obtain rfl : j = k := by omega
              exact HE2.out, by obtain ⟨q, rfl⟩ := HQ.out; exact ⟨q + nq, World.drewN_drewN _ _ _⟩⟩
          case measure => simp [intOf]; omega
        · have ne : ((xs.getD k 0 : Nat) : Int) ≠ ((ys.getD k 0 : Nat) : Int) := fun h => e (by omega)
          have HNE : Hid (decide (xs = ys) = false) := by show _ = _; rw [decide_eq_false_iff_not]; intro h; exact e (by rw [h])
          have ne2 : (((xs.getD k 0 : Nat) : Int) != ((ys.getD k 0 : Nat) : Int)) = true := by simpa using ne
          clear e
          generalize ((xs.getD k 0 : Nat) : Int) = x at *
          generalize ((ys.getD k 0 : Nat) : Int) = y at *
          go_wp2
          go_quiet (fail)
          go_wp2
          go_ret
          exact ⟨by rw [HNE.out]; rfl, by obtain ⟨q, rfl⟩ := HQ.out; exact ⟨q + nq, World.drewN_drewN _ _ _⟩⟩
      · obtain rfl : k = n := by omega
        have HT : Hid (decide (xs = ys) = true) := by show _ = _; rw [decide_eq_true_iff]; exact HE.out (by rw [HLX.out]; exact HALL.out)
        go_wp2
        go_ret
        exact ⟨by rw [HT.out]; rfl, HQ.out⟩
  · have HNE : Hid (decide (xs = ys) = false) := by show _ = _; rw [decide_eq_false_iff_not]; intro h; exact hl (by rw [h])
    generalize xs.length = m at *
    generalize ys.length = n at *
    have ne2 : ((m : Int) != (n : Int)) = true := by simp; omega
    go_enter Tryd.func18, Tryd.ntmps18
    go_wp2
    go_ret
    exact ⟨by rw [HNE.out]; rfl, 0, rfl⟩
end

section
attribute [local go_sem] Fm.order_eql Fm.order_neq Fm.order_lss Fm.order_gtr Fm.lt_or_eq
set_option maxRecDepth 100000 in
theorem rahead_any (a b : Nat) (ha : Fm.W a) (hb : Fm.W b) (w : World) : Calls Tryd.prog 48 #[.float .f64 a, .float .f64 b] w fun e w' => e = .returned (.bool (Fm.ahead a b)) ∧ w' = w := by
  have RL := rless_any b a hb ha w
  clear ha hb
  have HL : Hid (Fm.ahead a b = if Fm.isN a || Fm.isN b then !Fm.isN a && Fm.isN b else Fm.less b a) := by show _ = _; rfl
  have qa := Fm.eq_self a
  have qb := Fm.eq_self b
  generalize Fm.ahead a b = r at *
  generalize Fm.less b a = m at *
  by_cases ca : Fm.isN a = true
  · rw [ca] at qa HL
    simp only [Bool.not_true] at qa
    have r0 : Hid (r = false) := by show _ = _; rw [HL.out]; simp
    go_enter Tryd.func48, Tryd.ntmps48
    go_wp2
    go_ret
    exact ⟨by rw [r0.out]; rfl, rfl⟩
  · have ca' : Fm.isN a = false := by simpa using ca
    rw [ca'] at qa HL
    clear ca ca'
    simp only [Bool.not_false] at qa
    by_cases cb : Fm.isN b = true
    · rw [cb] at qb HL
      simp only [Bool.not_true] at qb
      have r0 : Hid (r = true) := by show _ = _; rw [HL.out]; simp
      go_enter Tryd.func48, Tryd.ntmps48
      go_wp2
      go_ret
      exact ⟨by rw [r0.out]; rfl, rfl⟩
    · have cb' : Fm.isN b = false := by simpa using cb
      rw [cb'] at qb HL
      clear cb cb'
      simp only [Bool.not_false] at qb
      have r0 : Hid (r = m) := by show _ = _; rw [HL.out]; simp
      go_enter Tryd.func48, Tryd.ntmps48
      go_wp2_with fail
      refine RL.mono ?_
      rintro e w' ⟨rfl, rfl⟩
      go_wp2
      go_ret
      exact ⟨by rw [r0.out]; rfl, rfl⟩
end
end Go.Proofs.YtmdpeifpgnkbiaaDoor
