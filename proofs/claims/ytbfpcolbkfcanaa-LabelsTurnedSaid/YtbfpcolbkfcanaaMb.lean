/-
  Slices of labels in a walk: a slice that reads as a list of labels, one that a call has made; what Get and the reference's GetLabel do. Conditions: the length fits.
-/
import Derived.Test.YtbfpcolbkfcanaaMa
import Derived.BigQuiet
namespace Go.Proofs.Ytbfpcolbkfcanaa
open Go.RowKit La

/-- Labels as cells. -/
def lc (ls : List Lab) : List Value := ls.flatMap fun x => [.string x.1, .string x.2]
theorem lc_len (ls : List Lab) : (lc ls).length = ls.length * 2 := by
  induction ls with
  | nil => rfl
  | cons x r ih => simp [lc] at ih ⊢; omega
theorem lc_app (a b : List Lab) : lc (a ++ b) = lc a ++ lc b := by simp [lc]
theorem lc_get : ∀ (ls : List Lab) (j : Nat), j < ls.length → (lc ls)[j * 2]? = some (.string (nth ls j).1) ∧ (lc ls)[j * 2 + 1]? = some (.string (nth ls j).2)
  | [], j, h => by simp at h
  | x :: r, 0, _ => by simp [lc, nth]
  | x :: r, j + 1, h => by
    have ih := lc_get r j (by simpa using h)
    have e : lc (x :: r) = .string x.1 :: .string x.2 :: lc r := rfl
    have e1 : (j + 1) * 2 = j * 2 + 1 + 1 := by omega
    rw [e, e1]
    simpa [nth] using ih
/-- The slice at address a reads as these labels. -/
def IsLabs (w : World) (a : Option Addr) (ls : List Lab) : Prop :=
  0 < ls.length → ∃ b off, a = some ⟨b, off, none⟩ ∧ ∀ j, j < ls.length → w.cell? ⟨b, off + j * 2, none⟩ = some (.string (nth ls j).1) ∧ w.cell? ⟨b, off + j * 2 + 1, none⟩ = some (.string (nth ls j).2)
theorem IsLabs.below {w w' : World} {a : Option Addr} {ls : List Lab} (h : IsLabs w a ls) (hb : Below w.heap.size w w') : IsLabs w' a ls := by
  intro hp
  obtain ⟨b, off, e, hc⟩ := h hp
  refine ⟨b, off, e, fun j hj => ?_⟩
  obtain ⟨h1, h2⟩ := hc j hj
  exact ⟨(hb.cell (World.block_lt_of_cell? w _ h1)).trans h1, (hb.cell (World.block_lt_of_cell? w _ h2)).trans h2⟩
theorem own_labs {w : World} {base n cap : Nat} {A : Option Addr} {ls : List Lab} (h : w.ownsRow base 23 2 (.slice A n cap) n (lc ls)) : IsLabs w A ls ∧ ls.length = n := by
  have hl : ls.length = n := by have := h.1; rw [lc_len] at this; omega
  refine ⟨fun hp => ?_, hl⟩
  rcases h.2 with ⟨_, e⟩ | ⟨g, c, cur, e, _⟩
  · omega
  · injection e with e1 e2 e3
    subst e1
    refine ⟨g, 0, rfl, fun j hj => ?_⟩
    have g1 := h.cellAt (g := g) (j * 2) (by omega)
    have g2 := h.cellAt (g := g) (j * 2 + 1) (by omega)
    obtain ⟨e1, e2⟩ := lc_get ls j hj
    exact ⟨by rw [Nat.zero_add, g1, e1], by rw [Nat.zero_add, g2, e2]⟩

set_option maxRecDepth 100000 in
set_option maxHeartbeats 400000 in
theorem get_labs (ls : List Lab) (n : ByteArray) (A : Option Addr) (cap : Nat) (w : World) (hl : ls.length ≤ 1099511627776) (ha : IsLabs w A ls) :
    Calls Try.prog 19 #[.slice A ls.length cap, .string n] w fun e w' => e = .returned (.string (getL ls n)) ∧ Below w.heap.size w w' := by
  have HA := Lib.hid ha
  clear ha
  obtain ⟨N, hN⟩ : ∃ N, ls.length = N := ⟨_, rfl⟩
  rw [hN] at hl ⊢
  have HN := Lib.hid hN
  clear hN
  go_enter Try.func19, Try.ntmps19
  go_wp2
  go_loopw [9] (fun i wr => ∃ k : Nat, k ≤ N ∧ i = .int .i64 (k : Int) ∧ Hid (Below w.heap.size w wr ∧ getL (ls.drop k) n = getL ls n)) (fun i _ => N - (intOf i).toNat)
  case atStart => exact ⟨0, by omega, rfl, Below.refl _ _, rfl⟩
  case round =>
    obtain ⟨k, hk, rfl, HI⟩ := hrel
    by_cases hkn : k < N
    · obtain ⟨b, off, rfl, hc⟩ := (HA.out.below HI.out.1) (by rw [HN.out]; omega)
      obtain ⟨c1, c2⟩ := hc k (by rw [HN.out]; exact hkn)
      clear hc
      have hkz : (k : Int) < (N : Int) := by omega
      cases he : ((nth ls k).1.toList == n.toList)
      · have R : Hid (getL (ls.drop (k + 1)) n = getL ls n) := by
          show _ = _
          rw [← getL_miss (by rw [HN.out]; exact hkn) he]; exact HI.out.2
        have B := Lib.hid HI.out.1
        clear HI
        generalize (nth ls k).1 = x at *
        generalize (nth ls k).2 = y at *
        go_wp2
        go_roundw
        case rel => exact ⟨k + 1, by omega, by go_num, B.out.alloc B.out.size _, R.out⟩
        case measure => simp [intOf]; omega
      · have R : Hid (getL ls n = (nth ls k).2) := by
          show _ = _
          rw [← HI.out.2]; exact getL_hit (by rw [HN.out]; exact hkn) he
        have B := Lib.hid HI.out.1
        clear HI
        generalize (nth ls k).1 = x at *
        generalize (nth ls k).2 = y at *
        go_wp2
        go_ret
        exact ⟨by rw [R.out]; rfl, B.out.alloc B.out.size _⟩
    · obtain rfl : k = N := by omega
      have R : Hid (getL ls n = ⟨#[]⟩) := by
        show _ = _
        rw [← HI.out.2]; exact getL_out (by rw [HN.out]; omega)
      have B := Lib.hid HI.out.1
      clear HI
      go_wp2
      go_ret
      exact ⟨by rw [R.out]; rfl, B.out⟩

set_option maxRecDepth 100000 in
set_option maxHeartbeats 400000 in
theorem rget_labs (ls : List Lab) (n : ByteArray) (A : Option Addr) (cap : Nat) (w : World) (hl : ls.length ≤ 1099511627776) (ha : IsLabs w A ls) :
    Calls Try.prog 20 #[.slice A ls.length cap, .string n] w fun e w' => e = .returned (.string (getL ls n)) ∧ w = w' := by
  have HA := Lib.hid ha
  clear ha
  obtain ⟨N, hN⟩ : ∃ N, ls.length = N := ⟨_, rfl⟩
  rw [hN] at hl ⊢
  have HN := Lib.hid hN
  clear hN
  go_enter Try.func20, Try.ntmps20
  go_wp2
  go_loop [5] (fun i => ∃ k : Nat, k ≤ N ∧ i = .int .i64 (k : Int) ∧ Hid (getL (ls.drop k) n = getL ls n)) (fun i => N - (intOf i).toNat)
  case atStart => exact ⟨0, by omega, rfl, rfl⟩
  case round =>
    obtain ⟨k, hk, rfl, HI⟩ := hrel
    by_cases hkn : k < N
    · obtain ⟨b, off, rfl, hc⟩ := HA.out (by rw [HN.out]; omega)
      obtain ⟨c1, c2⟩ := hc k (by rw [HN.out]; exact hkn)
      clear hc
      have hkz : (k : Int) < (N : Int) := by omega
      cases he : ((nth ls k).1.toList == n.toList)
      · have R : Hid (getL (ls.drop (k + 1)) n = getL ls n) := by
          show _ = _
          rw [← getL_miss (by rw [HN.out]; exact hkn) he]; exact HI.out
        clear HI
        generalize (nth ls k).1 = x at *
        generalize (nth ls k).2 = y at *
        go_wp2
        go_round
        case rel => exact ⟨k + 1, by omega, by go_num, R.out⟩
        case measure => simp [intOf]; omega
      · have R : Hid (getL ls n = (nth ls k).2) := by
          show _ = _
          rw [← HI.out]; exact getL_hit (by rw [HN.out]; exact hkn) he
        clear HI
        generalize (nth ls k).1 = x at *
        generalize (nth ls k).2 = y at *
        go_wp2
        go_ret
        exact ⟨by rw [R.out]; rfl, rfl⟩
    · obtain rfl : k = N := by omega
      have R : Hid (getL ls n = ⟨#[]⟩) := by
        show _ = _
        rw [← HI.out]; exact getL_out (by rw [HN.out]; omega)
      clear HI
      go_wp2
      go_ret
      exact ⟨by rw [R.out]; rfl, rfl⟩
end Go.Proofs.Ytbfpcolbkfcanaa
