/-
  Slices of labels in a walk: a slice that reads as a list of labels, one that a call has made; what Get and the reference's GetLabel do. Conditions: the length fits.
  What Name, Value, isLetter, isDigit and the reference's Name and Value do. Conditions: the length fits.
  Matchers in memory: a slice that reads as a list of matchers, one that a call has made, appended to, cut; a matcher in a cell of its own. Conditions: lengths fit.
  Words of steps in a walk; math/bits.TrailingZeros64; what the program's takers and matches tell. Conditions: the library's table lies in its variable (DTab).
-/
import Derived.Test.YtlfcjjlgkcfkdaaGreatDoorProg
import Derived.Test.YtlfcjjlgkcfkdaaGreatDoorZ01
import Derived.Test.YtlfcjjlgkcfkdaaGreatDoorZ02
import Derived.Test.YtlfcjjlgkcfkdaaGreatDoorZ03
import Derived.Test.YtlfcjjlgkcfkdaaGreatDoorZ04
import Derived.Test.YtlfcjjlgkcfkdaaGreatDoorZ05
import Derived.Test.YtlfcjjlgkcfkdaaGreatDoorZ07
import Derived.Test.YtlfcjjlgkcfkdaaGreatDoorZ06
import Derived.Test.YtlfcjjlgkcfkdaaGreatDoorZ08
import Derived.Test.YtlfcjjlgkcfkdaaGreatDoorZ09
import Derived.Test.YtlfcjjlgkcfkdaaGreatDoorZ10
import Derived.Test.YtlfcjjlgkcfkdaaGreatDoorZ11
import Derived.Test.YtlfcjjlgkcfkdaaGreatDoorZ12
import Derived.Test.YtlfcjjlgkcfkdaaGreatDoorZ13
import Derived.Test.YtlfcjjlgkcfkdaaGreatDoorZ14
import Derived.Test.YtlfcjjlgkcfkdaaGreatDoorZ15
import Derived.BigQuiet
import Derived.Below
import Derived.WalkKit
import Derived.WalkSpells
import Derived.WalkLawsBesides
import Derived.Lib.Hide
import Derived.Lib.AppendStr
import Derived.Laws.BytesArg
import Derived.Laws.AppendOwnNone
import Derived.KernelRfl
import Derived.Lib.Bytealg
import Derived.Laws.OwnMore
import Derived.Deep.RegionHeld3
import Derived.Lib.QuietBelow
import Derived.Laws.StructEq
import Derived.Laws.MakeOwn
import Derived.OwnWalk
import Derived.Laws.CopyOwn
import Derived.Laws.AppendOwn
import Derived.Deep.QuietTactic
import Derived.Laws.Externs
import Derived.Maps.AppendAt
import Derived.StillTailTactics
import Derived.Laws.ResultCell
import Derived.Deep.LoopGhost
import Derived.Deep.MidRow
import Derived.Deep.Upon
import Derived.Deep.Cut
import Derived.Lib.TrailingZeros
import Derived.Laws.Bits64b
namespace Go.Proofs.YtlfcjjlgkcfkdaaGreatDoor
open Go.RowKit La

/-- Labels as cells. -/
def lc (ls : List Lab) : List Value := ls.flatMap fun x => [.string x.1, .string x.2]
theorem lc_len (ls : List Lab) : (lc ls).length = ls.length * 2 := by
  induction ls with
  | nil => rfl
  | cons x r ih => simp [lc] at ih ⊢; omega
theorem lc_app (a b : List Lab) : lc (a ++ b) = lc a ++ lc b := by simp [lc]
theorem lc_get : ∀ (ls : List Lab) (j : Nat), j < ls.length → (lc ls)[j * 2]? = some (.string (nth ls j).1) ∧ (lc ls)[j * 2 + 1]? = some (.string (nth ls j).2)
  | [], j, h => by simp at h
  | x :: r, 0, _ => by simp [lc, nth]
  | x :: r, j + 1, h => by
    have ih := lc_get r j (by simpa using h)
    have e : lc (x :: r) = .string x.1 :: .string x.2 :: lc r := rfl
    have e1 : (j + 1) * 2 = j * 2 + 1 + 1 := by omega
    rw [e, e1]
    simpa [nth] using ih
/-- The slice at address a reads as these labels. -/
def IsLabs (w : World) (a : Option Addr) (ls : List Lab) : Prop :=
  0 < ls.length → ∃ b off, a = some ⟨b, off, none⟩ ∧ ∀ j, j < ls.length → w.cell? ⟨b, off + j * 2, none⟩ = some (.string (nth ls j).1) ∧ w.cell? ⟨b, off + j * 2 + 1, none⟩ = some (.string (nth ls j).2)
theorem IsLabs.below {w w' : World} {a : Option Addr} {ls : List Lab} (h : IsLabs w a ls) (hb : Below w.heap.size w w') : IsLabs w' a ls := by
  intro hp
  obtain ⟨b, off, e, hc⟩ := h hp
  refine ⟨b, off, e, fun j hj => ?_⟩
  obtain ⟨h1, h2⟩ := hc j hj
  exact ⟨(hb.cell (World.block_lt_of_cell? w _ h1)).trans h1, (hb.cell (World.block_lt_of_cell? w _ h2)).trans h2⟩
theorem own_labs {w : World} {base n cap : Nat} {A : Option Addr} {ls : List Lab} (h : w.ownsRow base 26 2 (.slice A n cap) n (lc ls)) : IsLabs w A ls ∧ ls.length = n := by
  have hl : ls.length = n := by have := h.1; rw [lc_len] at this; omega
  refine ⟨fun hp => ?_, hl⟩
  rcases h.2 with ⟨_, e⟩ | ⟨g, c, cur, e, _⟩
  · omega
  · injection e with e1 e2 e3
    subst e1
    refine ⟨g, 0, rfl, fun j hj => ?_⟩
    have g1 := h.cellAt (g := g) (j * 2) (by omega)
    have g2 := h.cellAt (g := g) (j * 2 + 1) (by omega)
    obtain ⟨e1, e2⟩ := lc_get ls j hj
    exact ⟨by rw [Nat.zero_add, g1, e1], by rw [Nat.zero_add, g2, e2]⟩

set_option maxRecDepth 100000 in
set_option maxHeartbeats 400000 in
theorem get_labs (ls : List Lab) (n : ByteArray) (A : Option Addr) (cap : Nat) (w : World) (hl : ls.length ≤ 1099511627776) (ha : IsLabs w A ls) :
    Calls Tryz.prog 73 #[.slice A ls.length cap, .string n] w fun e w' => e = .returned (.string (getL ls n)) ∧ Below w.heap.size w w' := by
  have HA := Lib.hid ha
  clear ha
  obtain ⟨N, hN⟩ : ∃ N, ls.length = N := ⟨_, rfl⟩
  rw [hN] at hl ⊢
  have HN := Lib.hid hN
  clear hN
  go_enter Tryz.func73, Tryz.ntmps73
  go_wp2
  go_loopw [9] (fun i wr => ∃ k : Nat, k ≤ N ∧ i = .int .i64 (k : Int) ∧ Hid (Below w.heap.size w wr ∧ getL (ls.drop k) n = getL ls n)) (fun i _ => N - (intOf i).toNat)
  case atStart => exact ⟨0, by omega, rfl, Below.refl _ _, rfl⟩
  case round =>
    obtain ⟨k, hk, rfl, HI⟩ := hrel
    by_cases hkn : k < N
    · obtain ⟨b, off, rfl, hc⟩ := (HA.out.below HI.out.1) (by rw [HN.out]; omega)
      obtain ⟨c1, c2⟩ := hc k (by rw [HN.out]; exact hkn)
      clear hc
      have hkz : (k : Int) < (N : Int) := by omega
      cases he : ((nth ls k).1.toList == n.toList)
      · have R : Hid (getL (ls.drop (k + 1)) n = getL ls n) := by
          show _ = _
          rw [← getL_miss (by rw [HN.out]; exact hkn) he]; exact HI.out.2
        have B := Lib.hid HI.out.1
        clear HI
        generalize (nth ls k).1 = x at *
        generalize (nth ls k).2 = y at *
        go_wp2
        go_roundw
        case rel => exact ⟨k + 1, by omega, by go_num, B.out.alloc B.out.size _, R.out⟩
        case measure => simp [intOf]; omega
      · have R : Hid (getL ls n = (nth ls k).2) := by
          show _ = _
          rw [← HI.out.2]; exact getL_hit (by rw [HN.out]; exact hkn) he
        have B := Lib.hid HI.out.1
        clear HI
        generalize (nth ls k).1 = x at *
        generalize (nth ls k).2 = y at *
        go_wp2
        go_ret
        exact ⟨by rw [R.out]; rfl, B.out.alloc B.out.size _⟩
    · obtain rfl : k = N := by omega
      have R : Hid (getL ls n = ⟨#[]⟩) := by
        show _ = _
        rw [← HI.out.2]; exact getL_out (by rw [HN.out]; omega)
      have B := Lib.hid HI.out.1
      clear HI
      go_wp2
      go_ret
      exact ⟨by rw [R.out]; rfl, B.out⟩

set_option maxRecDepth 100000 in
set_option maxHeartbeats 400000 in
theorem rget_labs (ls : List Lab) (n : ByteArray) (A : Option Addr) (cap : Nat) (w : World) (hl : ls.length ≤ 1099511627776) (ha : IsLabs w A ls) :
    Calls Tryz.prog 17 #[.slice A ls.length cap, .string n] w fun e w' => e = .returned (.string (getL ls n)) ∧ w = w' := by
  have HA := Lib.hid ha
  clear ha
  obtain ⟨N, hN⟩ : ∃ N, ls.length = N := ⟨_, rfl⟩
  rw [hN] at hl ⊢
  have HN := Lib.hid hN
  clear hN
  go_enter Tryz.func17, Tryz.ntmps17
  go_wp2
  go_loop [5] (fun i => ∃ k : Nat, k ≤ N ∧ i = .int .i64 (k : Int) ∧ Hid (getL (ls.drop k) n = getL ls n)) (fun i => N - (intOf i).toNat)
  case atStart => exact ⟨0, by omega, rfl, rfl⟩
  case round =>
    obtain ⟨k, hk, rfl, HI⟩ := hrel
    by_cases hkn : k < N
    · obtain ⟨b, off, rfl, hc⟩ := HA.out (by rw [HN.out]; omega)
      obtain ⟨c1, c2⟩ := hc k (by rw [HN.out]; exact hkn)
      clear hc
      have hkz : (k : Int) < (N : Int) := by omega
      cases he : ((nth ls k).1.toList == n.toList)
      · have R : Hid (getL (ls.drop (k + 1)) n = getL ls n) := by
          show _ = _
          rw [← getL_miss (by rw [HN.out]; exact hkn) he]; exact HI.out
        clear HI
        generalize (nth ls k).1 = x at *
        generalize (nth ls k).2 = y at *
        go_wp2
        go_round
        case rel => exact ⟨k + 1, by omega, by go_num, R.out⟩
        case measure => simp [intOf]; omega
      · have R : Hid (getL ls n = (nth ls k).2) := by
          show _ = _
          rw [← HI.out]; exact getL_hit (by rw [HN.out]; exact hkn) he
        clear HI
        generalize (nth ls k).1 = x at *
        generalize (nth ls k).2 = y at *
        go_wp2
        go_ret
        exact ⟨by rw [R.out]; rfl, rfl⟩
    · obtain rfl : k = N := by omega
      have R : Hid (getL ls n = ⟨#[]⟩) := by
        show _ = _
        rw [← HI.out]; exact getL_out (by rw [HN.out]; omega)
      clear HI
      go_wp2
      go_ret
      exact ⟨by rw [R.out]; rfl, rfl⟩

end Go.Proofs.YtlfcjjlgkcfkdaaGreatDoor
namespace Go.Proofs.YtlfcjjlgkcfkdaaGreatDoor
open Go.RowKit La

theorem byte_cases (c : Nat) : (c < 48) ∨ (48 ≤ c ∧ c ≤ 57) ∨ (57 < c ∧ c < 65) ∨ (65 ≤ c ∧ c ≤ 90) ∨ (90 < c ∧ c < 95) ∨ (c = 95) ∨ (95 < c ∧ c < 97) ∨ (97 ≤ c ∧ c ≤ 122) ∨ (122 < c) := by omega
theorem str_at (w : World) (s : ByteArray) (j : Nat) (h : j < (textL s).length) : (Instr.index 9 (.string s) (.int .i64 (j : Int))).run Tryz.prog w = .ok (.int .u8 (((textL s).getD j 0 : Nat) : Int)) w := by
  have hs : j < s.size := by rw [textL_length] at h; exact h
  have e : s[j]? = some s[j] := by simp [hs]
  have e2 : (textL s).getD j 0 = (s[j]).toNat := by
    have : j < s.data.size := hs
    rw [textL, List.getD, List.getElem?_map, Array.getElem?_toList, Array.getElem?_eq_getElem this]
    rfl
  rw [e2]
  simp [Instr.index, run_underlying Tryz.underlying9, asIntOf, go_sem, e]
theorem name_no {s : ByteArray} (h : ¬ (1 ≤ s.size ∧ s.size ≤ 12 ∧ ∀ i, i < s.size → good s i = true)) : name s = false := decide_eq_false h
theorem name_yes {s : ByteArray} (h : 1 ≤ s.size ∧ s.size ≤ 12 ∧ ∀ i, i < s.size → good s i = true) : name s = true := decide_eq_true h
theorem good_of {s : ByteArray} {i c : Nat} (h : (textL s).getD i 0 = c) : good s i = (letter c || (decide (i ≠ 0) && digit c)) := by rw [good, h]

set_option maxRecDepth 100000 in
theorem isletter_any (c : Nat) (w : World) : Calls Tryz.prog 71 #[.int .u8 (c : Int)] w fun e w' => e = .returned (.bool (letter c)) ∧ w' = w := by
  rcases byte_cases c with h | h | h | h | h | h | h | h | h
  · have r : Hid (letter c = false) := by show _ = _; simp only [letter]; simp; omega
    have f0 : ¬ ((97 : Int) ≤ (c : Int)) := by omega
    have f1 : (c : Int) ≤ 122 := by omega
    have f2 : ¬ ((65 : Int) ≤ (c : Int)) := by omega
    have f3 : (c : Int) ≤ 90 := by omega
    have f4 : ¬ ((48 : Int) ≤ (c : Int)) := by omega
    have f5 : (c : Int) ≤ 57 := by omega
    have f6 : ((c : Int) == 95) = false := by simp; omega
    have f8 : decide ((c : Int) < 48) = true := decide_eq_true (by omega)
    have f9 : decide ((c : Int) > 57) = false := decide_eq_false (by omega)
    clear h
    go_enter Tryz.func71, Tryz.ntmps71
    go_wp2
    go_ret
    exact ⟨by rw [r.out]; rfl, rfl⟩
  · have r : Hid (letter c = false) := by show _ = _; simp only [letter]; simp; omega
    have f0 : ¬ ((97 : Int) ≤ (c : Int)) := by omega
    have f1 : (c : Int) ≤ 122 := by omega
    have f2 : ¬ ((65 : Int) ≤ (c : Int)) := by omega
    have f3 : (c : Int) ≤ 90 := by omega
    have f4 : (48 : Int) ≤ (c : Int) := by omega
    have f5 : (c : Int) ≤ 57 := by omega
    have f6 : ((c : Int) == 95) = false := by simp; omega
    have f8 : decide ((c : Int) < 48) = false := decide_eq_false (by omega)
    have f9 : decide ((c : Int) > 57) = false := decide_eq_false (by omega)
    clear h
    go_enter Tryz.func71, Tryz.ntmps71
    go_wp2
    go_ret
    exact ⟨by rw [r.out]; rfl, rfl⟩
  · have r : Hid (letter c = false) := by show _ = _; simp only [letter]; simp; omega
    have f0 : ¬ ((97 : Int) ≤ (c : Int)) := by omega
    have f1 : (c : Int) ≤ 122 := by omega
    have f2 : ¬ ((65 : Int) ≤ (c : Int)) := by omega
    have f3 : (c : Int) ≤ 90 := by omega
    have f4 : (48 : Int) ≤ (c : Int) := by omega
    have f5 : ¬ ((c : Int) ≤ 57) := by omega
    have f6 : ((c : Int) == 95) = false := by simp; omega
    have f8 : decide ((c : Int) < 48) = false := decide_eq_false (by omega)
    have f9 : decide ((c : Int) > 57) = true := decide_eq_true (by omega)
    clear h
    go_enter Tryz.func71, Tryz.ntmps71
    go_wp2
    go_ret
    exact ⟨by rw [r.out]; rfl, rfl⟩
  · have r : Hid (letter c = true) := by show _ = _; simp only [letter]; simp; omega
    have f0 : ¬ ((97 : Int) ≤ (c : Int)) := by omega
    have f1 : (c : Int) ≤ 122 := by omega
    have f2 : (65 : Int) ≤ (c : Int) := by omega
    have f3 : (c : Int) ≤ 90 := by omega
    have f4 : (48 : Int) ≤ (c : Int) := by omega
    have f5 : ¬ ((c : Int) ≤ 57) := by omega
    have f6 : ((c : Int) == 95) = false := by simp; omega
    have f8 : decide ((c : Int) < 48) = false := decide_eq_false (by omega)
    have f9 : decide ((c : Int) > 57) = true := decide_eq_true (by omega)
    clear h
    go_enter Tryz.func71, Tryz.ntmps71
    go_wp2
    go_ret
    exact ⟨by rw [r.out]; rfl, rfl⟩
  · have r : Hid (letter c = false) := by show _ = _; simp only [letter]; simp; omega
    have f0 : ¬ ((97 : Int) ≤ (c : Int)) := by omega
    have f1 : (c : Int) ≤ 122 := by omega
    have f2 : (65 : Int) ≤ (c : Int) := by omega
    have f3 : ¬ ((c : Int) ≤ 90) := by omega
    have f4 : (48 : Int) ≤ (c : Int) := by omega
    have f5 : ¬ ((c : Int) ≤ 57) := by omega
    have f6 : ((c : Int) == 95) = false := by simp; omega
    have f8 : decide ((c : Int) < 48) = false := decide_eq_false (by omega)
    have f9 : decide ((c : Int) > 57) = true := decide_eq_true (by omega)
    clear h
    go_enter Tryz.func71, Tryz.ntmps71
    go_wp2
    go_ret
    exact ⟨by rw [r.out]; rfl, rfl⟩
  · have r : Hid (letter c = true) := by show _ = _; simp only [letter]; simp; omega
    have f0 : ¬ ((97 : Int) ≤ (c : Int)) := by omega
    have f1 : (c : Int) ≤ 122 := by omega
    have f2 : (65 : Int) ≤ (c : Int) := by omega
    have f3 : ¬ ((c : Int) ≤ 90) := by omega
    have f4 : (48 : Int) ≤ (c : Int) := by omega
    have f5 : ¬ ((c : Int) ≤ 57) := by omega
    have f6 : ((c : Int) == 95) = true := by simp; omega
    have f8 : decide ((c : Int) < 48) = false := decide_eq_false (by omega)
    have f9 : decide ((c : Int) > 57) = true := decide_eq_true (by omega)
    clear h
    go_enter Tryz.func71, Tryz.ntmps71
    go_wp2
    go_ret
    exact ⟨by rw [r.out]; rfl, rfl⟩
  · have r : Hid (letter c = false) := by show _ = _; simp only [letter]; simp; omega
    have f0 : ¬ ((97 : Int) ≤ (c : Int)) := by omega
    have f1 : (c : Int) ≤ 122 := by omega
    have f2 : (65 : Int) ≤ (c : Int) := by omega
    have f3 : ¬ ((c : Int) ≤ 90) := by omega
    have f4 : (48 : Int) ≤ (c : Int) := by omega
    have f5 : ¬ ((c : Int) ≤ 57) := by omega
    have f6 : ((c : Int) == 95) = false := by simp; omega
    have f8 : decide ((c : Int) < 48) = false := decide_eq_false (by omega)
    have f9 : decide ((c : Int) > 57) = true := decide_eq_true (by omega)
    clear h
    go_enter Tryz.func71, Tryz.ntmps71
    go_wp2
    go_ret
    exact ⟨by rw [r.out]; rfl, rfl⟩
  · have r : Hid (letter c = true) := by show _ = _; simp only [letter]; simp; omega
    have f0 : (97 : Int) ≤ (c : Int) := by omega
    have f1 : (c : Int) ≤ 122 := by omega
    have f2 : (65 : Int) ≤ (c : Int) := by omega
    have f3 : ¬ ((c : Int) ≤ 90) := by omega
    have f4 : (48 : Int) ≤ (c : Int) := by omega
    have f5 : ¬ ((c : Int) ≤ 57) := by omega
    have f6 : ((c : Int) == 95) = false := by simp; omega
    have f8 : decide ((c : Int) < 48) = false := decide_eq_false (by omega)
    have f9 : decide ((c : Int) > 57) = true := decide_eq_true (by omega)
    clear h
    go_enter Tryz.func71, Tryz.ntmps71
    go_wp2
    go_ret
    exact ⟨by rw [r.out]; rfl, rfl⟩
  · have r : Hid (letter c = false) := by show _ = _; simp only [letter]; simp; omega
    have f0 : (97 : Int) ≤ (c : Int) := by omega
    have f1 : ¬ ((c : Int) ≤ 122) := by omega
    have f2 : (65 : Int) ≤ (c : Int) := by omega
    have f3 : ¬ ((c : Int) ≤ 90) := by omega
    have f4 : (48 : Int) ≤ (c : Int) := by omega
    have f5 : ¬ ((c : Int) ≤ 57) := by omega
    have f6 : ((c : Int) == 95) = false := by simp; omega
    have f8 : decide ((c : Int) < 48) = false := decide_eq_false (by omega)
    have f9 : decide ((c : Int) > 57) = true := decide_eq_true (by omega)
    clear h
    go_enter Tryz.func71, Tryz.ntmps71
    go_wp2
    go_ret
    exact ⟨by rw [r.out]; rfl, rfl⟩
set_option maxRecDepth 100000 in
theorem isdigit_any (c : Nat) (w : World) : Calls Tryz.prog 70 #[.int .u8 (c : Int)] w fun e w' => e = .returned (.bool (digit c)) ∧ w' = w := by
  rcases byte_cases c with h | h | h | h | h | h | h | h | h
  · have r : Hid (digit c = false) := by show _ = _; simp only [digit]; simp; omega
    have f0 : ¬ ((97 : Int) ≤ (c : Int)) := by omega
    have f1 : (c : Int) ≤ 122 := by omega
    have f2 : ¬ ((65 : Int) ≤ (c : Int)) := by omega
    have f3 : (c : Int) ≤ 90 := by omega
    have f4 : ¬ ((48 : Int) ≤ (c : Int)) := by omega
    have f5 : (c : Int) ≤ 57 := by omega
    have f6 : ((c : Int) == 95) = false := by simp; omega
    have f8 : decide ((c : Int) < 48) = true := decide_eq_true (by omega)
    have f9 : decide ((c : Int) > 57) = false := decide_eq_false (by omega)
    clear h
    go_enter Tryz.func70, Tryz.ntmps70
    go_wp2
    go_ret
    exact ⟨by rw [r.out]; rfl, rfl⟩
  · have r : Hid (digit c = true) := by show _ = _; simp only [digit]; simp; omega
    have f0 : ¬ ((97 : Int) ≤ (c : Int)) := by omega
    have f1 : (c : Int) ≤ 122 := by omega
    have f2 : ¬ ((65 : Int) ≤ (c : Int)) := by omega
    have f3 : (c : Int) ≤ 90 := by omega
    have f4 : (48 : Int) ≤ (c : Int) := by omega
    have f5 : (c : Int) ≤ 57 := by omega
    have f6 : ((c : Int) == 95) = false := by simp; omega
    have f8 : decide ((c : Int) < 48) = false := decide_eq_false (by omega)
    have f9 : decide ((c : Int) > 57) = false := decide_eq_false (by omega)
    clear h
    go_enter Tryz.func70, Tryz.ntmps70
    go_wp2
    go_ret
    exact ⟨by rw [r.out]; rfl, rfl⟩
  · have r : Hid (digit c = false) := by show _ = _; simp only [digit]; simp; omega
    have f0 : ¬ ((97 : Int) ≤ (c : Int)) := by omega
    have f1 : (c : Int) ≤ 122 := by omega
    have f2 : ¬ ((65 : Int) ≤ (c : Int)) := by omega
    have f3 : (c : Int) ≤ 90 := by omega
    have f4 : (48 : Int) ≤ (c : Int) := by omega
    have f5 : ¬ ((c : Int) ≤ 57) := by omega
    have f6 : ((c : Int) == 95) = false := by simp; omega
    have f8 : decide ((c : Int) < 48) = false := decide_eq_false (by omega)
    have f9 : decide ((c : Int) > 57) = true := decide_eq_true (by omega)
    clear h
    go_enter Tryz.func70, Tryz.ntmps70
    go_wp2
    go_ret
    exact ⟨by rw [r.out]; rfl, rfl⟩
  · have r : Hid (digit c = false) := by show _ = _; simp only [digit]; simp; omega
    have f0 : ¬ ((97 : Int) ≤ (c : Int)) := by omega
    have f1 : (c : Int) ≤ 122 := by omega
    have f2 : (65 : Int) ≤ (c : Int) := by omega
    have f3 : (c : Int) ≤ 90 := by omega
    have f4 : (48 : Int) ≤ (c : Int) := by omega
    have f5 : ¬ ((c : Int) ≤ 57) := by omega
    have f6 : ((c : Int) == 95) = false := by simp; omega
    have f8 : decide ((c : Int) < 48) = false := decide_eq_false (by omega)
    have f9 : decide ((c : Int) > 57) = true := decide_eq_true (by omega)
    clear h
    go_enter Tryz.func70, Tryz.ntmps70
    go_wp2
    go_ret
    exact ⟨by rw [r.out]; rfl, rfl⟩
  · have r : Hid (digit c = false) := by show _ = _; simp only [digit]; simp; omega
    have f0 : ¬ ((97 : Int) ≤ (c : Int)) := by omega
    have f1 : (c : Int) ≤ 122 := by omega
    have f2 : (65 : Int) ≤ (c : Int) := by omega
    have f3 : ¬ ((c : Int) ≤ 90) := by omega
    have f4 : (48 : Int) ≤ (c : Int) := by omega
    have f5 : ¬ ((c : Int) ≤ 57) := by omega
    have f6 : ((c : Int) == 95) = false := by simp; omega
    have f8 : decide ((c : Int) < 48) = false := decide_eq_false (by omega)
    have f9 : decide ((c : Int) > 57) = true := decide_eq_true (by omega)
    clear h
    go_enter Tryz.func70, Tryz.ntmps70
    go_wp2
    go_ret
    exact ⟨by rw [r.out]; rfl, rfl⟩
  · have r : Hid (digit c = false) := by show _ = _; simp only [digit]; simp; omega
    have f0 : ¬ ((97 : Int) ≤ (c : Int)) := by omega
    have f1 : (c : Int) ≤ 122 := by omega
    have f2 : (65 : Int) ≤ (c : Int) := by omega
    have f3 : ¬ ((c : Int) ≤ 90) := by omega
    have f4 : (48 : Int) ≤ (c : Int) := by omega
    have f5 : ¬ ((c : Int) ≤ 57) := by omega
    have f6 : ((c : Int) == 95) = true := by simp; omega
    have f8 : decide ((c : Int) < 48) = false := decide_eq_false (by omega)
    have f9 : decide ((c : Int) > 57) = true := decide_eq_true (by omega)
    clear h
    go_enter Tryz.func70, Tryz.ntmps70
    go_wp2
    go_ret
    exact ⟨by rw [r.out]; rfl, rfl⟩
  · have r : Hid (digit c = false) := by show _ = _; simp only [digit]; simp; omega
    have f0 : ¬ ((97 : Int) ≤ (c : Int)) := by omega
    have f1 : (c : Int) ≤ 122 := by omega
    have f2 : (65 : Int) ≤ (c : Int) := by omega
    have f3 : ¬ ((c : Int) ≤ 90) := by omega
    have f4 : (48 : Int) ≤ (c : Int) := by omega
    have f5 : ¬ ((c : Int) ≤ 57) := by omega
    have f6 : ((c : Int) == 95) = false := by simp; omega
    have f8 : decide ((c : Int) < 48) = false := decide_eq_false (by omega)
    have f9 : decide ((c : Int) > 57) = true := decide_eq_true (by omega)
    clear h
    go_enter Tryz.func70, Tryz.ntmps70
    go_wp2
    go_ret
    exact ⟨by rw [r.out]; rfl, rfl⟩
  · have r : Hid (digit c = false) := by show _ = _; simp only [digit]; simp; omega
    have f0 : (97 : Int) ≤ (c : Int) := by omega
    have f1 : (c : Int) ≤ 122 := by omega
    have f2 : (65 : Int) ≤ (c : Int) := by omega
    have f3 : ¬ ((c : Int) ≤ 90) := by omega
    have f4 : (48 : Int) ≤ (c : Int) := by omega
    have f5 : ¬ ((c : Int) ≤ 57) := by omega
    have f6 : ((c : Int) == 95) = false := by simp; omega
    have f8 : decide ((c : Int) < 48) = false := decide_eq_false (by omega)
    have f9 : decide ((c : Int) > 57) = true := decide_eq_true (by omega)
    clear h
    go_enter Tryz.func70, Tryz.ntmps70
    go_wp2
    go_ret
    exact ⟨by rw [r.out]; rfl, rfl⟩
  · have r : Hid (digit c = false) := by show _ = _; simp only [digit]; simp; omega
    have f0 : (97 : Int) ≤ (c : Int) := by omega
    have f1 : ¬ ((c : Int) ≤ 122) := by omega
    have f2 : (65 : Int) ≤ (c : Int) := by omega
    have f3 : ¬ ((c : Int) ≤ 90) := by omega
    have f4 : (48 : Int) ≤ (c : Int) := by omega
    have f5 : ¬ ((c : Int) ≤ 57) := by omega
    have f6 : ((c : Int) == 95) = false := by simp; omega
    have f8 : decide ((c : Int) < 48) = false := decide_eq_false (by omega)
    have f9 : decide ((c : Int) > 57) = true := decide_eq_true (by omega)
    clear h
    go_enter Tryz.func70, Tryz.ntmps70
    go_wp2
    go_ret
    exact ⟨by rw [r.out]; rfl, rfl⟩

set_option maxRecDepth 100000 in
theorem value_any (s : ByteArray) (w : World) : Calls Tryz.prog 52 #[.string s] w fun e w' => e = .returned (.bool (value s)) ∧ w' = w := by
  by_cases h1 : 1 ≤ s.size
  · have r : Hid (value s = decide (s.size ≤ 24)) := by show _ = _; simp [value, h1]
    have f1 : (1 : Int) ≤ (s.size : Int) := by omega
    by_cases h2 : s.size ≤ 24
    · have f2 : (s.size : Int) ≤ 24 := by omega
      have r2 : Hid (decide (s.size ≤ 24) = true) := decide_eq_true h2
      go_enter Tryz.func52, Tryz.ntmps52
      go_wp2
      go_ret
      exact ⟨by rw [r.out, r2.out]; rfl, rfl⟩
    · have f2 : ¬ (s.size : Int) ≤ 24 := by omega
      have r2 : Hid (decide (s.size ≤ 24) = false) := decide_eq_false h2
      go_enter Tryz.func52, Tryz.ntmps52
      go_wp2
      go_ret
      exact ⟨by rw [r.out, r2.out]; rfl, rfl⟩
  · have r : Hid (value s = false) := by show _ = _; simp [value, h1]
    have f1 : ¬ (1 : Int) ≤ (s.size : Int) := by omega
    go_enter Tryz.func52, Tryz.ntmps52
    go_wp2
    go_ret
    exact ⟨by rw [r.out]; rfl, rfl⟩
set_option maxRecDepth 100000 in
theorem rvalue_any (s : ByteArray) (w : World) : Calls Tryz.prog 49 #[.string s] w fun e w' => e = .returned (.bool (value s)) ∧ w' = w := by
  by_cases h1 : 1 ≤ s.size
  · have r : Hid (value s = decide (s.size ≤ 24)) := by show _ = _; simp [value, h1]
    have f1 : (1 : Int) ≤ (s.size : Int) := by omega
    by_cases h2 : s.size ≤ 24
    · have f2 : (s.size : Int) ≤ 24 := by omega
      have r2 : Hid (decide (s.size ≤ 24) = true) := decide_eq_true h2
      go_enter Tryz.func49, Tryz.ntmps49
      go_wp2
      go_ret
      exact ⟨by rw [r.out, r2.out]; rfl, rfl⟩
    · have f2 : ¬ (s.size : Int) ≤ 24 := by omega
      have r2 : Hid (decide (s.size ≤ 24) = false) := decide_eq_false h2
      go_enter Tryz.func49, Tryz.ntmps49
      go_wp2
      go_ret
      exact ⟨by rw [r.out, r2.out]; rfl, rfl⟩
  · have r : Hid (value s = false) := by show _ = _; simp [value, h1]
    have f1 : ¬ (1 : Int) ≤ (s.size : Int) := by omega
    go_enter Tryz.func49, Tryz.ntmps49
    go_wp2
    go_ret
    exact ⟨by rw [r.out]; rfl, rfl⟩

set_option maxRecDepth 100000 in
set_option maxHeartbeats 1000000 in
theorem name_any (s : ByteArray) (w : World) (hl : s.size ≤ 140737488351232) : Calls Tryz.prog 51 #[.string s] w fun e w' => e = .returned (.bool (name s)) ∧ w' = w := by
  have hts := textL_length s
  have HT : Hid (∀ j W, j < s.size → (Instr.index 9 (.string s) (.int .i64 (j : Int))).run Tryz.prog W = .ok (.int .u8 (((textL s).getD j 0 : Nat) : Int)) W) := fun j W h => str_at W s j (by rw [hts]; exact h)
  have NY := Lib.hid (name_yes (s := s))
  have NN := Lib.hid (name_no (s := s))
  have GO := Lib.hid (fun i c (h : (textL s).getD i 0 = c) => good_of h)
  clear hts
  generalize hn : s.size = n at *
  by_cases h1 : n < 1
  · have R : Hid (name s = false) := NN.out (by omega)
    go_enter Tryz.func51, Tryz.ntmps51
    go_wp2
    go_ret
    exact ⟨by rw [R.out]; rfl, rfl⟩
  by_cases h2 : 12 < n
  · have R : Hid (name s = false) := NN.out (by omega)
    have h2d : decide ((n : Int) > 12) = true := decide_eq_true (by omega)
    have h1z : ¬ (n : Int) < 1 := by omega
    go_enter Tryz.func51, Tryz.ntmps51
    go_wp2
    go_ret
    exact ⟨by rw [R.out]; rfl, rfl⟩
  have h2d : decide ((n : Int) > 12) = false := decide_eq_false (by omega)
  have h1z : ¬ (n : Int) < 1 := by omega
  have i0 := fun W => HT.out 0 W (by omega)
  simp only [Int.ofNat_zero] at i0
  have D := Lib.hid (fun c => isdigit_any c)
  have L := Lib.hid (fun c => isletter_any c)
  obtain ⟨c0, hc0⟩ : ∃ c0, (textL s).getD 0 0 = c0 := ⟨_, rfl⟩
  rw [hc0] at i0
  have G0 := Lib.hid (GO.out 0 c0 hc0)
  have HC0 := Lib.hid hc0
  clear hc0
  cases hd0 : digit c0
  · have ND : Hid (digit ((textL s).getD 0 0) = false) := by show _ = _; rw [HC0.out]; exact hd0
    have D0 := Lib.hid (fun w => D.out c0 w)
    rw [hd0] at D0
    clear hd0
    go_enter Tryz.func51, Tryz.ntmps51
    go_wp2_with fail
    refine (D0.out _).mono ?_
    rintro e w' ⟨rfl, rfl⟩
    go_wp2
    clear i0
    go_loop [19] (fun i => ∃ k : Nat, k ≤ n ∧ i = .int .i64 (k : Int) ∧ Hid (∀ i, i < k → good s i = true)) (fun i => n - (intOf i).toNat)
    case atStart => exact ⟨0, by omega, rfl, fun i hi => by omega⟩
    case round =>
      obtain ⟨k, hk, rfl, HI⟩ := hrel
      by_cases hkn : k < n
      · have ik := fun W => HT.out k W (by omega)
        obtain ⟨c, hc⟩ : ∃ c, (textL s).getD k 0 = c := ⟨_, rfl⟩
        rw [hc] at ik
        have G := Lib.hid (GO.out k c hc)
        have HC := Lib.hid hc
        clear hc
        have hkz : (k : Int) < (n : Int) := by omega
        have Lc := Lib.hid (fun w => L.out c w)
        have Dc := Lib.hid (fun w => D.out c w)
        cases hlt : letter c
        · rw [hlt] at Lc
          cases hdt : digit c
          · rw [hdt] at Dc
            have R : Hid (name s = false) := NN.out (fun x => by have := x.2.2 k hkn; rw [G.out, hlt, hdt] at this; simp at this)
            clear hlt hdt
            go_wp2_with fail
            refine (Lc.out _).mono ?_
            rintro e w' ⟨rfl, rfl⟩
            go_wp2_with fail
            refine (Dc.out _).mono ?_
            rintro e w' ⟨rfl, rfl⟩
            go_wp2
            go_ret
            exact ⟨by rw [R.out]; rfl, rfl⟩
          · rw [hdt] at Dc
            have R : Hid (good s k = true) := by
              show _ = _
              rw [G.out, hlt, hdt]
              by_cases hk0 : k = 0
              · subst hk0
                have e := ND.out
                rw [HC.out, hdt] at e
                cases e
              · simp [hk0]
            clear hlt hdt
            go_wp2_with fail
            refine (Lc.out _).mono ?_
            rintro e w' ⟨rfl, rfl⟩
            go_wp2_with fail
            refine (Dc.out _).mono ?_
            rintro e w' ⟨rfl, rfl⟩
            go_wp2
            go_round
            case rel => exact ⟨k + 1, by omega, by go_num, fun i hi => by
              by_cases hik : i = k
              · rw [hik]; exact R.out
              · exact HI.out i (by omega)⟩
            case measure => simp [intOf]; omega
        · rw [hlt] at Lc
          have R : Hid (good s k = true) := by show _ = _; rw [G.out, hlt]; rfl
          clear hlt
          go_wp2_with fail
          refine (Lc.out _).mono ?_
          rintro e w' ⟨rfl, rfl⟩
          go_wp2
          go_round
          case rel => exact ⟨k + 1, by omega, by go_num, fun i hi => by
            by_cases hik : i = k
            · rw [hik]; exact R.out
            · exact HI.out i (by omega)⟩
          case measure => simp [intOf]; omega
      · obtain rfl : k = n := by omega
        have R : Hid (name s = true) := NY.out ⟨by omega, by omega, HI.out⟩
        have hkz : ¬ (k : Int) < (k : Int) := by omega
        go_wp2
        go_ret
        exact ⟨by rw [R.out]; rfl, rfl⟩
  · have R : Hid (name s = false) := NN.out (fun x => by have := x.2.2 0 (by omega); rw [G0.out, letter_digit hd0] at this; simp at this)
    have D0 := Lib.hid (fun w => D.out c0 w)
    rw [hd0] at D0
    clear hd0
    go_enter Tryz.func51, Tryz.ntmps51
    go_wp2_with fail
    refine (D0.out _).mono ?_
    rintro e w' ⟨rfl, rfl⟩
    go_wp2
    go_ret
    exact ⟨by rw [R.out]; rfl, rfl⟩

set_option maxRecDepth 100000 in
set_option maxHeartbeats 2000000 in
theorem rname_any (s : ByteArray) (w : World) (hl : s.size ≤ 140737488351232) : Calls Tryz.prog 48 #[.string s] w fun e w' => e = .returned (.bool (name s)) ∧ w' = w := by
  have hts := textL_length s
  have HT : Hid (∀ j W, j < s.size → (Instr.index 9 (.string s) (.int .i64 (j : Int))).run Tryz.prog W = .ok (.int .u8 (((textL s).getD j 0 : Nat) : Int)) W) := fun j W h => str_at W s j (by rw [hts]; exact h)
  have NY := Lib.hid (name_yes (s := s))
  have NN := Lib.hid (name_no (s := s))
  have GO := Lib.hid (fun i c (h : (textL s).getD i 0 = c) => good_of h)
  clear hts
  generalize hn : s.size = n at *
  go_enter Tryz.func48, Tryz.ntmps48
  go_wp2
  go_loop [3] (fun i => ∃ k : Nat, k ≤ n ∧ i = .int .i64 (k : Int) ∧ Hid (∀ i, i < k → good s i = true)) (fun i => n - (intOf i).toNat)
  case atStart => exact ⟨0, by omega, rfl, fun i hi => by omega⟩
  case round =>
    obtain ⟨k, hk, rfl, HI⟩ := hrel
    by_cases hkn : k < n
    · have ik := fun W => HT.out k W (by omega)
      obtain ⟨c, hc⟩ : ∃ c, (textL s).getD k 0 = c := ⟨_, rfl⟩
      rw [hc] at ik
      have G := Lib.hid (GO.out k c hc)
      clear hc
      have hkz : (k : Int) < (n : Int) := by omega
      rcases byte_cases c with h | h | h | h | h | h | h | h | h
      · have f0 : ¬ ((97 : Int) ≤ (c : Int)) := by omega
        have f1 : (c : Int) ≤ 122 := by omega
        have f2 : ¬ ((65 : Int) ≤ (c : Int)) := by omega
        have f3 : (c : Int) ≤ 90 := by omega
        have f4 : ¬ ((48 : Int) ≤ (c : Int)) := by omega
        have f5 : (c : Int) ≤ 57 := by omega
        have f6 : ((c : Int) == 95) = false := by simp; omega
        have f8 : decide ((c : Int) < 48) = true := decide_eq_true (by omega)
        have f9 : decide ((c : Int) > 57) = false := decide_eq_false (by omega)
        have R : Hid (name s = false) := NN.out (fun x => by have := x.2.2 k hkn; rw [G.out] at this; simp [letter, digit] at this; omega)
        clear h G
        by_cases hk0 : k = 0
        · subst hk0
          simp only [Int.ofNat_zero] at ik
          go_wp2
          go_ret
          exact ⟨by rw [R.out]; rfl, rfl⟩
        · have hk0z : ((k : Int) == 0) = false := by simp; omega
          go_wp2
          go_ret
          exact ⟨by rw [R.out]; rfl, rfl⟩
      · have f0 : ¬ ((97 : Int) ≤ (c : Int)) := by omega
        have f1 : (c : Int) ≤ 122 := by omega
        have f2 : ¬ ((65 : Int) ≤ (c : Int)) := by omega
        have f3 : (c : Int) ≤ 90 := by omega
        have f4 : (48 : Int) ≤ (c : Int) := by omega
        have f5 : (c : Int) ≤ 57 := by omega
        have f6 : ((c : Int) == 95) = false := by simp; omega
        have f8 : decide ((c : Int) < 48) = false := decide_eq_false (by omega)
        have f9 : decide ((c : Int) > 57) = false := decide_eq_false (by omega)
        by_cases hk0 : k = 0
        · have R : Hid (name s = false) := NN.out (fun x => by have := x.2.2 k hkn; rw [G.out] at this; simp [hk0, letter] at this; omega)
          clear h G
          subst hk0
          simp only [Int.ofNat_zero] at ik
          go_wp2
          go_ret
          exact ⟨by rw [R.out]; rfl, rfl⟩
        · have R : Hid (good s k = true) := by show _ = _; rw [G.out]; simp [digit, hk0]; omega
          have hk0z : ((k : Int) == 0) = false := by simp; omega
          clear h G
          go_wp2
          go_round
          case rel => exact ⟨k + 1, by omega, by go_num, fun i hi => by
            by_cases hik : i = k
            · rw [hik]; exact R.out
            · exact HI.out i (by omega)⟩
          case measure => simp [intOf]; omega
      · have f0 : ¬ ((97 : Int) ≤ (c : Int)) := by omega
        have f1 : (c : Int) ≤ 122 := by omega
        have f2 : ¬ ((65 : Int) ≤ (c : Int)) := by omega
        have f3 : (c : Int) ≤ 90 := by omega
        have f4 : (48 : Int) ≤ (c : Int) := by omega
        have f5 : ¬ ((c : Int) ≤ 57) := by omega
        have f6 : ((c : Int) == 95) = false := by simp; omega
        have f8 : decide ((c : Int) < 48) = false := decide_eq_false (by omega)
        have f9 : decide ((c : Int) > 57) = true := decide_eq_true (by omega)
        have R : Hid (name s = false) := NN.out (fun x => by have := x.2.2 k hkn; rw [G.out] at this; simp [letter, digit] at this; omega)
        clear h G
        by_cases hk0 : k = 0
        · subst hk0
          simp only [Int.ofNat_zero] at ik
          go_wp2
          go_ret
          exact ⟨by rw [R.out]; rfl, rfl⟩
        · have hk0z : ((k : Int) == 0) = false := by simp; omega
          go_wp2
          go_ret
          exact ⟨by rw [R.out]; rfl, rfl⟩
      · have f0 : ¬ ((97 : Int) ≤ (c : Int)) := by omega
        have f1 : (c : Int) ≤ 122 := by omega
        have f2 : (65 : Int) ≤ (c : Int) := by omega
        have f3 : (c : Int) ≤ 90 := by omega
        have f4 : (48 : Int) ≤ (c : Int) := by omega
        have f5 : ¬ ((c : Int) ≤ 57) := by omega
        have f6 : ((c : Int) == 95) = false := by simp; omega
        have f8 : decide ((c : Int) < 48) = false := decide_eq_false (by omega)
        have f9 : decide ((c : Int) > 57) = true := decide_eq_true (by omega)
        have R : Hid (good s k = true) := by show _ = _; rw [G.out]; simp [letter]; omega
        clear h G
        go_wp2
        go_round
        case rel => exact ⟨k + 1, by omega, by go_num, fun i hi => by
          by_cases hik : i = k
          · rw [hik]; exact R.out
          · exact HI.out i (by omega)⟩
        case measure => simp [intOf]; omega
      · have f0 : ¬ ((97 : Int) ≤ (c : Int)) := by omega
        have f1 : (c : Int) ≤ 122 := by omega
        have f2 : (65 : Int) ≤ (c : Int) := by omega
        have f3 : ¬ ((c : Int) ≤ 90) := by omega
        have f4 : (48 : Int) ≤ (c : Int) := by omega
        have f5 : ¬ ((c : Int) ≤ 57) := by omega
        have f6 : ((c : Int) == 95) = false := by simp; omega
        have f8 : decide ((c : Int) < 48) = false := decide_eq_false (by omega)
        have f9 : decide ((c : Int) > 57) = true := decide_eq_true (by omega)
        have R : Hid (name s = false) := NN.out (fun x => by have := x.2.2 k hkn; rw [G.out] at this; simp [letter, digit] at this; omega)
        clear h G
        by_cases hk0 : k = 0
        · subst hk0
          simp only [Int.ofNat_zero] at ik
          go_wp2
          go_ret
          exact ⟨by rw [R.out]; rfl, rfl⟩
        · have hk0z : ((k : Int) == 0) = false := by simp; omega
          go_wp2
          go_ret
          exact ⟨by rw [R.out]; rfl, rfl⟩
      · have f0 : ¬ ((97 : Int) ≤ (c : Int)) := by omega
        have f1 : (c : Int) ≤ 122 := by omega
        have f2 : (65 : Int) ≤ (c : Int) := by omega
        have f3 : ¬ ((c : Int) ≤ 90) := by omega
        have f4 : (48 : Int) ≤ (c : Int) := by omega
        have f5 : ¬ ((c : Int) ≤ 57) := by omega
        have f6 : ((c : Int) == 95) = true := by simp; omega
        have f8 : decide ((c : Int) < 48) = false := decide_eq_false (by omega)
        have f9 : decide ((c : Int) > 57) = true := decide_eq_true (by omega)
        have R : Hid (good s k = true) := by show _ = _; rw [G.out]; simp [letter]; omega
        clear h G
        go_wp2
        go_round
        case rel => exact ⟨k + 1, by omega, by go_num, fun i hi => by
          by_cases hik : i = k
          · rw [hik]; exact R.out
          · exact HI.out i (by omega)⟩
        case measure => simp [intOf]; omega
      · have f0 : ¬ ((97 : Int) ≤ (c : Int)) := by omega
        have f1 : (c : Int) ≤ 122 := by omega
        have f2 : (65 : Int) ≤ (c : Int) := by omega
        have f3 : ¬ ((c : Int) ≤ 90) := by omega
        have f4 : (48 : Int) ≤ (c : Int) := by omega
        have f5 : ¬ ((c : Int) ≤ 57) := by omega
        have f6 : ((c : Int) == 95) = false := by simp; omega
        have f8 : decide ((c : Int) < 48) = false := decide_eq_false (by omega)
        have f9 : decide ((c : Int) > 57) = true := decide_eq_true (by omega)
        have R : Hid (name s = false) := NN.out (fun x => by have := x.2.2 k hkn; rw [G.out] at this; simp [letter, digit] at this; omega)
        clear h G
        by_cases hk0 : k = 0
        · subst hk0
          simp only [Int.ofNat_zero] at ik
          go_wp2
          go_ret
          exact ⟨by rw [R.out]; rfl, rfl⟩
        · have hk0z : ((k : Int) == 0) = false := by simp; omega
          go_wp2
          go_ret
          exact ⟨by rw [R.out]; rfl, rfl⟩
      · have f0 : (97 : Int) ≤ (c : Int) := by omega
        have f1 : (c : Int) ≤ 122 := by omega
        have f2 : (65 : Int) ≤ (c : Int) := by omega
        have f3 : ¬ ((c : Int) ≤ 90) := by omega
        have f4 : (48 : Int) ≤ (c : Int) := by omega
        have f5 : ¬ ((c : Int) ≤ 57) := by omega
        have f6 : ((c : Int) == 95) = false := by simp; omega
        have f8 : decide ((c : Int) < 48) = false := decide_eq_false (by omega)
        have f9 : decide ((c : Int) > 57) = true := decide_eq_true (by omega)
        have R : Hid (good s k = true) := by show _ = _; rw [G.out]; simp [letter]; omega
        clear h G
        go_wp2
        go_round
        case rel => exact ⟨k + 1, by omega, by go_num, fun i hi => by
          by_cases hik : i = k
          · rw [hik]; exact R.out
          · exact HI.out i (by omega)⟩
        case measure => simp [intOf]; omega
      · have f0 : (97 : Int) ≤ (c : Int) := by omega
        have f1 : ¬ ((c : Int) ≤ 122) := by omega
        have f2 : (65 : Int) ≤ (c : Int) := by omega
        have f3 : ¬ ((c : Int) ≤ 90) := by omega
        have f4 : (48 : Int) ≤ (c : Int) := by omega
        have f5 : ¬ ((c : Int) ≤ 57) := by omega
        have f6 : ((c : Int) == 95) = false := by simp; omega
        have f8 : decide ((c : Int) < 48) = false := decide_eq_false (by omega)
        have f9 : decide ((c : Int) > 57) = true := decide_eq_true (by omega)
        have R : Hid (name s = false) := NN.out (fun x => by have := x.2.2 k hkn; rw [G.out] at this; simp [letter, digit] at this; omega)
        clear h G
        by_cases hk0 : k = 0
        · subst hk0
          simp only [Int.ofNat_zero] at ik
          go_wp2
          go_ret
          exact ⟨by rw [R.out]; rfl, rfl⟩
        · have hk0z : ((k : Int) == 0) = false := by simp; omega
          go_wp2
          go_ret
          exact ⟨by rw [R.out]; rfl, rfl⟩
    · obtain rfl : k = n := by omega
      have hkz : ¬ (k : Int) < (k : Int) := by omega
      by_cases h1 : 1 ≤ k
      · have h1z : (1 : Int) ≤ (k : Int) := by omega
        by_cases h2 : k ≤ 12
        · have R : Hid (name s = true) := NY.out ⟨h1, h2, HI.out⟩
          have h2z : (k : Int) ≤ 12 := by omega
          go_wp2
          go_ret
          exact ⟨by rw [R.out]; rfl, rfl⟩
        · have R : Hid (name s = false) := NN.out (by omega)
          have h2z : ¬ (k : Int) ≤ 12 := by omega
          go_wp2
          go_ret
          exact ⟨by rw [R.out]; rfl, rfl⟩
      · have R : Hid (name s = false) := NN.out (by omega)
        have h1z : ¬ (1 : Int) ≤ (k : Int) := by omega
        go_wp2
        go_ret
        exact ⟨by rw [R.out]; rfl, rfl⟩

end Go.Proofs.YtlfcjjlgkcfkdaaGreatDoor
namespace Go.Proofs.YtlfcjjlgkcfkdaaGreatDoor
open Go.RowKit

theorem box3 {w : World} {v0 v1 v2 : Value} {ty : TypeId} {W : World} (h : Below (w.heap.size + 1) (w.alloc (.cells #[v0, v1, v2] ty)) W) :
    (W.cell? ⟨w.heap.size, 0, none⟩ = some v0 ∧ W.cell? ⟨w.heap.size, 1, none⟩ = some v1 ∧ W.cell? ⟨w.heap.size, 2, none⟩ = some v2) ∧ Below w.heap.size w W := by
  have e := heap_alloc_new w (.cells #[v0, v1, v2] ty)
  have e2 : W.heap[w.heap.size]? = _ := (h.block w.heap.size (by omega)).trans e
  refine ⟨⟨?_, ?_, ?_⟩, ((Below.refl _ _).alloc (Nat.le_refl _) _).trans (h.mono (by omega))⟩ <;> (rw [cell_of_row _ w.heap.size _ _ ty (0, 0) e2]; rfl)
/-- The slice at address a reads as these matchers. -/
def IsMats (w : World) (a : Option Addr) (l : List Mat) : Prop :=
  0 < l.length → ∃ b off, a = some ⟨b, off, none⟩ ∧ ∀ j, j < l.length → w.cell? ⟨b, off + j * 3, none⟩ = some (.int .i64 (Mat.nth l j).k) ∧ w.cell? ⟨b, off + j * 3 + 1, none⟩ = some (.string (Mat.nth l j).n) ∧ w.cell? ⟨b, off + j * 3 + 2, none⟩ = some (.string (Mat.nth l j).v)
theorem IsMats.below {w w' : World} {a : Option Addr} {l : List Mat} (h : IsMats w a l) (hb : Below w.heap.size w w') : IsMats w' a l := by
  intro hp
  obtain ⟨b, off, e, hc⟩ := h hp
  refine ⟨b, off, e, fun j hj => ?_⟩
  obtain ⟨h1, h2, h3⟩ := hc j hj
  exact ⟨(hb.cell (World.block_lt_of_cell? w _ h1)).trans h1, (hb.cell (World.block_lt_of_cell? w _ h2)).trans h2, (hb.cell (World.block_lt_of_cell? w _ h3)).trans h3⟩
theorem IsMats.nil (w : World) (a : Option Addr) : IsMats w a [] := fun h => absurd h (by simp)
theorem Mat.nth_drop (l : List Mat) (m j : Nat) : Mat.nth (l.drop m) j = Mat.nth l (m + j) := by simp [Mat.nth, List.getD, List.getElem?_drop]
theorem mats_drop {w : World} {g c : Nat} {l : List Mat} (h : IsMats w (some ⟨g, 0, none⟩) l) (m : Nat) (hc : l.length ≤ c) : IsMats w (some (if c = m then ⟨g, 0, none⟩ else ⟨g, m * 3, none⟩)) (l.drop m) := fun hp => by
  have hm : m < l.length := by simp at hp; omega
  obtain ⟨b, off, e, hx⟩ := h (by omega)
  injection e with e; injection e with e1 e2
  subst e1 e2
  rw [if_neg (by omega)]
  refine ⟨g, m * 3, rfl, fun j hj => ?_⟩
  have := hx (m + j) (by simp at hj; omega)
  rw [Mat.nth_drop]
  have q1 : 0 + (m + j) * 3 = m * 3 + j * 3 := by omega
  rw [q1] at this
  exact this
theorem lit_mat (w : World) (x : Mat) : IsMats (w.alloc (.cells #[.int .i64 x.k, .string x.n, .string x.v] 32)) (some ⟨w.heap.size, 0, none⟩) [x] := fun _ => ⟨w.heap.size, 0, rfl, fun j hj => by
  obtain rfl : j = 0 := by simpa using hj
  rw [cell_of_row _ w.heap.size _ _ 32 (0, 0) (heap_alloc_new w _), cell_of_row _ w.heap.size _ _ 32 (0, 0) (heap_alloc_new w _), cell_of_row _ w.heap.size _ _ 32 (0, 0) (heap_alloc_new w _)]
  simp [Mat.nth]⟩
end Go.Proofs.YtlfcjjlgkcfkdaaGreatDoor
namespace Go.Proofs.YtlfcjjlgkcfkdaaGreatDoor
open Go.RowKit
open Sc

/-- The library's table lies in its variable. -/
def DTab (w : World) : Prop := 0 < w.heap.size ∧ ∀ j, j < 64 → w.cell? ⟨0, j, none⟩ = some (.int .u8 ((Lib.deBruijn64tab.getD j 0 : Nat) : Int))
theorem DTab.below {w w' : World} (h : DTab w) (hb : Below w.heap.size w w') : DTab w' :=
  ⟨Nat.lt_of_lt_of_le h.1 hb.size, fun j hj => (hb.cell (p := ⟨_, j, none⟩) h.1).trans (h.2 j hj)⟩
theorem ctz_bit {x : Nat} (hx : x < 18446744073709551616) (h0 : x ≠ 0) : x.testBit (Lib.ctz 64 x) = true ∧ Lib.ctz 64 x < 64 := by
  obtain ⟨h1, h2⟩ := Lib.lowest_bit 64 x h0 (by simpa using hx)
  have : (2 ^ Lib.ctz 64 x).testBit (Lib.ctz 64 x) = true := bit_pow.2 rfl
  rw [← h1, Nat.testBit_and, Bool.and_eq_true] at this
  exact ⟨this.1, h2⟩
theorem tz_key (x a : Nat) (hx : x < 18446744073709551616) (hx0 : x ≠ 0) (hlow : x &&& (18446744073709551616 - x) = a) :
    IntKind.u64.wrap (bits BinOp.and IntKind.u64 (x : Int) (IntKind.u64.wrap (-(x : Int))) * 285870213051353865) / 288230376151711744 = ((a * 285870213051353865 % 18446744073709551616 / 288230376151711744 : Nat) : Int) := by
  have e1 : IntKind.u64.wrap (-(x : Int)) = ((18446744073709551616 - x : Nat) : Int) := by rw [IntKind.wrap_u64]; omega
  rw [e1, bits_and_u64_nat x _ hx (by omega), hlow, IntKind.wrap_u64]
  omega
set_option maxRecDepth 100000 in
theorem tz_core (x k idx : Nat) (w : World) (hx0 : ((x : Int) == 0) = false)
    (key : IntKind.u64.wrap (bits BinOp.and IntKind.u64 (x : Int) (IntKind.u64.wrap (-(x : Int))) * 285870213051353865) / 288230376151711744 = (idx : Int))
    (hi : idx < 64) (hk : k < 64) (hcell : w.cell? ⟨0, idx, none⟩ = some (.int .u8 (k : Int))) :
    Calls Tryz.prog 128 #[.int .u64 (x : Int)] w fun e w' => e = .returned (.int .i64 (k : Int)) ∧ w' = w := by
  go_enter Tryz.func128, Tryz.ntmps128
  go_wp2_with (simp only [key])
  go_ret
  exact ⟨rfl, rfl⟩
theorem tz_any (x : Nat) (hx : x < 18446744073709551616) (h0 : x ≠ 0) (w : World) (hT : DTab w) :
    Calls Tryz.prog 128 #[.int .u64 (x : Int)] w fun e w' => e = .returned (.int .i64 ((Lib.ctz 64 x : Nat) : Int)) ∧ w' = w := by
  obtain ⟨hlow, hk⟩ := Lib.lowest_bit 64 x h0 (by simpa using hx)
  obtain ⟨hi, htab⟩ := Lib.deBruijn64_at _ hk
  have hcell := hT.2 _ hi
  rw [htab] at hcell
  exact tz_core x _ _ w (by simp; omega) (tz_key x _ hx h0 (by simpa using hlow)) hi hk hcell

theorem and_one (q : Nat) : bits .and .u64 (q : Int) 1 = ((q % 2 : Nat) : Int) := by
  show IntKind.u64.wrap ((BitVec.ofInt 64 (q : Int) &&& BitVec.ofInt 64 1).toNat : Int) = _
  have h1 : (BitVec.ofInt 64 (q : Int)).toNat = q % 18446744073709551616 := by rw [BitVec.ofInt_natCast, BitVec.toNat_ofNat]
  have h2 : (BitVec.ofInt 64 1).toNat = 1 := by decide
  rw [BitVec.toNat_and, h1, h2, Nat.and_one_is_mod, IntKind.wrap_u64]
  omega
theorem or_two (a i : Nat) (ha : a < 18446744073709551616) (hi : i < 64) : bits .or .u64 (a : Int) (IntKind.u64.wrap (2 ^ i)) = ((a ||| 2 ^ i : Nat) : Int) := by
  have h2 : 2 ^ i < 18446744073709551616 := by have : 2 ^ i < 2 ^ 64 := Nat.pow_lt_pow_right (by omega) hi; simpa using this
  have e : ((2 : Int) ^ i) = ((2 ^ i : Nat) : Int) := by simp
  rw [e, IntKind.wrap_u64]
  generalize 2 ^ i = z at *
  have e2 : (z : Int) % 18446744073709551616 = (z : Int) := by omega
  rw [e2]
  exact bits_or_u64_nat a _ ha h2
theorem cell_word {W : World} {op x y : Int} {a b c d : Nat} {g j : Nat} (h : W.heap[g]? = some (.cells #[.int .i64 op, .int .u64 (a : Int), .int .u64 (b : Int), .int .u64 (c : Int), .int .u64 (d : Int), .int .i64 x, .int .i64 y] 163 (0, 0))) (hj : j < 4) : W.cell? ⟨g, 1 + j, none⟩ = some (.int .u64 ((word4 a b c d j : Nat) : Int)) := by
  rw [cell_of_row _ g _ _ _ _ h]
  match j, hj with
  | 0, _ => rfl
  | 1, _ => rfl
  | 2, _ => rfl
  | 3, _ => rfl
/-- What the loops over steps need. -/
structure IsP (w : World) (blk off N : Nat) (P : List St) : Prop where
  len : P.length = N
  at_ : ∀ W, Below w.heap.size w W → ∀ j, j < N → (W.cell? ⟨blk, off + j * 7, none⟩ = some (.int .i64 (nthS P j).op) ∧ W.cell? ⟨blk, off + j * 7 + 1, none⟩ = some (.int .u64 ((nthS P j).a : Int)) ∧ W.cell? ⟨blk, off + j * 7 + 2, none⟩ = some (.int .u64 ((nthS P j).b : Int)) ∧ W.cell? ⟨blk, off + j * 7 + 3, none⟩ = some (.int .u64 ((nthS P j).c : Int)) ∧ W.cell? ⟨blk, off + j * 7 + 4, none⟩ = some (.int .u64 ((nthS P j).d : Int)) ∧ W.cell? ⟨blk, off + j * 7 + 5, none⟩ = some (.int .i64 (nthS P j).x) ∧ W.cell? ⟨blk, off + j * 7 + 6, none⟩ = some (.int .i64 (nthS P j).y))
theorem IsSt.isP {w : World} {A : Option Addr} {P : List St} {N : Nat} (h : IsSt w A P) (hN : P.length = N) (hp : 0 < N) : ∃ blk off, A = some ⟨blk, off, none⟩ ∧ IsP w blk off N P := by
  obtain ⟨blk, off, rfl, hc⟩ := h.at (by omega)
  refine ⟨blk, off, rfl, hN, fun W hW j hj => ?_⟩
  obtain ⟨c0, c1, c2, c3, c4, c5, c6⟩ := hc j (by omega)
  have hl : blk < w.heap.size := World.block_lt_of_cell? w _ c0
  exact ⟨(hW.cell (p := ⟨blk, _, none⟩) hl).trans c0, (hW.cell (p := ⟨blk, _, none⟩) hl).trans c1, (hW.cell (p := ⟨blk, _, none⟩) hl).trans c2, (hW.cell (p := ⟨blk, _, none⟩) hl).trans c3, (hW.cell (p := ⟨blk, _, none⟩) hl).trans c4, (hW.cell (p := ⟨blk, _, none⟩) hl).trans c5, (hW.cell (p := ⟨blk, _, none⟩) hl).trans c6⟩
theorem IsP.grown {w w' : World} {blk off N : Nat} {P : List St} (h : IsP w blk off N P) (hb : Below w.heap.size w w') : IsP w' blk off N P :=
  ⟨h.len, fun W hW j hj => h.at_ W (hb.trans (hW.mono hb.size)) j hj⟩

set_option maxRecDepth 100000 in
set_option maxHeartbeats 4000000 in
theorem matches_any (P : List St) (blk off N cap : Nat) (w : World) (hbig : N ≤ 40) (h : IsP w blk off N P) :
    Calls Tryz.prog 109 #[.slice (some ⟨blk, off, none⟩) N cap] w fun e w' => e = .returned (.int .u64 ((mts P N : Nat) : Int)) ∧ Below w.heap.size w w' := by
  have HC := Lib.hid h.at_
  have ML : Hid (∀ k, k ≤ N → mts P k < 18446744073709551616) := fun k hk => lt64 (N := N) (by omega) fun j hj => by have := mts_lim P k j hj; omega
  have MS : Hid (∀ k, mts P (k + 1) = if opS P k = 4 then mts P k ||| 2 ^ k else mts P k) := fun k => rfl
  clear h
  go_enter Tryz.func109, Tryz.ntmps109
  go_wp2_with fail
  go_loopw [3, 8] (fun z i wr => ∃ k : Nat, k ≤ N ∧ i = .int .i64 (k : Int) ∧ z = .int .u64 ((mts P k : Nat) : Int) ∧ Hid (Below w.heap.size w wr)) (fun _ i _ => N - (intOf i).toNat)
  case atStart => exact ⟨0, by omega, rfl, rfl, Below.refl _ _⟩
  case round =>
    obtain ⟨k, hk, rfl, rfl, HI⟩ := hrel
    by_cases hkN : k < N
    · have hkz : (k : Int) < (N : Int) := by omega
      obtain ⟨c0, c1, c2, c3, c4, c5, c6⟩ := HC.out wr HI.out k hkN
      have MK := Lib.hid (MS.out k)
      have mlt := Lib.hid (ML.out k hk)
      have hop : Hid (opS P k = (nthS P k).op) := rfl
      obtain ⟨s, hs⟩ : ∃ s, nthS P k = s := ⟨_, rfl⟩
      rw [hs] at c0 c1 c2 c3 c4 c5 c6 hop
      clear hs HC ML MS
      obtain ⟨m, hm⟩ : ∃ m, mts P k = m := ⟨_, rfl⟩
      rw [hm] at MK mlt
      rw [hm]
      clear hm
      obtain ⟨op, a, b, c, d, x, y⟩ := s
      dsimp only at c0 c1 c2 c3 c4 c5 c6 hop
      have B6 : Hid (Below w.heap.size w (wr.alloc (.cells #[.int .i64 op, .int .u64 (a : Int), .int .u64 (b : Int), .int .u64 (c : Int), .int .u64 (d : Int), .int .i64 x, .int .i64 y] 163))) := HI.out.alloc HI.out.size _
      by_cases h4 : op = 4
      · subst h4
        have EO := Lib.hid (or_two m k mlt.out (by omega))
        have R : Hid (mts P (k + 1) = m ||| 2 ^ k) := by show _ = _; rw [MK.out, if_pos hop.out]
        obtain ⟨m', hm'⟩ : ∃ m', m ||| 2 ^ k = m' := ⟨_, rfl⟩
        rw [hm'] at EO R
        clear hm' MK mlt hop
        go_wp2
        rw [EO.out]
        go_wp2
        clear c0 c1 c2 c3 c4 c5 c6
        go_roundw
        case rel => exact ⟨k + 1, by omega, by go_num, by rw [R.out], B6.out⟩
        case measure => simp [intOf]; omega
      · have h4b : (op == 4) = false := by simpa using h4
        have R : Hid (mts P (k + 1) = m) := by show _ = _; rw [MK.out, if_neg (by rw [hop.out]; exact h4)]
        clear MK mlt hop h4
        go_wp2
        clear c0 c1 c2 c3 c4 c5 c6
        go_roundw
        case rel => exact ⟨k + 1, by omega, by go_num, by rw [R.out], B6.out⟩
        case measure => simp [intOf]; omega
    · obtain rfl : k = N := by omega
      have hkz : ¬ (k : Int) < (k : Int) := by omega
      go_wp2
      go_ret
      exact ⟨rfl, HI.out⟩

end Go.Proofs.YtlfcjjlgkcfkdaaGreatDoor

