/-
  What Name, Value, isLetter, isDigit and the reference's Name and Value do. Conditions: the length fits.
  What Is and the reference's IsSet do: they tell whether labels are a label set. Conditions: lengths fit.
-/
import Derived.Test.YtjmojjjgifkkiaaDoorProg
import Derived.Test.YtjmojjjgifkkiaaDoorZ23
import Derived.BigQuiet
import Derived.Lib.Bytealg
import Derived.Below
import Derived.WalkKit
import Derived.WalkSpells
import Derived.WalkLawsBesides
import Derived.Lib.Hide
import Derived.Lib.AppendStr
import Derived.Laws.BytesArg
import Derived.Shelf.Bytes.SlSmallAll
import Derived.Laws.AppendOwnNone
import Derived.KernelRfl
namespace Go.Proofs.YtjmojjjgifkkiaaDoor
open Go.RowKit La

theorem byte_cases (c : Nat) : (c < 48) ∨ (48 ≤ c ∧ c ≤ 57) ∨ (57 < c ∧ c < 65) ∨ (65 ≤ c ∧ c ≤ 90) ∨ (90 < c ∧ c < 95) ∨ (c = 95) ∨ (95 < c ∧ c < 97) ∨ (97 ≤ c ∧ c ≤ 122) ∨ (122 < c) := by omega
theorem str_at (w : World) (s : ByteArray) (j : Nat) (h : j < (textL s).length) : (Instr.index 9 (.string s) (.int .i64 (j : Int))).run Tryd.prog w = .ok (.int .u8 (((textL s).getD j 0 : Nat) : Int)) w := by
  have hs : j < s.size := by rw [textL_length] at h; exact h
  have e : s[j]? = some s[j] := by simp [hs]
  have e2 : (textL s).getD j 0 = (s[j]).toNat := by
    have : j < s.data.size := hs
    rw [textL, List.getD, List.getElem?_map, Array.getElem?_toList, Array.getElem?_eq_getElem this]
    rfl
  rw [e2]
  simp [Instr.index, run_underlying Tryd.underlying9, asIntOf, go_sem, e]
theorem name_no {s : ByteArray} (h : ¬ (1 ≤ s.size ∧ s.size ≤ 12 ∧ ∀ i, i < s.size → good s i = true)) : name s = false := decide_eq_false h
theorem name_yes {s : ByteArray} (h : 1 ≤ s.size ∧ s.size ≤ 12 ∧ ∀ i, i < s.size → good s i = true) : name s = true := decide_eq_true h
theorem good_of {s : ByteArray} {i c : Nat} (h : (textL s).getD i 0 = c) : good s i = (letter c || (decide (i ≠ 0) && digit c)) := by rw [good, h]

set_option maxRecDepth 100000 in
theorem isletter_any (c : Nat) (w : World) : Calls Tryd.prog 68 #[.int .u8 (c : Int)] w fun e w' => e = .returned (.bool (letter c)) ∧ w' = w := by
  rcases byte_cases c with h | h | h | h | h | h | h | h | h
  · have r : Hid (letter c = false) := by show _ = _; simp only [letter]; simp; omega
    have f0 : ¬ ((97 : Int) ≤ (c : Int)) := by omega
    have f1 : (c : Int) ≤ 122 := by omega
    have f2 : ¬ ((65 : Int) ≤ (c : Int)) := by omega
    have f3 : (c : Int) ≤ 90 := by omega
    have f4 : ¬ ((48 : Int) ≤ (c : Int)) := by omega
    have f5 : (c : Int) ≤ 57 := by omega
    have f6 : ((c : Int) == 95) = false := by simp; omega
    have f8 : decide ((c : Int) < 48) = true := decide_eq_true (by omega)
    have f9 : decide ((c : Int) > 57) = false := decide_eq_false (by omega)
    clear h
    go_enter Tryd.func68, Tryd.ntmps68
    go_wp2
    go_ret
    exact ⟨by rw [r.out]; rfl, rfl⟩
  · have r : Hid (letter c = false) := by show _ = _; simp only [letter]; simp; omega
    have f0 : ¬ ((97 : Int) ≤ (c : Int)) := by omega
    have f1 : (c : Int) ≤ 122 := by omega
    have f2 : ¬ ((65 : Int) ≤ (c : Int)) := by omega
    have f3 : (c : Int) ≤ 90 := by omega
    have f4 : (48 : Int) ≤ (c : Int) := by omega
    have f5 : (c : Int) ≤ 57 := by omega
    have f6 : ((c : Int) == 95) = false := by simp; omega
    have f8 : decide ((c : Int) < 48) = false := decide_eq_false (by omega)
    have f9 : decide ((c : Int) > 57) = false := decide_eq_false (by omega)
    clear h
    go_enter Tryd.func68, Tryd.ntmps68
    go_wp2
    go_ret
    exact ⟨by rw [r.out]; rfl, rfl⟩
  · have r : Hid (letter c = false) := by show _ = _; simp only [letter]; simp; omega
    have f0 : ¬ ((97 : Int) ≤ (c : Int)) := by omega
    have f1 : (c : Int) ≤ 122 := by omega
    have f2 : ¬ ((65 : Int) ≤ (c : Int)) := by omega
    have f3 : (c : Int) ≤ 90 := by omega
    have f4 : (48 : Int) ≤ (c : Int) := by omega
    have f5 : ¬ ((c : Int) ≤ 57) := by omega
    have f6 : ((c : Int) == 95) = false := by simp; omega
    have f8 : decide ((c : Int) < 48) = false := decide_eq_false (by omega)
    have f9 : decide ((c : Int) > 57) = true := decide_eq_true (by omega)
    clear h
    go_enter Tryd.func68, Tryd.ntmps68
    go_wp2
    go_ret
    exact ⟨by rw [r.out]; rfl, rfl⟩
  · have r : Hid (letter c = true) := by show _ = _; simp only [letter]; simp; omega
    have f0 : ¬ ((97 : Int) ≤ (c : Int)) := by omega
    have f1 : (c : Int) ≤ 122 := by omega
    have f2 : (65 : Int) ≤ (c : Int) := by omega
    have f3 : (c : Int) ≤ 90 := by omega
    have f4 : (48 : Int) ≤ (c : Int) := by omega
    have f5 : ¬ ((c : Int) ≤ 57) := by omega
    have f6 : ((c : Int) == 95) = false := by simp; omega
    have f8 : decide ((c : Int) < 48) = false := decide_eq_false (by omega)
    have f9 : decide ((c : Int) > 57) = true := decide_eq_true (by omega)
    clear h
    go_enter Tryd.func68, Tryd.ntmps68
    go_wp2
    go_ret
    exact ⟨by rw [r.out]; rfl, rfl⟩
  · have r : Hid (letter c = false) := by show _ = _; simp only [letter]; simp; omega
    have f0 : ¬ ((97 : Int) ≤ (c : Int)) := by omega
    have f1 : (c : Int) ≤ 122 := by omega
    have f2 : (65 : Int) ≤ (c : Int) := by omega
    have f3 : ¬ ((c : Int) ≤ 90) := by omega
    have f4 : (48 : Int) ≤ (c : Int) := by omega
    have f5 : ¬ ((c : Int) ≤ 57) := by omega
    have f6 : ((c : Int) == 95) = false := by simp; omega
    have f8 : decide ((c : Int) < 48) = false := decide_eq_false (by omega)
    have f9 : decide ((c : Int) > 57) = true := decide_eq_true (by omega)
    clear h
    go_enter Tryd.func68, Tryd.ntmps68
    go_wp2
    go_ret
    exact ⟨by rw [r.out]; rfl, rfl⟩
  · have r : Hid (letter c = true) := by show _ = _; simp only [letter]; simp; omega
    have f0 : ¬ ((97 : Int) ≤ (c : Int)) := by omega
    have f1 : (c : Int) ≤ 122 := by omega
    have f2 : (65 : Int) ≤ (c : Int) := by omega
    have f3 : ¬ ((c : Int) ≤ 90) := by omega
    have f4 : (48 : Int) ≤ (c : Int) := by omega
    have f5 : ¬ ((c : Int) ≤ 57) := by omega
    have f6 : ((c : Int) == 95) = true := by simp; omega
    have f8 : decide ((c : Int) < 48) = false := decide_eq_false (by omega)
    have f9 : decide ((c : Int) > 57) = true := decide_eq_true (by omega)
    clear h
    go_enter Tryd.func68, Tryd.ntmps68
    go_wp2
    go_ret
    exact ⟨by rw [r.out]; rfl, rfl⟩
  · have r : Hid (letter c = false) := by show _ = _; simp only [letter]; simp; omega
    have f0 : ¬ ((97 : Int) ≤ (c : Int)) := by omega
    have f1 : (c : Int) ≤ 122 := by omega
    have f2 : (65 : Int) ≤ (c : Int) := by omega
    have f3 : ¬ ((c : Int) ≤ 90) := by omega
    have f4 : (48 : Int) ≤ (c : Int) := by omega
    have f5 : ¬ ((c : Int) ≤ 57) := by omega
    have f6 : ((c : Int) == 95) = false := by simp; omega
    have f8 : decide ((c : Int) < 48) = false := decide_eq_false (by omega)
    have f9 : decide ((c : Int) > 57) = true := decide_eq_true (by omega)
    clear h
    go_enter Tryd.func68, Tryd.ntmps68
    go_wp2
    go_ret
    exact ⟨by rw [r.out]; rfl, rfl⟩
  · have r : Hid (letter c = true) := by show _ = _; simp only [letter]; simp; omega
    have f0 : (97 : Int) ≤ (c : Int) := by omega
    have f1 : (c : Int) ≤ 122 := by omega
    have f2 : (65 : Int) ≤ (c : Int) := by omega
    have f3 : ¬ ((c : Int) ≤ 90) := by omega
    have f4 : (48 : Int) ≤ (c : Int) := by omega
    have f5 : ¬ ((c : Int) ≤ 57) := by omega
    have f6 : ((c : Int) == 95) = false := by simp; omega
    have f8 : decide ((c : Int) < 48) = false := decide_eq_false (by omega)
    have f9 : decide ((c : Int) > 57) = true := decide_eq_true (by omega)
    clear h
    go_enter Tryd.func68, Tryd.ntmps68
    go_wp2
    go_ret
    exact ⟨by rw [r.out]; rfl, rfl⟩
  · have r : Hid (letter c = false) := by show _ = _; simp only [letter]; simp; omega
    have f0 : (97 : Int) ≤ (c : Int) := by omega
    have f1 : ¬ ((c : Int) ≤ 122) := by omega
    have f2 : (65 : Int) ≤ (c : Int) := by omega
    have f3 : ¬ ((c : Int) ≤ 90) := by omega
    have f4 : (48 : Int) ≤ (c : Int) := by omega
    have f5 : ¬ ((c : Int) ≤ 57) := by omega
    have f6 : ((c : Int) == 95) = false := by simp; omega
    have f8 : decide ((c : Int) < 48) = false := decide_eq_false (by omega)
    have f9 : decide ((c : Int) > 57) = true := decide_eq_true (by omega)
    clear h
    go_enter Tryd.func68, Tryd.ntmps68
    go_wp2
    go_ret
    exact ⟨by rw [r.out]; rfl, rfl⟩
set_option maxRecDepth 100000 in
theorem isdigit_any (c : Nat) (w : World) : Calls Tryd.prog 67 #[.int .u8 (c : Int)] w fun e w' => e = .returned (.bool (digit c)) ∧ w' = w := by
  rcases byte_cases c with h | h | h | h | h | h | h | h | h
  · have r : Hid (digit c = false) := by show _ = _; simp only [digit]; simp; omega
    have f0 : ¬ ((97 : Int) ≤ (c : Int)) := by omega
    have f1 : (c : Int) ≤ 122 := by omega
    have f2 : ¬ ((65 : Int) ≤ (c : Int)) := by omega
    have f3 : (c : Int) ≤ 90 := by omega
    have f4 : ¬ ((48 : Int) ≤ (c : Int)) := by omega
    have f5 : (c : Int) ≤ 57 := by omega
    have f6 : ((c : Int) == 95) = false := by simp; omega
    have f8 : decide ((c : Int) < 48) = true := decide_eq_true (by omega)
    have f9 : decide ((c : Int) > 57) = false := decide_eq_false (by omega)
    clear h
    go_enter Tryd.func67, Tryd.ntmps67
    go_wp2
    go_ret
    exact ⟨by rw [r.out]; rfl, rfl⟩
  · have r : Hid (digit c = true) := by show _ = _; simp only [digit]; simp; omega
    have f0 : ¬ ((97 : Int) ≤ (c : Int)) := by omega
    have f1 : (c : Int) ≤ 122 := by omega
    have f2 : ¬ ((65 : Int) ≤ (c : Int)) := by omega
    have f3 : (c : Int) ≤ 90 := by omega
    have f4 : (48 : Int) ≤ (c : Int) := by omega
    have f5 : (c : Int) ≤ 57 := by omega
    have f6 : ((c : Int) == 95) = false := by simp; omega
    have f8 : decide ((c : Int) < 48) = false := decide_eq_false (by omega)
    have f9 : decide ((c : Int) > 57) = false := decide_eq_false (by omega)
    clear h
    go_enter Tryd.func67, Tryd.ntmps67
    go_wp2
    go_ret
    exact ⟨by rw [r.out]; rfl, rfl⟩
  · have r : Hid (digit c = false) := by show _ = _; simp only [digit]; simp; omega
    have f0 : ¬ ((97 : Int) ≤ (c : Int)) := by omega
    have f1 : (c : Int) ≤ 122 := by omega
    have f2 : ¬ ((65 : Int) ≤ (c : Int)) := by omega
    have f3 : (c : Int) ≤ 90 := by omega
    have f4 : (48 : Int) ≤ (c : Int) := by omega
    have f5 : ¬ ((c : Int) ≤ 57) := by omega
    have f6 : ((c : Int) == 95) = false := by simp; omega
    have f8 : decide ((c : Int) < 48) = false := decide_eq_false (by omega)
    have f9 : decide ((c : Int) > 57) = true := decide_eq_true (by omega)
    clear h
    go_enter Tryd.func67, Tryd.ntmps67
    go_wp2
    go_ret
    exact ⟨by rw [r.out]; rfl, rfl⟩
  · have r : Hid (digit c = false) := by show _ = _; simp only [digit]; simp; omega
    have f0 : ¬ ((97 : Int) ≤ (c : Int)) := by omega
    have f1 : (c : Int) ≤ 122 := by omega
    have f2 : (65 : Int) ≤ (c : Int) := by omega
    have f3 : (c : Int) ≤ 90 := by omega
    have f4 : (48 : Int) ≤ (c : Int) := by omega
    have f5 : ¬ ((c : Int) ≤ 57) := by omega
    have f6 : ((c : Int) == 95) = false := by simp; omega
    have f8 : decide ((c : Int) < 48) = false := decide_eq_false (by omega)
    have f9 : decide ((c : Int) > 57) = true := decide_eq_true (by omega)
    clear h
    go_enter Tryd.func67, Tryd.ntmps67
    go_wp2
    go_ret
    exact ⟨by rw [r.out]; rfl, rfl⟩
  · have r : Hid (digit c = false) := by show _ = _; simp only [digit]; simp; omega
    have f0 : ¬ ((97 : Int) ≤ (c : Int)) := by omega
    have f1 : (c : Int) ≤ 122 := by omega
    have f2 : (65 : Int) ≤ (c : Int) := by omega
    have f3 : ¬ ((c : Int) ≤ 90) := by omega
    have f4 : (48 : Int) ≤ (c : Int) := by omega
    have f5 : ¬ ((c : Int) ≤ 57) := by omega
    have f6 : ((c : Int) == 95) = false := by simp; omega
    have f8 : decide ((c : Int) < 48) = false := decide_eq_false (by omega)
    have f9 : decide ((c : Int) > 57) = true := decide_eq_true (by omega)
    clear h
    go_enter Tryd.func67, Tryd.ntmps67
    go_wp2
    go_ret
    exact ⟨by rw [r.out]; rfl, rfl⟩
  · have r : Hid (digit c = false) := by show _ = _; simp only [digit]; simp; omega
    have f0 : ¬ ((97 : Int) ≤ (c : Int)) := by omega
    have f1 : (c : Int) ≤ 122 := by omega
    have f2 : (65 : Int) ≤ (c : Int) := by omega
    have f3 : ¬ ((c : Int) ≤ 90) := by omega
    have f4 : (48 : Int) ≤ (c : Int) := by omega
    have f5 : ¬ ((c : Int) ≤ 57) := by omega
    have f6 : ((c : Int) == 95) = true := by simp; omega
    have f8 : decide ((c : Int) < 48) = false := decide_eq_false (by omega)
    have f9 : decide ((c : Int) > 57) = true := decide_eq_true (by omega)
    clear h
    go_enter Tryd.func67, Tryd.ntmps67
    go_wp2
    go_ret
    exact ⟨by rw [r.out]; rfl, rfl⟩
  · have r : Hid (digit c = false) := by show _ = _; simp only [digit]; simp; omega
    have f0 : ¬ ((97 : Int) ≤ (c : Int)) := by omega
    have f1 : (c : Int) ≤ 122 := by omega
    have f2 : (65 : Int) ≤ (c : Int) := by omega
    have f3 : ¬ ((c : Int) ≤ 90) := by omega
    have f4 : (48 : Int) ≤ (c : Int) := by omega
    have f5 : ¬ ((c : Int) ≤ 57) := by omega
    have f6 : ((c : Int) == 95) = false := by simp; omega
    have f8 : decide ((c : Int) < 48) = false := decide_eq_false (by omega)
    have f9 : decide ((c : Int) > 57) = true := decide_eq_true (by omega)
    clear h
    go_enter Tryd.func67, Tryd.ntmps67
    go_wp2
    go_ret
    exact ⟨by rw [r.out]; rfl, rfl⟩
  · have r : Hid (digit c = false) := by show _ = _; simp only [digit]; simp; omega
    have f0 : (97 : Int) ≤ (c : Int) := by omega
    have f1 : (c : Int) ≤ 122 := by omega
    have f2 : (65 : Int) ≤ (c : Int) := by omega
    have f3 : ¬ ((c : Int) ≤ 90) := by omega
    have f4 : (48 : Int) ≤ (c : Int) := by omega
    have f5 : ¬ ((c : Int) ≤ 57) := by omega
    have f6 : ((c : Int) == 95) = false := by simp; omega
    have f8 : decide ((c : Int) < 48) = false := decide_eq_false (by omega)
    have f9 : decide ((c : Int) > 57) = true := decide_eq_true (by omega)
    clear h
    go_enter Tryd.func67, Tryd.ntmps67
    go_wp2
    go_ret
    exact ⟨by rw [r.out]; rfl, rfl⟩
  · have r : Hid (digit c = false) := by show _ = _; simp only [digit]; simp; omega
    have f0 : (97 : Int) ≤ (c : Int) := by omega
    have f1 : ¬ ((c : Int) ≤ 122) := by omega
    have f2 : (65 : Int) ≤ (c : Int) := by omega
    have f3 : ¬ ((c : Int) ≤ 90) := by omega
    have f4 : (48 : Int) ≤ (c : Int) := by omega
    have f5 : ¬ ((c : Int) ≤ 57) := by omega
    have f6 : ((c : Int) == 95) = false := by simp; omega
    have f8 : decide ((c : Int) < 48) = false := decide_eq_false (by omega)
    have f9 : decide ((c : Int) > 57) = true := decide_eq_true (by omega)
    clear h
    go_enter Tryd.func67, Tryd.ntmps67
    go_wp2
    go_ret
    exact ⟨by rw [r.out]; rfl, rfl⟩

set_option maxRecDepth 100000 in
theorem rvalue_any (s : ByteArray) (w : World) : Calls Tryd.prog 94 #[.string s] w fun e w' => e = .returned (.bool (value s)) ∧ w' = w := by
  by_cases h1 : 1 ≤ s.size
  · have r : Hid (value s = decide (s.size ≤ 24)) := by show _ = _; simp [value, h1]
    have f1 : (1 : Int) ≤ (s.size : Int) := by omega
    by_cases h2 : s.size ≤ 24
    · have f2 : (s.size : Int) ≤ 24 := by omega
      have r2 : Hid (decide (s.size ≤ 24) = true) := decide_eq_true h2
      go_enter Tryd.func94, Tryd.ntmps94
      go_wp2
      go_ret
      exact ⟨by rw [r.out, r2.out]; rfl, rfl⟩
    · have f2 : ¬ (s.size : Int) ≤ 24 := by omega
      have r2 : Hid (decide (s.size ≤ 24) = false) := decide_eq_false h2
      go_enter Tryd.func94, Tryd.ntmps94
      go_wp2
      go_ret
      exact ⟨by rw [r.out, r2.out]; rfl, rfl⟩
  · have r : Hid (value s = false) := by show _ = _; simp [value, h1]
    have f1 : ¬ (1 : Int) ≤ (s.size : Int) := by omega
    go_enter Tryd.func94, Tryd.ntmps94
    go_wp2
    go_ret
    exact ⟨by rw [r.out]; rfl, rfl⟩

set_option maxRecDepth 100000 in
set_option maxHeartbeats 1000000 in
theorem name_any (s : ByteArray) (w : World) (hl : s.size ≤ 140737488351232) : Calls Tryd.prog 35 #[.string s] w fun e w' => e = .returned (.bool (name s)) ∧ w' = w := by
  have hts := textL_length s
  have HT : Hid (∀ j W, j < s.size → (Instr.index 9 (.string s) (.int .i64 (j : Int))).run Tryd.prog W = .ok (.int .u8 (((textL s).getD j 0 : Nat) : Int)) W) := fun j W h => str_at W s j (by rw [hts]; exact h)
  have NY := Lib.hid (name_yes (s := s))
  have NN := Lib.hid (name_no (s := s))
  have GO := Lib.hid (fun i c (h : (textL s).getD i 0 = c) => good_of h)
  clear hts
  generalize hn : s.size = n at *
  by_cases h1 : n < 1
  · have R : Hid (name s = false) := NN.out (by omega)
    go_enter Tryd.func35, Tryd.ntmps35
    go_wp2
    go_ret
    exact ⟨by rw [R.out]; rfl, rfl⟩
  by_cases h2 : 12 < n
  · have R : Hid (name s = false) := NN.out (by omega)
    have h2d : decide ((n : Int) > 12) = true := decide_eq_true (by omega)
    have h1z : ¬ (n : Int) < 1 := by omega
    go_enter Tryd.func35, Tryd.ntmps35
    go_wp2
    go_ret
    exact ⟨by rw [R.out]; rfl, rfl⟩
  have h2d : decide ((n : Int) > 12) = false := decide_eq_false (by omega)
  have h1z : ¬ (n : Int) < 1 := by omega
  have i0 := fun W => HT.out 0 W (by omega)
  simp only [Int.ofNat_zero] at i0
  have D := Lib.hid (fun c => isdigit_any c)
  have L := Lib.hid (fun c => isletter_any c)
  obtain ⟨c0, hc0⟩ : ∃ c0, (textL s).getD 0 0 = c0 := ⟨_, rfl⟩
  rw [hc0] at i0
  have G0 := Lib.hid (GO.out 0 c0 hc0)
  have HC0 := Lib.hid hc0
  clear hc0
  cases hd0 : digit c0
  · have ND : Hid (digit ((textL s).getD 0 0) = false) := by show _ = _; rw [HC0.out]; exact hd0
    have D0 := Lib.hid (fun w => D.out c0 w)
    rw [hd0] at D0
    clear hd0
    go_enter Tryd.func35, Tryd.ntmps35
    go_wp2_with fail
    refine (D0.out _).mono ?_
    rintro e w' ⟨rfl, rfl⟩
    go_wp2
    clear i0
    go_loop [19] (fun i => ∃ k : Nat, k ≤ n ∧ i = .int .i64 (k : Int) ∧ Hid (∀ i, i < k → good s i = true)) (fun i => n - (intOf i).toNat)
    case atStart => exact ⟨0, by omega, rfl, fun i hi => by omega⟩
    case round =>
      obtain ⟨k, hk, rfl, HI⟩ := hrel
      by_cases hkn : k < n
      · have ik := fun W => HT.out k W (by omega)
        obtain ⟨c, hc⟩ : ∃ c, (textL s).getD k 0 = c := ⟨_, rfl⟩
        rw [hc] at ik
        have G := Lib.hid (GO.out k c hc)
        have HC := Lib.hid hc
        clear hc
        have hkz : (k : Int) < (n : Int) := by omega
        have Lc := Lib.hid (fun w => L.out c w)
        have Dc := Lib.hid (fun w => D.out c w)
        cases hlt : letter c
        · rw [hlt] at Lc
          cases hdt : digit c
          · rw [hdt] at Dc
            have R : Hid (name s = false) := NN.out (fun x => by have := x.2.2 k hkn; rw [G.out, hlt, hdt] at this; simp at this)
            clear hlt hdt
            go_wp2_with fail
            refine (Lc.out _).mono ?_
            rintro e w' ⟨rfl, rfl⟩
            go_wp2_with fail
            refine (Dc.out _).mono ?_
            rintro e w' ⟨rfl, rfl⟩
            go_wp2
            go_ret
            exact ⟨by rw [R.out]; rfl, rfl⟩
          · rw [hdt] at Dc
            have R : Hid (good s k = true) := by
              show _ = _
              rw [G.out, hlt, hdt]
              by_cases hk0 : k = 0
              · subst hk0
                have e := ND.out
                rw [HC.out, hdt] at e
                cases e
              · simp [hk0]
            clear hlt hdt
            go_wp2_with fail
            refine (Lc.out _).mono ?_
            rintro e w' ⟨rfl, rfl⟩
            go_wp2_with fail
            refine (Dc.out _).mono ?_
            rintro e w' ⟨rfl, rfl⟩
            go_wp2
            go_round
            case rel => exact ⟨k + 1, by omega, by go_num, fun i hi => by
              by_cases hik : i = k
              · rw [hik]; exact R.out
              · exact HI.out i (by omega)⟩
            case measure => simp [intOf]; omega
        · rw [hlt] at Lc
          have R : Hid (good s k = true) := by show _ = _; rw [G.out, hlt]; rfl
          clear hlt
          go_wp2_with fail
          refine (Lc.out _).mono ?_
          rintro e w' ⟨rfl, rfl⟩
          go_wp2
          go_round
          case rel => exact ⟨k + 1, by omega, by go_num, fun i hi => by
            by_cases hik : i = k
            · rw [hik]; exact R.out
            · exact HI.out i (by omega)⟩
          case measure => simp [intOf]; omega
      · obtain rfl : k = n := by omega
        have R : Hid (name s = true) := NY.out ⟨by omega, by omega, HI.out⟩
        have hkz : ¬ (k : Int) < (k : Int) := by omega
        go_wp2
        go_ret
        exact ⟨by rw [R.out]; rfl, rfl⟩
  · have R : Hid (name s = false) := NN.out (fun x => by have := x.2.2 0 (by omega); rw [G0.out, letter_digit hd0] at this; simp at this)
    have D0 := Lib.hid (fun w => D.out c0 w)
    rw [hd0] at D0
    clear hd0
    go_enter Tryd.func35, Tryd.ntmps35
    go_wp2_with fail
    refine (D0.out _).mono ?_
    rintro e w' ⟨rfl, rfl⟩
    go_wp2
    go_ret
    exact ⟨by rw [R.out]; rfl, rfl⟩

set_option maxRecDepth 100000 in
set_option maxHeartbeats 2000000 in
theorem rname_any (s : ByteArray) (w : World) (hl : s.size ≤ 140737488351232) : Calls Tryd.prog 39 #[.string s] w fun e w' => e = .returned (.bool (name s)) ∧ w' = w := by
  have hts := textL_length s
  have HT : Hid (∀ j W, j < s.size → (Instr.index 9 (.string s) (.int .i64 (j : Int))).run Tryd.prog W = .ok (.int .u8 (((textL s).getD j 0 : Nat) : Int)) W) := fun j W h => str_at W s j (by rw [hts]; exact h)
  have NY := Lib.hid (name_yes (s := s))
  have NN := Lib.hid (name_no (s := s))
  have GO := Lib.hid (fun i c (h : (textL s).getD i 0 = c) => good_of h)
  clear hts
  generalize hn : s.size = n at *
  go_enter Tryd.func39, Tryd.ntmps39
  go_wp2
  go_loop [3] (fun i => ∃ k : Nat, k ≤ n ∧ i = .int .i64 (k : Int) ∧ Hid (∀ i, i < k → good s i = true)) (fun i => n - (intOf i).toNat)
  case atStart => exact ⟨0, by omega, rfl, fun i hi => by omega⟩
  case round =>
    obtain ⟨k, hk, rfl, HI⟩ := hrel
    by_cases hkn : k < n
    · have ik := fun W => HT.out k W (by omega)
      obtain ⟨c, hc⟩ : ∃ c, (textL s).getD k 0 = c := ⟨_, rfl⟩
      rw [hc] at ik
      have G := Lib.hid (GO.out k c hc)
      clear hc
      have hkz : (k : Int) < (n : Int) := by omega
      rcases byte_cases c with h | h | h | h | h | h | h | h | h
      · have f0 : ¬ ((97 : Int) ≤ (c : Int)) := by omega
        have f1 : (c : Int) ≤ 122 := by omega
        have f2 : ¬ ((65 : Int) ≤ (c : Int)) := by omega
        have f3 : (c : Int) ≤ 90 := by omega
        have f4 : ¬ ((48 : Int) ≤ (c : Int)) := by omega
        have f5 : (c : Int) ≤ 57 := by omega
        have f6 : ((c : Int) == 95) = false := by simp; omega
        have f8 : decide ((c : Int) < 48) = true := decide_eq_true (by omega)
        have f9 : decide ((c : Int) > 57) = false := decide_eq_false (by omega)
        have R : Hid (name s = false) := NN.out (fun x => by have := x.2.2 k hkn; rw [G.out] at this; simp [letter, digit] at this; omega)
        clear h G
        by_cases hk0 : k = 0
        · subst hk0
          simp only [Int.ofNat_zero] at ik
          go_wp2
          go_ret
          exact ⟨by rw [R.out]; rfl, rfl⟩
        · have hk0z : ((k : Int) == 0) = false := by simp; omega
          go_wp2
          go_ret
          exact ⟨by rw [R.out]; rfl, rfl⟩
      · have f0 : ¬ ((97 : Int) ≤ (c : Int)) := by omega
        have f1 : (c : Int) ≤ 122 := by omega
        have f2 : ¬ ((65 : Int) ≤ (c : Int)) := by omega
        have f3 : (c : Int) ≤ 90 := by omega
        have f4 : (48 : Int) ≤ (c : Int) := by omega
        have f5 : (c : Int) ≤ 57 := by omega
        have f6 : ((c : Int) == 95) = false := by simp; omega
        have f8 : decide ((c : Int) < 48) = false := decide_eq_false (by omega)
        have f9 : decide ((c : Int) > 57) = false := decide_eq_false (by omega)
        by_cases hk0 : k = 0
        · have R : Hid (name s = false) := NN.out (fun x => by have := x.2.2 k hkn; rw [G.out] at this; simp [hk0, letter] at this; omega)
          clear h G
          subst hk0
          simp only [Int.ofNat_zero] at ik
          go_wp2
          go_ret
          exact ⟨by rw [R.out]; rfl, rfl⟩
        · have R : Hid (good s k = true) := by show _ = _; rw [G.out]; simp [digit, hk0]; omega
          have hk0z : ((k : Int) == 0) = false := by simp; omega
          clear h G
          go_wp2
          go_round
          case rel => exact ⟨k + 1, by omega, by go_num, fun i hi => by
            by_cases hik : i = k
            · rw [hik]; exact R.out
            · exact HI.out i (by omega)⟩
          case measure => simp [intOf]; omega
      · have f0 : ¬ ((97 : Int) ≤ (c : Int)) := by omega
        have f1 : (c : Int) ≤ 122 := by omega
        have f2 : ¬ ((65 : Int) ≤ (c : Int)) := by omega
        have f3 : (c : Int) ≤ 90 := by omega
        have f4 : (48 : Int) ≤ (c : Int) := by omega
        have f5 : ¬ ((c : Int) ≤ 57) := by omega
        have f6 : ((c : Int) == 95) = false := by simp; omega
        have f8 : decide ((c : Int) < 48) = false := decide_eq_false (by omega)
        have f9 : decide ((c : Int) > 57) = true := decide_eq_true (by omega)
        have R : Hid (name s = false) := NN.out (fun x => by have := x.2.2 k hkn; rw [G.out] at this; simp [letter, digit] at this; omega)
        clear h G
        by_cases hk0 : k = 0
        · subst hk0
          simp only [Int.ofNat_zero] at ik
          go_wp2
          go_ret
          exact ⟨by rw [R.out]; rfl, rfl⟩
        · have hk0z : ((k : Int) == 0) = false := by simp; omega
          go_wp2
          go_ret
          exact ⟨by rw [R.out]; rfl, rfl⟩
      · have f0 : ¬ ((97 : Int) ≤ (c : Int)) := by omega
        have f1 : (c : Int) ≤ 122 := by omega
        have f2 : (65 : Int) ≤ (c : Int) := by omega
        have f3 : (c : Int) ≤ 90 := by omega
        have f4 : (48 : Int) ≤ (c : Int) := by omega
        have f5 : ¬ ((c : Int) ≤ 57) := by omega
        have f6 : ((c : Int) == 95) = false := by simp; omega
        have f8 : decide ((c : Int) < 48) = false := decide_eq_false (by omega)
        have f9 : decide ((c : Int) > 57) = true := decide_eq_true (by omega)
        have R : Hid (good s k = true) := by show _ = _; rw [G.out]; simp [letter]; omega
        clear h G
        go_wp2
        go_round
        case rel => exact ⟨k + 1, by omega, by go_num, fun i hi => by
          by_cases hik : i = k
          · rw [hik]; exact R.out
          · exact HI.out i (by omega)⟩
        case measure => simp [intOf]; omega
      · have f0 : ¬ ((97 : Int) ≤ (c : Int)) := by omega
        have f1 : (c : Int) ≤ 122 := by omega
        have f2 : (65 : Int) ≤ (c : Int) := by omega
        have f3 : ¬ ((c : Int) ≤ 90) := by omega
        have f4 : (48 : Int) ≤ (c : Int) := by omega
        have f5 : ¬ ((c : Int) ≤ 57) := by omega
        have f6 : ((c : Int) == 95) = false := by simp; omega
        have f8 : decide ((c : Int) < 48) = false := decide_eq_false (by omega)
        have f9 : decide ((c : Int) > 57) = true := decide_eq_true (by omega)
        have R : Hid (name s = false) := NN.out (fun x => by have := x.2.2 k hkn; rw [G.out] at this; simp [letter, digit] at this; omega)
        clear h G
        by_cases hk0 : k = 0
        · subst hk0
          simp only [Int.ofNat_zero] at ik
          go_wp2
          go_ret
          exact ⟨by rw [R.out]; rfl, rfl⟩
        · have hk0z : ((k : Int) == 0) = false := by simp; omega
          go_wp2
          go_ret
          exact ⟨by rw [R.out]; rfl, rfl⟩
      · have f0 : ¬ ((97 : Int) ≤ (c : Int)) := by omega
        have f1 : (c : Int) ≤ 122 := by omega
        have f2 : (65 : Int) ≤ (c : Int) := by omega
        have f3 : ¬ ((c : Int) ≤ 90) := by omega
        have f4 : (48 : Int) ≤ (c : Int) := by omega
        have f5 : ¬ ((c : Int) ≤ 57) := by omega
        have f6 : ((c : Int) == 95) = true := by simp; omega
        have f8 : decide ((c : Int) < 48) = false := decide_eq_false (by omega)
        have f9 : decide ((c : Int) > 57) = true := decide_eq_true (by omega)
        have R : Hid (good s k = true) := by show _ = _; rw [G.out]; simp [letter]; omega
        clear h G
        go_wp2
        go_round
        case rel => exact ⟨k + 1, by omega, by go_num, fun i hi => by
          by_cases hik : i = k
          · rw [hik]; exact R.out
          · exact HI.out i (by omega)⟩
        case measure => simp [intOf]; omega
      · have f0 : ¬ ((97 : Int) ≤ (c : Int)) := by omega
        have f1 : (c : Int) ≤ 122 := by omega
        have f2 : (65 : Int) ≤ (c : Int) := by omega
        have f3 : ¬ ((c : Int) ≤ 90) := by omega
        have f4 : (48 : Int) ≤ (c : Int) := by omega
        have f5 : ¬ ((c : Int) ≤ 57) := by omega
        have f6 : ((c : Int) == 95) = false := by simp; omega
        have f8 : decide ((c : Int) < 48) = false := decide_eq_false (by omega)
        have f9 : decide ((c : Int) > 57) = true := decide_eq_true (by omega)
        have R : Hid (name s = false) := NN.out (fun x => by have := x.2.2 k hkn; rw [G.out] at this; simp [letter, digit] at this; omega)
        clear h G
        by_cases hk0 : k = 0
        · subst hk0
          simp only [Int.ofNat_zero] at ik
          go_wp2
          go_ret
          exact ⟨by rw [R.out]; rfl, rfl⟩
        · have hk0z : ((k : Int) == 0) = false := by simp; omega
          go_wp2
          go_ret
          exact ⟨by rw [R.out]; rfl, rfl⟩
      · have f0 : (97 : Int) ≤ (c : Int) := by omega
        have f1 : (c : Int) ≤ 122 := by omega
        have f2 : (65 : Int) ≤ (c : Int) := by omega
        have f3 : ¬ ((c : Int) ≤ 90) := by omega
        have f4 : (48 : Int) ≤ (c : Int) := by omega
        have f5 : ¬ ((c : Int) ≤ 57) := by omega
        have f6 : ((c : Int) == 95) = false := by simp; omega
        have f8 : decide ((c : Int) < 48) = false := decide_eq_false (by omega)
        have f9 : decide ((c : Int) > 57) = true := decide_eq_true (by omega)
        have R : Hid (good s k = true) := by show _ = _; rw [G.out]; simp [letter]; omega
        clear h G
        go_wp2
        go_round
        case rel => exact ⟨k + 1, by omega, by go_num, fun i hi => by
          by_cases hik : i = k
          · rw [hik]; exact R.out
          · exact HI.out i (by omega)⟩
        case measure => simp [intOf]; omega
      · have f0 : (97 : Int) ≤ (c : Int) := by omega
        have f1 : ¬ ((c : Int) ≤ 122) := by omega
        have f2 : (65 : Int) ≤ (c : Int) := by omega
        have f3 : ¬ ((c : Int) ≤ 90) := by omega
        have f4 : (48 : Int) ≤ (c : Int) := by omega
        have f5 : ¬ ((c : Int) ≤ 57) := by omega
        have f6 : ((c : Int) == 95) = false := by simp; omega
        have f8 : decide ((c : Int) < 48) = false := decide_eq_false (by omega)
        have f9 : decide ((c : Int) > 57) = true := decide_eq_true (by omega)
        have R : Hid (name s = false) := NN.out (fun x => by have := x.2.2 k hkn; rw [G.out] at this; simp [letter, digit] at this; omega)
        clear h G
        by_cases hk0 : k = 0
        · subst hk0
          simp only [Int.ofNat_zero] at ik
          go_wp2
          go_ret
          exact ⟨by rw [R.out]; rfl, rfl⟩
        · have hk0z : ((k : Int) == 0) = false := by simp; omega
          go_wp2
          go_ret
          exact ⟨by rw [R.out]; rfl, rfl⟩
    · obtain rfl : k = n := by omega
      have hkz : ¬ (k : Int) < (k : Int) := by omega
      by_cases h1 : 1 ≤ k
      · have h1z : (1 : Int) ≤ (k : Int) := by omega
        by_cases h2 : k ≤ 12
        · have R : Hid (name s = true) := NY.out ⟨h1, h2, HI.out⟩
          have h2z : (k : Int) ≤ 12 := by omega
          go_wp2
          go_ret
          exact ⟨by rw [R.out]; rfl, rfl⟩
        · have R : Hid (name s = false) := NN.out (by omega)
          have h2z : ¬ (k : Int) ≤ 12 := by omega
          go_wp2
          go_ret
          exact ⟨by rw [R.out]; rfl, rfl⟩
      · have R : Hid (name s = false) := NN.out (by omega)
        have h1z : ¬ (1 : Int) ≤ (k : Int) := by omega
        go_wp2
        go_ret
        exact ⟨by rw [R.out]; rfl, rfl⟩

end Go.Proofs.YtjmojjjgifkkiaaDoor
namespace Go.Proofs.YtjmojjjgifkkiaaDoor
open Go.RowKit La

/-- Texts that a machine can hold. -/
def Small (ls : List Lab) : Prop := ∀ x ∈ ls, x.1.size ≤ 140737488351232 ∧ x.2.size ≤ 140737488351232
theorem okAt_eq {ls : List Lab} {k : Nat} : okAt ls k = (name (nth ls k).1 && value (nth ls k).2 && (decide (k = 0) || lt (nth ls (k - 1)).1 (nth ls k).1)) := rfl

theorem below_drewN {B : Nat} {a w : World} (h : Below B a w) (q : Nat) : Below B a (w.drewN q) := ⟨h.os, h.tape, h.output, h.size, h.block⟩
theorem cell_alloc_old {w : World} {a : Addr} {v : Value} (h : w.cell? a = some v) (o : Obj) : (w.alloc o).cell? a = some v := ((Below.refl w.heap.size w).alloc (Nat.le_refl _) o).cell (World.block_lt_of_cell? w _ h) ▸ h

end Go.Proofs.YtjmojjjgifkkiaaDoor
