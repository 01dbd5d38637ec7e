/-
  What the program's emptyKids and mayBeEmpty tell of a part. Conditions: at most 1000 parts.
-/
import Derived.Test.YtonfmbnankihbaaDoorProg
import Derived.Test.YtonfmbnankihbaaDoorZ01
import Derived.Test.YtonfmbnankihbaaDoorZ03
import Derived.Test.YtonfmbnankihbaaDoorZ07
import Derived.Test.YtonfmbnankihbaaDoorZ23
import Derived.Deep.QuietTactic
import Derived.BigQuiet
import Derived.Laws.MakeOwn
import Derived.Laws.OwnMore
import Derived.OwnWalk
import Derived.WalkKit
import Derived.WalkSpells
import Derived.WalkLawsBesides
import Derived.Lib.Hide
import Derived.Below
import Derived.Lib.QuietBelow
import Derived.Laws.StructEq
import Derived.KernelRfl
import Derived.Laws.AppendOwn
import Derived.Deep.RegionHeld3
import Derived.Laws.CopyOwn
namespace Go.Proofs.YtonfmbnankihbaaDoor
open Go.RowKit Go.Sort
open Pt

set_option maxRecDepth 100000 in
set_option maxHeartbeats 1000000 in
theorem emptyKids_any (t : Pt) (g o : Nat) (w : World) (hcnt : t.kids.length ≤ 1000) (hl : Lay w g o t) :
    Calls Tryd.prog 62 #[.pointer (some ⟨g, o, none⟩)] w fun e w' => e = .returned (.int .i64 ((t.kids.countP em : Nat) : Int)) ∧ w' = w := by
  have c5 := hl.cells 5 (by omega)
  rw [cell5] at c5
  have KC : Hid (∀ j, j < t.kids.length → w.cell? ⟨t.blk, j * 9 + 6, none⟩ = some (.bool (nth t.kids j).em)) := fun j hj => by
    have := (hl.kid j hj).cells 6 (by omega)
    rw [cell6] at this
    exact this
  have STEP : Hid (∀ k, k < t.kids.length → (t.kids.take (k + 1)).countP em = (t.kids.take k).countP em + if (nth t.kids k).em = true then 1 else 0) := fun k hk => by
    rw [take_nth hk, List.countP_append, List.countP_cons]; simp
  have BND : Hid (∀ k, (t.kids.take k).countP em ≤ t.kids.length) := fun k => Nat.le_trans List.countP_le_length (by rw [List.length_take]; omega)
  have ALL : Hid ((t.kids.take t.kids.length).countP em = t.kids.countP em) := by show _ = _; rw [List.take_length]
  obtain ⟨N, hN⟩ : ∃ N, t.kids.length = N := ⟨_, rfl⟩
  rw [hN] at hcnt c5 KC STEP ALL BND
  clear hl
  go_enter Tryd.func62, Tryd.ntmps62
  go_wp2
  go_loopw [3, 10] (fun vn i wr => ∃ k : Nat, k ≤ N ∧ i = .int .i64 (k : Int) ∧ vn = .int .i64 (((t.kids.take k).countP em : Nat) : Int) ∧ wr = w) (fun _ i _ => N - (intOf i).toNat)
  case atStart => exact ⟨0, by omega, rfl, by simp, rfl⟩
  case round =>
    obtain ⟨k, hk, rfl, rfl, rfl⟩ := hrel
    have B1 := BND.out k
    by_cases hkn : k < N
    · have hkz : (k : Int) < (N : Int) := by omega
      have c6 := KC.out k hkn
      have ST := STEP.out k hkn
      clear KC STEP ALL BND
      generalize (t.kids.take k).countP em = q at *
      cases he : (nth t.kids k).em
      · rw [he] at c6 ST
        have ST := Lib.hid ST
        clear he
        go_wp2
        go_roundw
        case rel => exact ⟨k + 1, by omega, by go_num, by rw [ST.out]; simp, by simp⟩
        case measure => simp [intOf]; omega
      · rw [he] at c6 ST
        have ST := Lib.hid ST
        clear he
        have wq : IntKind.i64.wrap ((q : Int) + 1) = (q : Int) + 1 := by rw [IntKind.wrap_i64]; omega
        go_wp2
        go_roundw
        case rel => exact ⟨k + 1, by omega, by go_num, by rw [ST.out]; simp, by simp⟩
        case measure => simp [intOf]; omega
    · obtain rfl : k = N := by omega
      have hkz : ¬ (k : Int) < (k : Int) := by omega
      clear KC STEP
      go_wp2
      go_ret
      exact ⟨by rw [← ALL.out]; rfl, rfl⟩

set_option maxRecDepth 100000 in
set_option maxHeartbeats 1000000 in
theorem mayBeEmpty_any (t : Pt) (g o : Nat) (w : World) (hcnt : t.kids.length ≤ 1000) (hl : Lay w g o t) :
    Calls Tryd.prog 51 #[.pointer (some ⟨g, o, none⟩)] w fun e w' => e = .returned (.bool (emOf t.op t.kids)) ∧ ∃ q, w' = w.drewN q := by
  have c0 := hl.cells 0 (by omega)
  rw [cell0] at c0
  simp only [Nat.add_zero] at c0
  have c5 := hl.cells 5 (by omega)
  rw [cell5] at c5
  have CE := Lib.hid (fun q => emptyKids_any t g o (w.drewN q) hcnt (hl.drew q))
  have CE0 := Lib.hid (emptyKids_any t g o w hcnt hl)
  have EM : Hid (emOf t.op t.kids = if t.op = 4 ∨ t.op = 6 then true else if t.op = 2 then t.kids.countP em == t.kids.length else decide (0 < t.kids.countP em)) := rfl
  generalize emOf t.op t.kids = r at *
  generalize t.op = op at *
  generalize t.kids.countP em = m at *
  generalize t.kids.length = N at *
  generalize t.blk = bb at *
  clear hl
  by_cases o4 : op = 4
  · subst o4
    have R : Hid (r = true) := by have h := EM.out; simp at h; exact h
    clear CE CE0 EM c5
    go_enter Tryd.func51, Tryd.ntmps51
    go_wp2
    go_ret
    exact ⟨by rw [R.out]; rfl, 0, rfl⟩
  by_cases o6 : op = 6
  · subst o6
    have R : Hid (r = true) := by have h := EM.out; simp at h; exact h
    clear CE CE0 EM c5 o4
    go_enter Tryd.func51, Tryd.ntmps51
    go_wp2
    go_ret
    exact ⟨by rw [R.out]; rfl, 0, rfl⟩
  have p4 : (op == 4) = false := by simpa using o4
  have p6 : (op == 6) = false := by simpa using o6
  by_cases o2 : op = 2
  · subst o2
    have R : Hid (r = ((m : Int) == (N : Int))) := by
      have := EM.out
      rw [if_neg (by omega), if_pos rfl] at this
      show _ = _
      rw [this, Bool.eq_iff_iff]; simp; omega
    clear EM o4 o6 p4 p6 CE0
    go_enter Tryd.func51, Tryd.ntmps51
    go_wp2_with fail
    go_quiet ((go_at_call 62; exact Calls.quiet_of_same (CE.out _)))
    clear CE c0 c5
    go_wp2
    go_ret
    exact ⟨by rw [R.out]; rfl, _, rfl⟩
  have p2 : (op == 2) = false := by simpa using o2
  have R : Hid (r = decide (0 < m)) := by
    have := EM.out
    rw [if_neg (fun h => h.elim o4 o6), if_neg o2] at this
    exact this
  clear EM o4 o6 o2 CE
  go_enter Tryd.func51, Tryd.ntmps51
  go_wp2_with fail
  refine CE0.out.mono ?_
  rintro e w' ⟨rfl, rfl⟩
  clear CE0 c0 c5
  go_wp2
  go_ret
  exact ⟨by rw [R.out]; rfl, 0, rfl⟩

end Go.Proofs.YtonfmbnankihbaaDoor
