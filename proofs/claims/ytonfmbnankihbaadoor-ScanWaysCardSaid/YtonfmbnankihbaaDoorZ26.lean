/-
  What the program's read does to a part, whole. Conditions: at most 1000 parts; words have 64 bits, a byte 8.
-/
import Derived.Test.YtonfmbnankihbaaDoorProg
import Derived.Test.YtonfmbnankihbaaDoorZ01
import Derived.Test.YtonfmbnankihbaaDoorZ02
import Derived.Test.YtonfmbnankihbaaDoorZ03
import Derived.Test.YtonfmbnankihbaaDoorZ08
import Derived.Test.YtonfmbnankihbaaDoorZ07
import Derived.Test.YtonfmbnankihbaaDoorZ24
import Derived.Test.YtonfmbnankihbaaDoorZ25
import Derived.Laws.MakeOwn
import Derived.Laws.OwnMore
import Derived.OwnWalk
import Derived.WalkKit
import Derived.WalkSpells
import Derived.WalkLawsBesides
import Derived.Lib.Hide
import Derived.Below
import Derived.BigQuiet
import Derived.Lib.QuietBelow
import Derived.Laws.StructEq
import Derived.KernelRfl
import Derived.Laws.AppendOwn
import Derived.Deep.RegionHeld3
import Derived.Laws.CopyOwn
namespace Go.Proofs.YtonfmbnankihbaaDoor
open Go.RowKit Go.Sort
open Pt

set_option maxRecDepth 100000 in
set_option maxHeartbeats 4000000 in
theorem read_seq (a b c d blk : Nat) (em lv la : Bool) (ks : List Pt) (g o x : Nat) (bg : Bool) (w : World) (hw : wf (.mk 2 a b c d blk em lv la ks)) (hl : Lay w g o (.mk 2 a b c d blk em lv la ks))
    (C : Reads x (.mk 2 a b c d blk em lv la ks) g o bg (seqOf x (.mk 2 a b c d blk em lv la ks) bg) 53 w) :
    Reads x (.mk 2 a b c d blk em lv la ks) g o bg (rd x (.mk 2 a b c d blk em lv la ks) bg) 36 w := by
  have c7 := hl.cells 7 (by omega)
  have c0 := hl.cells 0 (by omega)
  simp only [Pt.cell, Nat.add_zero] at c0 c7
  have HL := Lib.hid hl
  have E : Hid (lv = false → bg = false → rd x (.mk 2 a b c d blk em lv la ks) bg = .mk 2 a b c d blk em lv la ks) := by
    intro e1 e2; subst e1 e2; exact dead_rd x _ hw (wf_dead hw rfl)
  have E2 : Hid (rd x (.mk 2 a b c d blk em lv la ks) bg = seqOf x (.mk 2 a b c d blk em lv la ks) bg) := by show _ = _; rw [rd]; simp [seqOf]
  have CH := Lib.hid C
  clear hw hl C
  unfold Reads at CH ⊢
  cases bg <;> cases lv
  case false.false =>
    clear CH E2
    have E9 := Lib.hid (E.out rfl rfl)
    clear E
    go_enter Tryd.func36, Tryd.ntmps36
    go_wp2
    refine bodyPost_ret (results_none rfl _ _ _) rfl ?_
    exact ⟨rfl, by rw [E9.out]; exact HL.out, Tch.refl _ _ _ _⟩
  all_goals
    clear E HL
    go_enter Tryd.func36, Tryd.ntmps36
    go_wp2_with fail
    refine CH.out.mono ?_
    rintro e w1 ⟨rfl, l1, t1⟩
    have R := Lib.hid (And.intro l1 t1)
    clear CH l1 t1 c0 c7
    go_wp2
    go_end0
    exact ⟨rfl, by rw [E2.out]; exact R.out.1, R.out.2⟩

set_option maxRecDepth 100000 in
set_option maxHeartbeats 4000000 in
theorem read_alt (op : Int) (ho : op = 3 ∨ op = 6) (a b c d blk : Nat) (em lv la : Bool) (ks : List Pt) (g o x : Nat) (bg : Bool) (w : World) (hw : wf (.mk op a b c d blk em lv la ks)) (hl : Lay w g o (.mk op a b c d blk em lv la ks))
    (C : Reads x (.mk op a b c d blk em lv la ks) g o bg (eachOf x (.mk op a b c d blk em lv la ks) bg) 54 w) :
    Reads x (.mk op a b c d blk em lv la ks) g o bg (rd x (.mk op a b c d blk em lv la ks) bg) 36 w := by
  have c7 := hl.cells 7 (by omega)
  have c0 := hl.cells 0 (by omega)
  simp only [Pt.cell, Nat.add_zero] at c0 c7
  have HL := Lib.hid hl
  have E : Hid (lv = false → bg = false → rd x (.mk op a b c d blk em lv la ks) bg = .mk op a b c d blk em lv la ks) := by
    intro e1 e2; subst e1 e2; exact dead_rd x _ hw (wf_dead hw rfl)
  have E2 : Hid (rd x (.mk op a b c d blk em lv la ks) bg = eachOf x (.mk op a b c d blk em lv la ks) bg) := by
    show _ = _
    rw [rd]
    rcases ho with rfl | rfl <;> simp [eachOf]
  have CH := Lib.hid C
  clear hw hl C
  unfold Reads at CH ⊢
  rcases ho with rfl | rfl <;> cases bg <;> cases lv
  case inl.false.false =>
    clear CH E2
    have E9 := Lib.hid (E.out rfl rfl)
    clear E
    go_enter Tryd.func36, Tryd.ntmps36
    go_wp2
    refine bodyPost_ret (results_none rfl _ _ _) rfl ?_
    exact ⟨rfl, by rw [E9.out]; exact HL.out, Tch.refl _ _ _ _⟩
  case inr.false.false =>
    clear CH E2
    have E9 := Lib.hid (E.out rfl rfl)
    clear E
    go_enter Tryd.func36, Tryd.ntmps36
    go_wp2
    refine bodyPost_ret (results_none rfl _ _ _) rfl ?_
    exact ⟨rfl, by rw [E9.out]; exact HL.out, Tch.refl _ _ _ _⟩
  all_goals
    clear E HL
    go_enter Tryd.func36, Tryd.ntmps36
    go_wp2_with fail
    refine CH.out.mono ?_
    rintro e w1 ⟨rfl, l1, t1⟩
    have R := Lib.hid (And.intro l1 t1)
    clear CH l1 t1 c0 c7
    go_wp2
    go_end0
    exact ⟨rfl, by rw [E2.out]; exact R.out.1, R.out.2⟩

set_option maxRecDepth 100000 in
set_option maxHeartbeats 4000000 in
theorem read_star (op : Int) (ho : op = 4 ∨ op = 5) (a b c d blk : Nat) (em lv la : Bool) (ks : List Pt) (g o x : Nat) (bg : Bool) (w : World) (hw : wf (.mk op a b c d blk em lv la ks)) (hl : Lay w g o (.mk op a b c d blk em lv la ks))
    (C : Reads x (.mk op a b c d blk em lv la ks) g o (bg || la) (eachOf x (.mk op a b c d blk em lv la ks) (bg || la)) 54 w) :
    Reads x (.mk op a b c d blk em lv la ks) g o bg (rd x (.mk op a b c d blk em lv la ks) bg) 36 w := by
  have c7 := hl.cells 7 (by omega)
  have c8 := hl.cells 8 (by omega)
  have c0 := hl.cells 0 (by omega)
  simp only [Pt.cell, Nat.add_zero] at c0 c7 c8
  have HL := Lib.hid hl
  have E : Hid (lv = false → bg = false → rd x (.mk op a b c d blk em lv la ks) bg = .mk op a b c d blk em lv la ks) := by
    intro e1 e2; subst e1 e2; exact dead_rd x _ hw (wf_dead hw rfl)
  have E2 : Hid (rd x (.mk op a b c d blk em lv la ks) bg = eachOf x (.mk op a b c d blk em lv la ks) (bg || la)) := by
    show _ = _
    rw [rd]
    rcases ho with rfl | rfl <;> simp [eachOf]
  have CH := Lib.hid C
  clear hw hl C
  unfold Reads at CH ⊢
  rcases ho with rfl | rfl <;> cases bg <;> cases lv <;> simp only [Bool.true_or, Bool.false_or] at CH E2
  case inl.false.false =>
    clear CH E2
    have E9 := Lib.hid (E.out rfl rfl)
    clear E
    go_enter Tryd.func36, Tryd.ntmps36
    go_wp2
    refine bodyPost_ret (results_none rfl _ _ _) rfl ?_
    exact ⟨rfl, by rw [E9.out]; exact HL.out, Tch.refl _ _ _ _⟩
  case inr.false.false =>
    clear CH E2
    have E9 := Lib.hid (E.out rfl rfl)
    clear E
    go_enter Tryd.func36, Tryd.ntmps36
    go_wp2
    refine bodyPost_ret (results_none rfl _ _ _) rfl ?_
    exact ⟨rfl, by rw [E9.out]; exact HL.out, Tch.refl _ _ _ _⟩
  all_goals
    clear E HL
    go_enter Tryd.func36, Tryd.ntmps36
    go_wp2_with fail
    refine CH.out.mono ?_
    rintro e w1 ⟨rfl, l1, t1⟩
    have R := Lib.hid (And.intro l1 t1)
    clear CH l1 t1 c0 c7 c8
    go_wp2
    go_end0
    exact ⟨rfl, by rw [E2.out]; exact R.out.1, R.out.2⟩

theorem read_any : ∀ (n : Nat) (t : Pt) (g o x : Nat) (bg : Bool) (w : World), n ≤ 1000 → count t ≤ n → x < 256 → Rx.isRex (sh t) = true → Rx.fit (sh t) → wf t → Apart g t → Lay w g o t → Reads x t g o bg (rd x t bg) 36 w := by
  intro n
  induction n with
  | zero => intro t g o x bg w _ hs; have := Pt.count_pos t; omega
  | succ n ih =>
    intro t g o x bg w hn hcnt hx hr hfit hw ha hl
    obtain ⟨op, a, b, c, d, blk, em, lv, la, ks⟩ := t
    rw [sh, Rx.isRex] at hr
    rw [sh] at hfit
    obtain ⟨h4, hfl⟩ := hfit
    by_cases o1 : op = 1
    · subst o1
      exact read_set a b c d blk em lv la ks g o x bg w hx h4 hw ha hl
    rw [if_neg o1] at hr
    simp only [Bool.and_eq_true] at hr
    obtain ⟨⟨hm, hall⟩, _⟩ := hr
    have hcnt2 := hcnt
    rw [count] at hcnt
    have hwk : wfL ks := by rw [wf] at hw; exact hw.2.2
    have K : ∀ j, j < ks.length → ∀ W b', Lay W blk (j * 9) (nth ks j) → Reads x (nth ks j) blk (j * 9) b' (rd x (nth ks j) b') 36 W := fun j hj W b' hlay =>
      ih (nth ks j) blk (j * 9) x b' W (by omega) (by have := nth_count hj; omega) hx (by rw [Pt.sh_nth hj]; exact Rx.all_nth hall (by rw [Pt.shL_len]; exact hj)) (by rw [Pt.sh_nth hj]; exact Rx.fit_nth hfl (by rw [Pt.shL_len]; exact hj)) (Pt.wf_nth hwk hj) (ha.kid (t := .mk op a b c d blk em lv la ks) hj) hlay
    have CE := fun b' => readEach_any (.mk op a b c d blk em lv la ks) g o x b' w (by omega) ha hl (fun j hj W hlay => K j hj W b' hlay)
    by_cases o2 : op = 2
    · subst o2
      exact read_seq a b c d blk em lv la ks g o x bg w hw hl (readInOrder_any _ g o x bg w (by omega) ha hl (fun j hj W b' hlay => K j hj W b' hlay))
    by_cases o3 : op = 3
    · exact read_alt op (.inl o3) a b c d blk em lv la ks g o x bg w hw hl (CE bg)
    unfold Rx.may at hm
    have p2 : (op == 2) = false := by simpa using o2
    have p3 : (op == 3) = false := by simpa using o3
    rw [p2, p3] at hm
    simp only [Bool.false_and, Bool.or_self, Bool.false_or, Bool.and_eq_true, Bool.or_eq_true, beq_iff_eq] at hm
    rcases hm.1 with (o4 | o5) | o6
    · exact read_star op (.inl o4) a b c d blk em lv la ks g o x bg w hw hl (CE _)
    · exact read_star op (.inr o5) a b c d blk em lv la ks g o x bg w hw hl (CE _)
    · exact read_alt op (.inr o6) a b c d blk em lv la ks g o x bg w hw hl (CE bg)

end Go.Proofs.YtonfmbnankihbaaDoor
