/-
  What the program's read does to a part, whole. Conditions: at most 1000 parts; words have 64 bits, a byte 8.
-/
import Derived.Test.YtonfmbnankihbaaDoorProg
import Derived.Test.YtonfmbnankihbaaDoorZ01
import Derived.Test.YtonfmbnankihbaaDoorZ02
import Derived.Test.YtonfmbnankihbaaDoorZ03
import Derived.Test.YtonfmbnankihbaaDoorZ07
import Derived.Laws.MakeOwn
import Derived.Laws.OwnMore
import Derived.OwnWalk
import Derived.WalkKit
import Derived.WalkSpells
import Derived.WalkLawsBesides
import Derived.Lib.Hide
import Derived.Below
import Derived.BigQuiet
import Derived.Lib.QuietBelow
import Derived.Laws.StructEq
import Derived.KernelRfl
import Derived.Laws.AppendOwn
import Derived.Deep.RegionHeld3
import Derived.Laws.CopyOwn
namespace Go.Proofs.YtonfmbnankihbaaDoor
open Go.RowKit Go.Sort

set_option maxRecDepth 100000 in
set_option maxHeartbeats 1000000 in
theorem has_any (a b c d x : Nat) (hx : x < 256) (w : World) (hf : Fit4 a b c d) :
    Calls Tryd.prog 52 #[.agg #[.int .u64 (a : Int), .int .u64 (b : Int), .int .u64 (c : Int), .int .u64 (d : Int)], .int .u8 (x : Int)] w fun e w' => e = .returned (.bool (hasB a b c d x)) ∧ Below w.heap.size w w' := by
  have B0 : Hid (Below w.heap.size w (w.alloc (.cells #[.int .u64 (a : Int), .int .u64 (b : Int), .int .u64 (c : Int), .int .u64 (d : Int)] 31))) := (Below.refl _ _).alloc (Nat.le_refl _) _
  have CW : (w.alloc (.cells #[.int .u64 (a : Int), .int .u64 (b : Int), .int .u64 (c : Int), .int .u64 (d : Int)] 31)).cell? ⟨w.heap.size, x / 64, none⟩ = some (.int .u64 ((word4 a b c d (x / 64) : Nat) : Int)) := by
    rw [cell_of_row _ w.heap.size _ _ 31 (0, 0) (heap_alloc_new w _)]
    have hj : x / 64 < 4 := by omega
    generalize x / 64 = j at *
    match j, hj with
    | 0, _ => rfl
    | 1, _ => rfl
    | 2, _ => rfl
    | 3, _ => rfl
  have HF : Hid (word4 a b c d (x / 64) / 2 ^ (x % 64) < 18446744073709551616) := Nat.lt_of_le_of_lt (Nat.div_le_self _ _) (word4_lt hf _)
  clear hf
  go_enter Tryd.func52, Tryd.ntmps52
  go_wp2_with fail
  clear CW
  go_ret
  refine ⟨?_, B0.out⟩
  have hf := HF.out
  have e1 : ((word4 a b c d (x / 64) : Nat) : Int) / 2 ^ (x % 64) = ((word4 a b c d (x / 64) / 2 ^ (x % 64) : Nat) : Int) := by simp
  unfold hasB
  generalize word4 a b c d (x / 64) / 2 ^ (x % 64) = q at *
  have e2 := u64_and_nat q 1 hf (by omega)
  rw [Nat.and_one_is_mod] at e2
  have e3 : (bits .and .u64 (q : Int) 1 == 1) = (q % 2 == 1) := by
    have c1 : ((1 : Nat) : Int) = 1 := rfl
    rw [c1] at e2
    rw [e2, Bool.eq_iff_iff]
    simp
    omega
  show Ending.returned (.bool (bits .and .u64 (((word4 a b c d (x / 64) : Nat) : Int) / 2 ^ (x % 64)) 1 == 1)) = _
  rw [e1, e3]
open Pt
theorem Pt.wf_nth : ∀ {ks : List Pt} {j : Nat}, wfL ks → j < ks.length → wf (nth ks j)
  | k :: r, 0, h, _ => by rw [wfL] at h; exact h.1
  | k :: r, j + 1, h, hj => by rw [wfL] at h; exact Pt.wf_nth (ks := r) h.2 (by simpa using hj)
theorem Pt.shL_len : ∀ ks : List Pt, (shL ks).length = ks.length
  | [] => by rw [shL]; rfl
  | k :: r => by rw [shL, List.length_cons, Pt.shL_len r, List.length_cons]
theorem Pt.sh_nth : ∀ {ks : List Pt} {j : Nat}, j < ks.length → sh (nth ks j) = Rx.nth (shL ks) j
  | k :: r, 0, _ => by rw [shL]; rfl
  | k :: r, j + 1, hj => by rw [shL]; exact Pt.sh_nth (ks := r) (by simpa using hj)

set_option maxRecDepth 100000 in
set_option maxHeartbeats 4000000 in
theorem read_set (a b c d blk : Nat) (em lv la : Bool) (ks : List Pt) (g o x : Nat) (bg : Bool) (w : World) (hx : x < 256) (h4 : Fit4 a b c d) (hw : wf (.mk 1 a b c d blk em lv la ks)) (ha : Apart g (.mk 1 a b c d blk em lv la ks)) (hl : Lay w g o (.mk 1 a b c d blk em lv la ks)) :
    Reads x (.mk 1 a b c d blk em lv la ks) g o bg (rd x (.mk 1 a b c d blk em lv la ks) bg) 36 w := by
  have hg : g < w.heap.size := World.block_lt_of_cell? w _ (hl.cells 0 (by omega))
  have n1 := ha.out
  have c7 := hl.cells 7 (by omega)
  have c0 := hl.cells 0 (by omega)
  have c1 := hl.cells 1 (by omega)
  have c2 := hl.cells 2 (by omega)
  have c3 := hl.cells 3 (by omega)
  have c4 := hl.cells 4 (by omega)
  have f7 := hl.free (o + 7)
  have f8 := hl.free (o + 8)
  have c8 := hl.cells 8 (by omega)
  simp only [Pt.cell, Nat.add_zero] at c0 c1 c2 c3 c4 c7 c8
  have CH := Lib.hid (has_any a b c d x hx w h4)
  have HL := Lib.hid hl
  have HA := Lib.hid ha
  unfold Reads
  cases bg
  · cases lv
    · have E : Hid (rd x (.mk 1 a b c d blk em false la ks) false = .mk 1 a b c d blk em false la ks) := dead_rd x _ hw (wf_dead hw rfl)
      clear hw ha hl n1 CH
      go_enter Tryd.func36, Tryd.ntmps36
      go_wp2
      refine bodyPost_ret (results_none rfl _ _ _) rfl ?_
      exact ⟨rfl, by rw [E.out]; exact HL.out, Tch.refl _ _ _ _⟩
    · obtain ⟨l1, t1⟩ := hl.setLv n1 false
      obtain ⟨l2, t2⟩ := l1.setLa (by rw [bl_setLv]; exact n1) false
      have d7 := l1.cells 7 (by omega)
      have d8 := l1.cells 8 (by omega)
      simp only [Pt.setLv, Pt.cell] at d7 d8
      have R : Hid (Lay ((w.setCell ⟨g, o + 7, none⟩ (.bool false)).setCell ⟨g, o + 8, none⟩ (.bool false)) g o (rd x (.mk 1 a b c d blk em true la ks) false) ∧ Tch g o (bl (.mk 1 a b c d blk em true la ks)) w ((w.setCell ⟨g, o + 7, none⟩ (.bool false)).setCell ⟨g, o + 8, none⟩ (.bool false))) := ⟨by rw [rd]; simp only [if_true, Bool.false_and]; exact l2, t1.trans (t2.of (bl_setLv _ _))⟩
      clear hw ha hl n1 CH l1 t1 l2 t2
      go_enter Tryd.func36, Tryd.ntmps36
      go_wp2
      go_end0
      exact ⟨rfl, R.out.1, R.out.2⟩
  · have KK : Hid (∀ w1, Below w.heap.size w w1 → ∀ y, hasB a b c d x = y → w1.cell? ⟨g, o + 7, none⟩ = some (.bool lv) ∧ w1.frozen? ⟨g, o + 7, none⟩ = false ∧ (w1.setCell ⟨g, o + 7, none⟩ (.bool y)).cell? ⟨g, o + 7, none⟩ = some (.bool y) ∧ (w1.setCell ⟨g, o + 7, none⟩ (.bool y)).cell? ⟨g, o + 8, none⟩ = some (.bool la) ∧ (w1.setCell ⟨g, o + 7, none⟩ (.bool y)).frozen? ⟨g, o + 8, none⟩ = false ∧
        Lay ((w1.setCell ⟨g, o + 7, none⟩ (.bool y)).setCell ⟨g, o + 8, none⟩ (.bool y)) g o (rd x (.mk 1 a b c d blk em lv la ks) true) ∧ Tch g o (bl (.mk 1 a b c d blk em lv la ks)) w ((w1.setCell ⟨g, o + 7, none⟩ (.bool y)).setCell ⟨g, o + 8, none⟩ (.bool y))) := by
      intro w1 hb y hy
      have l0 := HL.out.grown hb
      obtain ⟨l1, t1⟩ := l0.setLv HA.out.out y
      obtain ⟨l2, t2⟩ := l1.setLa (by rw [bl_setLv]; exact HA.out.out) y
      refine ⟨l0.cells 7 (by omega), l0.free _, l1.cells 7 (by omega), l1.cells 8 (by omega), l1.free _, ?_, ((Tch.grown hg hb).trans t1).trans (t2.of (bl_setLv _ _))⟩
      rw [rd]; simp only [if_true, Bool.true_and, hy]; exact l2
    clear hw ha hl n1 c8 f7 f8
    generalize hy : hasB a b c d x = y at *
    cases lv
    all_goals
      go_enter Tryd.func36, Tryd.ntmps36
      go_wp2_with fail
      refine CH.out.mono ?_
      rintro e w1 ⟨rfl, b1⟩
      obtain ⟨e1, e2, e3, e4, e5, e6, e7⟩ := KK.out w1 b1 y rfl
      have R := Lib.hid (And.intro e6 e7)
      clear KK e6 e7 b1 CH
      go_wp2
      go_end0
      exact ⟨rfl, R.out.1, R.out.2⟩

end Go.Proofs.YtonfmbnankihbaaDoor
