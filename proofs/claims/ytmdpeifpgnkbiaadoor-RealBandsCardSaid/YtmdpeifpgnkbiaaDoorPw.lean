/-
  What the reference's PutWord does, for every word: it returns a new slice of its eight bytes. No conditions.
-/
import Derived.Test.YtmdpeifpgnkbiaaDoorBy
namespace Go.Proofs.YtmdpeifpgnkbiaaDoor
open Go.RowKit

theorem Tryd.make8 (w : World) : (Instr.makeSlice 62 (.int .i64 8) (.int .i64 8)).run Tryd.prog w = .ok (.slice (some ⟨w.heap.size, 0, none⟩) 8 8) (w.alloc (.cells #[.int .u8 0, .int .u8 0, .int .u8 0, .int .u8 0, .int .u8 0, .int .u8 0, .int .u8 0, .int .u8 0] 5)) := by kernel_rfl

theorem word_made (n : Nat) (w : World) (cs : Array Value) (h : cs = (by8 (Vm.word n)).toArray) : MadeBytes w (Vm.word n) (.returned (.slice (some ⟨w.heap.size, 0, none⟩) 8 8)) (w.alloc (.cells cs 5)) := by
  subst h
  refine ⟨_, rfl, ?_, (Below.refl _ _).alloc (Nat.le_refl _) _⟩
  exact World.ownsRow_lit w _ 8 (Nat.le_refl _) (by unfold maxLen; omega) rfl

set_option maxRecDepth 100000 in
set_option maxHeartbeats 400000 in
theorem rpword_any (n : Nat) (w : World) : Calls Tryd.prog 53 #[.int .u64 (n : Int)] w (MadeBytes w (Vm.word n)) := by
  have hmk := Tryd.make8
  go_enter Tryd.func53, Tryd.ntmps53
  go_wp2
  refine wp_loop_rounds 9 ?_
  iterate 9 (rw [rounds_succ]; go_wp2)
  go_ret
  refine word_made n w _ ?_
  simp only [by8, Vm.word, List.map_cons, List.map_nil]
  repeat (first | rfl | (congr 1; omega) | congr 1)


end Go.Proofs.YtmdpeifpgnkbiaaDoor
