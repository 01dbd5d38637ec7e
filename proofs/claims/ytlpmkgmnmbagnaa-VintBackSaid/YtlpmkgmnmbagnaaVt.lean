/-
  What PutText and PutWord (the program's and the reference's) do, for every text and every word: they return a new slice with the bytes that the chapter names. Condition at PutText: the text has at most 2^47 - 4096 bytes.
-/
import Derived.Test.YtlpmkgmnmbagnaaVg
import Derived.Lib.AppendStr
namespace Go.Proofs.Ytlpmkgmnmbagnaa
open Go.RowKit

/-- A text's bytes. -/
def textL (s : ByteArray) : List Nat := s.data.toList.map UInt8.toNat
theorem textL_length (s : ByteArray) : (textL s).length = s.size := by rw [textL, List.length_map, Array.length_toList]; rfl
theorem by8_text (s : ByteArray) : by8 (textL s) = Lib.strCells s := by simp [by8, textL, Lib.strCells]
theorem by8_app (a b : List Nat) : by8 (a ++ b) = by8 a ++ by8 b := by simp [by8]
def putText (s : ByteArray) : List Nat := Vm.put s.size ++ textL s

theorem ptext_done {w w1 w2 : World} {s : ByteArray} {v v' : Value} (ho : w1.ownsRow w.heap.size 5 1 v (Vm.put s.size).length (by8 (Vm.put s.size))) (hb : Below w.heap.size w w1)
    (hown' : w2.ownsRow w.heap.size 5 1 v' ((Vm.put s.size).length + s.size) (by8 (Vm.put s.size) ++ Lib.strCells s)) (hg : w1.grownBy w2 v.ownBlock) : MadeBytes w (putText s) (.returned v') w2 := by
  refine ⟨v', rfl, ?_, hb.grown hg hb.size (own_ge ho)⟩
  rw [putText, by8_app, by8_text, List.length_append, textL_length]
  exact hown'
theorem put_len (n : Nat) : (Vm.put n).length ≤ 10 := Vm.putF_len 9 n
theorem fits_size {s : ByteArray} (h : s.size ≤ 140737488351232) : Vm.Fits s.size := by unfold Vm.Fits; omega

set_option maxRecDepth 100000 in
set_option maxHeartbeats 400000 in
theorem ptext_any (s : ByteArray) (w : World) (hs : s.size ≤ 140737488351232) : Calls Try.prog 11 #[.string s] w (MadeBytes w (putText s)) := by
  obtain ⟨i0, hi, hz0, hz1, hz2⟩ := info_parts Try.info5
  have hpl := put_len s.size
  go_enter Try.func11, Try.ntmps11
  go_wp2_with fail
  refine (put_any s.size _ (fits_size hs)).mono ?_
  rintro e w1 ⟨v, rfl, ho, hb⟩
  go_wp2_with (at_builtin; (refine Lib.wpList_append_own_string _ rfl _ _ 25 9 rfl w.heap.size 5 i0 Try.underlying25 Try.underlying9 hi hz0 hz1 hz2 _ _ _ rfl ho s rfl (by unfold maxLen; omega) (by omega) hb.size ?_))
  intro v' w2 hown' hgrow _
  have R := ptext_done ho hb hown' hgrow
  clear hown' hgrow ho hb
  go_wp2
  go_ret
  exact R

set_option maxRecDepth 100000 in
set_option maxHeartbeats 400000 in
theorem rptext_any (s : ByteArray) (w : World) (hs : s.size ≤ 140737488351232) : Calls Try.prog 13 #[.string s] w (MadeBytes w (putText s)) := by
  obtain ⟨i0, hi, hz0, hz1, hz2⟩ := info_parts Try.info5
  have hpl := put_len s.size
  go_enter Try.func13, Try.ntmps13
  go_wp2_with fail
  refine (rput_any s.size _ (fits_size hs)).mono ?_
  rintro e w1 ⟨v, rfl, ho, hb⟩
  go_wp2_with (at_builtin; (refine Lib.wpList_append_own_string _ rfl _ _ 25 9 rfl w.heap.size 5 i0 Try.underlying25 Try.underlying9 hi hz0 hz1 hz2 _ _ _ rfl ho s rfl (by unfold maxLen; omega) (by omega) hb.size ?_))
  intro v' w2 hown' hgrow _
  have R := ptext_done ho hb hown' hgrow
  clear hown' hgrow ho hb
  go_wp2
  go_ret
  exact R

theorem Try.make8 (w : World) : (Instr.makeSlice 25 (.int .i64 8) (.int .i64 8)).run Try.prog w = .ok (.slice (some ⟨w.heap.size, 0, none⟩) 8 8) (w.alloc (.cells #[.int .u8 0, .int .u8 0, .int .u8 0, .int .u8 0, .int .u8 0, .int .u8 0, .int .u8 0, .int .u8 0] 5)) := by kernel_rfl

theorem word_made (n : Nat) (w : World) (cs : Array Value) (h : cs = (by8 (Vm.word n)).toArray) : MadeBytes w (Vm.word n) (.returned (.slice (some ⟨w.heap.size, 0, none⟩) 8 8)) (w.alloc (.cells cs 5)) := by
  subst h
  refine ⟨_, rfl, ?_, (Below.refl _ _).alloc (Nat.le_refl _) _⟩
  exact World.ownsRow_lit w _ 8 (Nat.le_refl _) (by unfold maxLen; omega) rfl

set_option maxRecDepth 100000 in
set_option maxHeartbeats 400000 in
theorem pword_any (n : Nat) (w : World) : Calls Try.prog 14 #[.int .u64 (n : Int)] w (MadeBytes w (Vm.word n)) := by
  have hmk := Try.make8
  go_enter Try.func14, Try.ntmps14
  go_wp2
  refine wp_loop_rounds 9 ?_
  iterate 9 (rw [rounds_succ]; go_wp2)
  go_ret
  refine word_made n w _ ?_
  simp only [by8, Vm.word, List.map_cons, List.map_nil]
  repeat (first | rfl | (congr 1; omega) | congr 1)

set_option maxRecDepth 100000 in
set_option maxHeartbeats 400000 in
theorem rpword_any (n : Nat) (w : World) : Calls Try.prog 15 #[.int .u64 (n : Int)] w (MadeBytes w (Vm.word n)) := by
  have hmk := Try.make8
  go_enter Try.func15, Try.ntmps15
  go_wp2
  refine wp_loop_rounds 9 ?_
  iterate 9 (rw [rounds_succ]; go_wp2)
  go_ret
  refine word_made n w _ ?_
  simp only [by8, Vm.word, List.map_cons, List.map_nil]
  repeat (first | rfl | (congr 1; omega) | congr 1)

end Go.Proofs.Ytlpmkgmnmbagnaa
