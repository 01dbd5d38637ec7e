/-
  What PutText (the program's and the reference's) does, for every text: it returns a new slice with the bytes that the chapter names. Condition at PutText: the text has at most 2^47 - 4096 bytes.
-/
import Derived.Test.YtbfpcolbkfcanaaVg
import Derived.Lib.AppendStr
namespace Go.Proofs.Ytbfpcolbkfcanaa
open Go.RowKit

def putText (s : ByteArray) : List Nat := Vm.put s.size ++ textL s

theorem ptext_done {w w1 w2 : World} {s : ByteArray} {v v' : Value} (ho : w1.ownsRow w.heap.size 5 1 v (Vm.put s.size).length (by8 (Vm.put s.size))) (hb : Below w.heap.size w w1)
    (hown' : w2.ownsRow w.heap.size 5 1 v' ((Vm.put s.size).length + s.size) (by8 (Vm.put s.size) ++ Lib.strCells s)) (hg : w1.grownBy w2 v.ownBlock) : MadeBytes w (putText s) (.returned v') w2 := by
  refine ⟨v', rfl, ?_, hb.grown hg hb.size (own_ge ho)⟩
  rw [putText, by8_app, by8_text, List.length_append, textL_length]
  exact hown'
theorem put_len (n : Nat) : (Vm.put n).length ≤ 10 := Vm.putF_len 9 n
theorem fits_size {s : ByteArray} (h : s.size ≤ 140737488351232) : Vm.Fits s.size := by unfold Vm.Fits; omega

set_option maxRecDepth 100000 in
set_option maxHeartbeats 400000 in
theorem ptext_any (s : ByteArray) (w : World) (hs : s.size ≤ 140737488351232) : Calls Try.prog 29 #[.string s] w (MadeBytes w (putText s)) := by
  obtain ⟨i0, hi, hz0, hz1, hz2⟩ := info_parts Try.info5
  have hpl := put_len s.size
  go_enter Try.func29, Try.ntmps29
  go_wp2_with fail
  refine (put_any s.size _ (fits_size hs)).mono ?_
  rintro e w1 ⟨v, rfl, ho, hb⟩
  go_wp2_with (at_builtin; (refine Lib.wpList_append_own_string _ rfl _ _ 28 9 rfl w.heap.size 5 i0 Try.underlying28 Try.underlying9 hi hz0 hz1 hz2 _ _ _ rfl ho s rfl (by unfold maxLen; omega) (by omega) hb.size ?_))
  intro v' w2 hown' hgrow _
  have R := ptext_done ho hb hown' hgrow
  clear hown' hgrow ho hb
  go_wp2
  go_ret
  exact R

set_option maxRecDepth 100000 in
set_option maxHeartbeats 400000 in
theorem rptext_any (s : ByteArray) (w : World) (hs : s.size ≤ 140737488351232) : Calls Try.prog 42 #[.string s] w (MadeBytes w (putText s)) := by
  obtain ⟨i0, hi, hz0, hz1, hz2⟩ := info_parts Try.info5
  have hpl := put_len s.size
  go_enter Try.func42, Try.ntmps42
  go_wp2_with fail
  refine (rput_any s.size _ (fits_size hs)).mono ?_
  rintro e w1 ⟨v, rfl, ho, hb⟩
  go_wp2_with (at_builtin; (refine Lib.wpList_append_own_string _ rfl _ _ 28 9 rfl w.heap.size 5 i0 Try.underlying28 Try.underlying9 hi hz0 hz1 hz2 _ _ _ rfl ho s rfl (by unfold maxLen; omega) (by omega) hb.size ?_))
  intro v' w2 hown' hgrow _
  have R := ptext_done ho hb hown' hgrow
  clear hown' hgrow ho hb
  go_wp2
  go_ret
  exact R

end Go.Proofs.Ytbfpcolbkfcanaa
