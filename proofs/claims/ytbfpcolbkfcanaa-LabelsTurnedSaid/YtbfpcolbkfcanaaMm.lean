/-
  What strings.Compare, Make's comparison and math/bits.Len (of a small number) do. Conditions: the number is below 7.
-/
import Derived.Test.YtbfpcolbkfcanaaMk
import Derived.Test.YtbfpcolbkfcanaaQm
import Derived.Lib.QuietBelow
import Derived.Laws.Externs
namespace Go.Proofs.Ytbfpcolbkfcanaa
open Go.RowKit La Go.Sort

/-- Which of two strings stands first, as a number. -/
def cmpS (a b : ByteArray) : Int := Lib.compareBytes a.data.toList b.data.toList
theorem cmpS_lt (a b : ByteArray) : decide (cmpS a b < 0) = lt a b := by
  unfold cmpS lt
  rw [cmp_neg, ByteArray.toList_eq, ByteArray.toList_eq]

set_option maxRecDepth 100000 in
theorem cmpstr_any (a b : ByteArray) (w : World) : Calls Try.prog 48 #[.string a, .string b] w fun e w' => e = .returned (.int .i64 (cmpS a b)) ∧ w' = w := by
  go_enter Try.func48, Try.ntmps48
  go_wp2
  rw [run_callFunc_extern Try.func63 (by kernel_rfl) (by kernel_rfl) (by kernel_rfl) (e := Extern.BytealgCompare.compare) (by kernel_rfl), Lib.run_compareString]
  simp only [Result.andThen]
  rw [Oper.upon_value]
  go_wp2
  go_ret
  exact ⟨rfl, rfl⟩
set_option maxRecDepth 100000 in
theorem compare_any (a b : ByteArray) (w : World) : Calls Try.prog 36 #[.string a, .string b] w fun e w' => e = .returned (.int .i64 (cmpS a b)) ∧ w' = w := by
  have C := Lib.hid (cmpstr_any a b w)
  go_enter Try.func36, Try.ntmps36
  go_wp2_with fail
  refine C.out.mono ?_
  rintro e w' ⟨rfl, rfl⟩
  go_wp2
  go_ret
  exact ⟨rfl, rfl⟩
set_option maxRecDepth 100000 in
theorem make1_any (x y : Lab) (w : World) : Calls Try.prog 35 #[.agg #[.string x.1, .string x.2], .agg #[.string y.1, .string y.2]] w fun e w' => e = .returned (.int .i64 (cmpS x.1 y.1)) ∧ Below w.heap.size w w' := by
  obtain ⟨x1, x2⟩ := x
  obtain ⟨y1, y2⟩ := y
  have C := Lib.hid (fun w => compare_any x1 y1 w)
  have B : Hid (Below w.heap.size w ((w.alloc (.cells #[.string x1, .string x2] 23)).alloc (.cells #[.string y1, .string y2] 23))) := below_two w _ _
  go_enter Try.func35, Try.ntmps35
  go_wp2_with fail
  refine (C.out _).mono ?_
  rintro e w' ⟨rfl, rfl⟩
  go_wp2
  go_ret
  exact ⟨rfl, B.out⟩
/-- A table of three pieces, behind a name. -/
def lits (a b c : List UInt8) : ByteArray := ⟨(List.append (List.append a b) c).toArray⟩
theorem fold_lits (a b c : List UInt8) : (⟨(List.append (List.append a b) c).toArray⟩ : ByteArray) = lits a b c := rfl
set_option maxHeartbeats 4000000 in
set_option maxRecDepth 100000 in
theorem len64_any (x : Int) (w : World) (h0 : 0 ≤ x) (h1 : x ≤ 6) : Calls Try.prog 62 #[.int .u64 x] w fun e w' => (∃ r, e = .returned (.int .i64 r)) ∧ w' = w := by
  have f1 : ¬ (4294967296 : Int) ≤ x := by omega
  have f2 : ¬ (65536 : Int) ≤ x := by omega
  have f3 : ¬ (256 : Int) ≤ x := by omega
  go_enter Try.func62, Try.ntmps62
  simp only [↓fold_lits]
  generalize hL : lits _ _ _ = L
  have hs : L.size = 256 := by rw [← hL]; decide +kernel
  clear hL
  go_wp2
  all_goals (go_ret; exact ⟨⟨_, rfl⟩, rfl⟩)
set_option maxRecDepth 100000 in
theorem len_any (x : Int) (w : World) (h0 : 0 ≤ x) (h1 : x ≤ 6) : Calls Try.prog 47 #[.int .u64 x] w fun e w' => (∃ r, e = .returned (.int .i64 r)) ∧ w' = w := by
  have C := Lib.hid (len64_any x w h0 h1)
  go_enter Try.func47, Try.ntmps47
  go_wp2_with fail
  refine C.out.mono ?_
  rintro e w' ⟨⟨r, rfl⟩, rfl⟩
  go_wp2
  go_ret
  exact ⟨⟨r, rfl⟩, rfl⟩
end Go.Proofs.Ytbfpcolbkfcanaa
