/-
  What the reference's after does at a node of bytes. Conditions: no more than 100 places; words have 64 bits.
-/
import Derived.Test.YtjnikeiboefnbaaProg
import Derived.Test.YtjnikeiboefnbaaEa
import Derived.Test.YtjnikeiboefnbaaEe
import Derived.Test.YtjnikeiboefnbaaEm
import Derived.Laws.AppendOwn
import Derived.Laws.CopyOwn
import Derived.Laws.MakeOwn
import Derived.Laws.OwnMore
import Derived.OwnWalk
import Derived.WalkKit
import Derived.WalkSpells
import Derived.WalkLawsBesides
import Derived.Lib.Hide
import Derived.Below
import Derived.BigQuiet
import Derived.Lib.QuietBelow
import Derived.Laws.StructEq
import Derived.KernelRfl
import Derived.Deep.RegionHeld3
namespace Go.Proofs.Ytjnikeiboefnbaa
open Go.RowKit Go.Sort

/-- A text's bytes. -/
def txt8 (s : ByteArray) : List Nat := s.data.toList.map UInt8.toNat
theorem txt8_len (s : ByteArray) : (txt8 s).length = s.size := by rw [txt8, List.length_map, Array.length_toList]; rfl
theorem txt8_lt (s : ByteArray) (j : Nat) : (txt8 s).getD j 0 < 256 := by
  by_cases hj : j < (txt8 s).length
  · have : (txt8 s)[j]'hj < 256 := by simp [txt8]; exact UInt8.toNat_lt _
    simpa [List.getD, List.getElem?_eq_getElem hj] using this
  · simp [List.getD, List.getElem?_eq_none (show (txt8 s).length ≤ j by omega)]
theorem txt8_at (w : World) (s : ByteArray) (j : Nat) (h : j < s.size) : (Instr.index 9 (.string s) (.int .i64 (j : Int))).run Try.prog w = .ok (.int .u8 (((txt8 s).getD j 0 : Nat) : Int)) w := by
  have e : s[j]? = some s[j] := by simp [h]
  have e2 : (txt8 s).getD j 0 = (s[j]).toNat := by
    have : j < s.data.size := h
    rw [txt8, List.getD, List.getElem?_map, Array.getElem?_toList, Array.getElem?_eq_getElem this]
    rfl
  rw [e2]
  simp [Instr.index, run_underlying Try.underlying9, asIntOf, go_sem, e]
/-- What stands in the row behind k rounds. -/
def setAt (s : ByteArray) (a b c d : Nat) (f : Nat → Bool) (k i : Nat) : Bool := decide (0 < i) && decide (i ≤ k) && f (i - 1) && hasB a b c d ((txt8 s).getD (i - 1) 0)
theorem aft_set_eq {s : ByteArray} {a b c d : Nat} {ks : List Rx} {f : Nat → Bool} : Rx.aft (txt8 s) (.mk 1 a b c d ks) f = setAt s a b c d f s.size := by
  have e : Rx.aft (txt8 s) (.mk 1 a b c d ks) f = setAt s a b c d f (txt8 s).length := rfl
  rw [e, txt8_len]

end Go.Proofs.Ytjnikeiboefnbaa
