/-
  What the reference's same and Has do. Conditions: no more than 1000 places; words have 64 bits, a byte 8.
-/
import Derived.Test.YtlbhiiciajfphaaProg
import Derived.Deep.RegionHeld3
import Derived.WalkKit
import Derived.WalkSpells
import Derived.WalkLawsBesides
import Derived.Lib.Hide
import Derived.Below
import Derived.BigQuiet
import Derived.Lib.QuietBelow
import Derived.Laws.StructEq
import Derived.KernelRfl
import Derived.Laws.MakeOwn
import Derived.Laws.OwnMore
import Derived.OwnWalk
namespace Go.Proofs.Ytlbhiiciajfphaa
open Go.RowKit Go.Sort

theorem drewN_below {B : Nat} {a w : World} (h : Below B a w) (q : Nat) : Below B a (w.drewN q) := ⟨h.os, h.tape, h.output, h.size, h.block⟩
def sameB (n : Nat) (f g : Nat → Bool) : Bool := decide (∀ i, i < n → f i = g i)
/-- The word of a set that a byte belongs to. -/
def word4 (a b c d j : Nat) : Nat := if j = 0 then a else if j = 1 then b else if j = 2 then c else d
/-- Is a byte in the set? -/
def hasB (a b c d x : Nat) : Bool := word4 a b c d (x / 64) / 2 ^ (x % 64) % 2 == 1
/-- Four words of 64 bits. -/
def Fit4 (a b c d : Nat) : Prop := a < 18446744073709551616 ∧ b < 18446744073709551616 ∧ c < 18446744073709551616 ∧ d < 18446744073709551616
theorem word4_lt {a b c d : Nat} (h : Fit4 a b c d) (j : Nat) : word4 a b c d j < 18446744073709551616 := by
  obtain ⟨h1, h2, h3, h4⟩ := h
  unfold word4
  split
  · exact h1
  · split
    · exact h2
    · split
      · exact h3
      · exact h4
end Go.Proofs.Ytlbhiiciajfphaa
