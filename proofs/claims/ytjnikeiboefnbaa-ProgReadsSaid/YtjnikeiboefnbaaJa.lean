/-
  Plain mathematics of chapter 5: a pattern's bytes are read as a tree. No conditions.
-/
import Derived.Test.YtjnikeiboefnbaaProg
import Derived.Test.YtjnikeiboefnbaaEa
import Derived.Test.YtjnikeiboefnbaaEd
import Derived.Test.YtjnikeiboefnbaaEm
import Derived.Laws.AppendOwn
import Derived.Laws.CopyOwn
import Derived.Laws.MakeOwn
import Derived.Laws.OwnMore
import Derived.OwnWalk
import Derived.WalkKit
import Derived.WalkSpells
import Derived.WalkLawsBesides
import Derived.Lib.Hide
import Derived.Below
import Derived.BigQuiet
import Derived.Lib.QuietBelow
import Derived.Laws.StructEq
import Derived.KernelRfl
import Derived.Deep.RegionHeld3
namespace Go.Proofs.Ytjnikeiboefnbaa
namespace Pz
/-- The byte at a place; 256: none. -/
def pk (S : List Nat) (i : Nat) : Nat := S.getD i 256
def special (c : Nat) : Bool := c == 124 || c == 42 || c == 43 || c == 63 || c == 40 || c == 41 || c == 91 || c == 93 || c == 46 || c == 92
def inside (c : Nat) : Bool := c == 92 || c == 93 || c == 91 || c == 94 || c == 45
def quotable (c : Nat) : Bool := special c || c == 94 || c == 45
/-- A byte that is none of these, or a quoted one. -/
def byte1 (S : List Nat) (but : Nat → Bool) (i : Nat) : Option (Nat × Nat) :=
  if pk S i = 92 then (if quotable (pk S (i + 1)) then some (pk S (i + 1), i + 2) else none)
  else if pk S i = 256 ∨ but (pk S i) = true then none else some (pk S i, i + 1)
/-- One byte more in a set of four words. -/
def put (W : Nat → Nat) (c : Nat) : Nat → Nat := fun k => if k = c / 64 then W k ||| 2 ^ (c % 64) else W k
/-- n bytes from lo on. -/
def span (W : Nat → Nat) (lo : Nat) : Nat → Nat → Nat
  | 0 => W
  | n + 1 => put (span W lo n) (lo + n)
def none4 : Nat → Nat := fun _ => 0
def join (V W : Nat → Nat) : Nat → Nat := fun k => V k ||| W k
def neg (W : Nat → Nat) : Nat → Nat := fun k => 18446744073709551615 - W k
/-- A byte, or two with a - between them: from, to. -/
def item (S : List Nat) (i : Nat) : Option (Nat × Nat × Nat) :=
  match byte1 S inside i with
  | none => none
  | some (lo, j) =>
    if pk S j = 45 then
      match byte1 S inside (j + 1) with
      | none => none
      | some (hi, k) => if hi < lo then none else some (lo, hi, k)
    else some (lo, lo, j)
/-- Items up to a closing bracket. -/
def items (S : List Nat) : Nat → (Nat → Nat) → Nat → Option ((Nat → Nat) × Nat)
  | 0, _, _ => none
  | n + 1, W, i =>
    if pk S i = 93 then some (W, i + 1)
    else match item S i with
      | none => none
      | some (lo, hi, j) => items S n (span W lo (hi + 1 - lo)) j
def setOf (W : Nat → Nat) : Rx := .mk 1 (W 0) (W 1) (W 2) (W 3) []
/-- The choice of bytes behind its opening bracket. -/
def class1 (S : List Nat) (n : Nat) (i : Nat) : Option (Rx × Nat) :=
  let j := if pk S i = 94 then i + 1 else i
  match item S j with
  | none => none
  | some (lo, hi, k) =>
    match items S n (span none4 lo (hi + 1 - lo)) k with
    | none => none
    | some (W, m) => some (setOf (if pk S i = 94 then neg W else W), m)
/-- A group, or what stands for one byte. -/
def atom (S : List Nat) (n : Nat) (G : Nat → Option (Rx × Nat)) (i : Nat) : Option (Rx × Nat) :=
  if pk S i = 40 then G (i + 1)
  else if pk S i = 91 then class1 S n (i + 1)
  else if pk S i = 46 then some (setOf (neg none4), i + 1)
  else match byte1 S special i with
    | none => none
    | some (c, j) => some (setOf (put none4 c), j)
def rep (op : Int) (x : Rx) : Rx := .mk op 0 0 0 0 [x]
def factor (S : List Nat) (n : Nat) (G : Nat → Option (Rx × Nat)) (i : Nat) : Option (Rx × Nat) :=
  match atom S n G i with
  | none => none
  | some (x, j) => if pk S j = 42 then some (rep 4 x, j + 1) else if pk S j = 43 then some (rep 5 x, j + 1) else if pk S j = 63 then some (rep 6 x, j + 1) else some (x, j)
def joined (op : Int) : List Rx → Rx
  | [x] => x
  | l => .mk op 0 0 0 0 l
/-- Factors up to the end of a way, behind those that are there. -/
def way (S : List Nat) (n : Nat) (G : Nat → Option (Rx × Nat)) : Nat → List Rx → Nat → Option (Rx × Nat)
  | 0, _, _ => none
  | m + 1, l, i =>
    if pk S i = 256 ∨ pk S i = 124 ∨ pk S i = 41 then some (joined 2 l, i)
    else match factor S n G i with
      | none => none
      | some (x, j) => way S n G m (l ++ [x]) j
/-- Ways with | between, behind those that are there. -/
def ways (S : List Nat) (n : Nat) (G : Nat → Option (Rx × Nat)) : Nat → List Rx → Nat → Option (Rx × Nat)
  | 0, _, _ => none
  | m + 1, l, i =>
    match way S n G n [] i with
    | none => none
    | some (x, j) => if pk S j = 124 then ways S n G m (l ++ [x]) (j + 1) else some (joined 3 (l ++ [x]), j)
/-- The rest of a group behind its opening bracket, so many groups deep. -/
def group (S : List Nat) (n : Nat) : Nat → Nat → Option (Rx × Nat)
  | 0, _ => none
  | d + 1, i =>
    match ways S n (group S n d) n [] i with
    | none => none
    | some (x, j) => if pk S j = 41 then some (x, j + 1) else none
/-- The tree of a pattern. -/
def parse (S : List Nat) : Option Rx :=
  if 40 < S.length then none
  else match ways S 42 (group S 42 8) 42 [] 0 with
    | none => none
    | some (x, j) => if j < S.length then none else some x
example : (parse [97, 42, 124, 98]).isSome = true := by decide +kernel
example : (parse [97, 42, 42]).isSome = false := by decide +kernel
example : (parse [40, 97, 41, 91, 97, 45, 122, 93]).isSome = true := by decide +kernel
end Pz

end Go.Proofs.Ytjnikeiboefnbaa
