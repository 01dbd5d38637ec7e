/-
  What the program's Or, Make, Put, And, Not, Cut do. Conditions: lengths fit.
-/
import Derived.Test.YtaklabggojfijaaProg
import Derived.Test.YtaklabggojfijaaEa
import Derived.Test.YtaklabggojfijaaEd
import Derived.Test.YtaklabggojfijaaEm
import Derived.Test.YtaklabggojfijaaIa
import Derived.Test.YtaklabggojfijaaIb
import Derived.Test.YtaklabggojfijaaZb
import Derived.Test.YtaklabggojfijaaZc
import Derived.Test.YtaklabggojfijaaZd
import Derived.Deep.RegionHeld3
import Derived.WalkKit
import Derived.WalkSpells
import Derived.WalkLawsBesides
import Derived.Lib.Hide
import Derived.Below
import Derived.BigQuiet
import Derived.Lib.QuietBelow
import Derived.Laws.StructEq
import Derived.KernelRfl
import Derived.Laws.MakeOwn
import Derived.Laws.OwnMore
import Derived.OwnWalk
import Derived.Laws.CopyOwn
import Derived.Laws.AppendOwn
import Derived.Deep.QuietTactic
import Derived.IntWalk
import Derived.Sort.OwnSortedInts
import Derived.Deep.Slices
import Derived.OpenShut
import Derived.Test.YtaklabggojfijaaSf
namespace Go.Proofs.Ytaklabggojfijaa
open Go.RowKit Go.Sort

set_option maxRecDepth 100000 in
set_option maxHeartbeats 1000000 in
theorem or_any (xs ys : List Int) (A B : Option Addr) (nx ny ca cb : Nat) (w : World) (ex : xs.length = nx) (ey : ys.length = ny) (hx : nx ≤ 1048576) (hy : ny ≤ 1048576) (hA : A = none → ca = 0) (hB : B = none → cb = 0) (ha : IsZ w A xs) (hb : IsZ w B ys) :
    Calls Try.prog 24 #[.slice A nx ca, .slice B ny cb] w fun e w' => ∃ out, IsRise (xs ++ ys) out ∧ MadeZ w out e w' := by
  have B0 : Hid (Below w.heap.size w (w.alloc (.cells #[.slice A nx ca, .slice B ny cb] 30))) := (Below.refl _ _).alloc (Nat.le_refl _) _
  have C := Lib.hid (concat_any xs ys A B nx ny ca cb w.heap.size (w.alloc (.cells #[.slice A nx ca, .slice B ny cb] 30)) ex ey hx hy hA hB (ha.below B0.out) (hb.below B0.out) (by simp) (by simp))
  have L := Lib.hid (show (xs ++ ys).length ≤ 2097152 by rw [List.length_append]; omega)
  have R := Lib.hid (rise_sort (xs ++ ys))
  have RL := Lib.hid (List.length_mergeSort (le := fun x y : Int => decide (x ≤ y)) (xs ++ ys))
  clear ex ey ha hb hA hB
  generalize xs ++ ys = l at *
  go_enter Try.func24, Try.ntmps24
  go_wp2_with fail
  refine C.out.mono ?_
  rintro e w1 ⟨v1, rfl, o1, b1⟩
  have b2 : Below w.heap.size w w1 := B0.out.trans (b1.mono B0.out.size)
  have BB := Lib.hid b2
  have S := Lib.hid (sort_own l v1 l.length w.heap.size w1 (own_baseZ o1 B0.out.size) (by have := L.out; omega) b2.size)
  clear o1 b1 b2 C B0
  go_wp2_with fail
  refine S.out.mono ?_
  rintro e w2 ⟨rfl, o2, b2⟩
  have B2 : Hid (Below w.heap.size w w2) := BB.out.trans b2
  have K := Lib.hid (compact_own _ v1 l.length w.heap.size w2 o2 (by have := L.out; omega) B2.out.size)
  clear o2 b2 S BB
  go_wp2_with fail
  refine K.out.mono ?_
  rintro e w3 ⟨v3, rfl, o3, b3⟩
  have B3 : Hid (Below w.heap.size w w3) := B2.out.trans b3
  have O3 := Lib.hid o3
  clear o3 b3 K B2
  go_wp2
  go_ret
  exact ⟨_, R.out, v3, rfl, O3.out, B3.out⟩
set_option maxRecDepth 100000 in
theorem zmake_any (xs : List Int) (A : Option Addr) (nx ca : Nat) (w : World) (ex : xs.length = nx) (hx : nx ≤ 1048576) (hA : A = none → ca = 0) (ha : IsZ w A xs) :
    Calls Try.prog 20 #[.slice A nx ca] w fun e w' => ∃ out, IsRise xs out ∧ MadeZ w out e w' := by
  have C := Lib.hid (or_any xs [] A none nx 0 ca 0 w ex rfl hx (by omega) hA (fun _ => rfl) ha (IsZ.nil _ _))
  rw [List.append_nil] at C
  clear ex ha hA
  go_enter Try.func20, Try.ntmps20
  go_wp2_with fail
  refine C.out.mono ?_
  rintro e w1 ⟨out, r, v, rfl, o, b⟩
  have Q : Hid (IsRise xs out ∧ World.ownsRow w1 w.heap.size 3 1 v out.length (zs out) ∧ Below w.heap.size w w1) := ⟨r, o, b⟩
  clear r o b C
  go_wp2
  go_ret
  exact ⟨out, Q.out.1, v, rfl, Q.out.2.1, Q.out.2.2⟩
end Go.Proofs.Ytaklabggojfijaa
