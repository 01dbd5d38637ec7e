/-
  What slices.Grow of nil and slices.Concat of two rows of ints do. Conditions: lengths fit.
-/
import Derived.Test.YtaklabggojfijaaProg
import Derived.Test.YtaklabggojfijaaEa
import Derived.Test.YtaklabggojfijaaEd
import Derived.Test.YtaklabggojfijaaEm
import Derived.Test.YtaklabggojfijaaEi
import Derived.Test.YtaklabggojfijaaEo
import Derived.Test.YtaklabggojfijaaIa
import Derived.Test.YtaklabggojfijaaIb
import Derived.Deep.QuietTactic
import Derived.Deep.RegionHeld3
import Derived.WalkKit
import Derived.WalkSpells
import Derived.WalkLawsBesides
import Derived.Lib.Hide
import Derived.Below
import Derived.BigQuiet
import Derived.Lib.QuietBelow
import Derived.Laws.StructEq
import Derived.KernelRfl
import Derived.Laws.MakeOwn
import Derived.Laws.OwnMore
import Derived.OwnWalk
import Derived.Laws.CopyOwn
import Derived.Laws.AppendOwn
import Derived.IntWalk
import Derived.Sort.OwnSortedInts
import Derived.Deep.Slices
import Derived.OpenShut
import Derived.Test.YtaklabggojfijaaSf
namespace Go.Proofs.Ytaklabggojfijaa
open Go.RowKit Go.Sort

theorem made_nil (w w1 : World) (G : Nat) (cs : Array Value) (h : w1.heap = w.heap) (hb : Below w.heap.size w w1) (hs : cs.size = G) (hG : G ≤ maxLen) : MadeZ w [] (.returned (.slice (some ⟨w.heap.size, 0, none⟩) 0 G)) (w1.alloc (.cells cs 3)) := by
  refine ⟨_, rfl, ⟨rfl, .inr ⟨w.heap.size, G, cs, rfl, Nat.le_refl _, ?_, Nat.zero_le _, hG, by omega, by simp [zs]⟩⟩, hb.alloc (by rw [h]; exact Nat.le_refl _) _⟩
  show (w1.heap.push _)[w.heap.size]? = _
  rw [← h]
  exact Array.getElem?_push_size
theorem grow_any (n : Nat) (w : World) (hn : n ≤ 1099511627776) :
    Calls Try.prog 34 #[.slice none 0 0, .int .i64 (n : Int)] w fun e w' => MadeZ w [] e w' := by
  by_cases h0 : n = 0
  · subst h0
    exact (Any8.slices_Grow_room Try.laysGrow none 0 0 0 w (by omega) (by omega) (by omega) (by omega)).mono fun e w' ⟨h1, h2⟩ => ⟨_, h1, by rw [h2]; exact World.ownsRow_nil _ _ _ _, by rw [h2]; exact Below.refl _ _⟩
  · obtain ⟨i0, hi, hz0, hz1, hz2⟩ := info_parts Try.infoZ
    refine (Any8.slices_Grow_grow Try.laysGrow i0 (.int .i64 0) hi hz0 (by omega) none 0 0 n [] w (by omega) (by omega) (by rw [hz2]; omega) (by omega) (by simp) (fun _ => rfl) (fun a e => by cases e)).mono ?_
    rintro e w' ⟨rfl, rfl⟩
    have hg := grownCap_ge w (0 + n) 0 3
    have hm := grownCap_le_maxLen w (0 + n) 0 3 (by unfold maxLen; omega)
    exact made_nil w w.drew (grownCap w (0 + n) 0 3) _ rfl (Below.refl _ w).drew (by simp only [Array.size_append, size_zeroCells, Value.cells, List.size_toArray, List.length_cons, List.length_nil]; show _ = grownCap w (0 + n) 0 3; change 0 + (0 + n - 0) * 1 + (grownCap w (0 + n) 0 3 - (0 + n)) * 1 = _; omega) hm
set_option maxRecDepth 100000 in
set_option maxHeartbeats 1000000 in
theorem concat_any (xs ys : List Int) (A B : Option Addr) (nx ny ca cb r : Nat) (w : World) (ex : xs.length = nx) (ey : ys.length = ny) (hx : nx ≤ 1048576) (hy : ny ≤ 1048576) (hA : A = none → ca = 0) (hB : B = none → cb = 0) (ha : IsZ w A xs) (hb : IsZ w B ys)
    (c0 : w.cell? ⟨r, 0, none⟩ = some (.slice A nx ca)) (c1 : w.cell? ⟨r, 1, none⟩ = some (.slice B ny cb)) :
    Calls Try.prog 29 #[.slice (some ⟨r, 0, none⟩) 2 2] w fun e w' => MadeZ w (xs ++ ys) e w' := by
  have HX := Lib.hid (And.intro ex ha)
  have HY := Lib.hid (And.intro ey hb)
  have HN := Lib.hid (And.intro hA hB)
  have hr : r < w.heap.size := World.block_lt_of_cell? w _ c0
  have CG : Hid (Calls Try.prog 34 #[.slice none 0 0, .int .i64 ((nx : Int) + (ny : Int))] w fun e w' => MadeZ w [] e w') := by
    have h := grow_any (nx + ny) w (by omega)
    rwa [show ((nx + ny : Nat) : Int) = (nx : Int) + (ny : Int) by omega] at h
  have D0 := Lib.hid c0
  have D1 := Lib.hid c1
  clear ex ey ha hb hA hB
  go_enter Try.func29, Try.ntmps29
  go_wp2
  refine wp_loop_rounds 3 ?_
  rw [rounds_succ]
  go_wp2
  rw [rounds_succ]
  go_wp2
  rw [rounds_succ]
  go_wp2_with fail
  refine CG.out.mono ?_
  rintro e w1 ⟨v1, rfl, o1, b1⟩
  have O1 := Lib.hid o1
  have B1 := Lib.hid b1
  have d0 : w1.cell? ⟨r, 0, none⟩ = some (.slice A nx ca) := (b1.cell (p := ⟨r, 0, none⟩) hr).trans D0.out
  have d1 : w1.cell? ⟨r, 1, none⟩ = some (.slice B ny cb) := (b1.cell (p := ⟨r, 1, none⟩) hr).trans D1.out
  have hr1 : r < w1.heap.size := by have := b1.size; omega
  have ZA : Hid (IsZ w1 A xs) := HX.out.2.below b1
  clear o1 b1 c0 c1 CG
  go_wp2
  refine wp_loop_rounds 3 ?_
  rw [rounds_succ]
  go_wp2_with ((refine wpList_appZ rfl (.tmp 31) (.tmp 32) rfl w.heap.size v1 0 [] rfl O1.out A nx ca xs rfl HX.out.1 HN.out.1 ZA.out (by omega) B1.out.size ?_); (intro v2 w2 o2 g2); (have B2 : Hid (Below w.heap.size w w2) := B1.out.grown g2 B1.out.size (fun g hg => own_geZ O1.out g hg)); (have O2 := Lib.hid o2); (have e1 : w2.cell? ⟨r, 1, none⟩ = some (.slice B ny cb) := (B2.out.cell (p := ⟨r, 1, none⟩) hr).trans D1.out); (have hr2 : r < w2.heap.size := by have := B2.out.size; omega); (have ZB : Hid (IsZ w2 B ys) := HY.out.2.below B2.out); (clear o2 g2))
  rw [rounds_succ]
  go_wp2_with ((refine wpList_appZ rfl (.tmp 31) (.tmp 32) rfl w.heap.size v2 (0 + nx) ([] ++ xs) rfl O2.out B ny cb ys rfl HY.out.1 HN.out.2 ZB.out (by omega) B2.out.size ?_); (intro v3 w3 o3 g3); (have B3 : Hid (Below w.heap.size w w3) := B2.out.grown g3 B2.out.size (fun g hg => own_geZ O2.out g hg)); (have O3 := Lib.hid o3); (clear o3 g3))
  rw [rounds_succ]
  go_wp2
  go_ret
  refine ⟨_, rfl, ?_, B3.out⟩
  have h := O3.out
  rw [List.nil_append] at h
  rw [List.length_append, HX.out.1, HY.out.1]
  rwa [Nat.zero_add] at h

end Go.Proofs.Ytaklabggojfijaa
