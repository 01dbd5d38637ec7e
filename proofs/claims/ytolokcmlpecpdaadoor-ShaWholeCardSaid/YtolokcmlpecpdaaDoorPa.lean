/-
  What the program's small functions on words do: bits.RotateLeft32, turnRight, the four sigmas, choose, majority; zerosBehind; squareRoots; word. No conditions but that counts and places are in range.
-/
import Derived.Test.YtolokcmlpecpdaaDoorSo
namespace Go.Proofs.YtolokcmlpecpdaaDoor
open Go.RowKit

theorem rotl_def (x : BitVec 32) (n : Nat) (h0 : 0 < n) (hn : n < 32) : x <<< (32 - n) ||| x >>> (32 - (32 - n)) = x.rotateRight n := by
  rw [BitVec.or_comm, show 32 - (32 - n) = n by omega]; exact rotr_def x n hn
theorem neg31 : ∀ n : Fin 32, 0 < n.val → bits .and .u64 (IntKind.u64.wrap (-(n.val : Int))) 31 = ((32 - n.val : Nat) : Int) := by decide +kernel

set_option maxRecDepth 100000 in
set_option maxHeartbeats 1000000 in
theorem rotl_any (x : BitVec 32) (m : Int) (k : Nat) (hk : k < 32) (hm : bits .and .u64 (IntKind.u64.wrap m) 31 = (k : Int)) (w : World) : Calls Tryd.prog 31 #[.int .u32 (wi x), .int .i64 m] w fun e w' => e = .returned (.int .u32 (wi (x <<< k ||| x >>> (32 - k)))) ∧ w' = w := by
  have h1 := wi_lo x
  have h2 := wi_hi x
  go_enter Tryd.func31, Tryd.ntmps31
  go_wp2
  go_ret
  exact ⟨by rw [← wi_or, ← wi_shr, ← wi_shl']; rfl, rfl⟩

set_option maxRecDepth 100000 in
set_option maxHeartbeats 1000000 in
theorem turn_any (x : BitVec 32) (n : Nat) (h0 : 0 < n) (hn : n < 32) (w : World) : Calls Tryd.prog 30 #[.int .u32 (wi x), .int .i64 (n : Int)] w fun e w' => e = .returned (.int .u32 (wi (x.rotateRight n))) ∧ w' = w := by
  have HN := Lib.hid (neg31 ⟨n, hn⟩ h0)
  go_enter Tryd.func30, Tryd.ntmps30
  go_wp2_with fail
  refine (rotl_any x _ (32 - n) (by omega) HN.out w).mono ?_
  rintro e w' ⟨rfl, rfl⟩
  go_wp2
  go_ret
  exact ⟨by rw [rotl_def x n h0 hn]; rfl, rfl⟩
theorem tr (x : BitVec 32) (n : Nat) (m : Int) (hm : (n : Int) = m) (h0 : 0 < n) (hn : n < 32) (w : World) : Calls Tryd.prog 30 #[.int .u32 (wi x), .int .i64 m] w fun e w' => e = .returned (.int .u32 (wi (x.rotateRight n))) ∧ w' = w := by
  subst hm; exact turn_any x n h0 hn w

section
attribute [local go_sem] wi_not wi_or wi_xor wi_and wi_add wi_shr3 wi_shr10
set_option maxRecDepth 100000 in
theorem ssig0_any (x : BitVec 32) (w : World) : Calls Tryd.prog 23 #[.int .u32 (wi x)] w fun e w' => e = .returned (.int .u32 (wi (Sm.sig0 x))) ∧ w' = w := by
  go_enter Tryd.func23, Tryd.ntmps23
  go_wp2_with fail
  refine (tr x 7 _ rfl (by decide) (by decide) w).mono ?_
  rintro e w' ⟨rfl, rfl⟩
  go_wp2_with fail
  refine (tr x 18 _ rfl (by decide) (by decide) w').mono ?_
  rintro e w'' ⟨rfl, rfl⟩
  go_wp2
  go_ret
  exact ⟨rfl, rfl⟩
set_option maxRecDepth 100000 in
theorem ssig1_any (x : BitVec 32) (w : World) : Calls Tryd.prog 24 #[.int .u32 (wi x)] w fun e w' => e = .returned (.int .u32 (wi (Sm.sig1 x))) ∧ w' = w := by
  go_enter Tryd.func24, Tryd.ntmps24
  go_wp2_with fail
  refine (tr x 17 _ rfl (by decide) (by decide) w).mono ?_
  rintro e w' ⟨rfl, rfl⟩
  go_wp2_with fail
  refine (tr x 19 _ rfl (by decide) (by decide) w').mono ?_
  rintro e w'' ⟨rfl, rfl⟩
  go_wp2
  go_ret
  exact ⟨rfl, rfl⟩
set_option maxRecDepth 100000 in
theorem bsig0_any (x : BitVec 32) (w : World) : Calls Tryd.prog 27 #[.int .u32 (wi x)] w fun e w' => e = .returned (.int .u32 (wi ((x.rotateRight 2 ^^^ x.rotateRight 13) ^^^ x.rotateRight 22))) ∧ w' = w := by
  go_enter Tryd.func27, Tryd.ntmps27
  go_wp2_with fail
  refine (tr x 2 _ rfl (by decide) (by decide) w).mono ?_
  rintro e w' ⟨rfl, rfl⟩
  go_wp2_with fail
  refine (tr x 13 _ rfl (by decide) (by decide) w').mono ?_
  rintro e w'' ⟨rfl, rfl⟩
  go_wp2_with fail
  refine (tr x 22 _ rfl (by decide) (by decide) w'').mono ?_
  rintro e w3 ⟨rfl, rfl⟩
  go_wp2
  go_ret
  exact ⟨rfl, rfl⟩
set_option maxRecDepth 100000 in
theorem bsig1_any (x : BitVec 32) (w : World) : Calls Tryd.prog 25 #[.int .u32 (wi x)] w fun e w' => e = .returned (.int .u32 (wi ((x.rotateRight 6 ^^^ x.rotateRight 11) ^^^ x.rotateRight 25))) ∧ w' = w := by
  go_enter Tryd.func25, Tryd.ntmps25
  go_wp2_with fail
  refine (tr x 6 _ rfl (by decide) (by decide) w).mono ?_
  rintro e w' ⟨rfl, rfl⟩
  go_wp2_with fail
  refine (tr x 11 _ rfl (by decide) (by decide) w').mono ?_
  rintro e w'' ⟨rfl, rfl⟩
  go_wp2_with fail
  refine (tr x 25 _ rfl (by decide) (by decide) w'').mono ?_
  rintro e w3 ⟨rfl, rfl⟩
  go_wp2
  go_ret
  exact ⟨rfl, rfl⟩
set_option maxRecDepth 100000 in
theorem choose_any (x y z : BitVec 32) (w : World) : Calls Tryd.prog 26 #[.int .u32 (wi x), .int .u32 (wi y), .int .u32 (wi z)] w fun e w' => e = .returned (.int .u32 (wi ((x &&& y) ^^^ (~~~x &&& z)))) ∧ w' = w := by
  go_enter Tryd.func26, Tryd.ntmps26
  go_wp2
  go_ret
  exact ⟨rfl, rfl⟩
set_option maxRecDepth 100000 in
theorem major_any (x y z : BitVec 32) (w : World) : Calls Tryd.prog 28 #[.int .u32 (wi x), .int .u32 (wi y), .int .u32 (wi z)] w fun e w' => e = .returned (.int .u32 (wi (((x &&& y) ^^^ (x &&& z)) ^^^ (y &&& z)))) ∧ w' = w := by
  go_enter Tryd.func28, Tryd.ntmps28
  go_wp2
  go_ret
  exact ⟨rfl, rfl⟩
end

set_option maxRecDepth 100000 in
theorem zeros_any (n : Nat) (hn : n ≤ 1099511627776) (w : World) : Calls Tryd.prog 17 #[.int .i64 (n : Int)] w fun e w' => e = .returned (.int .i64 ((Sm.zeros n : Nat) : Int)) ∧ w' = w := by
  have hz : ((64 : Int) - ((n : Int) % 64 + 1 + 8) % 64) % 64 = ((Sm.zeros n : Nat) : Int) := by unfold Sm.zeros; omega
  have HZ := Lib.hid hz
  clear hz
  go_enter Tryd.func17, Tryd.ntmps17
  go_wp2
  go_ret
  exact ⟨by rw [← HZ.out]; rfl, rfl⟩

set_option maxRecDepth 100000 in
set_option maxHeartbeats 400000 in
theorem first_any (w : World) : Calls Tryd.prog 15 #[] w fun e w' => e = .returned (.agg (st8 Sm.first)) ∧ Below w.heap.size w w' := by
  go_enter Tryd.func15, Tryd.ntmps15
  go_wp2
  exact bodyPost_ret (v := .agg (st8 Sm.first)) (by simp [results, Tryd.results15, go_sem, st8, Sm.first, wi]) rfl ⟨rfl, (Below.refl _ _).alloc (Nat.le_refl _) _⟩

end Go.Proofs.YtolokcmlpecpdaaDoor
