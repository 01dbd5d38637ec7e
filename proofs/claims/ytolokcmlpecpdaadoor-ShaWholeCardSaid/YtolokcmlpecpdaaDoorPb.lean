/-
  What the program's word and step do: the word of four bytes of a block; one of the 64 steps. Conditions: the block has 64 bytes; the four places are in it.
-/
import Derived.Test.YtolokcmlpecpdaaDoorPa
namespace Go.Proofs.YtolokcmlpecpdaaDoor
open Go.RowKit

namespace Sm
/-- The word of the first k bytes from place m on. -/
def acc (b : List Nat) (m : Nat) : Nat → BitVec 32
  | 0 => 0
  | k + 1 => acc b m k <<< 8 ||| BitVec.ofNat 32 (b.getD (m + k) 0)
theorem acc_word (b : List Nat) (i : Nat) : acc b (4 * i) 4 = word4 b i := by
  simp only [acc, word4, Nat.add_zero]
  generalize BitVec.ofNat 32 (b.getD (4 * i) 0) = x0
  generalize BitVec.ofNat 32 (b.getD (4 * i + 1) 0) = x1
  generalize BitVec.ofNat 32 (b.getD (4 * i + 2) 0) = x2
  generalize BitVec.ofNat 32 (b.getD (4 * i + 3) 0) = x3
  have e1 : (0 : BitVec 32) <<< 8 ||| x0 = x0 := by rw [show (0 : BitVec 32) <<< 8 = 0#32 by decide, BitVec.zero_or]
  rw [e1, BitVec.shiftLeft_or_distrib, BitVec.shiftLeft_or_distrib, BitVec.shiftLeft_or_distrib, ← BitVec.shiftLeft_add, ← BitVec.shiftLeft_add, ← BitVec.shiftLeft_add]
end Sm

section
attribute [local go_sem] wi_or wi_shl8
set_option maxRecDepth 100000 in
set_option maxHeartbeats 1000000 in
theorem word_any (b : List Nat) (i : Nat) (hi : i < 16) (hb : b.length = 64) (hb8 : ∀ j, b.getD j 0 < 256) (w : World) :
    Calls Tryd.prog 22 #[.agg (by8 b).toArray, .int .i64 ((4 * i : Nat) : Int)] w fun e w' => e = .returned (.int .u32 (wi (Sm.word4 b i))) ∧ Below w.heap.size w w' := by
  have F : Has (w.alloc (.cells (by8 b).toArray 30)) w.heap.size 30 (by8 b).toArray := Has.new _ _ _
  have B : Below w.heap.size w (w.alloc (.cells (by8 b).toArray 30)) := (Below.refl _ _).alloc (Nat.le_refl _) _
  have HC : Hid (∀ j, j < 64 → (w.alloc (.cells (by8 b).toArray 30)).cell? ⟨w.heap.size, j, none⟩ = some (.int .u8 ((b.getD j 0 : Nat) : Int))) := fun j hj => blk_cell F rfl hb j hj
  rw [← Sm.acc_word]
  have HB8 := Lib.hid hb8
  have HBB := Lib.hid B
  clear F B hb hb8
  generalize hm : 4 * i = m at *
  have hm2 : m ≤ 60 := by omega
  generalize (by8 b).toArray = bs at *
  clear hm
  go_enter Tryd.func22, Tryd.ntmps22
  go_wp2
  go_loopw [5, 7] (fun v i wr => ∃ k : Nat, k ≤ 4 ∧ v = .int .u32 (wi (Sm.acc b m k)) ∧ i = .int .i64 (k : Int) ∧ wr = w.alloc (.cells bs 30)) (fun _ i _ => 4 - (intOf i).toNat)
  case atStart => exact ⟨0, by omega, rfl, rfl, rfl⟩
  case round =>
    obtain ⟨k, hk, rfl, rfl, rfl⟩ := hrel
    by_cases h4 : k < 4
    · have d0 := HC.out (m + k) (by omega)
      have e0 := HB8.out (m + k)
      have HS : Hid (Sm.acc b m (k + 1) = Sm.acc b m k <<< 8 ||| BitVec.ofNat 32 (b.getD (m + k) 0)) := rfl
      generalize Sm.acc b m k = x at *
      generalize b.getD (m + k) 0 = c at *
      have f0 := wi_byte e0
      go_wp2
      go_roundw
      case rel => exact ⟨k + 1, by omega, by rw [HS.out], by go_num, trivial⟩
      case measure => simp [intOf]; omega
    · obtain rfl : k = 4 := by omega
      go_wp2
      go_ret
      exact ⟨rfl, HBB.out⟩
end

section
attribute [local go_sem] wi_add
set_option maxRecDepth 100000 in
set_option maxHeartbeats 1000000 in
theorem step_any (s : Sm.St) (k y : BitVec 32) (w : World) :
    Calls Tryd.prog 19 #[.agg (st8 s), .int .u32 (wi (k + y))] w fun e w' => e = .returned (.agg (st8 (Sm.step s k y))) ∧ Below w.heap.size w w' := by
  have hT : s.h + ((s.e.rotateRight 6 ^^^ s.e.rotateRight 11) ^^^ s.e.rotateRight 25) + ((s.e &&& s.f) ^^^ (~~~s.e &&& s.g)) + (k + y) = Sm.t1 s k y := by rw [Sm.t1, BitVec.add_assoc _ k y]
  have HT := Lib.hid hT
  clear hT
  generalize hhs : st8 s = hs
  have HHS := Lib.hid hhs
  clear hhs
  have F : Has ((w.alloc (.cells hs 29)).alloc (.cells (w32 (List.replicate 8 0)).toArray 29)) w.heap.size 29 hs := (Has.new _ _ _).alloc _
  have F2 : Has ((w.alloc (.cells hs 29)).alloc (.cells (w32 (List.replicate 8 0)).toArray 29)) (w.heap.size + 1) 29 (w32 (List.replicate 8 0)).toArray := by
    have := Has.new (w.alloc (.cells hs 29)) 29 (w32 (List.replicate 8 0)).toArray
    simpa using this
  have B := below_two w (.cells hs 29) (.cells (w32 (List.replicate 8 0)).toArray 29)
  go_enter Tryd.func19, Tryd.ntmps19
  go_wp2_with fail
  change Code.wp _ _ _ _ ((w.alloc (.cells hs 29)).alloc (.cells (w32 (List.replicate 8 0)).toArray 29))
  generalize (w.alloc (.cells hs 29)).alloc (.cells (w32 (List.replicate 8 0)).toArray 29) = wr at F F2 B ⊢
  have x0 : wr.cell? ⟨w.heap.size, 0, none⟩ = some (.int .u32 (wi s.a)) := by rw [F.cell, ← HHS.out]; rfl
  have x1 : wr.cell? ⟨w.heap.size, 1, none⟩ = some (.int .u32 (wi s.b)) := by rw [F.cell, ← HHS.out]; rfl
  have x2 : wr.cell? ⟨w.heap.size, 2, none⟩ = some (.int .u32 (wi s.c)) := by rw [F.cell, ← HHS.out]; rfl
  have x3 : wr.cell? ⟨w.heap.size, 3, none⟩ = some (.int .u32 (wi s.d)) := by rw [F.cell, ← HHS.out]; rfl
  have x4 : wr.cell? ⟨w.heap.size, 4, none⟩ = some (.int .u32 (wi s.e)) := by rw [F.cell, ← HHS.out]; rfl
  have x5 : wr.cell? ⟨w.heap.size, 5, none⟩ = some (.int .u32 (wi s.f)) := by rw [F.cell, ← HHS.out]; rfl
  have x6 : wr.cell? ⟨w.heap.size, 6, none⟩ = some (.int .u32 (wi s.g)) := by rw [F.cell, ← HHS.out]; rfl
  have x7 : wr.cell? ⟨w.heap.size, 7, none⟩ = some (.int .u32 (wi s.h)) := by rw [F.cell, ← HHS.out]; rfl
  go_quiet (fail)
  clear x0 x1 x2 x3 x4 x5 x6 x7
  replace F2 := F2.drewN nq
  replace B : Below w.heap.size w (wr.drewN nq) := ⟨B.os, B.tape, B.output, B.size, B.block⟩
  clear F
  go_wp2_with fail
  generalize wr.drewN nq = wq at F2 B ⊢
  refine (bsig1_any s.e _).mono ?_
  rintro e w' ⟨rfl, rfl⟩
  go_wp2_with fail
  refine (choose_any s.e s.f s.g _).mono ?_
  rintro e w1 ⟨rfl, rfl⟩
  go_wp2_with fail
  refine (bsig0_any s.a _).mono ?_
  rintro e w2 ⟨rfl, rfl⟩
  go_wp2_with fail
  refine (major_any s.a s.b s.c _).mono ?_
  rintro e w3 ⟨rfl, rfl⟩
  have r0 : w3.cell? ⟨w.heap.size + 1, 0, none⟩ = some (.int .u32 (wi 0)) := by rw [F2.cell]; rfl
  have r1 : w3.cell? ⟨w.heap.size + 1, 1, none⟩ = some (.int .u32 (wi 0)) := by rw [F2.cell]; rfl
  have r2 : w3.cell? ⟨w.heap.size + 1, 2, none⟩ = some (.int .u32 (wi 0)) := by rw [F2.cell]; rfl
  have r3 : w3.cell? ⟨w.heap.size + 1, 3, none⟩ = some (.int .u32 (wi 0)) := by rw [F2.cell]; rfl
  have r4 : w3.cell? ⟨w.heap.size + 1, 4, none⟩ = some (.int .u32 (wi 0)) := by rw [F2.cell]; rfl
  have r5 : w3.cell? ⟨w.heap.size + 1, 5, none⟩ = some (.int .u32 (wi 0)) := by rw [F2.cell]; rfl
  have r6 : w3.cell? ⟨w.heap.size + 1, 6, none⟩ = some (.int .u32 (wi 0)) := by rw [F2.cell]; rfl
  have r7 : w3.cell? ⟨w.heap.size + 1, 7, none⟩ = some (.int .u32 (wi 0)) := by rw [F2.cell]; rfl
  have q0 := F2.frozen 0
  have q1 := F2.frozen 1
  have q2 := F2.frozen 2
  have q3 := F2.frozen 3
  have q4 := F2.frozen 4
  have q5 := F2.frozen 5
  have q6 := F2.frozen 6
  have q7 := F2.frozen 7
  have Z := puts_has (stL (Sm.step s k y)) 0 w3 (w32 (List.replicate 8 0)) F2 rfl
  have E := puts_below (G := w.heap.size + 1) (B := w.heap.size) (by omega) (stL (Sm.step s k y)) 0 w3 B
  have HTT : Hid (stL (Sm.step s k y) = [.int .u32 (wi (Sm.t1 s k y + Sm.t2 s)), .int .u32 (wi s.a), .int .u32 (wi s.b), .int .u32 (wi s.c), .int .u32 (wi (s.d + Sm.t1 s k y)), .int .u32 (wi s.e), .int .u32 (wi s.f), .int .u32 (wi s.g)]) := rfl
  rw [HTT.out, ← HT.out, Sm.t2] at Z E
  go_wp2
  clear r0 r1 r2 r3 r4 r5 r6 r7 q0 q1 q2 q3 q4 q5 q6 q7 F2 B
  refine bodyPost_ret (results_cell_row rfl _ _ (w.heap.size + 1) 29 _ (0, 0) _ rfl Z Tryd.underlying29 rfl (by rw [Tryd.size8]; rfl)) rfl ⟨?_, E⟩
  simp only [st8, Sm.step, ← HT.out, Sm.t2]
  rfl
end
end Go.Proofs.YtolokcmlpecpdaaDoor
