/-
  What the law ShaPads does, for all bytes: it returns true. Condition: the table of constants lies in its variable.
-/
import Derived.Test.YtolokcmlpecpdaaDoorPi
namespace Go.Proofs.YtolokcmlpecpdaaDoor
open Go.RowKit

namespace Sm
theorem pad_length (l : List Nat) : (pad l).length = l.length + 1 + zeros l.length + 8 := by
  have hw : (Vm.word (8 * l.length)).length = 8 := rfl
  simp [pad, hw]; omega
theorem pad_mark (l : List Nat) : (pad l).getD l.length 0 = 128 := by
  have e : pad l = l ++ (128 :: (List.replicate (zeros l.length) 0 ++ Vm.word (8 * l.length))) := by simp [pad]
  rw [e, List.getD, List.getElem?_append_right (Nat.le_refl _), Nat.sub_self]
  rfl
theorem pad_zero (l : List Nat) (z : Nat) (hz : z < zeros l.length) : (pad l).getD (l.length + 1 + z) 0 = 0 := by
  have e : pad l = (l ++ [128]) ++ (List.replicate (zeros l.length) 0 ++ Vm.word (8 * l.length)) := by simp [pad]
  rw [e, List.getD, List.getElem?_append_right (by simp), List.getElem?_append_left (by simp; omega)]
  simp [hz]
theorem pad_word (l : List Nat) (j : Nat) (hj : j < 8) : (pad l).getD (l.length + 1 + zeros l.length + j) 0 = 8 * l.length / 2 ^ (56 - 8 * j) % 256 := by
  have e : pad l = (l ++ [128] ++ List.replicate (zeros l.length) 0) ++ Vm.word (8 * l.length) := rfl
  have h1 := word_at (8 * l.length) j hj
  have hl : (l ++ [128] ++ List.replicate (zeros l.length) 0).length = l.length + 1 + zeros l.length := by simp; omega
  have hw : (Vm.word (8 * l.length)).length = 8 := rfl
  rw [e, List.getD, List.getElem?_append_right (by omega), hl, Nat.add_sub_cancel_left]
  have h2 : ((Vm.word (8 * l.length)).take (j + 1))[j]? = some (8 * l.length / 2 ^ (56 - 8 * j) % 256) := by
    rw [h1, List.getElem?_append_right (by simp; omega)]
    have : ((Vm.word (8 * l.length)).take j).length = j := by simp; omega
    rw [this, Nat.sub_self]; rfl
  rw [List.getElem?_take, if_pos (by omega)] at h2
  rw [h2]; rfl
theorem pad_take (l : List Nat) : (pad l).take l.length = l := by
  have e : pad l = l ++ (128 :: (List.replicate (zeros l.length) 0 ++ Vm.word (8 * l.length))) := by simp [pad]
  rw [e, List.take_left]
/-- What is read of the length's bytes. -/
theorem val_step (n j : Nat) (hj : j < 8) : n / 2 ^ (64 - 8 * j) * 256 + n / 2 ^ (56 - 8 * j) % 256 = n / 2 ^ (64 - 8 * (j + 1)) := by
  have e1 : 64 - 8 * j = (56 - 8 * j) + 8 := by omega
  have e2 : 64 - 8 * (j + 1) = 56 - 8 * j := by omega
  rw [e1, e2, Nat.pow_add, ← Nat.div_div_eq_div_mul]
  omega
theorem val_le (n j : Nat) : n / 2 ^ j ≤ n := Nat.div_le_self _ _
end Sm

set_option maxRecDepth 100000 in
set_option maxHeartbeats 1000000 in
theorem pads_any (l : List Nat) (A : Option Addr) (cap : Nat) (w : World) (hl : l.length ≤ maxLen) (hA : A = none → cap = 0) (hb : IsBytes w A l) (hK : KTab w 0) :
    Calls Tryd.prog 5 #[.slice A l.length cap] w fun e w' => e = .returned (.bool true) ∧ Below w.heap.size w w' := by
  have HA := Lib.hid hA
  have HB := Lib.hid hb
  have HK := Lib.hid hK
  clear hA hb hK
  by_cases h : 300 < l.length
  · have HL := Lib.hid hl
    clear hl
    go_enter Tryd.func5, Tryd.ntmps5
    go_wp2_with fail
    refine (runs_any _ HK.out).mono ?_
    rintro e w3 ⟨rfl, hb3⟩
    go_wp2
    go_ret
    exact ⟨rfl, hb3⟩
  · clear hl
    have PL := Sm.pad_length l
    have PM := Lib.hid (Sm.pad_mark l)
    have PZ := Lib.hid (Sm.pad_zero l)
    have PW := Lib.hid (Sm.pad_word l)
    have PT := Lib.hid (Sm.pad_take l)
    have PB := Lib.hid (Sm.pad_byte (mem_of_getD HB.out.1))
    have PA := pad_any l A cap w (by omega) HA.out HB.out
    have hZ : Sm.zeros l.length ≤ 63 := by unfold Sm.zeros; omega
    have hZ2 : (l.length + 1 + Sm.zeros l.length + 8) % 64 = 0 := by unfold Sm.zeros; omega
    have HCV : Hid (∀ W, IsBytes W A l → (convert 24 9 (.slice A l.length cap)).run Tryd.prog W = .ok (.string (strOf l)) W) := fun W hW => is_conv hW
    generalize Sm.pad l = p at *
    generalize Sm.zeros l.length = Z at *
    generalize hL : l.length = L at *
    go_enter Tryd.func5, Tryd.ntmps5
    go_wp2_with fail
    refine PA.mono ?_
    rintro e w1 ⟨v1, rfl, o1, b1⟩
    clear PA
    rw [PL] at o1
    generalize hP : L + 1 + Z + 8 = P at *
    obtain ⟨gp, cp, rfl, hcp, hgp, hcell⟩ := own_head o1 (by omega)
    have I1 := own_is o1 PB.out
    have HC := Lib.hid hcell
    have c1 : ∀ n, (convert 24 9 (.slice A L cap)).run Tryd.prog (w1.drewN n) = .ok (.string (strOf l)) (w1.drewN n) := fun n => HCV.out (w1.drewN n) (isBytes_below HB.out ⟨b1.os, b1.tape, b1.output, b1.size, b1.block⟩)
    have c2 : ∀ n, (convert 24 9 (.slice (some ⟨gp, 0, none⟩) L cp)).run Tryd.prog (w1.drewN n) = .ok (.string (strOf l)) (w1.drewN n) := by
      intro n
      have I1n : IsBytes (w1.drewN n) (some ⟨gp, 0, none⟩) p := I1
      have h1 := is_conv (c := cp) (isBytes_take I1n L)
      rw [PT.out, hL] at h1
      exact h1
    have c3 : w1.cell? ⟨gp, L, none⟩ = some (.int .u8 128) := by
      have := hcell L (by omega)
      rw [PM.out] at this
      exact this
    clear hcell I1 o1
    have HPL := Lib.hid PL
    have HPP := Lib.hid hP
    have hP1 : (P : Int).tmod 64 = 0 := by rw [Int.tmod_eq_emod_of_nonneg (by omega)]; omega
    have hP2 : ¬ ((P : Int) < (L : Int) + 9) := by omega
    have hP3 : ¬ ((L : Int) + 9 + 64 ≤ (P : Int)) := by omega
    have m1 : IntKind.i64.wrap ((L : Int) + 9) = (L : Int) + 9 := IntWalk.i64_in _ (by omega)
    have m2 : IntKind.i64.wrap ((L : Int) + 9 + 64) = (L : Int) + 9 + 64 := IntWalk.i64_in _ (by omega)
    have hP4 : L < P := by omega
    have hP5 : L + 9 ≤ P := by omega
    have hP6 : P ≤ 372 := by omega
    have hLc : (L : Int) ≤ (cp : Int) := by omega
    generalize strOf l = sl at *
    clear PL hP
    go_wp2
    go_quiet (fail)
    clear c1 c2 c3 m1 m2 hP1
    have HCq : Hid (∀ j, j < P → (w1.drewN nq).cell? ⟨gp, j, none⟩ = some (.int .u8 ((p.getD j 0 : Nat) : Int))) := HC.out
    have bq : Below w.heap.size w (w1.drewN nq) := ⟨b1.os, b1.tape, b1.output, b1.size, b1.block⟩
    clear HC b1
    generalize w1.drewN nq = wq at HCq bq ⊢
    have HN2 := Lib.hid hP2
    have HN3 := Lib.hid hP3
    go_wp2
    go_loopw [4] (fun i wr => ∃ z : Nat, z ≤ Z ∧ i = .int .i64 ((L + 1 + z : Nat) : Int) ∧ wr = wq) (fun i _ => P - (intOf i).toNat)
    case atStart => exact ⟨0, by omega, by simp, rfl⟩
    case round =>
      obtain ⟨z, hz, rfl, rfl⟩ := hrel
      have hPe := HPP.out
      by_cases hzz : z < Z
      · have c0 := HCq.out (L + 1 + z) (by omega)
        rw [PZ.out z hzz] at c0
        generalize hk : L + 1 + z = k at *
        have hk2 : k + 8 < P := by omega
        have hk3 : (k : Int) < (P : Int) - 8 := by omega
        go_wp2
        go_roundw
        case rel => exact ⟨z + 1, by omega, by rw [← Nat.add_assoc, hk]; go_num, trivial⟩
        case measure => simp [intOf]; omega
      · obtain rfl : z = Z := by omega
        have hk3 : ¬ (((L + 1 + z : Nat) : Int) < (P : Int) - 8) := by omega
        generalize hk : L + 1 + z = k at *
        go_wp2
        have hkP : k + 8 = P := by omega
        go_loopw [5, 6] (fun n i W => ∃ j : Nat, j ≤ 8 ∧ n = .int .i64 ((8 * L / 2 ^ (64 - 8 * j) : Nat) : Int) ∧ i = .int .i64 ((k + j : Nat) : Int) ∧ W = wr) (fun _ i _ => P - (intOf i).toNat)
        case atStart =>
          refine ⟨0, by omega, ?_, ?_, rfl⟩
          · rw [show 8 * L / 2 ^ (64 - 8 * 0) = 0 from Nat.div_eq_of_lt (by omega)]; rfl
          · congr 1; omega
        case round =>
          obtain ⟨j, hj, rfl, rfl, rfl⟩ := hrel
          by_cases h8 : j < 8
          · have c0 := HCq.out (k + j) (by omega)
            rw [PW.out j h8] at c0
            have HV := Lib.hid (Sm.val_step (8 * L) j h8)
            have hv1 : 8 * L / 2 ^ (64 - 8 * j) ≤ 8 * L := Nat.div_le_self _ _
            have hv2 : 8 * L / 2 ^ (56 - 8 * j) % 256 < 256 := Nat.mod_lt _ (by decide)
            generalize 8 * L / 2 ^ (64 - 8 * j) = x at *
            generalize 8 * L / 2 ^ (56 - 8 * j) % 256 = y at *
            generalize hkj : k + j = kj at *
            have hkj2 : kj < P := by omega
            have hkj3 : (kj : Int) < (P : Int) := by omega
            go_wp2
            go_roundw
            case rel =>
              refine ⟨j + 1, by omega, ?_, ?_, trivial⟩
              · rw [← HV.out]; go_num
              · rw [← Nat.add_assoc, hkj]; go_num
            case measure => simp [intOf]; omega
          · obtain rfl : j = 8 := by omega
            have e8 : 8 * L / 2 ^ (64 - 8 * 8) = 8 * L := by simp
            have hn : ¬ (((k + 8 : Nat) : Int) < (P : Int)) := by omega
            simp only [e8]
            generalize hkj : k + 8 = kj at *
            go_wp2_with fail
            refine (runs_any _ (HK.out.below bq)).mono ?_
            rintro e w4 ⟨rfl, b4⟩
            have b5 := bq.trans (b4.mono bq.size)
            clear b4 bq HCq
            go_wp2
            go_ret
            exact ⟨rfl, b5⟩
end Go.Proofs.YtolokcmlpecpdaaDoor
