/-
  Digits: what package real's own digit, unhex and hex do. Conditions: words have 64 bits; lengths fit.
-/
import Derived.Test.YtmdpeifpgnkbiaaDoorQb
namespace Go.Proofs.YtmdpeifpgnkbiaaDoor
open Go.RowKit

namespace Fm
def valOf (a : Nat) (l : List Nat) : Nat := l.foldl (fun a c => 16 * a + nib c) a
theorem valOf_snoc (a : Nat) (l : List Nat) (c : Nat) : valOf a (l ++ [c]) = 16 * valOf a l + nib c := by simp [valOf]
theorem valOf_lt : ∀ (l : List Nat) (a n : Nat), (∀ c ∈ l, nib c < 16) → a < 16 ^ n → valOf a l < 16 ^ (n + l.length)
  | [], a, n, _, h => by simpa [valOf] using h
  | c :: r, a, n, hc, h => by
    have h1 := hc c (by simp)
    have := valOf_lt r (16 * a + nib c) (n + 1) (fun x hx => hc x (by simp [hx])) (by rw [Nat.pow_succ]; omega)
    have e : valOf a (c :: r) = valOf (16 * a + nib c) r := rfl
    rw [e]
    have e2 : n + (c :: r).length = n + 1 + r.length := by simp; omega
    rw [e2]; exact this
theorem valOf_unhex : ∀ (s : List Nat) (a : Nat) (b : List Nat), unhex s = some b → valOf a s = b.foldl (fun a x => a * 256 + x) a
  | [], a, b, h => by simp [unhex] at h; subst h; rfl
  | [_], _, b, h => by simp [unhex] at h
  | x :: y :: r, a, b, h => by
    rw [unhex] at h
    split at h
    · cases hr : unhex r with
      | none => rw [hr] at h; simp at h
      | some t =>
        rw [hr] at h
        simp at h
        subst h
        have := valOf_unhex r (a * 256 + (16 * nib x + nib y)) t hr
        rw [List.foldl_cons, ← this]
        have e : valOf a (x :: y :: r) = valOf (16 * (16 * a + nib x) + nib y) r := rfl
        rw [e]; congr 1; omega
    · cases h
theorem unhex_of : ∀ (s : List Nat) (n : Nat), s.length = 2 * n → (∀ c ∈ s, nib c < 16) → ∃ b, unhex s = some b ∧ b.length = n
  | [], n, h, _ => ⟨[], rfl, by simp at h ⊢; omega⟩
  | [_], n, h, _ => by simp at h; omega
  | x :: y :: r, n, h, hc => by
    obtain ⟨b, h1, h2⟩ := unhex_of r (n - 1) (by simp at h; omega) (fun c hr => hc c (by simp [hr]))
    refine ⟨_, by rw [unhex, if_pos ⟨hc x (by simp), hc y (by simp)⟩, h1]; rfl, by simp at h; simp [h2]; omega⟩
theorem unhex_nib : ∀ (s b : List Nat), unhex s = some b → ∀ c ∈ s, nib c < 16
  | [], _, _, c, hc => by cases hc
  | [_], b, h, _, _ => by simp [unhex] at h
  | x :: y :: r, b, h, c, hc => by
    rw [unhex] at h
    split at h
    · rename_i hn
      cases hr : unhex r with
      | none => rw [hr] at h; simp at h
      | some t =>
        rcases List.mem_cons.1 hc with rfl | hc
        · exact hn.1
        · rcases List.mem_cons.1 hc with rfl | hc
          · exact hn.2
          · exact unhex_nib r t hr c hc
    · cases h
/-- The digits of a word, as a list of places. -/
def dig (u p : Nat) : Nat := hexd (u / 16 ^ (15 - p) % 16)
def hexl (u : Nat) : List Nat := (List.range 16).map (dig u)
theorem hexl_eq (u : Nat) : hexl u = hex (Vm.word u) := by
  have e : hexl u = [dig u 0, dig u 1, dig u 2, dig u 3, dig u 4, dig u 5, dig u 6, dig u 7, dig u 8, dig u 9, dig u 10, dig u 11, dig u 12, dig u 13, dig u 14, dig u 15] := rfl
  rw [e]
  simp only [Vm.word, hex, dig, List.cons.injEq, and_true]
  refine ⟨?_, ?_, ?_, ?_, ?_, ?_, ?_, ?_, ?_, ?_, ?_, ?_, ?_, ?_, ?_, ?_⟩ <;> congr 1 <;> simp only [Nat.reduceSub, Nat.reducePow] <;> omega
/-- The row of digits behind k of them. -/
def hx (u k : Nat) : Array Value := ((List.range 16).map fun p => Value.int .u8 (((if 16 ≤ p + k then dig u p else 0) : Nat) : Int)).toArray
theorem hx_zero (u : Nat) : hx u 0 = (List.replicate 16 (Value.int .u8 0)).toArray := by rfl
theorem hx_set (u k j : Nat) (h : k + j = 15) : (hx u k).setIfInBounds j (.int .u8 ((dig u j : Nat) : Int)) = hx u (k + 1) := by
  apply Array.ext_getElem?
  intro i
  rw [Array.getElem?_setIfInBounds]
  unfold hx
  simp only [List.size_toArray, List.length_map, List.length_range, List.getElem?_toArray, List.getElem?_map]
  by_cases c : j = i
  · subst c
    rw [if_pos rfl, if_pos (by omega), List.getElem?_range (by omega)]
    simp only [Option.map_some]
    rw [if_pos (by omega)]
  · rw [if_neg c]
    by_cases hi : i < 16
    · rw [List.getElem?_range hi]
      simp only [Option.map_some]
      by_cases c1 : 16 ≤ i + k
      · rw [if_pos c1, if_pos (by omega)]
      · rw [if_neg c1, if_neg (by omega)]
    · rw [List.getElem?_eq_none (by simp; omega)]
      rfl
theorem hx_cell (u p : Nat) (h : p < 16) : (hx u 16)[p]? = some (.int .u8 (((hexl u).getD p 0 : Nat) : Int)) := by
  unfold hx hexl
  rw [List.getElem?_toArray, List.getElem?_map, List.getElem?_range h]
  simp only [Option.map_some, List.getD, List.getElem?_map, List.getElem?_range h, Option.getD_some]
  rw [if_pos (by omega)]
theorem hexl_byte (u : Nat) : ∀ x ∈ hexl u, x < 256 := by
  intro x hx
  unfold hexl at hx
  obtain ⟨p, _, rfl⟩ := List.mem_map.1 hx
  exact hexd_lt (Nat.mod_lt _ (by omega))
end Fm

theorem dig_at64 (w : World) (d : Nat) (h : d < 16) : (Instr.index 9 (.string ⟨#[48, 49, 50, 51, 52, 53, 54, 55, 56, 57, 97, 98, 99, 100, 101, 102]⟩) (.int .u64 (d : Int))).run Tryd.prog w = .ok (.int .u8 ((Fm.hexd d : Nat) : Int)) w := by
  rcases (by omega : d = 0 ∨ d = 1 ∨ d = 2 ∨ d = 3 ∨ d = 4 ∨ d = 5 ∨ d = 6 ∨ d = 7 ∨ d = 8 ∨ d = 9 ∨ d = 10 ∨ d = 11 ∨ d = 12 ∨ d = 13 ∨ d = 14 ∨ d = 15) with rfl | rfl | rfl | rfl | rfl | rfl | rfl | rfl | rfl | rfl | rfl | rfl | rfl | rfl | rfl | rfl <;> kernel_rfl

section
set_option maxRecDepth 100000 in
set_option maxHeartbeats 400000 in
theorem hex_any (u : Nat) (hu : Fm.W u) (w : World) : Calls Tryd.prog 44 #[.int .u64 (u : Int)] w fun e w' => e = .returned (.string (strOf (Fm.hex (Vm.word u)))) ∧ Below w.heap.size w w' := by
  have HU := Lib.hid hu
  have hu0 := hu
  clear hu hu0
  have b0 : Below w.heap.size w (w.alloc (.cells (List.replicate 16 (Value.int .u8 0)).toArray 70)) := (Below.refl _ _).alloc (Nat.le_refl _) _
  have h0 := Has.new w 70 (List.replicate 16 (Value.int .u8 0)).toArray
  have H0 := Lib.hid h0
  have B0 := Lib.hid b0
  clear h0 b0
  go_enter Tryd.func44, Tryd.ntmps44
  go_wp2
  go_loopw [0, 5] (fun v i wr => ∃ k : Nat, k ≤ 16 ∧ v = .int .u64 ((u / 16 ^ k : Nat) : Int) ∧ i = .int .i64 (k : Int) ∧ Hid (Has wr w.heap.size 70 (Fm.hx u k)) ∧ Hid (Below w.heap.size w wr)) (fun _ i _ => 16 - (intOf i).toNat)
  case atStart => exact ⟨0, by omega, by simp, rfl, by show Has _ _ _ _; rw [Fm.hx_zero]; exact H0.out, B0.out⟩
  case round =>
    obtain ⟨k, hk, rfl, rfl, HH, HB⟩ := hrel
    by_cases hkn : k < 16
    · obtain ⟨j, hj⟩ : ∃ j, k + j = 15 := ⟨15 - k, by omega⟩
      have e1 : (15 : Int) - (k : Int) = (j : Int) := by omega
      have e2 : j < 16 := by omega
      have HD : Hid (Fm.hexd (u / 16 ^ k % 16) = Fm.dig u j) := by show _ = _; rw [Fm.dig, show 15 - j = k by omega]
      have HV : Hid (u / 16 ^ k / 16 = u / 16 ^ (k + 1)) := by show _ = _; rw [Nat.pow_succ, Nat.div_div_eq_div_mul]
      have hv : u / 16 ^ k ≤ 18446744073709551615 := by
        have := Nat.div_le_self u (16 ^ k)
        have := HU.out
        unfold Fm.W at this
        omega
      have HJ := Lib.hid hj
      generalize u / 16 ^ k = v at *
      have dl : v % 16 < 16 := Nat.mod_lt _ (by omega)
      have m1 : (v : Int) % 16 = ((v % 16 : Nat) : Int) := by omega
      have m2 : (v : Int).tmod 16 = ((v % 16 : Nat) : Int) := by rw [Int.tmod_eq_emod_of_nonneg (by omega)]; omega
      have dg := dig_at64 wr (v % 16) dl
      generalize v % 16 = d at *
      have N1 : Hid (Has (wr.setCell ⟨w.heap.size, j, none⟩ (.int .u8 ((Fm.hexd d : Nat) : Int))) w.heap.size 70 (Fm.hx u (k + 1))) := by
        show Has _ _ _ _
        rw [HD.out, ← Fm.hx_set u k j HJ.out]
        exact HH.out.stored j _
      have N2 : Hid (Below w.heap.size w (wr.setCell ⟨w.heap.size, j, none⟩ (.int .u8 ((Fm.hexd d : Nat) : Int)))) := by
        show Below _ _ _
        exact HB.out.setCell (Nat.le_refl _) _
      have cc : ∃ x, wr.cell? ⟨w.heap.size, j, none⟩ = some x := by
        rw [HH.out.cell]
        exact ⟨_, Array.getElem?_eq_getElem (by simp [Fm.hx]; omega)⟩
      obtain ⟨x, cx⟩ := cc
      have fx := HH.out.frozen j
      clear HH HB HD hj
      generalize Fm.hexd d = hd at *
      go_wp2
      go_roundw
      case rel => exact ⟨k + 1, by omega, by rw [← HV.out]; go_num, by go_num, N1, N2⟩
      case measure => simp [intOf]; omega
    · obtain rfl : k = 16 := by omega
      have I : IsBytes wr (some ⟨w.heap.size, 0, none⟩) (Fm.hexl u) := by
        refine ⟨Vm.getD_lt (Fm.hexl_byte u), fun _ => ⟨w.heap.size, 0, rfl, fun p hp => ?_⟩⟩
        rw [Nat.zero_add, HH.out.cell, Fm.hx_cell u p hp]
      have cv := is_conv (c := 16) I
      rw [show (Fm.hexl u).length = 16 from rfl, Fm.hexl_eq] at cv
      generalize hst : strOf (Fm.hex (Vm.word u)) = st at *
      have HST := Lib.hid hst
      clear I hst HH
      go_wp2
      go_ret
      exact ⟨by rw [HST.out]; rfl, HB.out⟩
end
end Go.Proofs.YtmdpeifpgnkbiaaDoor
