/-
  RexDeep as a contract: so many groups in one another, so many bytes. No conditions.
-/
import Derived.Test.YteifjiadgbgkbaaKc
import Derived.OpenShut
namespace Go.Proofs.Yteifjiadgbgkbaa
open Go.RowKit Go.Sort
open Pz

theorem txt8_app (a b : ByteArray) : txt8 (a ++ b) = txt8 a ++ txt8 b := by simp [txt8]
def tA : Rx := .mk 1 0 8589934592 0 0 []
def sAB : ByteArray := ⟨#[97, 98]⟩
def pdL (k : Nat) : List Nat := List.replicate k 40 ++ [97] ++ List.replicate k 41
theorem deep_yes : ∀ k, k ≤ 8 → parse (pdL k) = some tA
  | 0, _ => by kernel_rfl
  | 1, _ => by kernel_rfl
  | 2, _ => by kernel_rfl
  | 3, _ => by kernel_rfl
  | 4, _ => by kernel_rfl
  | 5, _ => by kernel_rfl
  | 6, _ => by kernel_rfl
  | 7, _ => by kernel_rfl
  | 8, _ => by kernel_rfl
  | n + 9, h => by omega
theorem deep_no : ∀ k, 8 < k → k < 12 → parse (pdL k) = none
  | 9, _, _ => by kernel_rfl
  | 10, _, _ => by kernel_rfl
  | 11, _, _ => by kernel_rfl
  | 0, h, _ => by omega
  | 1, h, _ => by omega
  | 2, h, _ => by omega
  | 3, h, _ => by omega
  | 4, h, _ => by omega
  | 5, h, _ => by omega
  | 6, h, _ => by omega
  | 7, h, _ => by omega
  | 8, h, _ => by omega
  | n + 12, _, h => by omega
theorem ends_A : ends (txt8 sAB) tA 0 = [1] := by decide +kernel
theorem long_is : ∀ m, m < 50 → 30 ≤ m → (parse (List.replicate m 120)).isSome = decide (m ≤ 40) := by decide +kernel
theorem good_A : Good tA 1000 := ⟨rfl, by unfold tA; rw [Rx.fit, Rx.fitL]; exact ⟨⟨by omega, by omega, by omega, by omega⟩, trivial⟩, by unfold tA; simp [Rx.count, Rx.countL]⟩
theorem rep_app (k c : Nat) : List.replicate k c ++ [c] = List.replicate (k + 1) c := by rw [List.replicate_succ']
theorem one_lit (w : World) (z : Int) : IsZ (w.alloc (.cells #[.int .i64 z] 3)) (some ⟨w.heap.size, 0, none⟩) [z] := fun _ => ⟨_, _, rfl, fun j hj => by
  have e := heap_alloc_new w (.cells #[.int .i64 z] 3)
  rw [cell_of_row _ _ _ _ _ _ e]
  obtain rfl : j = 0 := by simpa using hj
  rfl⟩

set_option maxRecDepth 100000 in
set_option maxHeartbeats 4000000 in
theorem deep_law (x y : Nat) (hx : x < 256) (hy : y < 256) (w : World) :
    Calls Try.prog 10 #[.int .u8 (x : Int), .int .u8 (y : Int)] w fun e w' => e = .returned (.bool true) ∧ Below w.heap.size w w' := by
  have RN := Lib.hid runs_any
  have PC := Lib.hid (fun s hs W => parse_any s hs W)
  obtain ⟨k, hk⟩ : ∃ k, x % 12 = k := ⟨_, rfl⟩
  have hkz : (x : Int) % 12 = (k : Int) := by omega
  have hk12 : k < 12 := by omega
  clear hk
  go_enter Try.func10, Try.ntmps10
  go_wp2
  go_loop [6, 7] (fun p i => ∃ (j : Nat) (S : ByteArray), j ≤ k ∧ i = .int .i64 (j : Int) ∧ p = .string S ∧ Hid (txt8 S = List.replicate j 40)) (fun _ i => k - (intOf i).toNat)
  case atStart => exact ⟨0, _, by omega, rfl, rfl, rfl⟩
  case round =>
    obtain ⟨j, S, hj, rfl, rfl, HS⟩ := hrel
    have hsz : S.size = j := by rw [← txt8_len, HS.out]; simp
    have hsz2 : (S.size : Int) ≤ 8388608 := by omega
    have HSZ := Lib.hid hsz
    clear hsz
    by_cases hjk : j < k
    · have hjz : (j : Int) < (k : Int) := by omega
      go_wp2
      go_round
      case rel => exact ⟨j + 1, _, by omega, by go_num, rfl, by show _ = _; rw [txt8_app, HS.out, ← rep_app]; rfl⟩
      case measure => simp [intOf]; omega
    · obtain rfl : j = k := by omega
      have HP := Lib.hid (show txt8 (S ++ ⟨#[97]⟩) = List.replicate j 40 ++ [97] by rw [txt8_app, HS.out]; rfl)
      have hsz3 : (S.size : Int) ≤ 8388608 := by omega
      go_wp2
      generalize S ++ ⟨#[97]⟩ = T at *
      clear hsz3 hsz2 HSZ HS hkz
      go_loop [6, 8] (fun p i => ∃ (q : Nat) (S : ByteArray), q ≤ j ∧ i = .int .i64 (q : Int) ∧ p = .string S ∧ Hid (txt8 S = List.replicate j 40 ++ [97] ++ List.replicate q 41)) (fun _ i => j - (intOf i).toNat)
      case atStart => exact ⟨0, _, by omega, rfl, rfl, by show _ = _; rw [HP.out]; simp⟩
      case round =>
        obtain ⟨q, S, hq, rfl, rfl, HS⟩ := hrel
        have hsz : S.size = j + 1 + q := by rw [← txt8_len, HS.out]; simp; omega
        have hsz2 : (S.size : Int) ≤ 8388608 := by omega
        by_cases hqj : q < j
        · have hqz : (q : Int) < (j : Int) := by omega
          clear hsz
          go_wp2
          go_round
          case rel => exact ⟨q + 1, _, by omega, by go_num, rfl, by show _ = _; rw [txt8_app, HS.out, ← rep_app, ← List.append_assoc]; rfl⟩
          case measure => simp [intOf]; omega
        · obtain rfl : q = j := by omega
          have hqz : ¬ (q : Int) < (q : Int) := by omega
          have P0 := Lib.hid (PC.out S (by omega) w)
          rw [HS.out] at P0
          by_cases h8 : q ≤ 8
          · have ht : parse (List.replicate q 40 ++ [97] ++ List.replicate q 41) = some tA := deep_yes q h8
            have h8z : decide ((q : Int) ≤ 8) = true := decide_eq_true (by omega)
            clear hsz hsz2 HP HS
            go_wp2_with fail
            refine P0.out.mono ?_
            intro e w1 hp
            obtain ⟨op, a, b, c, d, A, n, cap, rfl, X1, b1⟩ := hp.yes ht
            have A1 : Below w1.heap.size w1 (w1.alloc (.cells #[.int .i64 op, .int .u64 (a : Int), .int .u64 (b : Int), .int .u64 (c : Int), .int .u64 (d : Int), .slice A n cap] 26)) := (Below.refl _ _).alloc (Nat.le_refl _) _
            have B := Lib.hid (b1.trans (A1.mono b1.size))
            have CE := Lib.hid (ends_all good_A.count good_A.fit _ 0 sAB _ (by decide) (X1.grown A1))
            rw [ends_A] at CE
            unfold c6 at CE
            clear hp X1 b1 A1 P0 ht
            go_wp2_with fail
            refine CE.out.mono ?_
            rintro e w4 ⟨A4, n4, c4, rfl, l4, h4, Z4, b4⟩
            obtain rfl : n4 = 1 := by simpa using l4.symm
            have BL : Below w4.heap.size w4 (w4.alloc (.cells #[.int .i64 1] 3)) := (Below.refl _ _).alloc (Nat.le_refl _) _
            have CS := Lib.hid (same_b (zn [1]) [1] _ _ 1 1 c4 1 _ rfl rfl (by omega) (by omega) (Z4.below BL) (one_lit w4 1))
            rw [show decide (zn [1] = [1]) = true by decide] at CS
            replace B := Lib.hid ((B.out.trans (b4.mono B.out.size)).trans (BL.mono (B.out.trans (b4.mono B.out.size)).size))
            clear CE b4 BL Z4 l4
            go_wp2_with fail
            refine CS.out.mono ?_
            rintro e WX ⟨rfl, b5⟩
            replace B := Lib.hid (B.out.trans (b5.mono B.out.size))
            clear b5 CS
            obtain ⟨m, hm⟩ : ∃ m, 30 + y % 20 = m := ⟨_, rfl⟩
            have hm1 : 30 ≤ m := by omega
            have hm2 : m < 50 := by omega
            have hmz : 30 + (y : Int) % 20 = (m : Int) := by omega
            clear hm
            go_wp2
            go_loop [11, 12] (fun p i => ∃ (q : Nat) (S : ByteArray), q ≤ m ∧ i = .int .i64 (q : Int) ∧ p = .string S ∧ Hid (txt8 S = List.replicate q 120)) (fun _ i => m - (intOf i).toNat)
            case atStart => exact ⟨0, _, by omega, rfl, rfl, rfl⟩
            case round =>
              obtain ⟨q, S, hq, rfl, rfl, HS⟩ := hrel
              have hS := HS.out
              have hsz : S.size = q := by rw [← txt8_len, hS]; simp
              have hsz2 : (S.size : Int) ≤ 8388608 := by omega
              clear hS
              by_cases hqm : q < m
              · have hqz : (q : Int) < (m : Int) := by omega
                clear hsz
                go_wp2
                go_round
                case rel => exact ⟨q + 1, _, by omega, by go_num, rfl, by show _ = _; rw [txt8_app, HS.out, ← rep_app]; rfl⟩
                case measure => simp [intOf]; omega
              · obtain rfl : q = m := by omega
                have hqz : ¬ (q : Int) < (q : Int) := by omega
                have LI := long_is q hm2 hm1
                have PP := Lib.hid (PC.out S (by omega) WX)
                rw [HS.out] at PP
                have HSZ := Lib.hid hsz
                clear hsz
                by_cases h40 : q ≤ 40
                · rw [decide_eq_true h40] at LI
                  obtain ⟨t, ht⟩ := Option.isSome_iff_exists.1 LI
                  have h40z : decide (S.size ≤ 40) = true := decide_eq_true (by rw [HSZ.out]; exact h40)
                  have h40y : decide ((S.size : Int) ≤ 40) = true := decide_eq_true (by have := HSZ.out; omega)
                  clear LI h40
                  go_wp2_with fail
                  refine PP.out.mono ?_
                  intro e w4 hp
                  obtain ⟨op2, a2, b2, c2, d2, A2, n2, cap2, rfl, X2, b4⟩ := hp.yes ht
                  have B4 := Lib.hid ((B.out.trans (b4.mono B.out.size)).trans (((Below.refl _ _).alloc (Nat.le_refl _) (.cells #[.int .i64 op2, .int .u64 (a2 : Int), .int .u64 (b2 : Int), .int .u64 (c2 : Int), .int .u64 (d2 : Int), .slice A2 n2 cap2] 26)).mono (B.out.trans (b4.mono B.out.size)).size))
                  clear hp X2 b4 ht
                  go_wp2_with fail
                  refine (RN.out _).mono ?_
                  rintro e w5 ⟨rfl, b5⟩
                  have B5 := Lib.hid (B4.out.trans (b5.mono B4.out.size))
                  clear b5
                  go_wp2
                  go_ret
                  exact ⟨rfl, B5.out⟩
                · rw [decide_eq_false h40] at LI
                  have ht : parse (List.replicate q 120) = none := by
                    cases hp : parse (List.replicate q 120) with
                    | none => rfl
                    | some t => rw [hp] at LI; cases LI
                  have h40z : decide (S.size ≤ 40) = false := decide_eq_false (by rw [HSZ.out]; exact h40)
                  have h40y : decide ((S.size : Int) ≤ 40) = false := decide_eq_false (by have := HSZ.out; omega)
                  clear LI h40
                  go_wp2_with fail
                  refine PP.out.mono ?_
                  intro e w4 hp
                  obtain ⟨rfl, b4⟩ := hp.no ht
                  have B4 := Lib.hid ((B.out.trans (b4.mono B.out.size)).trans (((Below.refl _ _).alloc (Nat.le_refl _) (.cells #[.int .i64 0, .int .u64 0, .int .u64 0, .int .u64 0, .int .u64 0, .slice none 0 0] 26)).mono (B.out.trans (b4.mono B.out.size)).size))
                  clear hp b4 ht
                  go_wp2_with fail
                  refine (RN.out _).mono ?_
                  rintro e w5 ⟨rfl, b5⟩
                  have B5 := Lib.hid (B4.out.trans (b5.mono B4.out.size))
                  clear b5
                  go_wp2
                  go_ret
                  exact ⟨rfl, B5.out⟩
          · have ht : parse (List.replicate q 40 ++ [97] ++ List.replicate q 41) = none := deep_no q (by omega) hk12
            have h8z : decide ((q : Int) ≤ 8) = false := decide_eq_false (by omega)
            clear hsz hsz2 HP HS
            go_wp2_with fail
            refine P0.out.mono ?_
            intro e w1 hp
            obtain ⟨rfl, b1⟩ := hp.no ht
            have A1 : Below w1.heap.size w1 (w1.alloc (.cells #[.int .i64 0, .int .u64 0, .int .u64 0, .int .u64 0, .int .u64 0, .slice none 0 0] 26)) := (Below.refl _ _).alloc (Nat.le_refl _) _
            have B := Lib.hid (b1.trans (A1.mono b1.size))
            clear hp b1 A1 P0 ht
            obtain ⟨m, hm⟩ : ∃ m, 30 + y % 20 = m := ⟨_, rfl⟩
            have hm1 : 30 ≤ m := by omega
            have hm2 : m < 50 := by omega
            have hmz : 30 + (y : Int) % 20 = (m : Int) := by omega
            clear hm
            go_wp2
            go_loop [11, 12] (fun p i => ∃ (q : Nat) (S : ByteArray), q ≤ m ∧ i = .int .i64 (q : Int) ∧ p = .string S ∧ Hid (txt8 S = List.replicate q 120)) (fun _ i => m - (intOf i).toNat)
            case atStart => exact ⟨0, _, by omega, rfl, rfl, rfl⟩
            case round =>
              obtain ⟨q, S, hq, rfl, rfl, HS⟩ := hrel
              have hS := HS.out
              have hsz : S.size = q := by rw [← txt8_len, hS]; simp
              have hsz2 : (S.size : Int) ≤ 8388608 := by omega
              clear hS
              by_cases hqm : q < m
              · have hqz : (q : Int) < (m : Int) := by omega
                clear hsz
                go_wp2
                go_round
                case rel => exact ⟨q + 1, _, by omega, by go_num, rfl, by show _ = _; rw [txt8_app, HS.out, ← rep_app]; rfl⟩
                case measure => simp [intOf]; omega
              · obtain rfl : q = m := by omega
                have hqz : ¬ (q : Int) < (q : Int) := by omega
                have LI := long_is q hm2 hm1
                have PP := Lib.hid (PC.out S (by omega) (w1.alloc (.cells #[.int .i64 0, .int .u64 0, .int .u64 0, .int .u64 0, .int .u64 0, .slice none 0 0] 26)))
                rw [HS.out] at PP
                have HSZ := Lib.hid hsz
                clear hsz
                by_cases h40 : q ≤ 40
                · rw [decide_eq_true h40] at LI
                  obtain ⟨t, ht⟩ := Option.isSome_iff_exists.1 LI
                  have h40z : decide (S.size ≤ 40) = true := decide_eq_true (by rw [HSZ.out]; exact h40)
                  have h40y : decide ((S.size : Int) ≤ 40) = true := decide_eq_true (by have := HSZ.out; omega)
                  clear LI h40
                  go_wp2_with fail
                  refine PP.out.mono ?_
                  intro e w4 hp
                  obtain ⟨op2, a2, b2, c2, d2, A2, n2, cap2, rfl, X2, b4⟩ := hp.yes ht
                  have B4 := Lib.hid ((B.out.trans (b4.mono B.out.size)).trans (((Below.refl _ _).alloc (Nat.le_refl _) (.cells #[.int .i64 op2, .int .u64 (a2 : Int), .int .u64 (b2 : Int), .int .u64 (c2 : Int), .int .u64 (d2 : Int), .slice A2 n2 cap2] 26)).mono (B.out.trans (b4.mono B.out.size)).size))
                  clear hp X2 b4 ht
                  go_wp2_with fail
                  refine (RN.out _).mono ?_
                  rintro e w5 ⟨rfl, b5⟩
                  have B5 := Lib.hid (B4.out.trans (b5.mono B4.out.size))
                  clear b5
                  go_wp2
                  go_ret
                  exact ⟨rfl, B5.out⟩
                · rw [decide_eq_false h40] at LI
                  have ht : parse (List.replicate q 120) = none := by
                    cases hp : parse (List.replicate q 120) with
                    | none => rfl
                    | some t => rw [hp] at LI; cases LI
                  have h40z : decide (S.size ≤ 40) = false := decide_eq_false (by rw [HSZ.out]; exact h40)
                  have h40y : decide ((S.size : Int) ≤ 40) = false := decide_eq_false (by have := HSZ.out; omega)
                  clear LI h40
                  go_wp2_with fail
                  refine PP.out.mono ?_
                  intro e w4 hp
                  obtain ⟨rfl, b4⟩ := hp.no ht
                  have B4 := Lib.hid ((B.out.trans (b4.mono B.out.size)).trans (((Below.refl _ _).alloc (Nat.le_refl _) (.cells #[.int .i64 0, .int .u64 0, .int .u64 0, .int .u64 0, .int .u64 0, .slice none 0 0] 26)).mono (B.out.trans (b4.mono B.out.size)).size))
                  clear hp b4 ht
                  go_wp2_with fail
                  refine (RN.out _).mono ?_
                  rintro e w5 ⟨rfl, b5⟩
                  have B5 := Lib.hid (B4.out.trans (b5.mono B4.out.size))
                  clear b5
                  go_wp2
                  go_ret
                  exact ⟨rfl, B5.out⟩
open Go.ChangeShapes Go.WideShapes in
theorem deep_at (z0 z1 : Int) (w : World) (h0 : (Lit.int .u8 z0).wf = true) (h1 : (Lit.int .u8 z1).wf = true) :
    Calls Try.prog 10 #[.int .u8 z0, .int .u8 z1] w fun e w' => e = .returned (.bool true) ∧ Below w.heap.size w w' := by
  have b0 := bounds_u8 h0
  have b1 := bounds_u8 h1
  obtain ⟨x, rfl⟩ : ∃ x : Nat, z0 = (x : Int) := ⟨z0.toNat, by omega⟩
  obtain ⟨y, rfl⟩ : ∃ y : Nat, z1 = (y : Int) := ⟨z1.toNat, by omega⟩
  exact deep_law x y (by omega) (by omega) w
end Go.Proofs.Yteifjiadgbgkbaa
