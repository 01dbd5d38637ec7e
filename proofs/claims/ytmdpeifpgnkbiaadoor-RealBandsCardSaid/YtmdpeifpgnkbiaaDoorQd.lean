/-
  What package real's own digit, unhex, Text and Read do; the table of names lies in its variable (NTab). Conditions: words have 64 bits; lengths fit; NTab.
-/
import Derived.Test.YtmdpeifpgnkbiaaDoorQc
namespace Go.Proofs.YtmdpeifpgnkbiaaDoor
open Go.RowKit

/-- What digit answers. -/
def digRes (c : Nat) : Value := .tuple #[.int .u64 (((if Fm.nib c < 16 then Fm.nib c else 0) : Nat) : Int), .bool (decide (Fm.nib c < 16))]
section
set_option maxRecDepth 100000 in
theorem digit_any (c : Nat) (hc : c < 256) (w : World) : Calls Tryd.prog 56 #[.int .u8 (c : Int)] w fun e w' => e = .returned (digRes c) ∧ w' = w := by
  by_cases h1 : 48 ≤ c ∧ c ≤ 57
  · have r : Hid (Fm.nib c = c - 48) := by show _ = _; rw [Fm.nib, if_pos h1]
    have h2 : (48 : Int) ≤ (c : Int) := by omega
    have h3 : (c : Int) ≤ 57 := by omega
    have h4 : IntKind.u8.wrap ((c : Int) - 48) = (c : Int) - 48 := by simp [IntKind.wrap, IntKind.bits, IntKind.signed]; omega
    have HX : Hid (digRes c = .tuple #[.int .u64 ((c : Int) - 48), .bool true]) := by
      show _ = _; rw [digRes, r.out, if_pos (by omega), decide_eq_true (by omega), Int.ofNat_sub h1.1]; rfl
    go_enter Tryd.func56, Tryd.ntmps56
    go_wp2
    go_ret2
    exact ⟨by rw [HX.out]; rfl, rfl⟩
  · by_cases h2 : 97 ≤ c ∧ c ≤ 102
    · have r : Hid (Fm.nib c = c - 87) := by show _ = _; rw [Fm.nib, if_neg h1, if_pos h2]
      have g1 : (48 : Int) ≤ (c : Int) := by omega
      have g2 : ¬ (c : Int) ≤ 57 := by omega
      have h3 : (97 : Int) ≤ (c : Int) := by omega
      have h3' : (c : Int) ≤ 102 := by omega
      have h4 : IntKind.u8.wrap ((c : Int) - 97) = (c : Int) - 97 := by simp [IntKind.wrap, IntKind.bits, IntKind.signed]; omega
      have h5 : IntKind.u64.wrap ((c : Int) - 97 + 10) = (c : Int) - 97 + 10 := by simp [IntKind.wrap, IntKind.bits, IntKind.signed]; omega
      have r3 : ((c - 87 : Nat) : Int) = (c : Int) - 97 + 10 := by omega
      have HX : Hid (digRes c = .tuple #[.int .u64 ((c : Int) - 97 + 10), .bool true]) := by
        show _ = _; rw [digRes, r.out, if_pos (by omega), decide_eq_true (by omega), r3]
      clear r3
      go_enter Tryd.func56, Tryd.ntmps56
      go_wp2
      go_ret2
      exact ⟨by rw [HX.out]; rfl, rfl⟩
    · have r : Hid (Fm.nib c = 16) := by show _ = _; rw [Fm.nib, if_neg h1, if_neg h2]
      have HX : Hid (digRes c = .tuple #[.int .u64 0, .bool false]) := by
        show _ = _; rw [digRes, r.out]; rfl
      by_cases a1 : 48 ≤ c
      · by_cases a2 : 97 ≤ c
        · have g1 : (48 : Int) ≤ (c : Int) := by omega
          have g2 : ¬ (c : Int) ≤ 57 := by omega
          have g3 : (97 : Int) ≤ (c : Int) := by omega
          have g4 : ¬ (c : Int) ≤ 102 := by omega
          go_enter Tryd.func56, Tryd.ntmps56
          go_wp2
          go_ret2
          exact ⟨by rw [HX.out]; rfl, rfl⟩
        · have g1 : (48 : Int) ≤ (c : Int) := by omega
          have g2 : ¬ (c : Int) ≤ 57 := by omega
          have g3 : ¬ (97 : Int) ≤ (c : Int) := by omega
          go_enter Tryd.func56, Tryd.ntmps56
          go_wp2
          go_ret2
          exact ⟨by rw [HX.out]; rfl, rfl⟩
      · have g1 : ¬ (48 : Int) ≤ (c : Int) := by omega
        have g3 : ¬ (97 : Int) ≤ (c : Int) := by omega
        go_enter Tryd.func56, Tryd.ntmps56
        go_wp2
        go_ret2
        exact ⟨by rw [HX.out]; rfl, rfl⟩

theorem or_nib {a d : Nat} (ha : a < 1152921504606846976) (hd : d < 16) : bits .or .u64 (((16 * a : Nat) : Int)) (d : Int) = ((16 * a + d : Nat) : Int) := by
  rw [u64_or_nat _ _ (by omega) (by omega)]
  have := Nat.two_pow_add_eq_or_of_lt (i := 4) (b := d) (by omega) a
  congr 1
  simp at this
  omega

set_option maxRecDepth 100000 in
set_option maxHeartbeats 400000 in
theorem unhex_any (s : ByteArray) (w : World) :
    Calls Tryd.prog 49 #[.string s] w fun e w' => w' = w ∧ ((¬ ((textL s).length = 16 ∧ ∀ c ∈ textL s, Fm.nib c < 16) ∧ e = .returned (.tuple #[.int .u64 0, .bool false])) ∨
      (((textL s).length = 16 ∧ ∀ c ∈ textL s, Fm.nib c < 16) ∧ e = .returned (.tuple #[.int .u64 ((Fm.valOf 0 (textL s) : Nat) : Int), .bool true]))) := by
  have hts := textL_length s
  have HT : Hid (∀ j W, j < s.size → (Instr.index 9 (.string s) (.int .i64 (j : Int))).run Tryd.prog W = .ok (.int .u8 (((textL s).getD j 0 : Nat) : Int)) W) := fun j W h => str_at W s j (by rw [hts]; exact h)
  have HB : Hid (∀ j, (textL s).getD j 0 < 256) := by
    intro j
    by_cases hj : j < (textL s).length
    · have : (textL s)[j]'hj < 256 := by simp [textL]; exact UInt8.toNat_lt _
      simpa [List.getD, List.getElem?_eq_getElem hj] using this
    · simp [List.getD, List.getElem?_eq_none (show (textL s).length ≤ j by omega)]
  by_cases h16 : s.size = 16
  · have HS := Lib.hid h16
    have HL : Hid ((textL s).length = 16) := by show _ = _; rw [hts]; exact h16
    generalize textL s = l at *
    clear hts
    go_enter Tryd.func49, Tryd.ntmps49
    go_wp2
    go_loopw [4, 13] (fun v i wr => ∃ k : Nat, k ≤ 16 ∧ v = .int .u64 ((Fm.valOf 0 (l.take k) : Nat) : Int) ∧ i = .int .i64 (k : Int) ∧ Hid (∀ c ∈ l.take k, Fm.nib c < 16) ∧ wr = w) (fun _ i _ => 16 - (intOf i).toNat)
    case atStart => exact ⟨0, by omega, rfl, rfl, (fun c hc => by simp at hc), rfl⟩
    case round =>
      obtain ⟨k, hk, rfl, rfl, HA, rfl⟩ := hrel
      by_cases hkn : k < 16
      · have ix := HT.out k wr (by rw [HS.out]; exact hkn)
        have hb := HB.out k
        have D := digit_any (l.getD k 0) hb wr
        have HM : Hid (l.getD k 0 ∈ l) := Fm.mem_getD (by rw [HL.out]; exact hkn)
        have HTK : Hid (l.take (k + 1) = l.take k ++ [l.getD k 0]) := Vm.take_snoc l k (by rw [HL.out]; exact hkn)
        have hav : Fm.valOf 0 (l.take k) < 1152921504606846976 := by
          have := Fm.valOf_lt (l.take k) 0 0 HA.out (by simp)
          have h2 : (16 : Nat) ^ (0 + (l.take k).length) ≤ 16 ^ 15 := Nat.pow_le_pow_right (by omega) (by simp; omega)
          have h3 : (16 : Nat) ^ 15 = 1152921504606846976 := by decide
          omega
        by_cases hn : Fm.nib (l.getD k 0) < 16
        · rw [digRes, if_pos hn, decide_eq_true hn] at D
          have HV : Hid (Fm.valOf 0 (l.take (k + 1)) = 16 * Fm.valOf 0 (l.take k) + Fm.nib (l.getD k 0)) := by show _ = _; rw [HTK.out, Fm.valOf_snoc]
          have HA2 : Hid (∀ c ∈ l.take (k + 1), Fm.nib c < 16) := by
            show ∀ c ∈ _, _
            rw [HTK.out]
            intro c hc
            rcases List.mem_append.1 hc with h | h
            · exact HA.out c h
            · simp at h; subst h; simpa using hn
          have o := or_nib hav hn
          generalize Fm.valOf 0 (l.take k) = a at *
          generalize Fm.nib (l.getD k 0) = d at *
          generalize l.getD k 0 = x at *
          have s1 : IntKind.u64.wrap ((a : Int) * 16) = ((16 * a : Nat) : Int) := by simp [IntKind.wrap, IntKind.bits, IntKind.signed]; omega
          have s2 : (a : Int) * 16 % 18446744073709551616 = ((16 * a : Nat) : Int) := by omega
          clear HA HTK HM
          go_wp2_with fail
          refine D.mono ?_
          rintro e w' ⟨rfl, rfl⟩
          go_wp2
          go_roundw
          case rel => exact ⟨k + 1, by omega, by rw [HV.out]; exact congrArg (Value.int .u64) o, by go_num, HA2, trivial⟩
          case measure => simp [intOf]; omega
        · rw [digRes, if_neg hn, decide_eq_false hn] at D
          have HNO : Hid (¬ (l.length = 16 ∧ ∀ c ∈ l, Fm.nib c < 16)) := fun h => hn (h.2 _ HM.out)
          generalize Fm.valOf 0 (l.take k) = a at *
          generalize l.getD k 0 = x at *
          clear HA HTK HM hn
          go_wp2_with fail
          refine D.mono ?_
          rintro e w' ⟨rfl, rfl⟩
          go_wp2
          go_ret2
          exact ⟨rfl, .inl ⟨HNO.out, rfl⟩⟩
      · obtain rfl : k = 16 := by omega
        have et : l.take 16 = l := List.take_of_length_le (by rw [HL.out]; exact Nat.le_refl _)
        rw [et] at HA ⊢
        generalize hva : Fm.valOf 0 l = a at *
        have HVA := Lib.hid hva
        clear hva
        go_wp2
        go_ret2
        exact ⟨rfl, .inr ⟨⟨HL.out, HA.out⟩, by rw [HVA.out]; rfl⟩⟩
  · have HNO : Hid (¬ ((textL s).length = 16 ∧ ∀ c ∈ textL s, Fm.nib c < 16)) := fun h => h16 (by rw [← hts]; exact h.1)
    have n16 : ((s.size : Int) != 16) = true := by simp; omega
    clear HT HB hts
    go_enter Tryd.func49, Tryd.ntmps49
    go_wp2
    go_ret2
    exact ⟨rfl, .inl ⟨HNO.out, rfl⟩⟩
end
end Go.Proofs.YtmdpeifpgnkbiaaDoor
