/-
  Digits and values read: what the reference's nibble, UnHex, Text and ReadValue do. Conditions: lengths fit.
-/
import Derived.Test.YtmdpeifpgnkbiaaDoorRt
import Derived.Test.YtmdpeifpgnkbiaaDoorGw
namespace Go.Proofs.YtmdpeifpgnkbiaaDoor
open Go.RowKit

theorem Fm.unhex_app : ∀ {a x : List Nat} (c : List Nat), Fm.unhex a = some x → Fm.unhex (a ++ c) = (Fm.unhex c).map (x ++ ·)
  | [], x, c, h => by simp [Fm.unhex] at h; subst h; simp
  | [_], x, c, h => by simp [Fm.unhex] at h
  | p :: q :: r, x, c, h => by
    rw [Fm.unhex] at h
    split at h
    · rename_i hn
      cases hr : Fm.unhex r with
      | none => rw [hr] at h; simp at h
      | some t =>
        rw [hr] at h
        simp at h
        subst h
        have ih := Fm.unhex_app c hr
        rw [List.cons_append, List.cons_append, Fm.unhex, if_pos hn, ih]
        cases Fm.unhex c <;> simp
    · cases h
theorem Fm.nib_le (c : Nat) : Fm.nib c ≤ 16 := by unfold Fm.nib; split <;> (try split) <;> omega

set_option maxRecDepth 100000 in
theorem rnib_any (c : Nat) (hc : c < 256) (w : World) : Calls Tryd.prog 57 #[.int .u8 (c : Int)] w fun e w' => e = .returned (.int .u8 ((Fm.nib c : Nat) : Int)) ∧ w' = w := by
  by_cases h1 : 48 ≤ c ∧ c ≤ 57
  · have r : Hid (Fm.nib c = c - 48) := by show _ = _; rw [Fm.nib, if_pos h1]
    have h2 : (48 : Int) ≤ (c : Int) := by omega
    have h3 : (c : Int) ≤ 57 := by omega
    have h4 : IntKind.u8.wrap ((c : Int) - 48) = (c : Int) - 48 := by simp [IntKind.wrap, IntKind.bits, IntKind.signed]; omega
    go_enter Tryd.func57, Tryd.ntmps57
    go_wp2
    go_ret
    exact ⟨by rw [r.out, Int.ofNat_sub h1.1]; rfl, rfl⟩
  · by_cases h2 : 97 ≤ c ∧ c ≤ 102
    · have r : Hid (Fm.nib c = c - 87) := by show _ = _; rw [Fm.nib, if_neg h1, if_pos h2]
      have h3 : (48 : Int) ≤ (c : Int) := by omega
      have h4 : ¬ ((c : Int) ≤ 57) := by omega
      have h5 : (97 : Int) ≤ (c : Int) := by omega
      have h6 : (c : Int) ≤ 102 := by omega
      have h7 : IntKind.u8.wrap ((c : Int) - 97) = (c : Int) - 97 := by simp [IntKind.wrap, IntKind.bits, IntKind.signed]; omega
      have h8 : IntKind.u8.wrap ((c : Int) - 97 + 10) = (c : Int) - 97 + 10 := by simp [IntKind.wrap, IntKind.bits, IntKind.signed]; omega
      have e : Hid (((c - 87 : Nat) : Int) = (c : Int) - 97 + 10) := by show _ = _; omega
      go_enter Tryd.func57, Tryd.ntmps57
      go_wp2
      go_ret
      exact ⟨by rw [r.out, e.out]; rfl, rfl⟩
    · have r : Hid (Fm.nib c = 16) := by show _ = _; rw [Fm.nib, if_neg h1, if_neg h2]
      by_cases g1 : c < 48
      · have k1 : ¬ ((48 : Int) ≤ (c : Int)) := by omega
        have k2 : ¬ ((97 : Int) ≤ (c : Int)) := by omega
        clear h1 h2
        go_enter Tryd.func57, Tryd.ntmps57
        go_wp2
        go_ret
        exact ⟨by rw [r.out]; rfl, rfl⟩
      · have k1 : (48 : Int) ≤ (c : Int) := by omega
        have k2 : ¬ ((c : Int) ≤ 57) := by omega
        by_cases g2 : c < 97
        · have k3 : ¬ ((97 : Int) ≤ (c : Int)) := by omega
          clear h1 h2
          go_enter Tryd.func57, Tryd.ntmps57
          go_wp2
          go_ret
          exact ⟨by rw [r.out]; rfl, rfl⟩
        · have k3 : (97 : Int) ≤ (c : Int) := by omega
          have k4 : ¬ ((c : Int) ≤ 102) := by omega
          clear h1 h2
          go_enter Tryd.func57, Tryd.ntmps57
          go_wp2
          go_ret
          exact ⟨by rw [r.out]; rfl, rfl⟩
theorem str_at (w : World) (s : ByteArray) (j : Nat) (h : j < (textL s).length) : (Instr.index 9 (.string s) (.int .i64 (j : Int))).run Tryd.prog w = .ok (.int .u8 (((textL s).getD j 0 : Nat) : Int)) w := by
  have hs : j < s.size := by rw [textL_length] at h; exact h
  have e : s[j]? = some s[j] := by simp [hs]
  have e2 : (textL s).getD j 0 = (s[j]).toNat := by
    have : j < s.data.size := hs
    rw [textL, List.getD, List.getElem?_map, Array.getElem?_toList, Array.getElem?_eq_getElem this]
    rfl
  rw [e2]
  simp [Instr.index, run_underlying Tryd.underlying9, asIntOf, go_sem, e]

theorem Fm.unhex_even : ∀ {a x : List Nat}, Fm.unhex a = some x → a.length = 2 * x.length := fun h => (Fm.hex_unhex h).2.2
set_option maxRecDepth 100000 in
set_option maxHeartbeats 1000000 in
theorem runhex_any (s : ByteArray) (w : World) (hl : s.size ≤ 1099511627776) :
    Calls Tryd.prog 50 #[.string s] w fun e w' => Below w.heap.size w w' ∧ ((Fm.unhex (textL s) = none ∧ e = .returned (.tuple #[.slice none 0 0, .bool false])) ∨
      ∃ v b, Fm.unhex (textL s) = some b ∧ e = .returned (.tuple #[v, .bool true]) ∧ w'.ownsRow w.heap.size 5 1 v b.length (by8 b)) := by
  obtain ⟨i0, hi, hz0, hz1, hz2⟩ := info_parts Tryd.info5
  have hts := textL_length s
  have HT : Hid (∀ j W, j < s.size → (Instr.index 9 (.string s) (.int .i64 (j : Int))).run Tryd.prog W = .ok (.int .u8 (((textL s).getD j 0 : Nat) : Int)) W) := fun j W h => str_at W s j (by rw [hts]; exact h)
  have HB : Hid (∀ j, (textL s).getD j 0 < 256) := by
    intro j
    by_cases hj : j < (textL s).length
    · have : (textL s)[j]'hj < 256 := by simp [textL]; exact UInt8.toNat_lt _
      simpa [List.getD, List.getElem?_eq_getElem hj] using this
    · simp [List.getD, List.getElem?_eq_none (show (textL s).length ≤ j by omega)]
  have HL := Lib.hid hts
  clear hts
  generalize hn : s.size = n at *
  by_cases hev : n % 2 = 0
  · have r0 : (n : Int) % 2 = 0 := by omega
    go_enter Tryd.func50, Tryd.ntmps50
    go_wp2
    clear r0
    go_loopw [4, 5] (fun v i wr => ∃ (k : Nat) (b : List Nat), 2 * k ≤ n ∧ i = .int .i64 ((2 * k : Nat) : Int) ∧ Fm.unhex ((textL s).take (2 * k)) = some b ∧ b.length = k ∧ wr.ownsRow w.heap.size 5 1 v k (by8 b) ∧ Below w.heap.size w wr) (fun _ i _ => n - (intOf i).toNat)
    case atStart => exact ⟨0, [], by omega, rfl, rfl, rfl, World.ownsRow_nil _ _ _ _, Below.refl _ _⟩
    case round =>
      obtain ⟨k, b, hk, rfl, hu, hbl, hown, hbel⟩ := hrel
      have HU := Lib.hid hu
      have HBL := Lib.hid hbl
      clear hu hbl
      by_cases hkn : 2 * k < n
      · have h1 := HT.out (2 * k)
        have h2 := HT.out (2 * k + 1)
        have d1 := HB.out (2 * k)
        have d2 := HB.out (2 * k + 1)
        have hdr : (textL s).drop (2 * k) = (textL s).getD (2 * k) 0 :: (textL s).getD (2 * k + 1) 0 :: (textL s).drop (2 * (k + 1)) := by
          have l1 : 2 * k < (textL s).length := by rw [HL.out]; exact hkn
          have l2 : 2 * k + 1 < (textL s).length := by rw [HL.out]; omega
          rw [List.drop_eq_getElem_cons l1, List.drop_eq_getElem_cons l2]
          simp [List.getD, List.getElem?_eq_getElem l1, List.getElem?_eq_getElem l2, Nat.mul_add]
        have hsp : Fm.unhex (textL s) = (Fm.unhex ((textL s).drop (2 * k))).map (b ++ ·) := by
          have := Fm.unhex_app ((textL s).drop (2 * k)) HU.out
          rwa [List.take_append_drop] at this
        have htk : Fm.unhex ((textL s).take (2 * (k + 1))) = (Fm.unhex [(textL s).getD (2 * k) 0, (textL s).getD (2 * k + 1) 0]).map (b ++ ·) := by
          have := Fm.unhex_app [(textL s).getD (2 * k) 0, (textL s).getD (2 * k + 1) 0] HU.out
          have e : (textL s).take (2 * (k + 1)) = (textL s).take (2 * k) ++ [(textL s).getD (2 * k) 0, (textL s).getD (2 * k + 1) 0] := by
            have l1 : 2 * k < (textL s).length := by rw [HL.out]; exact hkn
            have l2 : 2 * k + 1 < (textL s).length := by rw [HL.out]; omega
            rw [show 2 * (k + 1) = (2 * k + 1) + 1 by omega, Vm.take_snoc _ _ l2, Vm.take_snoc _ _ l1]; simp
          rw [e]; exact this
        rw [hdr] at hsp
        clear hdr
        have HSP := Lib.hid hsp
        have HTK := Lib.hid htk
        clear hsp htk
        have hk1 : 2 * k + 1 < n := by omega
        generalize (textL s).getD (2 * k) 0 = c1 at *
        generalize (textL s).getD (2 * k + 1) 0 = c2 at *
        have H1 : Hid (∀ W, (Instr.index 9 (.string s) (.int .i64 ((2 * k : Nat) : Int))).run Tryd.prog W = .ok (.int .u8 (c1 : Int)) W) := fun W => h1 W hkn
        have H2 : Hid (∀ W, (Instr.index 9 (.string s) (.int .i64 ((2 * k + 1 : Nat) : Int))).run Tryd.prog W = .ok (.int .u8 (c2 : Int)) W) := fun W => h2 W hk1
        clear h1 h2
        generalize hk2 : 2 * k = m at *
        have i1 := H1.out
        have i2 : ∀ W, (Instr.index 9 (.string s) (.int .i64 ((m : Int) + 1))).run Tryd.prog W = .ok (.int .u8 (c2 : Int)) W := H2.out
        have N1 := Lib.hid (fun W => rnib_any c1 d1 W)
        have N2 := Lib.hid (fun W => rnib_any c2 d2 W)
        have g1 := Fm.nib_le c1
        have g2 := Fm.nib_le c2
        have HM := Lib.hid hk2
        clear hk2
        by_cases hb1 : Fm.nib c1 < 16
        · by_cases hb2 : Fm.nib c2 < 16
          · have HV : Hid (Fm.unhex ((textL s).take (2 * (k + 1))) = some (b ++ [16 * Fm.nib c1 + Fm.nib c2])) := by
              show _ = _
              rw [HTK.out, Fm.unhex, if_pos ⟨hb1, hb2⟩]; rfl
            generalize Fm.nib c1 = p1 at *
            generalize Fm.nib c2 = p2 at *
            go_wp2
            refine wp_region_quiet_lit (by kernel_rfl) (by kernel_rfl) ?_
            repeat (go_big_quiet_step (fail))
            go_big_quiet_want
            go_big_quiet_op
            go_big_quiet_call ((go_at_call 57; exact Calls.quiet_of_same (N1.out _)))
            repeat (go_big_quiet_step (fail))
            go_big_quiet_want
            go_big_quiet_op
            go_big_quiet_call ((go_at_call 57; exact Calls.quiet_of_same (N2.out _)))
            repeat (go_big_quiet_step (fail))
            refine wpQuiet_nil ?_
            intro wz hwz
            obtain ⟨nq, rfl⟩ := hwz
            clear i1 i2
            have hown2 : (wr.drewN nq).ownsRow w.heap.size 5 1 u4 k (by8 b) := hown
            have hbel2 : Below w.heap.size w (wr.drewN nq) := ⟨hbel.os, hbel.tape, hbel.output, hbel.size, hbel.block⟩
            clear hown hbel
            generalize wr.drewN nq = wq at hown2 hbel2 ⊢
            have x1 : ¬ ((15 : Int) < (p1 : Int)) := by omega
            have x2 : ¬ ((15 : Int) < (p2 : Int)) := by omega
            have x3 : IntKind.u8.wrap (16 * (p1 : Int)) = 16 * (p1 : Int) := by simp [IntKind.wrap, IntKind.bits, IntKind.signed]; omega
            have x4 : IntKind.u8.wrap (16 * (p1 : Int) + (p2 : Int)) = 16 * (p1 : Int) + (p2 : Int) := by simp [IntKind.wrap, IntKind.bits, IntKind.signed]; omega
            have hkb : k ≤ 1099511627776 := by have := HM.out; omega
            go_wp2_with (at_builtin; refine wpList_append_own _ rfl _ _ 62 rfl w.heap.size 5 i0 (.int .u8 0) 1 1 Tryd.underlying62 hi hz0 hz1 hz2 rfl (by decide) _ _ _ rfl (hown2.alloc _) ⟨wq.heap.size, 0, none⟩ 1 1 [.int .u8 (16 * (p1 : Int) + (p2 : Int))] rfl rfl (cell_one_new _ _ _) (one8 _) (by unfold maxLen; omega) (by omega) (bel_size hbel2) ?_)
            intro v3 w3 o4 g4 _
            have R : w3.ownsRow w.heap.size 5 1 v3 (k + 1) (by8 (b ++ [16 * p1 + p2])) := by rw [by8_app]; exact o4
            have b5 : Below w.heap.size w w3 := (hbel2.alloc hbel2.size _).grown g4 (by have := hbel2.size; simp; omega) (own_ge hown2)
            clear o4 g4 hown2 hbel2
            go_wp2
            go_roundw
            case rel => exact ⟨k + 1, _, by have := HM.out; omega, by rw [Nat.mul_add, HM.out]; go_num, HV.out, by simp [HBL.out], R, b5⟩
            case measure => simp [intOf]; omega
          · have HV : Hid (Fm.unhex (textL s) = none) := by
              show _ = _
              rw [HSP.out, Fm.unhex, if_neg (fun h => hb2 h.2)]; rfl
            generalize Fm.nib c1 = p1 at *
            generalize Fm.nib c2 = p2 at *
            go_wp2
            refine wp_region_quiet_lit (by kernel_rfl) (by kernel_rfl) ?_
            repeat (go_big_quiet_step (fail))
            go_big_quiet_want
            go_big_quiet_op
            go_big_quiet_call ((go_at_call 57; exact Calls.quiet_of_same (N1.out _)))
            repeat (go_big_quiet_step (fail))
            go_big_quiet_want
            go_big_quiet_op
            go_big_quiet_call ((go_at_call 57; exact Calls.quiet_of_same (N2.out _)))
            repeat (go_big_quiet_step (fail))
            refine wpQuiet_nil ?_
            intro wz hwz
            obtain ⟨nq, rfl⟩ := hwz
            clear i1 i2
            have hbel2 : Below w.heap.size w (wr.drewN nq) := ⟨hbel.os, hbel.tape, hbel.output, hbel.size, hbel.block⟩
            clear hown hbel
            generalize wr.drewN nq = wq at hbel2 ⊢
            have x1 : ¬ ((15 : Int) < (p1 : Int)) := by omega
            have x2 : (15 : Int) < (p2 : Int) := by omega
            go_wp2
            go_ret2
            exact ⟨hbel2, .inl ⟨HV.out, rfl⟩⟩
        · have HV : Hid (Fm.unhex (textL s) = none) := by
            show _ = _
            rw [HSP.out, Fm.unhex, if_neg (fun h => hb1 h.1)]; rfl
          generalize Fm.nib c1 = p1 at *
          generalize Fm.nib c2 = p2 at *
          go_wp2
          refine wp_region_quiet_lit (by kernel_rfl) (by kernel_rfl) ?_
          repeat (go_big_quiet_step (fail))
          go_big_quiet_want
          go_big_quiet_op
          go_big_quiet_call ((go_at_call 57; exact Calls.quiet_of_same (N1.out _)))
          repeat (go_big_quiet_step (fail))
          go_big_quiet_want
          go_big_quiet_op
          go_big_quiet_call ((go_at_call 57; exact Calls.quiet_of_same (N2.out _)))
          repeat (go_big_quiet_step (fail))
          refine wpQuiet_nil ?_
          intro wz hwz
          obtain ⟨nq, rfl⟩ := hwz
          clear i1 i2
          have hbel2 : Below w.heap.size w (wr.drewN nq) := ⟨hbel.os, hbel.tape, hbel.output, hbel.size, hbel.block⟩
          clear hown hbel
          generalize wr.drewN nq = wq at hbel2 ⊢
          have x1 : (15 : Int) < (p1 : Int) := by omega
          go_wp2
          go_ret2
          exact ⟨hbel2, .inl ⟨HV.out, rfl⟩⟩
      · have hkn' : 2 * k = n := by omega
        have HV : Hid (Fm.unhex (textL s) = some b) := by
          have := HU.out
          rwa [List.take_of_length_le (by rw [HL.out]; omega)] at this
        have R : wr.ownsRow w.heap.size 5 1 u4 b.length (by8 b) := by rw [HBL.out]; exact hown
        have hlt : ¬ ((((2 * k : Nat)) : Int) < (n : Int)) := by omega
        clear hown
        generalize 2 * k = m at *
        go_wp2
        go_ret2
        exact ⟨hbel, .inr ⟨_, b, HV.out, rfl, R⟩⟩
  · have r0 : (n : Int) % 2 = 1 := by omega
    have HU : Hid (Fm.unhex (textL s) = none) := by
      show _ = _
      cases h : Fm.unhex (textL s) with
      | none => rfl
      | some b => have := Fm.unhex_even h; rw [HL.out] at this; omega
    go_enter Tryd.func50, Tryd.ntmps50
    go_wp2
    go_ret2
    exact ⟨Below.refl _ _, .inl ⟨HU.out, rfl⟩⟩
end Go.Proofs.YtmdpeifpgnkbiaaDoor
