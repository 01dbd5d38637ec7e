/-
  Values as texts: what the reference's Text and ReadValue do. Conditions: words have 64 bits; lengths fit.
-/
import Derived.Test.YtmdpeifpgnkbiaaDoorRu
namespace Go.Proofs.YtmdpeifpgnkbiaaDoor
open Go.RowKit

theorem ne_int {u c : Nat} (h : u ≠ c) : ((u : Int) == (c : Int)) = false := by
  rw [beq_eq_false_iff_ne]; omega
set_option maxRecDepth 100000 in
set_option maxHeartbeats 400000 in
theorem rtext_any (f : Nat) (hf : Fm.W f) (w : World) : Calls Tryd.prog 38 #[.float .f64 f] w fun e w' => e = .returned (.string (strOf (Fm.txt (Fm.bits f)))) ∧ Below w.heap.size w w' := by
  have RB := rbits_any f w
  have hu := Fm.bits_W hf
  clear hf
  generalize Fm.bits f = u at *
  rcases Fm.txt_cases u with ⟨rfl, e⟩ | ⟨rfl, e⟩ | ⟨rfl, e⟩ | ⟨rfl, e⟩ | ⟨rfl, e⟩ | ⟨hp, e⟩
  · have HE := Lib.hid e
    clear e hu
    go_enter Tryd.func38, Tryd.ntmps38
    go_wp2_with fail
    refine RB.mono ?_
    rintro e w' ⟨rfl, rfl⟩
    go_wp2
    go_ret
    exact ⟨by rw [HE.out]; rfl, Below.refl _ _⟩
  · have HE := Lib.hid e
    clear e hu
    go_enter Tryd.func38, Tryd.ntmps38
    go_wp2_with fail
    refine RB.mono ?_
    rintro e w' ⟨rfl, rfl⟩
    go_wp2
    go_ret
    exact ⟨by rw [HE.out]; rfl, Below.refl _ _⟩
  · have HE := Lib.hid e
    clear e hu
    go_enter Tryd.func38, Tryd.ntmps38
    go_wp2_with fail
    refine RB.mono ?_
    rintro e w' ⟨rfl, rfl⟩
    go_wp2
    go_ret
    exact ⟨by rw [HE.out]; rfl, Below.refl _ _⟩
  · have HE := Lib.hid e
    clear e hu
    go_enter Tryd.func38, Tryd.ntmps38
    go_wp2_with fail
    refine RB.mono ?_
    rintro e w' ⟨rfl, rfl⟩
    go_wp2
    go_ret
    exact ⟨by rw [HE.out]; rfl, Below.refl _ _⟩
  · have HE := Lib.hid e
    clear e hu
    go_enter Tryd.func38, Tryd.ntmps38
    go_wp2_with fail
    refine RB.mono ?_
    rintro e w' ⟨rfl, rfl⟩
    go_wp2
    go_ret
    exact ⟨by rw [HE.out]; rfl, Below.refl _ _⟩
  · have HE := Lib.hid e
    obtain ⟨p1, p2, p3, p4, p5⟩ := hp
    have n1 : ((u : Int) == 9221120237041090561) = false := ne_int p1
    have n2 : ((u : Int) == 9218868437227405312) = false := ne_int p2
    have n3 : ((u : Int) == 18442240474082181120) = false := ne_int p3
    have n4 : ((u : Int) == 0) = false := ne_int p4
    have n5 : ((u : Int) == 9223372036854775808) = false := ne_int p5
    clear e hu p1 p2 p3 p4 p5
    go_enter Tryd.func38, Tryd.ntmps38
    go_wp2_with fail
    refine RB.mono ?_
    rintro e w' ⟨rfl, rfl⟩
    go_wp2_with fail
    refine (rpword_any u w').mono ?_
    rintro e w2 ⟨v2, rfl, o2, b2⟩
    have o2' : w2.ownsRow w'.heap.size 5 1 v2 8 (by8 (Vm.word u)) := o2
    obtain ⟨g2, k2, rfl, _, _, _⟩ := own_head o2' (by omega)
    have I2 := own_is o2' (Fm.word_bytes u)
    have RH := rhex_any (Vm.word u) (some ⟨g2, 0, none⟩) k2 w2 (by show 8 ≤ _; omega) I2
    clear o2 o2' I2 RB
    go_wp2_with fail
    refine RH.mono ?_
    rintro e w3 ⟨rfl, b3⟩
    have b4 := b2.trans (b3.mono b2.size)
    clear RH b2 b3
    go_wp2
    go_ret
    exact ⟨by rw [HE.out]; rfl, b4⟩

theorem Fm.txt_byte (u : Nat) : ∀ x ∈ Fm.txt u, x < 256 := by
  rcases Fm.txt_cases u with ⟨_, e⟩ | ⟨_, e⟩ | ⟨_, e⟩ | ⟨_, e⟩ | ⟨_, e⟩ | ⟨_, e⟩ <;> rw [e]
  · decide
  · decide
  · decide
  · decide
  · decide
  · exact Fm.hex_byte (Fm.word_bytes u)
theorem textL_strOf {l : List Nat} (h : ∀ x ∈ l, x < 256) : textL (strOf l) = l := by
  have := str_back h
  rw [ByteArray.toList_eq] at this
  exact this
theorem str_is {s : ByteArray} {c : List UInt8} : (s.toList == c) = decide (textL s = c.map UInt8.toNat) := by
  rw [Bool.eq_iff_iff, beq_iff_eq, decide_eq_true_iff, ByteArray.toList_eq]
  unfold textL
  refine ⟨fun h => by rw [h], fun h => ?_⟩
  have h2 := congrArg (List.map UInt8.ofNat) h
  simpa [List.map_map, Function.comp_def] using h2
theorem no_str {s : ByteArray} {c : List UInt8} {l : List Nat} (hc : c.map UInt8.toNat = l) (h : textL s ≠ l) : (s.toList == c) = false := by rw [str_is, hc]; simpa using h
theorem is_str {s : ByteArray} {c : List UInt8} {l : List Nat} (hc : c.map UInt8.toNat = l) (h : textL s = l) : (s.toList == c) = true := by rw [str_is, hc]; simpa using h
set_option maxRecDepth 100000 in
set_option maxHeartbeats 1000000 in
theorem rread_any (s : ByteArray) (w : World) (hl : s.size ≤ 1099511627776) : Calls Tryd.prog 37 #[.string s] w fun e w' => (∃ u ok, Fm.IsRead (textL s) u ok ∧ e = .returned (.tuple #[.float .f64 u, .bool ok])) ∧ Below w.heap.size w w' := by
  by_cases h0 : textL s = Fm.tNan
  · have HR : Hid (Fm.IsRead (textL s) 9221120237041090561 true) := .inl ⟨rfl, by unfold Fm.W; decide, by decide, by rw [h0]; rfl⟩
    have q0 : (s.toList == ([110, 97, 110] : List UInt8)) = true := is_str rfl h0
    have f3 : ∀ W, (callFunc 39 #[.int .u64 9221120237041090561]).run Tryd.prog W = .ok (.value (.float .f64 9221120237041090561)) W := fun W => ffrom W 9221120237041090561
    clear hl h0
    go_enter Tryd.func37, Tryd.ntmps37
    go_wp2
    go_ret2
    exact ⟨⟨_, _, HR.out, rfl⟩, Below.refl _ _⟩
  by_cases h1 : textL s = Fm.tPinf
  · have HR : Hid (Fm.IsRead (textL s) 9218868437227405312 true) := .inl ⟨rfl, by unfold Fm.W; decide, by decide, by rw [h1]; rfl⟩
    have q0 : (s.toList == ([110, 97, 110] : List UInt8)) = false := no_str rfl h0
    have q1 : (s.toList == ([43, 105, 110, 102] : List UInt8)) = true := is_str rfl h1
    clear hl h0 h1
    go_enter Tryd.func37, Tryd.ntmps37
    go_wp2_with fail
    refine (inf_plus w).mono ?_
    rintro e w' ⟨rfl, rfl⟩
    go_wp2
    go_ret2
    exact ⟨⟨_, _, HR.out, rfl⟩, Below.refl _ _⟩
  by_cases h2 : textL s = Fm.tMinf
  · have HR : Hid (Fm.IsRead (textL s) 18442240474082181120 true) := .inl ⟨rfl, by unfold Fm.W; decide, by decide, by rw [h2]; rfl⟩
    have q0 : (s.toList == ([110, 97, 110] : List UInt8)) = false := no_str rfl h0
    have q1 : (s.toList == ([43, 105, 110, 102] : List UInt8)) = false := no_str rfl h1
    have q2 : (s.toList == ([45, 105, 110, 102] : List UInt8)) = true := is_str rfl h2
    clear hl h0 h1 h2
    go_enter Tryd.func37, Tryd.ntmps37
    go_wp2_with fail
    refine (inf_minus w).mono ?_
    rintro e w' ⟨rfl, rfl⟩
    go_wp2
    go_ret2
    exact ⟨⟨_, _, HR.out, rfl⟩, Below.refl _ _⟩
  by_cases h3 : textL s = Fm.tPz
  · have HR : Hid (Fm.IsRead (textL s) 0 true) := .inl ⟨rfl, by unfold Fm.W; decide, by decide, by rw [h3]; rfl⟩
    have q0 : (s.toList == ([110, 97, 110] : List UInt8)) = false := no_str rfl h0
    have q1 : (s.toList == ([43, 105, 110, 102] : List UInt8)) = false := no_str rfl h1
    have q2 : (s.toList == ([45, 105, 110, 102] : List UInt8)) = false := no_str rfl h2
    have q3 : (s.toList == ([43, 48] : List UInt8)) = true := is_str rfl h3
    clear hl h0 h1 h2 h3
    go_enter Tryd.func37, Tryd.ntmps37
    go_wp2
    go_ret2
    exact ⟨⟨_, _, HR.out, rfl⟩, Below.refl _ _⟩
  by_cases h4 : textL s = Fm.tMz
  · have HR : Hid (Fm.IsRead (textL s) 9223372036854775808 true) := .inl ⟨rfl, by unfold Fm.W; decide, by decide, by rw [h4]; rfl⟩
    have q0 : (s.toList == ([110, 97, 110] : List UInt8)) = false := no_str rfl h0
    have q1 : (s.toList == ([43, 105, 110, 102] : List UInt8)) = false := no_str rfl h1
    have q2 : (s.toList == ([45, 105, 110, 102] : List UInt8)) = false := no_str rfl h2
    have q3 : (s.toList == ([43, 48] : List UInt8)) = false := no_str rfl h3
    have q4 : (s.toList == ([45, 48] : List UInt8)) = true := is_str rfl h4
    clear hl h0 h1 h2 h3 h4
    go_enter Tryd.func37, Tryd.ntmps37
    go_wp2_with fail
    refine (copysign_minus w).mono ?_
    rintro e w' ⟨rfl, rfl⟩
    go_wp2
    go_ret2
    exact ⟨⟨_, _, HR.out, rfl⟩, Below.refl _ _⟩
  have q0 : (s.toList == ([110, 97, 110] : List UInt8)) = false := no_str rfl h0
  have q1 : (s.toList == ([43, 105, 110, 102] : List UInt8)) = false := no_str rfl h1
  have q2 : (s.toList == ([45, 105, 110, 102] : List UInt8)) = false := no_str rfl h2
  have q3 : (s.toList == ([43, 48] : List UInt8)) = false := no_str rfl h3
  have q4 : (s.toList == ([45, 48] : List UInt8)) = false := no_str rfl h4
  have HNO := Lib.hid (Fm.read_none h0 h1 h2 h3 h4)
  clear h0 h1 h2 h3 h4
  go_enter Tryd.func37, Tryd.ntmps37
  go_wp2_with fail
  refine (runhex_any s w hl).mono ?_
  rintro e w1 ⟨b1, hr⟩
  rcases hr with ⟨hu, rfl⟩ | ⟨v, b, hu, rfl, o1⟩
  · have HR : Hid (Fm.IsRead (textL s) 0 false) := .inr ⟨rfl, rfl, HNO.out (fun b hb => by rw [hu] at hb; cases hb)⟩
    clear HNO hu
    go_wp2
    go_ret2
    exact ⟨⟨_, _, HR.out, rfl⟩, b1⟩
  · obtain ⟨A1, c1, rfl, hc1⟩ := own_form o1
    by_cases h8 : b.length = 8
    · have hby := (Fm.hex_unhex hu).2.1
      have hhx := (Fm.hex_unhex hu).1
      have I1 := own_is o1 hby
      have GW := rgword_any b A1 c1 w1 (by unfold maxLen; omega) I1
      have hw8 : wordRes b = .tuple #[.int .u64 ((Vm.be b : Nat) : Int), .bool true] := by
        rw [wordRes, if_neg (by omega), List.take_of_length_le (by omega)]
      rw [hw8] at GW
      obtain ⟨hwb, hW⟩ := Fm.word_be h8 hby
      have hHv : ∀ v, Fm.W v → Vm.word v = b → v = Vm.be b := fun v hv e => by rw [← e, Vm.be_word v hv]
      have hun : ∀ b', Fm.unhex (textL s) = some b' → b' = b := fun b' hb => by rw [hu] at hb; exact (Option.some.inj hb).symm
      have H1 : Hid (Fm.has (Vm.be b) = false → Fm.IsRead (textL s) 0 false) := fun hh => .inr ⟨rfl, rfl, HNO.out (fun b' hb _ v hv hv2 _ e => by
        rw [hun b' hb] at e
        rw [hHv v hv e, hh] at hv2; cases hv2)⟩
      have H2 : Hid (Fm.has (Vm.be b) = true → textL s = Fm.txt (Vm.be b) → Fm.IsRead (textL s) (Vm.be b) true) := fun hh e => .inl ⟨rfl, hW, hh, e.symm⟩
      have H3 : Hid (Fm.has (Vm.be b) = true → textL s ≠ Fm.txt (Vm.be b) → Fm.IsRead (textL s) 0 false) := fun hh ne => .inr ⟨rfl, rfl, HNO.out (fun b' hb _ v hv hv2 pl e => by
        rw [hun b' hb] at e
        have e2 := hHv v hv e
        have e3 := Fm.txt_plain pl
        rw [e, hhx, e2] at e3
        exact ne e3.symm)⟩
      clear HNO hu hun hHv hwb hby hhx I1 hw8 o1
      rw [h8]
      rw [h8] at GW
      generalize Vm.be b = u at *
      have RF := rfrom_any u
      cases hh : Fm.has u
      · have HR := Lib.hid (H1.out hh)
        rw [hh] at RF
        have HRF := Lib.hid RF
        clear H1 H2 H3 hh RF
        go_wp2_with fail
        refine GW.mono ?_
        rintro e w2 ⟨rfl, rfl⟩
        go_wp2_with fail
        refine (HRF.out _).mono ?_
        rintro e w3 ⟨rfl, rfl⟩
        go_wp2
        go_ret2
        exact ⟨⟨_, _, HR.out, rfl⟩, b1⟩
      · rw [hh] at RF
        have ho : Fm.ofw u = u := by rw [Fm.ofw, hh]; rfl
        rw [ho] at RF
        have HRF := Lib.hid RF
        have RT := rtext_any u hW
        rw [Fm.bits_has hh] at RT
        have HRT := Lib.hid RT
        clear RF RT H1
        by_cases ht : textL s = Fm.txt u
        · have HR := Lib.hid (H2.out hh ht)
          have hst : ((strOf (Fm.txt u)).toList == s.toList) = true := by
            rw [← ht, strOf_text]; simp
          clear H2 H3 hh ho ht
          generalize strOf (Fm.txt u) = st at *
          go_wp2_with fail
          refine GW.mono ?_
          rintro e w2 ⟨rfl, rfl⟩
          go_wp2_with fail
          refine (HRF.out _).mono ?_
          rintro e w3 ⟨rfl, rfl⟩
          go_wp2_with fail
          refine (HRT.out _).mono ?_
          rintro e w4 ⟨rfl, b4⟩
          have b5 := b1.trans (b4.mono b1.size)
          clear b4 b1
          go_wp2
          go_ret2
          exact ⟨⟨_, _, HR.out, rfl⟩, b5⟩
        · have HR := Lib.hid (H3.out hh ht)
          have hst : ((strOf (Fm.txt u)).toList == s.toList) = false := by
            rw [beq_eq_false_iff_ne]
            intro e
            apply ht
            have e2 : strOf (Fm.txt u) = s := by
              rw [ByteArray.toList_eq, ByteArray.toList_eq] at e
              exact WideShapes.bytes_inj e
            rw [← e2]
            exact textL_strOf (Fm.txt_byte u)
          clear H2 H3 hh ho ht
          generalize strOf (Fm.txt u) = st at *
          go_wp2_with fail
          refine GW.mono ?_
          rintro e w2 ⟨rfl, rfl⟩
          go_wp2_with fail
          refine (HRF.out _).mono ?_
          rintro e w3 ⟨rfl, rfl⟩
          go_wp2_with fail
          refine (HRT.out _).mono ?_
          rintro e w4 ⟨rfl, b4⟩
          have b5 := b1.trans (b4.mono b1.size)
          clear b4 b1
          go_wp2
          go_ret2
          exact ⟨⟨_, _, HR.out, rfl⟩, b5⟩
    · have HR : Hid (Fm.IsRead (textL s) 0 false) := .inr ⟨rfl, rfl, HNO.out (fun b' hb h8' => by rw [hu] at hb; injection hb with hb; subst hb; exact absurd h8' h8)⟩
      clear HNO hu o1
      generalize b.length = n at *
      have n8 : ((n : Int) != 8) = true := by simp; omega
      go_wp2
      go_ret2
      exact ⟨⟨_, _, HR.out, rfl⟩, b1⟩
end Go.Proofs.YtmdpeifpgnkbiaaDoor
