/-
  The walk of the law VintBack: for any number, any text, any bytes behind and any cut it returns true and leaves what was there. Conditions: the number and the cut fit 64 bits (as every argument does).
-/
import Derived.Test.YtlpmkgmnmbagnaaVa
namespace Go.Proofs.Ytlpmkgmnmbagnaa
open Go.RowKit

theorem wordRes_back {n : Nat} (h : Vm.Fits n) (r : List Nat) : wordRes (Vm.word n ++ r) = .tuple #[.int .u64 (n : Int), .bool true] := by
  rw [wordRes, if_neg (by simp [Vm.word_length]), Vm.word_back h]
theorem app_byte {a b : List Nat} (ha : ∀ x ∈ a, x < 256) (hb : ∀ x ∈ b, x < 256) : ∀ x ∈ a ++ b, x < 256 := fun x hx => by
  rcases List.mem_append.1 hx with h | h
  · exact ha x h
  · exact hb x h

set_option maxRecDepth 100000 in
set_option maxHeartbeats 2000000 in
theorem back_any (n : Nat) (s : ByteArray) (t : List Nat) (a : Option Addr) (cap : Nat) (cut : Int) (w : World) (hn : Vm.Fits n) (hs : s.size ≤ maxLen) (_hcap : t.length ≤ cap) (hl : t.length ≤ maxLen) (hnil : a = none → cap = 0) (hb : IsBytes w a t) :
    Calls Try.prog 6 #[.int .u64 (n : Int), .string s, .slice a t.length cap, .int .i64 cut] w fun e w' => e = .returned (.bool true) ∧ Below w.heap.size w w' := by
  have Hcap := Lib.hid hnil
  have HB := Lib.hid hb
  clear hnil hb
  by_cases h : 400 < s.size
  · have HL := Lib.hid hs
    have HL2 := Lib.hid hl
    clear hs hl
    go_enter Try.func6, Try.ntmps6
    go_wp2_with fail
    refine (runs_any _).mono ?_
    rintro e w3 ⟨rfl, hb3⟩
    go_wp2
    go_ret
    exact ⟨rfl, hb3⟩
  by_cases h' : 400 < t.length
  · have HL := Lib.hid hs
    have HL2 := Lib.hid hl
    clear hs hl
    go_enter Try.func6, Try.ntmps6
    go_wp2_with fail
    refine (runs_any _).mono ?_
    rintro e w3 ⟨rfl, hb3⟩
    go_wp2
    go_ret
    exact ⟨rfl, hb3⟩
  clear hs hl
  have hs : s.size ≤ 140737488351232 := by omega
  have Ft : Vm.Fits (textL s).length := by rw [textL_length]; exact fits_size hs
  have Bt := mem_of_getD HB.out.1
  have Bb := Lib.hid (app_byte (Vm.put_byte hn) Bt)
  have Bc := Lib.hid (app_byte (putText_byte hs) Bt)
  have Bd := Lib.hid (app_byte (Vm.word_byte n) Bt)
  have P1 := Lib.hid (Vm.put_byte hn)
  have P2 := Lib.hid (putText_byte hs)
  have HD := Lib.hid (Vm.dec_put hn t)
  have HT : Hid (Vm.getText (putText s ++ t) (s.size : Int) = some (textL s, (putText s).length)) := by
    have := Vm.text_back Ft t; rw [textL_length] at this; exact this
  have HT2 : Hid (Vm.getText (putText s ++ t) ((s.size : Int) - 1) = none) := by
    have := Vm.text_less Ft t; rw [textL_length] at this; exact this
  have HW := Lib.hid (wordRes_back hn t)
  have HE : Hid (∀ k, k < (Vm.put n).length → Vm.dec ((Vm.put n).take k) = none) := fun k hk => Vm.dec_take hk
  have HF : Hid (∀ k, k < (putText s).length → Vm.getText ((putText s).take k) (s.size : Int) = none) := fun k hk => by
    have := Vm.text_take Ft (k := k) (by rw [textL_length]; exact hk) (s.size : Int); rw [textL_length] at this; exact this
  have lb1 : 1 ≤ (Vm.put n).length := Vm.putF_pos _ _
  have lb2 := put_len n
  have lc1 : 1 ≤ (putText s).length := by have := Vm.putF_pos 9 s.size; rw [putText, List.length_append]; unfold Vm.put; omega
  have lc2 : (putText s).length ≤ 410 := by have := put_len s.size; rw [putText, List.length_append, textL_length]; omega
  clear Ft Bt
  go_enter Try.func6, Try.ntmps6
  go_wp2_with fail
  refine (put_any n _ hn).mono ?_
  rintro e w1 ⟨v1, rfl, o1, hb1⟩
  go_wp2_with fail
  refine (ptext_any s _ hs).mono ?_
  rintro e w2 ⟨v2, rfl, o2, hb2⟩
  go_wp2_with fail
  refine (pword_any n _).mono ?_
  rintro e w3 ⟨v3, rfl, o3, hb3⟩
  have hb23 := hb2.trans (hb3.mono hb2.size)
  have hbb := hb1.trans (hb23.mono hb1.size)
  replace o1 := own_keep o1 hb23
  replace o2 := own_keep o2 hb3
  obtain ⟨g1, k1, rfl, q1, _, _⟩ := own_head o1 lb1
  obtain ⟨g2, k2, rfl, q2, _, _⟩ := own_head o2 lc1
  obtain ⟨g3, k3, rfl, q3, _, _⟩ := own_head o3 (by rw [Vm.word_length]; omega)
  have Ib := own_is o1 P1.out
  have Ic := own_is o2 P2.out
  have Id := own_is o3 (Vm.word_byte n)
  have It := isBytes_below HB.out hbb
  clear o1 o2 o3 hb1 hb2 hb3 hb23
  have Hd : Hid ((Vm.word n).length = 8) := Vm.word_length n
  rw [Vm.word_length] at q3 ⊢
  generalize hL1 : (Vm.put n).length = L1 at *
  generalize hL2 : (putText s).length = L2 at *
  generalize hLt : t.length = Lt at *
  have Hb := Lib.hid hL1
  have Hc := Lib.hid hL2
  have HLt := Lib.hid hLt
  clear hL1 hL2 hLt
  have z1 : (1 : Int) ≤ (L1 : Int) := by omega
  have z2 : (1 : Int) ≤ (L2 : Int) := by omega
  go_wp2_with (at_builtin; refine wpList_app _ rfl _ _ rfl w3.heap.size (.slice none 0 0) [] (Vm.put n) 0 _ rfl Hb.out rfl (World.ownsRow_nil _ _ _ _) _ _ rfl (fun h => by cases h) Ib (by omega) (Nat.le_refl _) ?_)
  intro va1 wa1 oa1 ga1
  have ba1 : Below w3.heap.size w3 wa1 := (Below.refl _ _).grown ga1 (Nat.le_refl _) (fun k h => by cases h)
  have Ja1 := isBytes_below It ba1
  go_wp2_with (at_builtin; refine wpList_app _ rfl _ _ rfl w3.heap.size va1 (Vm.put n) t _ _ Hb.out HLt.out rfl oa1 _ _ rfl Hcap.out Ja1 (by omega) ba1.size ?_)
  intro vb1 wb1 ob1 gb1
  have bb1 := ba1.grown gb1 ba1.size (own_ge oa1)
  obtain ⟨A1, c1, rfl, hc1⟩ := own_form ob1
  have is1 := own_is ob1 Bb.out
  go_wp2_with fail
  refine (get_at (Vm.put n ++ t) _ (by rw [List.length_append, Hb.out, HLt.out]) _ _ _ (by unfold maxLen; omega) is1).mono ?_
  rw [HD.out]
  rintro e w' ⟨rfl, rfl⟩
  simp only [getRes]
  replace Ib := isBytes_below Ib bb1
  replace Ic := isBytes_below Ic bb1
  replace Id := isBytes_below Id bb1
  replace It := isBytes_below It bb1
  replace hbb := hbb.trans (bb1.mono hbb.size)
  clear oa1 ga1 ba1 Ja1 ob1 gb1 is1 bb1 hc1
  go_wp2_with (at_builtin; refine wpList_app _ rfl _ _ rfl wb1.heap.size (.slice none 0 0) [] (putText s) 0 _ rfl Hc.out rfl (World.ownsRow_nil _ _ _ _) _ _ rfl (fun h => by cases h) Ic (by omega) (Nat.le_refl _) ?_)
  intro va2 wa2 oa2 ga2
  have ba2 : Below wb1.heap.size wb1 wa2 := (Below.refl _ _).grown ga2 (Nat.le_refl _) (fun k h => by cases h)
  have Ja2 := isBytes_below It ba2
  go_wp2_with (at_builtin; refine wpList_app _ rfl _ _ rfl wb1.heap.size va2 (putText s) t _ _ Hc.out HLt.out rfl oa2 _ _ rfl Hcap.out Ja2 (by omega) ba2.size ?_)
  intro vb2 wb2 ob2 gb2
  have bb2 := ba2.grown gb2 ba2.size (own_ge oa2)
  obtain ⟨A2, c2, rfl, hc2⟩ := own_form ob2
  have is2 := own_is ob2 Bc.out
  go_wp2_with fail
  refine (gtext_at (putText s ++ t) _ (by rw [List.length_append, Hc.out, HLt.out]) _ _ _ _ (by omega) hc2 (by omega) is2).mono ?_
  rw [HT.out]
  rintro e w' ⟨rfl, rfl⟩
  simp only [textRes, strOf_text]
  replace Ib := isBytes_below Ib bb2
  replace Ic := isBytes_below Ic bb2
  replace Id := isBytes_below Id bb2
  replace It := isBytes_below It bb2
  replace hbb := hbb.trans (bb2.mono hbb.size)
  clear oa2 ga2 ba2 Ja2 ob2 gb2 is2 bb2 hc2
  go_wp2_with (at_builtin; refine wpList_app _ rfl _ _ rfl wb2.heap.size (.slice none 0 0) [] (Vm.word n) 0 _ rfl Hd.out rfl (World.ownsRow_nil _ _ _ _) _ _ rfl (fun h => by cases h) Id (by omega) (Nat.le_refl _) ?_)
  intro va3 wa3 oa3 ga3
  have ba3 : Below wb2.heap.size wb2 wa3 := (Below.refl _ _).grown ga3 (Nat.le_refl _) (fun k h => by cases h)
  have Ja3 := isBytes_below It ba3
  go_wp2_with (at_builtin; refine wpList_app _ rfl _ _ rfl wb2.heap.size va3 (Vm.word n) t _ _ Hd.out HLt.out rfl oa3 _ _ rfl Hcap.out Ja3 (by omega) ba3.size ?_)
  intro vb3 wb3 ob3 gb3
  have bb3 := ba3.grown gb3 ba3.size (own_ge oa3)
  obtain ⟨A3, c3, rfl, hc3⟩ := own_form ob3
  have is3 := own_is ob3 Bd.out
  go_wp2_with fail
  refine (gword_at (Vm.word n ++ t) _ (by rw [List.length_append, Hd.out, HLt.out]) _ _ _ (by unfold maxLen; omega) hc3 is3).mono ?_
  rw [HW.out]
  rintro e w' ⟨rfl, rfl⟩
  replace Ib := isBytes_below Ib bb3
  replace Ic := isBytes_below Ic bb3
  replace Id := isBytes_below Id bb3
  replace It := isBytes_below It bb3
  replace hbb := hbb.trans (bb3.mono hbb.size)
  clear oa3 ga3 ba3 Ja3 ob3 gb3 is3 bb3 hc3
  go_wp2_with (at_builtin; refine wpList_app _ rfl _ _ rfl wb3.heap.size (.slice none 0 0) [] (putText s) 0 _ rfl Hc.out rfl (World.ownsRow_nil _ _ _ _) _ _ rfl (fun h => by cases h) Ic (by omega) (Nat.le_refl _) ?_)
  intro va4 wa4 oa4 ga4
  have ba4 : Below wb3.heap.size wb3 wa4 := (Below.refl _ _).grown ga4 (Nat.le_refl _) (fun k h => by cases h)
  have Ja4 := isBytes_below It ba4
  go_wp2_with (at_builtin; refine wpList_app _ rfl _ _ rfl wb3.heap.size va4 (putText s) t _ _ Hc.out HLt.out rfl oa4 _ _ rfl Hcap.out Ja4 (by omega) ba4.size ?_)
  intro vb4 wb4 ob4 gb4
  have bb4 := ba4.grown gb4 ba4.size (own_ge oa4)
  obtain ⟨A4, c4, rfl, hc4⟩ := own_form ob4
  have is4 := own_is ob4 Bc.out
  go_wp2_with fail
  refine (gtext_at (putText s ++ t) _ (by rw [List.length_append, Hc.out, HLt.out]) _ _ _ _ (by omega) hc4 (by omega) is4).mono ?_
  rw [HT2.out]
  rintro e w' ⟨rfl, rfl⟩
  simp only [textRes]
  replace Ib := isBytes_below Ib bb4
  replace Ic := isBytes_below Ic bb4
  replace Id := isBytes_below Id bb4
  replace It := isBytes_below It bb4
  replace hbb := hbb.trans (bb4.mono hbb.size)
  clear oa4 ga4 ba4 Ja4 ob4 gb4 is4 bb4 hc4
  by_cases hcut : cut < 0
  · go_wp2_with fail
    refine (get_at ((Vm.put n).take 0) 0 (by simp) _ _ _ (by unfold maxLen; omega) (isBytes_take Ib 0)).mono ?_
    rw [HE.out 0 (by omega)]
    rintro e w' ⟨rfl, rfl⟩
    simp only [getRes]
    go_wp2_with fail
    refine (gtext_at ((putText s).take 0) 0 (by simp) _ _ _ _ (by omega) (by omega) (by omega) (isBytes_take Ic 0)).mono ?_
    rw [HF.out 0 (by omega)]
    rintro e w' ⟨rfl, rfl⟩
    simp only [textRes]
    go_wp2_with fail
    refine (runs_any _).mono ?_
    rintro e w9 ⟨rfl, hb9⟩
    have hfin := hbb.trans (hb9.mono hbb.size)
    go_wp2
    go_ret
    exact ⟨rfl, hfin⟩
  · obtain ⟨c, rfl⟩ := Int.eq_ofNat_of_zero_le (show 0 ≤ cut by omega)
    have em1 : ((c : Int) % (L1 : Int)) = ((c % L1 : Nat) : Int) := rfl
    have em2 : ((c : Int) % (L2 : Int)) = ((c % L2 : Nat) : Int) := rfl
    have rl1 := Nat.mod_lt c (show 0 < L1 by omega)
    have rl2 := Nat.mod_lt c (show 0 < L2 by omega)
    generalize c % L1 = r1 at em1 rl1
    generalize c % L2 = r2 at em2 rl2
    have y1 : (r1 : Int) ≤ (k1 : Int) := by omega
    have y2 : (r2 : Int) ≤ (k2 : Int) := by omega
    go_wp2_with fail
    refine (get_at ((Vm.put n).take r1) r1 (by rw [List.length_take, Hb.out]; omega) _ _ _ (by unfold maxLen; omega) (isBytes_take Ib r1)).mono ?_
    rw [HE.out r1 rl1]
    rintro e w' ⟨rfl, rfl⟩
    simp only [getRes]
    go_wp2_with fail
    refine (gtext_at ((putText s).take r2) r2 (by rw [List.length_take, Hc.out]; omega) _ _ _ _ (by omega) (by omega) (by omega) (isBytes_take Ic r2)).mono ?_
    rw [HF.out r2 rl2]
    rintro e w' ⟨rfl, rfl⟩
    simp only [textRes]
    go_wp2_with fail
    refine (runs_any _).mono ?_
    rintro e w9 ⟨rfl, hb9⟩
    have hfin := hbb.trans (hb9.mono hbb.size)
    go_wp2
    go_ret
    exact ⟨rfl, hfin⟩

end Go.Proofs.Ytlpmkgmnmbagnaa
