/-
  MatchBack as a contract: a list's bytes are read as it was, whatever stands behind; cut off they are none. Conditions: the slices are as a machine has them; the library's table lies in its variable (DTab).
-/
import Derived.Test.YtjmojjjgifkkiaaDoorYt
import Derived.Test.YtjmojjjgifkkiaaDoorYm
namespace Go.Proofs.YtjmojjjgifkkiaaDoor
open Go.RowKit Go.Sort

set_option maxRecDepth 100000 in
theorem bcut_lo8 (W : World) (b off n cap m : Nat) (hm : m ≤ cap) : (Instr.slice 38 (.slice (some ⟨b, off, none⟩) n cap) none (some (.int .i64 (m : Int))) none).run Tryd.prog W = .ok (.slice (some ⟨b, off, none⟩) m cap) W := by
  obtain ⟨i0, hi, hz0, hz1, hz2⟩ := info_parts Tryd.info5
  simp [Instr.slice, Instr.sliceBounds, Instr.sliceBound, run_underlying Tryd.underlying38, asIntOf, sizeOf, typeInfo, hi, go_sem]
  intro h; omega
theorem made_form8 {w : World} {l : List Nat} {e : Ending} {w' : World} (h : MadeBytes w l e w') (hb : ∀ x ∈ l, x < 256) (hp : 0 < l.length) : ∃ b off c, e = .returned (.slice (some ⟨b, off, none⟩) l.length c) ∧ l.length ≤ c ∧ IsBytes w' (some ⟨b, off, none⟩) l ∧ Below w.heap.size w w' := by
  obtain ⟨v, rfl, ho, b⟩ := h
  obtain ⟨A, c, rfl, hc⟩ := own_form ho
  have hi := own_is ho hb
  obtain ⟨b', off, rfl, _⟩ := hi.2 hp
  exact ⟨b', off, c, rfl, hc, hi, b⟩

set_option maxRecDepth 100000 in
set_option maxHeartbeats 4000000 in
theorem back8_law (ds : List (Int × Int × Int)) (T : List Nat) (z : Int) (A B : Option Addr) (N cap N2 cb : Nat) (w : World) (hN : ds.length = N) (hl : N ≤ maxLen) (ha : IsDraws w A ds) (hN2 : T.length = N2) (hB : B = none → cb = 0) (hb : IsBytes w B T) (hT : DTab w) :
    Calls Tryd.prog 8 #[.slice A N cap, .slice B N2 cb, .int .i64 z] w fun e w' => e = .returned (.bool true) ∧ Below w.heap.size w w' := by
  have RN := Lib.hid (fun W (hW : Below w.heap.size w W) => runs8_any W (hT.below hW))
  have C1 := Lib.hid (mats_any ds A N cap w hN hl ha)
  have HTB := Lib.hid (fun W (hW : Below w.heap.size w W) => isBytes_below hb hW)
  have HT2 := Lib.hid hb.1
  have HN2 := Lib.hid hN2
  have HB := Lib.hid hB
  clear hT hN hl ha hb hN2 hB
  by_cases h3 : 300 < N2
  · have h3d : decide ((N2 : Int) > 300) = true := decide_eq_true (by omega)
    have R1 := Lib.hid (RN.out w (Below.refl _ _))
    clear C1 HTB RN
    go_enter Tryd.func8, Tryd.ntmps8
    go_wp2_with fail
    refine R1.out.mono ?_
    rintro e w' ⟨rfl, b⟩
    have B := Lib.hid b
    clear b R1
    go_wp2
    go_ret
    exact ⟨rfl, B.out⟩
  have h3d : decide ((N2 : Int) > 300) = false := decide_eq_false (by omega)
  go_enter Tryd.func8, Tryd.ntmps8
  go_wp2_with fail
  refine C1.out.mono ?_
  rintro e w1 ⟨⟨l, v, hg, hl5, rfl, ho⟩, b1⟩
  obtain ⟨A3, c3, rfl, hc3, hn3, i3, _⟩ := own_formM ho
  have hil := hg.list hl5
  obtain ⟨n, hn⟩ : ∃ n, l.length = n := ⟨_, rfl⟩
  have hmb : matsBytes l = matsTo l l.length := by rw [matsBytes, hil, if_pos rfl]
  have hlen := matsTo_len (l := l) (m := 40) (fun x hx => by have := (hg.ok x hx).2.2; omega) l.length (Nat.le_refl _)
  obtain ⟨L, hL⟩ : ∃ L, matsTo l l.length = L := ⟨_, rfl⟩
  rw [hL] at hlen hmb
  obtain ⟨K, hK⟩ : ∃ K, L.length = K := ⟨_, rfl⟩
  have hKp : 0 < K := by
    rw [← hK, ← hL, matsTo, List.length_append]
    have := Vm.putF_pos 9 l.length
    unfold Vm.put
    omega
  have hK2 : K ≤ 1000 := by
    rw [hK] at hlen
    have : l.length * (21 + 2 * 40) ≤ 5 * 101 := Nat.mul_le_mul hl5 (Nat.le_refl _)
    omega
  have LB : Hid (∀ x ∈ L, x < 256) := by rw [← hL]; exact mats_byte hil
  have BACK : Hid (∀ r, readMats (L ++ r) = some (l, K)) := fun r => by rw [← hK, ← hL]; exact mats_back hil r
  have CUT : Hid (∀ c, c < K → readMats (L.take c) = none) := fun c hc => by rw [← hL]; rw [← hK, ← hL] at hc; exact mats_cut hil hc
  have C2 := Lib.hid (mbytes_any l A3 n c3 w1 hn (by omega) hg.small i3)
  rw [hmb] at C2
  have HK := Lib.hid hK
  have HL := Lib.hid hn
  have I3 := Lib.hid i3
  have B1 := Lib.hid b1
  rw [hn] at hl5 hc3 ⊢
  clear C1 ho i3 hil hmb hlen hL hK hn hg b1 hn3
  go_wp2_with fail
  refine C2.out.mono ?_
  rintro e w2 h2
  obtain ⟨b, off, c4, rfl, hc4, i4, b2⟩ := made_form8 h2 LB.out (by rw [HK.out]; exact hKp)
  rw [HK.out] at hc4 ⊢
  have B2 := Lib.hid (B1.out.trans (b2.mono B1.out.size))
  have I4 := Lib.hid i4
  have I3' := Lib.hid (I3.out.below b2)
  clear C2 h2 i4 b2 I3 B1
  go_wp2_with (at_builtin; refine wpList_app _ rfl _ _ rfl w2.heap.size (.slice none 0 0) [] L 0 K rfl HK.out rfl (World.ownsRow_nil _ _ _ _) (some ⟨b, off, none⟩) c4 rfl (fun e => by cases e) I4.out (by omega) (Nat.le_refl _) ?_)
  intro v5 w5 o5 g5
  have b5 : Below w2.heap.size w2 w5 := (Below.refl _ _).grown g5 (Nat.le_refl _) (fun _ h => by cases h)
  have O5 : Hid (w5.ownsRow w2.heap.size 5 1 v5 K (by8 L)) := by show World.ownsRow _ _ _ _ _ _ _; simpa using o5
  have B5 := Lib.hid b5
  have T5 := Lib.hid (HTB.out w5 (B2.out.trans (b5.mono B2.out.size)))
  clear o5 g5 b5
  go_wp2_with (at_builtin; refine wpList_app _ rfl _ _ rfl w2.heap.size v5 L T K N2 HK.out HN2.out rfl O5.out B cb rfl HB.out T5.out (by omega) B5.out.size ?_)
  intro v6 w6 o6 g6
  have b6 := B5.out.grown g6 B5.out.size (own_geL O5.out)
  have hbyte : ∀ x ∈ L ++ T, x < 256 := fun x hx => by
    rcases List.mem_append.1 hx with hx | hx
    · exact LB.out x hx
    · exact mem_of_getD HT2.out x hx
  obtain ⟨A6, c6, rfl, hc6⟩ := own_form o6
  have R6 := Lib.hid (mread_any (L ++ T) A6 (K + N2) c6 w6 (by rw [List.length_append, HK.out, HN2.out]) (by omega) hc6 (own_is o6 hbyte))
  rw [BACK.out T] at R6
  have B6 := Lib.hid b6
  clear O5 B5 T5 o6 g6 b6 hbyte BACK HTB HT2 HN2 HB hc6
  go_wp2_with fail
  refine R6.out.mono ?_
  rintro e w7 ⟨⟨r, u, rfl, q⟩, b7⟩
  obtain ⟨A7, c7, rfl, i7⟩ := resM_form q
  have B7 := Lib.hid (B6.out.trans (b7.mono B6.out.size))
  have SL := Lib.hid (samemats_any l l A7 A3 n n c7 c3 w7 HL.out HL.out (by omega) (by omega) i7 (I3'.out.below B7.out))
  have dt : decide (l = l) = true := by simp
  rw [dt] at SL
  have e1 : Hid ((resM (some (l, K))).1.length = n) := HL.out
  have e2 : Hid ((resM (some (l, K))).2.1 = K) := rfl
  have e3 : Hid ((resM (some (l, K))).2.2 = true) := rfl
  rw [e1.out, e2.out, e3.out]
  have hK1 : decide ((K : Int) < 1) = false := decide_eq_false (by omega)
  have hK3 : ((K : Int) != (K : Int)) = false := by simp
  clear R6 q b7 i7 dt e1 e2 e3 B6 I3'
  go_wp2_with fail
  refine SL.out.mono ?_
  rintro e w8 ⟨rfl, b8⟩
  have B8 := Lib.hid (B7.out.trans (b8.mono B7.out.size))
  have I8 := Lib.hid (isBytes_below I4.out B8.out)
  clear SL b8 B7 I4
  obtain ⟨m, hm, hmz⟩ : ∃ m : Nat, m < K ∧ ((if z < 0 then 0 else z) : Int).tmod (K : Int) = (m : Int) := by
    by_cases hz : z < 0
    · exact ⟨0, hKp, by rw [if_pos hz]; simp⟩
    · refine ⟨z.toNat % K, Nat.mod_lt _ hKp, ?_⟩
      rw [if_neg hz, Int.tmod_eq_emod_of_nonneg (by omega)]
      have : z = (z.toNat : Int) := by omega
      rw [this]; simp
  have CT := fun W => bcut_lo8 W b off K c4 m (by omega)
  have R9 := Lib.hid (mread_any (L.take m) (some ⟨b, off, none⟩) m c4 w8 (by rw [List.length_take, HK.out]; omega) (by omega) (by omega) (isBytes_take I8.out m))
  rw [CUT.out m hm] at R9
  have kz : ((K : Int) == 0) = false := by simp; omega
  have R10 := Lib.hid (fun W (hW : Below w8.heap.size w8 W) => RN.out W (B2.out.trans ((B8.out.trans (hW.mono B8.out.size)).mono B2.out.size)))
  clear I8 CUT LB RN
  by_cases hz : z < 0
  · have hz1 : decide (z < 0) = true := decide_eq_true hz
    rw [if_pos hz] at hmz
    go_wp2_with fail
    refine R9.out.mono ?_
    rintro e w9 ⟨⟨r, u, rfl, q⟩, b9⟩
    obtain rfl : r = .tuple #[.slice none 0 0, .int .i64 0, .bool false] := q
    have B9 := Lib.hid b9
    clear R9 b9
    go_wp2_with fail
    refine (R10.out _ B9.out).mono ?_
    rintro e w10 ⟨rfl, b10⟩
    have BF := Lib.hid (B2.out.trans ((B8.out.trans ((B9.out.trans (b10.mono B9.out.size)).mono B8.out.size)).mono B2.out.size))
    clear b10
    go_wp2
    go_ret
    exact ⟨rfl, BF.out⟩
  · have hz1 : decide (z < 0) = false := decide_eq_false hz
    rw [if_neg hz] at hmz
    go_wp2_with fail
    refine R9.out.mono ?_
    rintro e w9 ⟨⟨r, u, rfl, q⟩, b9⟩
    obtain rfl : r = .tuple #[.slice none 0 0, .int .i64 0, .bool false] := q
    have B9 := Lib.hid b9
    clear R9 b9
    go_wp2_with fail
    refine (R10.out _ B9.out).mono ?_
    rintro e w10 ⟨rfl, b10⟩
    have BF := Lib.hid (B2.out.trans ((B8.out.trans ((B9.out.trans (b10.mono B9.out.size)).mono B8.out.size)).mono B2.out.size))
    clear b10
    go_wp2
    go_ret
    exact ⟨rfl, BF.out⟩
end Go.Proofs.YtjmojjjgifkkiaaDoor
