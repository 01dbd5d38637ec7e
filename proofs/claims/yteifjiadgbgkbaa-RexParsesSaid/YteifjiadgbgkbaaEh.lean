/-
  What the reference's after does at a node 'once or more', where its kid's calls do as they should. Conditions: no more than 100 places.
-/
import Derived.Test.YteifjiadgbgkbaaEg
namespace Go.Proofs.Yteifjiadgbgkbaa
open Go.RowKit Go.Sort

theorem aft_plus_eq {S : List Nat} {a b c d : Nat} {ks : List Rx} {f : Nat → Bool} (h : ks.length = 1) : Rx.aft S (.mk 5 a b c d ks) f = Rx.star (Rx.aft S (Rx.nth ks 0)) (S.length + 1) (Rx.aft S (Rx.nth ks 0) f) := by
  match ks, h with
  | [k], _ => rfl

set_option maxRecDepth 100000 in
set_option maxHeartbeats 2000000 in
theorem after_plus {w : World} {s : ByteArray} {S : List Nat} {L : Nat} {ks : List Rx} {N : Nat} {A : Option Addr} {blk off : Nat} {V : Nat → Nat → Value} (T : AftH w s S L ks N A blk off V) (a b c d cap : Nat) (hN : N = 1) (F : Option Addr) (cf : Nat) (f : Nat → Bool) (hf : IsBo w F (L + 1) f) :
    Calls Try.prog 29 #[.agg #[.int .i64 5, .int .u64 (a : Int), .int .u64 (b : Int), .int .u64 (c : Int), .int .u64 (d : Int), .slice A N cap], .string s, .slice F (L + 1) cf] w (AftDone w S L (.mk 5 a b c d ks) f) := by
  have HT := Lib.hid T
  have hL := T.few
  have hs := T.size
  have E := Lib.hid (aft_plus_eq (S := S) (a := a) (b := b) (c := c) (d := d) (f := f) (T.len.trans hN))
  rw [T.text] at E
  have hA := T.ptr (by omega)
  subst hN hA
  have MK := fun W => make_bools (L + 1) (by omega) W
  have BX := Lib.hid (fun W => box6 (w := w) (v0 := .int .i64 5) (v1 := .int .u64 (a : Int)) (v2 := .int .u64 (b : Int)) (v3 := .int .u64 (c : Int)) (v4 := .int .u64 (d : Int)) (v5 := .slice (some ⟨blk, off, none⟩) 1 cap) (ty := 26) (W := W))
  obtain ⟨w0, hw0⟩ : ∃ w0, w.alloc (.cells #[.int .i64 5, .int .u64 (a : Int), .int .u64 (b : Int), .int .u64 (c : Int), .int .u64 (d : Int), .slice (some ⟨blk, off, none⟩) 1 cap] 26) = w0 := ⟨_, rfl⟩
  obtain ⟨w1, hw1⟩ : ∃ w1, w0.alloc (.cells (bof (L + 1) fun _ => false).toArray 4) = w1 := ⟨_, rfl⟩
  have MK1 := MK w0
  have wl : IntKind.i64.wrap ((L : Int) + 1) = (L : Int) + 1 := by rw [IntKind.wrap_i64]; omega
  have el : ((L + 1 : Nat) : Int) = (L : Int) + 1 := by simp
  rw [hw1, el] at MK1
  rw [hw0] at BX
  have B01 : Below (w.heap.size + 1) w0 w1 := by
    rw [← hw1]
    have e : w0.heap.size = w.heap.size + 1 := by rw [← hw0]; simp
    rw [← e]
    exact (Below.refl _ _).alloc (Nat.le_refl _) _
  obtain ⟨⟨q0, q1, q2, q3, q4, q5⟩, BW⟩ := BX.out w1 B01
  have BWH := Lib.hid BW
  have c0 := T.cells w1 BW 0 0 (by omega) (by omega)
  have c1 := T.cells w1 BW 0 1 (by omega) (by omega)
  have c2 := T.cells w1 BW 0 2 (by omega) (by omega)
  have c3 := T.cells w1 BW 0 3 (by omega) (by omega)
  have c4 := T.cells w1 BW 0 4 (by omega) (by omega)
  have c5 := T.cells w1 BW 0 5 (by omega) (by omega)
  simp only [Nat.zero_mul, Nat.add_zero] at c0 c1 c2 c3 c4 c5
  have CK := Lib.hid (T.call 0 w1 F cf f (by omega) BW (hf.below BW))
  unfold val6 at CK
  have SY := Lib.hid (Rx.aft_says S (Rx.nth ks 0))
  rw [T.text] at SY
  have B0H := Lib.hid B01
  have S01 := B01.size
  have SZ1 : w.heap.size + 1 ≤ w1.heap.size := by have e : w0.heap.size = w.heap.size + 1 := by (rw [← hw0]; simp)
                                                  omega
  clear T MK B01 BW hf q1 q2 q3 q4 hw1
  obtain ⟨g, hg⟩ : ∃ g, Rx.aft S (Rx.nth ks 0) = g := ⟨_, rfl⟩
  rw [hg] at CK E SY
  go_enter Try.func29, Try.ntmps29
  go_wp2_with fail
  refine CK.out.mono ?_
  rintro e w2 ⟨⟨q, rfl, o2⟩, b2⟩
  have I0 : Hid (OwnB w2 w.heap.size q (L + 1) (g f) ∧ Below (w.heap.size + 1) w0 w2 ∧ w.heap.size + 1 ≤ w2.heap.size) := ⟨o2.base (by omega), B0H.out.trans (b2.mono SZ1), by have := b2.size; omega⟩
  clear CK b2 o2 c0 c1 c2 c3 c4 c5 q0 q5 MK1 hw0
  go_wp2
  go_loopw [7, 12] (fun vo i wr => ∃ k q : Nat, k ≤ L + 1 ∧ i = .int .i64 (k : Int) ∧ vo = .slice (some ⟨q, 0, none⟩) (L + 1) (L + 1) ∧ Hid (∃ h, OwnB wr w.heap.size q (L + 1) h ∧ Below (w.heap.size + 1) w0 wr ∧ w.heap.size + 1 ≤ wr.heap.size ∧ ∀ j, j ≤ L → Rx.star g (L + 1 - k) h j = Rx.star g (L + 1) (g f) j)) (fun _ i _ => L + 1 - (intOf i).toNat)
  case atStart => exact ⟨0, q, by omega, rfl, rfl, _, I0.out.1, I0.out.2.1, I0.out.2.2, fun j _ => rfl⟩
  case round =>
    clear I0
    obtain ⟨k, qo, hk, rfl, rfl, HI⟩ := hrel
    obtain ⟨h, OH, BH, SH, ST⟩ := HI.out
    have HO := Lib.hid OH
    have HBH := Lib.hid BH
    have HST := Lib.hid ST
    clear HI OH ST BH
    obtain ⟨⟨_, _, _, _, _, q5⟩, BW⟩ := BX.out wr HBH.out
    have BWR := Lib.hid BW
    clear BW
    by_cases hkL : k ≤ L
    · have hkz : (k : Int) ≤ (L : Int) := by omega
      have c0 := HT.out.cells wr BWR.out 0 0 (by omega) (by omega)
      have c1 := HT.out.cells wr BWR.out 0 1 (by omega) (by omega)
      have c2 := HT.out.cells wr BWR.out 0 2 (by omega) (by omega)
      have c3 := HT.out.cells wr BWR.out 0 3 (by omega) (by omega)
      have c4 := HT.out.cells wr BWR.out 0 4 (by omega) (by omega)
      have c5 := HT.out.cells wr BWR.out 0 5 (by omega) (by omega)
      simp only [Nat.zero_mul, Nat.add_zero] at c0 c1 c2 c3 c4 c5
      have CK := Lib.hid (HT.out.call 0 wr (some ⟨qo, 0, none⟩) (L + 1) h (by omega) BWR.out HO.out.is)
      rw [hg] at CK
      unfold val6 at CK
      generalize V 0 0 = v0 at *
      generalize V 0 1 = v1 at *
      generalize V 0 2 = v2 at *
      generalize V 0 3 = v3 at *
      generalize V 0 4 = v4 at *
      generalize V 0 5 = v5 at *
      go_wp2_with fail
      refine CK.out.mono ?_
      rintro e w3 ⟨⟨q3, rfl, o3⟩, b3⟩
      have d3 := HBH.out.trans (b3.mono SH)
      have z3 := b3.size
      have CJ := Lib.hid (rjoin_any (L + 1) h (g h) (some ⟨qo, 0, none⟩) (some ⟨q3, 0, none⟩) (L + 1) (L + 1) w3 (by omega) (HO.out.keep b3).is o3.is)
      have K3 := Lib.hid (HO.out.keep b3)
      clear CK b3 o3 c0 c1 c2 c3 c4 c5 q5
      go_wp2_with fail
      refine CJ.out.mono ?_
      rintro e w4 ⟨⟨q4, rfl, o4⟩, b4⟩
      have d4 := d3.trans (b4.mono (by omega))
      have z4 := b4.size
      have K4 := Lib.hid (K3.out.keep b4)
      have O4 := Lib.hid (o4.base (b1 := w.heap.size) (by omega))
      have CS := Lib.hid (rsame_any (L + 1) (fun i => h i || g h i) h (some ⟨q4, 0, none⟩) (some ⟨qo, 0, none⟩) (L + 1) (L + 1) w4 (by omega) o4.is K4.out.is)
      clear CJ o4 b4 d3 K3
      cases hsm : sameB (L + 1) (fun i => h i || g h i) h
      · rw [hsm] at CS
        clear hsm
        go_wp2_with fail
        refine CS.out.mono ?_
        rintro e w5 ⟨rfl, b5⟩
        have I5 : Hid (OwnB w5 w.heap.size q4 (L + 1) (fun i => h i || g h i) ∧ Below (w.heap.size + 1) w0 w5 ∧ w.heap.size + 1 ≤ w5.heap.size ∧ ∀ j, j ≤ L → Rx.star g (L + 1 - (k + 1)) (fun i => h i || g h i) j = Rx.star g (L + 1) (g f) j) := ⟨O4.out.keep b5, d4.trans (b5.mono (by omega)), by have := b5.size; omega, fun j hj => by
          rw [← HST.out j hj]
          obtain ⟨m, hm⟩ : ∃ m, L + 1 - k = m + 1 := ⟨L - k, by omega⟩
          have hm2 : L + 1 - (k + 1) = m := by omega
          rw [hm, hm2]; rfl⟩
        clear CS b5 d4 K4 O4
        go_wp2
        go_roundw
        case rel => exact ⟨k + 1, q4, by omega, by go_num, rfl, _, I5.out⟩
        case measure => simp [intOf]; omega
      · have SS : ∀ i, i ≤ L → (h i || g h i) = h i := fun i hi => (of_decide_eq_true hsm) i (by omega)
        have FIX : Hid (∀ j, j ≤ L → h j = Rx.star g (L + 1) (g f) j) := fun j hj => by
          rw [← HST.out j hj]
          exact (Rx.star_stop SY.out SS _ hj).symm
        rw [hsm] at CS
        clear hsm SS
        go_wp2_with fail
        refine CS.out.mono ?_
        rintro e w5 ⟨rfl, b5⟩
        have R : Hid (AftDone w S L (.mk 5 a b c d ks) f (.returned (.slice (some ⟨qo, 0, none⟩) (L + 1) (L + 1))) w5) := by
          refine ⟨⟨qo, rfl, ?_⟩, ?_⟩
          · rw [E.out]
            exact (K4.out.keep b5).congr fun i hi => FIX.out i (by omega)
          · exact (BX.out w5 (d4.trans (b5.mono (by omega)))).2
        clear CS b5 d4 K4 O4
        go_wp2
        go_ret
        exact R.out
    · have hkz : ¬ (k : Int) ≤ (L : Int) := by omega
      have R : Hid (AftDone w S L (.mk 5 a b c d ks) f (.returned (.slice (some ⟨qo, 0, none⟩) (L + 1) (L + 1))) wr) := by
        refine ⟨⟨qo, rfl, ?_⟩, BWR.out⟩
        rw [E.out]
        refine HO.out.congr fun i hi => ?_
        rw [← HST.out i (by omega), show L + 1 - k = 0 by omega]; rfl
      clear HT
      go_wp2
      go_ret
      exact R.out
end Go.Proofs.Yteifjiadgbgkbaa
