/-
  What the reference's after does at a node of factors, where its kids' calls do as they should. Conditions: no more than 100 places.
-/
import Derived.Test.YteifjiadgbgkbaaEi
namespace Go.Proofs.Yteifjiadgbgkbaa
open Go.RowKit Go.Sort

theorem aft_seq_eq {S : List Nat} {a b c d : Nat} {ks : List Rx} {f : Nat → Bool} : Rx.aft S (.mk 2 a b c d ks) f = Rx.aftSeq S ks f := rfl

set_option maxRecDepth 100000 in
set_option maxHeartbeats 2000000 in
theorem after_seq {w : World} {s : ByteArray} {S : List Nat} {L : Nat} {ks : List Rx} {N : Nat} {A : Option Addr} {blk off : Nat} {V : Nat → Nat → Value} (T : AftH w s S L ks N A blk off V) (a b c d cap : Nat) (F : Option Addr) (cf : Nat) (f : Nat → Bool) (hf : IsBo w F (L + 1) f) :
    Calls Try.prog 29 #[.agg #[.int .i64 2, .int .u64 (a : Int), .int .u64 (b : Int), .int .u64 (c : Int), .int .u64 (d : Int), .slice A N cap], .string s, .slice F (L + 1) cf] w (AftDone w S L (.mk 2 a b c d ks) f) := by
  have HT := Lib.hid T
  have HF := Lib.hid hf
  have hL := T.few
  have hs := T.size
  have hNN := T.lenN
  have E := Lib.hid (aft_seq_eq (S := S) (a := a) (b := b) (c := c) (d := d) (ks := ks) (f := f))
  have AT := Lib.hid (fun k => Rx.seq_take S (ks := ks) (k := k))
  have AE : Hid (Rx.aftSeq S (ks.take N) f = Rx.aftSeq S ks f) := by show _ = _; rw [← T.len, List.take_length]
  rw [T.len] at AT
  have MK := fun W => make_bools (L + 1) (by omega) W
  have BX := Lib.hid (fun W => box6 (w := w) (v0 := .int .i64 2) (v1 := .int .u64 (a : Int)) (v2 := .int .u64 (b : Int)) (v3 := .int .u64 (c : Int)) (v4 := .int .u64 (d : Int)) (v5 := .slice A N cap) (ty := 26) (W := W))
  obtain ⟨w0, hw0⟩ : ∃ w0, w.alloc (.cells #[.int .i64 2, .int .u64 (a : Int), .int .u64 (b : Int), .int .u64 (c : Int), .int .u64 (d : Int), .slice A N cap] 26) = w0 := ⟨_, rfl⟩
  obtain ⟨w1, hw1⟩ : ∃ w1, w0.alloc (.cells (bof (L + 1) fun _ => false).toArray 4) = w1 := ⟨_, rfl⟩
  have MK1 := MK w0
  have wl : IntKind.i64.wrap ((L : Int) + 1) = (L : Int) + 1 := by rw [IntKind.wrap_i64]; omega
  have el : ((L + 1 : Nat) : Int) = (L : Int) + 1 := by simp
  rw [hw1, el] at MK1
  rw [hw0] at BX
  have e0 : w0.heap.size = w.heap.size + 1 := by rw [← hw0]; simp
  have B01 : Below (w.heap.size + 1) w0 w1 := by
    rw [← hw1, ← e0]
    exact (Below.refl _ _).alloc (Nat.le_refl _) _
  have O1 : OwnB w1 w0.heap.size w0.heap.size (L + 1) (fun _ => false) := by rw [← hw1]; exact own_made (L + 1) (by omega) w0
  obtain ⟨⟨q0, _, _, _, _, _⟩, BW⟩ := BX.out w1 B01
  have I0 : Hid (IsBo w1 F (L + 1) (Rx.aftSeq S (ks.take 0) f) ∧ OwnB w1 (w.heap.size + 1) (w.heap.size + 1) (L + 1) (fun _ => false) ∧ Below (w.heap.size + 1) w0 w1 ∧ w.heap.size + 1 ≤ w1.heap.size) := ⟨hf.below BW, by rw [e0] at O1; exact O1, B01, by have := B01.size; omega⟩
  clear T MK B01 BW hf O1 hw1
  go_enter Try.func29, Try.ntmps29
  go_wp2
  clear MK1 q0 hw0
  go_loopw [9, 10] (fun vo i wr => ∃ (k : Nat) (A9 : Option Addr) (c9 : Nat), k ≤ N ∧ i = .int .i64 (k : Int) ∧ vo = .slice A9 (L + 1) c9 ∧ Hid (IsBo wr A9 (L + 1) (Rx.aftSeq S (ks.take k) f) ∧ OwnB wr (w.heap.size + 1) (w.heap.size + 1) (L + 1) (fun _ => false) ∧ Below (w.heap.size + 1) w0 wr ∧ w.heap.size + 1 ≤ wr.heap.size)) (fun _ i _ => N - (intOf i).toNat)
  case atStart => exact ⟨0, F, cf, by omega, rfl, rfl, I0⟩
  case round =>
    clear I0
    obtain ⟨k, A9, c9, hk, rfl, rfl, HI⟩ := hrel
    obtain ⟨⟨_, _, _, _, _, q5⟩, BW⟩ := BX.out wr HI.out.2.2.1
    have BWH := Lib.hid BW
    clear BW
    by_cases hkn : k < N
    · have hkz : (k : Int) < (N : Int) := by omega
      have hAe := HT.out.ptr (by omega)
      subst hAe
      have c0 := HT.out.cells wr BWH.out k 0 hkn (by omega)
      have c1 := HT.out.cells wr BWH.out k 1 hkn (by omega)
      have c2 := HT.out.cells wr BWH.out k 2 hkn (by omega)
      have c3 := HT.out.cells wr BWH.out k 3 hkn (by omega)
      have c4 := HT.out.cells wr BWH.out k 4 hkn (by omega)
      have c5 := HT.out.cells wr BWH.out k 5 hkn (by omega)
      simp only [Nat.add_zero] at c0
      have CK := Lib.hid (HT.out.call k wr A9 c9 _ hkn BWH.out HI.out.1)
      have ATK := Lib.hid (AT.out k hkn f)
      rw [← ATK.out] at CK
      have OW := Lib.hid HI.out.2.1
      have B0W := Lib.hid HI.out.2.2.1
      have SZW := HI.out.2.2.2
      unfold val6 at CK
      clear HI
      generalize V k 0 = v0 at *
      generalize V k 1 = v1 at *
      generalize V k 2 = v2 at *
      generalize V k 3 = v3 at *
      generalize V k 4 = v4 at *
      generalize V k 5 = v5 at *
      go_wp2_with fail
      refine CK.out.mono ?_
      rintro e w2 ⟨⟨q2, rfl, o2⟩, b2⟩
      have I3 : Hid (IsBo w2 (some ⟨q2, 0, none⟩) (L + 1) (Rx.aftSeq S (ks.take (k + 1)) f) ∧ OwnB w2 (w.heap.size + 1) (w.heap.size + 1) (L + 1) (fun _ => false) ∧ Below (w.heap.size + 1) w0 w2 ∧ w.heap.size + 1 ≤ w2.heap.size) := ⟨o2.is, OW.out.keep b2, B0W.out.trans (b2.mono SZW), by have := b2.size; omega⟩
      clear CK b2 o2 c0 c1 c2 c3 c4 c5 q5
      go_wp2
      go_roundw
      case rel => exact ⟨k + 1, some ⟨q2, 0, none⟩, L + 1, by omega, by go_num, rfl, I3⟩
      case measure => simp [intOf]; omega
    · obtain rfl : k = N := by omega
      have hkz : ¬ (k : Int) < (k : Int) := by omega
      have SRC := Lib.hid HI.out.1
      have O1 := HI.out.2.1
      have B0W := Lib.hid HI.out.2.2.1
      clear HI HT
      go_wp2_with (refine wpList_copyB rfl (.tmp 66) (.tmp 67) rfl (w.heap.size + 1) (w.heap.size + 1) (L + 1) _ rfl O1 A9 c9 _ rfl SRC.out (w.heap.size + 1) w0 B0W.out (by omega) (by omega) ?_)
      intro w2 o2 b2
      have R : Hid (AftDone w S L (.mk 2 a b c d ks) f (.returned (.slice (some ⟨w.heap.size + 1, 0, none⟩) (L + 1) (L + 1))) w2) := ⟨⟨w.heap.size + 1, rfl, by rw [E.out, ← AE.out]; exact o2.base (by omega)⟩, (BX.out w2 b2).2⟩
      clear O1 o2 b2 SRC q5
      go_wp2
      go_ret
      exact R.out
end Go.Proofs.Yteifjiadgbgkbaa
