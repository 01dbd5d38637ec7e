/-
  What the reference's after does at a node 'once or more', where its kid's calls do as they should. Conditions: no more than 100 places.
  What the reference's after does at a node of factors, where its kids' calls do as they should. Conditions: no more than 100 places.
  What the reference's after does, for every tree that may be: it goes by sets of places as Rx.aft does. Conditions: at most 1000 nodes, 100 places; words have 64 bits.
  What the program's readEach does to a part: each kid reads the byte. Conditions: at most 1000 parts.
-/
import Derived.Test.YtlfcjjlgkcfkdaaGreatDoorProg
import Derived.Test.YtlfcjjlgkcfkdaaGreatDoorZ01
import Derived.Test.YtlfcjjlgkcfkdaaGreatDoorZ03
import Derived.Test.YtlfcjjlgkcfkdaaGreatDoorZ02
import Derived.Test.YtlfcjjlgkcfkdaaGreatDoorZ04
import Derived.Test.YtlfcjjlgkcfkdaaGreatDoorZ05
import Derived.Deep.RegionHeld3
import Derived.WalkKit
import Derived.WalkSpells
import Derived.WalkLawsBesides
import Derived.Lib.Hide
import Derived.Below
import Derived.BigQuiet
import Derived.Lib.QuietBelow
import Derived.Laws.StructEq
import Derived.KernelRfl
import Derived.Laws.MakeOwn
import Derived.Laws.OwnMore
import Derived.OwnWalk
import Derived.Laws.CopyOwn
import Derived.Laws.AppendOwn
namespace Go.Proofs.YtlfcjjlgkcfkdaaGreatDoor
open Go.RowKit Go.Sort

theorem aft_plus_eq {S : List Nat} {a b c d : Nat} {ks : List Rx} {f : Nat → Bool} (h : ks.length = 1) : Rx.aft S (.mk 5 a b c d ks) f = Rx.star (Rx.aft S (Rx.nth ks 0)) (S.length + 1) (Rx.aft S (Rx.nth ks 0) f) := by
  match ks, h with
  | [k], _ => rfl

set_option maxRecDepth 100000 in
set_option maxHeartbeats 2000000 in
theorem after_plus {w : World} {s : ByteArray} {S : List Nat} {L : Nat} {ks : List Rx} {N : Nat} {A : Option Addr} {blk off : Nat} {V : Nat → Nat → Value} (T : AftH w s S L ks N A blk off V) (a b c d cap : Nat) (hN : N = 1) (F : Option Addr) (cf : Nat) (f : Nat → Bool) (hf : IsBo w F (L + 1) f) :
    Calls Tryz.prog 136 #[.agg #[.int .i64 5, .int .u64 (a : Int), .int .u64 (b : Int), .int .u64 (c : Int), .int .u64 (d : Int), .slice A N cap], .string s, .slice F (L + 1) cf] w (AftDone w S L (.mk 5 a b c d ks) f) := by
  have HT := Lib.hid T
  have hL := T.few
  have hs := T.size
  have E := Lib.hid (aft_plus_eq (S := S) (a := a) (b := b) (c := c) (d := d) (f := f) (T.len.trans hN))
  rw [T.text] at E
  have hA := T.ptr (by omega)
  subst hN hA
  have MK := fun W => make_bools (L + 1) (by omega) W
  have BX := Lib.hid (fun W => box6 (w := w) (v0 := .int .i64 5) (v1 := .int .u64 (a : Int)) (v2 := .int .u64 (b : Int)) (v3 := .int .u64 (c : Int)) (v4 := .int .u64 (d : Int)) (v5 := .slice (some ⟨blk, off, none⟩) 1 cap) (ty := 135) (W := W))
  obtain ⟨w0, hw0⟩ : ∃ w0, w.alloc (.cells #[.int .i64 5, .int .u64 (a : Int), .int .u64 (b : Int), .int .u64 (c : Int), .int .u64 (d : Int), .slice (some ⟨blk, off, none⟩) 1 cap] 135) = w0 := ⟨_, rfl⟩
  obtain ⟨w1, hw1⟩ : ∃ w1, w0.alloc (.cells (bof (L + 1) fun _ => false).toArray 4) = w1 := ⟨_, rfl⟩
  have MK1 := MK w0
  have wl : IntKind.i64.wrap ((L : Int) + 1) = (L : Int) + 1 := by rw [IntKind.wrap_i64]; omega
  have el : ((L + 1 : Nat) : Int) = (L : Int) + 1 := by simp
  rw [hw1, el] at MK1
  rw [hw0] at BX
  have B01 : Below (w.heap.size + 1) w0 w1 := by
    rw [← hw1]
    have e : w0.heap.size = w.heap.size + 1 := by rw [← hw0]; simp
    rw [← e]
    exact (Below.refl _ _).alloc (Nat.le_refl _) _
  obtain ⟨⟨q0, q1, q2, q3, q4, q5⟩, BW⟩ := BX.out w1 B01
  have BWH := Lib.hid BW
  have c0 := T.cells w1 BW 0 0 (by omega) (by omega)
  have c1 := T.cells w1 BW 0 1 (by omega) (by omega)
  have c2 := T.cells w1 BW 0 2 (by omega) (by omega)
  have c3 := T.cells w1 BW 0 3 (by omega) (by omega)
  have c4 := T.cells w1 BW 0 4 (by omega) (by omega)
  have c5 := T.cells w1 BW 0 5 (by omega) (by omega)
  simp only [Nat.zero_mul, Nat.add_zero] at c0 c1 c2 c3 c4 c5
  have CK := Lib.hid (T.call 0 w1 F cf f (by omega) BW (hf.below BW))
  unfold val6 at CK
  have SY := Lib.hid (Rx.aft_says S (Rx.nth ks 0))
  rw [T.text] at SY
  have B0H := Lib.hid B01
  have S01 := B01.size
  have SZ1 : w.heap.size + 1 ≤ w1.heap.size := by have e : w0.heap.size = w.heap.size + 1 := by (rw [← hw0]; simp)
                                                  omega
  clear T MK B01 BW hf q1 q2 q3 q4 hw1
  obtain ⟨g, hg⟩ : ∃ g, Rx.aft S (Rx.nth ks 0) = g := ⟨_, rfl⟩
  rw [hg] at CK E SY
  go_enter Tryz.func136, Tryz.ntmps136
  go_wp2_with fail
  refine CK.out.mono ?_
  rintro e w2 ⟨⟨q, rfl, o2⟩, b2⟩
  have I0 : Hid (OwnB w2 w.heap.size q (L + 1) (g f) ∧ Below (w.heap.size + 1) w0 w2 ∧ w.heap.size + 1 ≤ w2.heap.size) := ⟨o2.base (by omega), B0H.out.trans (b2.mono SZ1), by have := b2.size; omega⟩
  clear CK b2 o2 c0 c1 c2 c3 c4 c5 q0 q5 MK1 hw0
  go_wp2
  go_loopw [7, 12] (fun vo i wr => ∃ k q : Nat, k ≤ L + 1 ∧ i = .int .i64 (k : Int) ∧ vo = .slice (some ⟨q, 0, none⟩) (L + 1) (L + 1) ∧ Hid (∃ h, OwnB wr w.heap.size q (L + 1) h ∧ Below (w.heap.size + 1) w0 wr ∧ w.heap.size + 1 ≤ wr.heap.size ∧ ∀ j, j ≤ L → Rx.star g (L + 1 - k) h j = Rx.star g (L + 1) (g f) j)) (fun _ i _ => L + 1 - (intOf i).toNat)
  case atStart => exact ⟨0, q, by omega, rfl, rfl, _, I0.out.1, I0.out.2.1, I0.out.2.2, fun j _ => rfl⟩
  case round =>
    clear I0
    obtain ⟨k, qo, hk, rfl, rfl, HI⟩ := hrel
    obtain ⟨h, OH, BH, SH, ST⟩ := HI.out
    have HO := Lib.hid OH
    have HBH := Lib.hid BH
    have HST := Lib.hid ST
    clear HI OH ST BH
    obtain ⟨⟨_, _, _, _, _, q5⟩, BW⟩ := BX.out wr HBH.out
    have BWR := Lib.hid BW
    clear BW
    by_cases hkL : k ≤ L
    · have hkz : (k : Int) ≤ (L : Int) := by omega
      have c0 := HT.out.cells wr BWR.out 0 0 (by omega) (by omega)
      have c1 := HT.out.cells wr BWR.out 0 1 (by omega) (by omega)
      have c2 := HT.out.cells wr BWR.out 0 2 (by omega) (by omega)
      have c3 := HT.out.cells wr BWR.out 0 3 (by omega) (by omega)
      have c4 := HT.out.cells wr BWR.out 0 4 (by omega) (by omega)
      have c5 := HT.out.cells wr BWR.out 0 5 (by omega) (by omega)
      simp only [Nat.zero_mul, Nat.add_zero] at c0 c1 c2 c3 c4 c5
      have CK := Lib.hid (HT.out.call 0 wr (some ⟨qo, 0, none⟩) (L + 1) h (by omega) BWR.out HO.out.is)
      rw [hg] at CK
      unfold val6 at CK
      generalize V 0 0 = v0 at *
      generalize V 0 1 = v1 at *
      generalize V 0 2 = v2 at *
      generalize V 0 3 = v3 at *
      generalize V 0 4 = v4 at *
      generalize V 0 5 = v5 at *
      go_wp2_with fail
      refine CK.out.mono ?_
      rintro e w3 ⟨⟨q3, rfl, o3⟩, b3⟩
      have d3 := HBH.out.trans (b3.mono SH)
      have z3 := b3.size
      have CJ := Lib.hid (rjoin_any (L + 1) h (g h) (some ⟨qo, 0, none⟩) (some ⟨q3, 0, none⟩) (L + 1) (L + 1) w3 (by omega) (HO.out.keep b3).is o3.is)
      have K3 := Lib.hid (HO.out.keep b3)
      clear CK b3 o3 c0 c1 c2 c3 c4 c5 q5
      go_wp2_with fail
      refine CJ.out.mono ?_
      rintro e w4 ⟨⟨q4, rfl, o4⟩, b4⟩
      have d4 := d3.trans (b4.mono (by omega))
      have z4 := b4.size
      have K4 := Lib.hid (K3.out.keep b4)
      have O4 := Lib.hid (o4.base (b1 := w.heap.size) (by omega))
      have CS := Lib.hid (rsame_any (L + 1) (fun i => h i || g h i) h (some ⟨q4, 0, none⟩) (some ⟨qo, 0, none⟩) (L + 1) (L + 1) w4 (by omega) o4.is K4.out.is)
      clear CJ o4 b4 d3 K3
      cases hsm : sameB (L + 1) (fun i => h i || g h i) h
      · rw [hsm] at CS
        clear hsm
        go_wp2_with fail
        refine CS.out.mono ?_
        rintro e w5 ⟨rfl, b5⟩
        have I5 : Hid (OwnB w5 w.heap.size q4 (L + 1) (fun i => h i || g h i) ∧ Below (w.heap.size + 1) w0 w5 ∧ w.heap.size + 1 ≤ w5.heap.size ∧ ∀ j, j ≤ L → Rx.star g (L + 1 - (k + 1)) (fun i => h i || g h i) j = Rx.star g (L + 1) (g f) j) := ⟨O4.out.keep b5, d4.trans (b5.mono (by omega)), by have := b5.size; omega, fun j hj => by
          rw [← HST.out j hj]
          obtain ⟨m, hm⟩ : ∃ m, L + 1 - k = m + 1 := ⟨L - k, by omega⟩
          have hm2 : L + 1 - (k + 1) = m := by omega
          rw [hm, hm2]; rfl⟩
        clear CS b5 d4 K4 O4
        go_wp2
        go_roundw
        case rel => exact ⟨k + 1, q4, by omega, by go_num, rfl, _, I5.out⟩
        case measure => simp [intOf]; omega
      · have SS : ∀ i, i ≤ L → (h i || g h i) = h i := fun i hi => (of_decide_eq_true hsm) i (by omega)
        have FIX : Hid (∀ j, j ≤ L → h j = Rx.star g (L + 1) (g f) j) := fun j hj => by
          rw [← HST.out j hj]
          exact (Rx.star_stop SY.out SS _ hj).symm
        rw [hsm] at CS
        clear hsm SS
        go_wp2_with fail
        refine CS.out.mono ?_
        rintro e w5 ⟨rfl, b5⟩
        have R : Hid (AftDone w S L (.mk 5 a b c d ks) f (.returned (.slice (some ⟨qo, 0, none⟩) (L + 1) (L + 1))) w5) := by
          refine ⟨⟨qo, rfl, ?_⟩, ?_⟩
          · rw [E.out]
            exact (K4.out.keep b5).congr fun i hi => FIX.out i (by omega)
          · exact (BX.out w5 (d4.trans (b5.mono (by omega)))).2
        clear CS b5 d4 K4 O4
        go_wp2
        go_ret
        exact R.out
    · have hkz : ¬ (k : Int) ≤ (L : Int) := by omega
      have R : Hid (AftDone w S L (.mk 5 a b c d ks) f (.returned (.slice (some ⟨qo, 0, none⟩) (L + 1) (L + 1))) wr) := by
        refine ⟨⟨qo, rfl, ?_⟩, BWR.out⟩
        rw [E.out]
        refine HO.out.congr fun i hi => ?_
        rw [← HST.out i (by omega), show L + 1 - k = 0 by omega]; rfl
      clear HT
      go_wp2
      go_ret
      exact R.out

end Go.Proofs.YtlfcjjlgkcfkdaaGreatDoor
namespace Go.Proofs.YtlfcjjlgkcfkdaaGreatDoor
open Go.RowKit Go.Sort

theorem aft_seq_eq {S : List Nat} {a b c d : Nat} {ks : List Rx} {f : Nat → Bool} : Rx.aft S (.mk 2 a b c d ks) f = Rx.aftSeq S ks f := rfl

set_option maxRecDepth 100000 in
set_option maxHeartbeats 2000000 in
theorem after_seq {w : World} {s : ByteArray} {S : List Nat} {L : Nat} {ks : List Rx} {N : Nat} {A : Option Addr} {blk off : Nat} {V : Nat → Nat → Value} (T : AftH w s S L ks N A blk off V) (a b c d cap : Nat) (F : Option Addr) (cf : Nat) (f : Nat → Bool) (hf : IsBo w F (L + 1) f) :
    Calls Tryz.prog 136 #[.agg #[.int .i64 2, .int .u64 (a : Int), .int .u64 (b : Int), .int .u64 (c : Int), .int .u64 (d : Int), .slice A N cap], .string s, .slice F (L + 1) cf] w (AftDone w S L (.mk 2 a b c d ks) f) := by
  have HT := Lib.hid T
  have HF := Lib.hid hf
  have hL := T.few
  have hs := T.size
  have hNN := T.lenN
  have E := Lib.hid (aft_seq_eq (S := S) (a := a) (b := b) (c := c) (d := d) (ks := ks) (f := f))
  have AT := Lib.hid (fun k => Rx.seq_take S (ks := ks) (k := k))
  have AE : Hid (Rx.aftSeq S (ks.take N) f = Rx.aftSeq S ks f) := by show _ = _; rw [← T.len, List.take_length]
  rw [T.len] at AT
  have MK := fun W => make_bools (L + 1) (by omega) W
  have BX := Lib.hid (fun W => box6 (w := w) (v0 := .int .i64 2) (v1 := .int .u64 (a : Int)) (v2 := .int .u64 (b : Int)) (v3 := .int .u64 (c : Int)) (v4 := .int .u64 (d : Int)) (v5 := .slice A N cap) (ty := 135) (W := W))
  obtain ⟨w0, hw0⟩ : ∃ w0, w.alloc (.cells #[.int .i64 2, .int .u64 (a : Int), .int .u64 (b : Int), .int .u64 (c : Int), .int .u64 (d : Int), .slice A N cap] 135) = w0 := ⟨_, rfl⟩
  obtain ⟨w1, hw1⟩ : ∃ w1, w0.alloc (.cells (bof (L + 1) fun _ => false).toArray 4) = w1 := ⟨_, rfl⟩
  have MK1 := MK w0
  have wl : IntKind.i64.wrap ((L : Int) + 1) = (L : Int) + 1 := by rw [IntKind.wrap_i64]; omega
  have el : ((L + 1 : Nat) : Int) = (L : Int) + 1 := by simp
  rw [hw1, el] at MK1
  rw [hw0] at BX
  have e0 : w0.heap.size = w.heap.size + 1 := by rw [← hw0]; simp
  have B01 : Below (w.heap.size + 1) w0 w1 := by
    rw [← hw1, ← e0]
    exact (Below.refl _ _).alloc (Nat.le_refl _) _
  have O1 : OwnB w1 w0.heap.size w0.heap.size (L + 1) (fun _ => false) := by rw [← hw1]; exact own_made (L + 1) (by omega) w0
  obtain ⟨⟨q0, _, _, _, _, _⟩, BW⟩ := BX.out w1 B01
  have I0 : Hid (IsBo w1 F (L + 1) (Rx.aftSeq S (ks.take 0) f) ∧ OwnB w1 (w.heap.size + 1) (w.heap.size + 1) (L + 1) (fun _ => false) ∧ Below (w.heap.size + 1) w0 w1 ∧ w.heap.size + 1 ≤ w1.heap.size) := ⟨hf.below BW, by rw [e0] at O1; exact O1, B01, by have := B01.size; omega⟩
  clear T MK B01 BW hf O1 hw1
  go_enter Tryz.func136, Tryz.ntmps136
  go_wp2
  clear MK1 q0 hw0
  go_loopw [9, 10] (fun vo i wr => ∃ (k : Nat) (A9 : Option Addr) (c9 : Nat), k ≤ N ∧ i = .int .i64 (k : Int) ∧ vo = .slice A9 (L + 1) c9 ∧ Hid (IsBo wr A9 (L + 1) (Rx.aftSeq S (ks.take k) f) ∧ OwnB wr (w.heap.size + 1) (w.heap.size + 1) (L + 1) (fun _ => false) ∧ Below (w.heap.size + 1) w0 wr ∧ w.heap.size + 1 ≤ wr.heap.size)) (fun _ i _ => N - (intOf i).toNat)
  case atStart => exact ⟨0, F, cf, by omega, rfl, rfl, I0⟩
  case round =>
    clear I0
    obtain ⟨k, A9, c9, hk, rfl, rfl, HI⟩ := hrel
    obtain ⟨⟨_, _, _, _, _, q5⟩, BW⟩ := BX.out wr HI.out.2.2.1
    have BWH := Lib.hid BW
    clear BW
    by_cases hkn : k < N
    · have hkz : (k : Int) < (N : Int) := by omega
      have hAe := HT.out.ptr (by omega)
      subst hAe
      have c0 := HT.out.cells wr BWH.out k 0 hkn (by omega)
      have c1 := HT.out.cells wr BWH.out k 1 hkn (by omega)
      have c2 := HT.out.cells wr BWH.out k 2 hkn (by omega)
      have c3 := HT.out.cells wr BWH.out k 3 hkn (by omega)
      have c4 := HT.out.cells wr BWH.out k 4 hkn (by omega)
      have c5 := HT.out.cells wr BWH.out k 5 hkn (by omega)
      simp only [Nat.add_zero] at c0
      have CK := Lib.hid (HT.out.call k wr A9 c9 _ hkn BWH.out HI.out.1)
      have ATK := Lib.hid (AT.out k hkn f)
      rw [← ATK.out] at CK
      have OW := Lib.hid HI.out.2.1
      have B0W := Lib.hid HI.out.2.2.1
      have SZW := HI.out.2.2.2
      unfold val6 at CK
      clear HI
      generalize V k 0 = v0 at *
      generalize V k 1 = v1 at *
      generalize V k 2 = v2 at *
      generalize V k 3 = v3 at *
      generalize V k 4 = v4 at *
      generalize V k 5 = v5 at *
      go_wp2_with fail
      refine CK.out.mono ?_
      rintro e w2 ⟨⟨q2, rfl, o2⟩, b2⟩
      have I3 : Hid (IsBo w2 (some ⟨q2, 0, none⟩) (L + 1) (Rx.aftSeq S (ks.take (k + 1)) f) ∧ OwnB w2 (w.heap.size + 1) (w.heap.size + 1) (L + 1) (fun _ => false) ∧ Below (w.heap.size + 1) w0 w2 ∧ w.heap.size + 1 ≤ w2.heap.size) := ⟨o2.is, OW.out.keep b2, B0W.out.trans (b2.mono SZW), by have := b2.size; omega⟩
      clear CK b2 o2 c0 c1 c2 c3 c4 c5 q5
      go_wp2
      go_roundw
      case rel => exact ⟨k + 1, some ⟨q2, 0, none⟩, L + 1, by omega, by go_num, rfl, I3⟩
      case measure => simp [intOf]; omega
    · obtain rfl : k = N := by omega
      have hkz : ¬ (k : Int) < (k : Int) := by omega
      have SRC := Lib.hid HI.out.1
      have O1 := HI.out.2.1
      have B0W := Lib.hid HI.out.2.2.1
      clear HI HT
      go_wp2_with (refine wpList_copyB rfl (.tmp 66) (.tmp 67) rfl (w.heap.size + 1) (w.heap.size + 1) (L + 1) _ rfl O1 A9 c9 _ rfl SRC.out (w.heap.size + 1) w0 B0W.out (by omega) (by omega) ?_)
      intro w2 o2 b2
      have R : Hid (AftDone w S L (.mk 2 a b c d ks) f (.returned (.slice (some ⟨w.heap.size + 1, 0, none⟩) (L + 1) (L + 1))) w2) := ⟨⟨w.heap.size + 1, rfl, by rw [E.out, ← AE.out]; exact o2.base (by omega)⟩, (BX.out w2 b2).2⟩
      clear O1 o2 b2 SRC q5
      go_wp2
      go_ret
      exact R.out

end Go.Proofs.YtlfcjjlgkcfkdaaGreatDoor
namespace Go.Proofs.YtlfcjjlgkcfkdaaGreatDoor
open Go.RowKit Go.Sort

namespace Rx
mutual
/-- Its sets' words have 64 bits. -/
def fit : Rx → Prop
  | .mk _ a b c d ks => Fit4 a b c d ∧ fitL ks
def fitL : List Rx → Prop
  | [] => True
  | k :: r => fit k ∧ fitL r
end
theorem fit_nth : ∀ {ks : List Rx} {j : Nat}, fitL ks → j < ks.length → fit (nth ks j)
  | k :: r, 0, h, _ => by simpa [nth] using h.1
  | k :: r, j + 1, h, hj => by
    have := fit_nth (ks := r) (j := j) h.2 (by simpa using hj)
    simpa [nth] using this
theorem all_nth : ∀ {ks : List Rx} {j : Nat}, isAll ks = true → j < ks.length → isRex (nth ks j) = true
  | k :: r, 0, h, _ => by
    rw [isAll, Bool.and_eq_true] at h
    simpa [nth] using h.1
  | k :: r, j + 1, h, hj => by
    rw [isAll, Bool.and_eq_true] at h
    have := all_nth (ks := r) (j := j) h.2 (by simpa using hj)
    simpa [nth] using this
end Rx

theorem rafter_any : ∀ (n : Nat) (t : Rx) (v : Value) (w : World) (s : ByteArray) (L : Nat) (F : Option Addr) (cf : Nat) (f : Nat → Bool), n ≤ 1000 → Rx.count t ≤ n → Rx.isRex t = true → Rx.fit t → s.size = L → L ≤ 100 → IsRx w v t → IsBo w F (L + 1) f →
    Calls Tryz.prog 136 #[v, .string s, .slice F (L + 1) cf] w (AftDone w (txt8 s) L t f) := by
  intro n
  induction n with
  | zero => intro t v w s L F cf f _ hs; have := Rx.count_pos t; omega
  | succ n ih =>
    intro t v w s L F cf f hn hcnt hr hfit hs hL h hf
    cases h with
    | node op a b c d ks A cap blk off V hcap hA hp hc hk =>
      rw [Rx.count] at hcnt
      have hlen := Rx.len_count ks
      obtain ⟨h4, hfl⟩ := hfit
      by_cases o1 : op = 1
      · subst o1
        exact after_set hs hL a b c d h4 A ks.length cap F cf f hf
      have hr2 : Rx.may op ks.length = true ∧ Rx.isAll ks = true := by
        rw [Rx.isRex, if_neg o1] at hr
        simp only [Bool.and_eq_true] at hr
        exact hr.1
      have T : AftH w s (txt8 s) L ks ks.length A blk off V :=
        { size := hs
          text := by rw [txt8_len, hs]
          few := hL
          len := rfl
          lenN := by omega
          ptr := hp
          cells := fun W hW j i hj hi => (hW.cell (World.block_lt_of_cell? w _ (hc j i hj hi))).trans (hc j i hj hi)
          call := fun j W A' c' f' hj hW hi => ih _ _ W s L A' c' f' (by omega) (by have := Rx.nth_count hj; omega) (Rx.all_nth hr2.2 hj) (Rx.fit_nth hfl hj) hs hL ((hk j hj).grown hW) hi }
      have hm := hr2.1
      unfold Rx.may at hm
      by_cases o2 : op = 2
      · subst o2; exact after_seq T a b c d cap F cf f hf
      by_cases o3 : op = 3
      · subst o3; exact after_alt T a b c d cap F cf f hf
      have p2 : (op == 2) = false := by simpa using o2
      have p3 : (op == 3) = false := by simpa using o3
      rw [p2, p3] at hm
      simp only [Bool.false_and, Bool.or_self, Bool.false_or, Bool.and_eq_true, Bool.or_eq_true, beq_iff_eq] at hm
      obtain ⟨ho, h1⟩ := hm
      rcases ho with (rfl | rfl) | rfl
      · exact after_star T a b c d cap h1 F cf f hf
      · exact after_plus T a b c d cap h1 F cf f hf
      · exact after_maybe T a b c d cap h1 F cf f hf

end Go.Proofs.YtlfcjjlgkcfkdaaGreatDoor
namespace Go.Proofs.YtlfcjjlgkcfkdaaGreatDoor
open Go.RowKit Go.Sort

namespace Pt
theorem set_mid {a b : List Pt} {k : Nat} {y z : Pt} (h : a.length = k) : (a ++ y :: b).set k z = a ++ z :: b := by
  rw [List.set_append_right _ _ (by omega), h, Nat.sub_self]; rfl
theorem Tch.of {g o : Nat} {Bs Cs : List Nat} {w w' : World} (h : Tch g o Bs w w') (e : Bs = Cs) : Tch g o Cs w w' := e ▸ h
end Pt
open Pt

end Go.Proofs.YtlfcjjlgkcfkdaaGreatDoor

