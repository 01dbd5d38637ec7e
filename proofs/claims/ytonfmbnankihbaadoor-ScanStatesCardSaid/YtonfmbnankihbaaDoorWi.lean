/-
  ScanStates as a contract: what is come to from two sets together is what is come to from each; sets hold but bytes and matches. Conditions: the library's table lies in its variable (DTab).
-/
import Derived.Test.YtonfmbnankihbaaDoorWh
namespace Go.Proofs.YtonfmbnankihbaaDoor
open Go.RowKit Go.Sort
open Pz Sc

namespace Sc
theorem vNext_or (P : List St) (a b c : Nat) : vNext P (a ||| b) c = vNext P a c ||| vNext P b c := by
  cases hP : progOk P
  · rw [bad_next hP, bad_next hP, bad_next hP]; rfl
  · refine (vNext_word hP (a ||| b) c).eq (((vNext_word hP a c).or (vNext_word hP b c)).congr fun q => ?_)
    unfold Beh
    constructor
    · rintro (⟨p, h1, h2⟩ | ⟨p, h1, h2⟩)
      · exact ⟨p, or_bit.2 (.inl h1), h2⟩
      · exact ⟨p, or_bit.2 (.inr h1), h2⟩
    · rintro ⟨p, h1, h2⟩
      rcases or_bit.1 h1 with h1 | h1
      · exact .inl ⟨p, h1, h2⟩
      · exact .inr ⟨p, h1, h2⟩
theorem vStart_rest {P : List St} {i : Nat} (h : (vStart P).testBit i = true) : i < P.length ∧ (opS P i = 1 ∨ opS P i = 4) := by
  cases hP : progOk P
  · rw [bad_start hP] at h; simp at h
  · exact ((vStart_word hP i).1 h).2
theorem vNext_rest {P : List St} {now c i : Nat} (h : (vNext P now c).testBit i = true) : i < P.length ∧ (opS P i = 1 ∨ opS P i = 4) := by
  cases hP : progOk P
  · rw [bad_next hP] at h; simp at h
  · obtain ⟨p, _, _, _, _, h5⟩ := (vNext_word hP now c i).1 h
    exact h5.2
theorem vStart_fit {P : List St} (hl : P.length ≤ 60) : vStart P < 18446744073709551616 := lt64 (N := P.length) (by omega) (vStart_lim P)
theorem vNext_fit {P : List St} (hl : P.length ≤ 60) (now c : Nat) : vNext P now c < 18446744073709551616 := lt64 (N := P.length) (by omega) (vNext_lim P now c)
end Sc

set_option maxRecDepth 100000 in
set_option maxHeartbeats 4000000 in
theorem states_law (s : ByteArray) (a b ch : Nat) (w : World) (ha : a < 18446744073709551616) (hb : b < 18446744073709551616) (hch : ch < 256) (hT : DTab w) :
    Calls Tryd.prog 9 #[.string s, .int .u64 (a : Int), .int .u64 (b : Int), .int .u8 (ch : Int)] w fun e w' => e = .returned (.bool true) ∧ Below w.heap.size w w' := by
  have MD := Lib.hid (made_any s w)
  have RN := Lib.hid (fun W (hW : Below w.heap.size w W) => runs7_any W (hT.below hW))
  cases hm : madeS s
  · rw [hm] at MD
    clear hm hT
    go_enter Tryd.func9, Tryd.ntmps9
    go_wp2_with fail
    refine MD.out.mono ?_
    rintro e w1 ⟨⟨A, n, cap, rfl, -⟩, b1⟩
    have B1 := Lib.hid b1
    have R1 := Lib.hid (RN.out w1 b1)
    clear b1 MD RN
    go_wp2_with fail
    refine R1.out.mono ?_
    rintro e w2 ⟨rfl, b2⟩
    have BF := Lib.hid (B1.out.trans (b2.mono B1.out.size))
    clear b2 R1
    go_wp2
    go_ret
    exact ⟨rfl, BF.out⟩
  rw [hm] at MD
  clear hm
  generalize progS s = P at *
  have HT := Lib.hid (fun W (hW : Below w.heap.size w W) => hT.below hW)
  have VO := Lib.hid (vNext_or P a b ch)
  have VZ := Lib.hid (vNext_zero P ch)
  have FN := Lib.hid (fun (hl : P.length ≤ 60) now => vNext_fit hl now ch)
  have FS := Lib.hid (fun (hl : P.length ≤ 60) => vStart_fit (P := P) hl)
  have RS : Hid (∀ i, ((vNext P a ch ||| vNext P b ch) ||| vStart P).testBit i = true → i < P.length ∧ (opS P i = 1 ∨ opS P i = 4)) := fun i hi => by
    rcases or_bit.1 hi with hi | hi
    · rcases or_bit.1 hi with hi | hi
      · exact vNext_rest hi
      · exact vNext_rest hi
    · exact vStart_rest hi
  have CN := Lib.hid (fun now A n cap W (hnow : now < 18446744073709551616) (hn : P.length = n) (h40 : n ≤ 40) (hc : n ≤ cap) (h : IsSt W A P) (hW : DTab W) => scnext_any P now ch A n cap W hnow hch hn (by omega) hc h hW)
  have CS := Lib.hid (fun A n cap W (hn : P.length = n) (h40 : n ≤ 40) (hc : n ≤ cap) (h : IsSt W A P) (hW : DTab W) => scstart_any P A n cap W hn (by omega) hc h hW)
  have hab := Lib.hid (or_fit ha hb)
  have EAB := Lib.hid (bits_or_u64_nat a b ha hb)
  clear hT hch
  go_enter Tryd.func9, Tryd.ntmps9
  go_wp2_with fail
  refine MD.out.mono ?_
  rintro e w1 ⟨⟨A, n, cap, rfl, hl, hn, hc, S1⟩, b1⟩
  have B1 := Lib.hid b1
  have S1 := Lib.hid (fun W (hW : Below w1.heap.size w1 W) => S1.grown hW)
  have K1 := Lib.hid (CN.out a A n cap w1 ha hl hn hc (S1.out w1 (Below.refl _ _)) (HT.out w1 b1))
  replace RS := Lib.hid (fun i hi => by have := RS.out i hi; rw [hl] at this; exact this)
  have fa := Lib.hid (FN.out (by omega) a)
  have fb := Lib.hid (FN.out (by omega) b)
  have fs := Lib.hid (FS.out (by omega))
  clear b1 MD FN FS
  generalize vNext P a ch = x at *
  go_wp2_with fail
  refine K1.out.mono ?_
  rintro e w2 ⟨rfl, b2⟩
  have R2 := Lib.hid b2
  have K2 := Lib.hid (CN.out b A n cap w2 hb hl hn hc (S1.out w2 b2) (HT.out w2 (B1.out.trans (b2.mono B1.out.size))))
  clear b2 K1
  generalize vNext P b ch = y at *
  go_wp2_with fail
  refine K2.out.mono ?_
  rintro e w3 ⟨rfl, b3⟩
  have b3' := R2.out.trans (b3.mono R2.out.size)
  have R3 := Lib.hid b3'
  have K3 := Lib.hid (CN.out (a ||| b) A n cap w3 hab.out hl hn hc (S1.out w3 b3') (HT.out w3 (B1.out.trans (b3'.mono B1.out.size))))
  rw [VO.out] at K3
  have EXY := Lib.hid (bits_or_u64_nat x y fa.out fb.out)
  have fxy := Lib.hid (or_fit fa.out fb.out)
  obtain ⟨xy, hxy⟩ : ∃ xy, x ||| y = xy := ⟨_, rfl⟩
  rw [hxy] at K3 EXY RS fxy
  obtain ⟨ab, hab2⟩ : ∃ ab, a ||| b = ab := ⟨_, rfl⟩
  rw [hab2] at K3 EAB
  clear b3 b3' K2 VO hxy hab2 hab
  go_wp2_with fail
  rw [EAB.out]
  refine K3.out.mono ?_
  rintro e w4 ⟨rfl, b4⟩
  have b4' := R3.out.trans (b4.mono R3.out.size)
  have R4 := Lib.hid b4'
  have K4 := Lib.hid (CN.out 0 A n cap w4 (by omega) hl hn hc (S1.out w4 b4') (HT.out w4 (B1.out.trans (b4'.mono B1.out.size))))
  rw [VZ.out] at K4
  rw [show ((0 : Nat) : Int) = 0 from rfl] at K4
  have NE : (((xy : Nat) : Int) != bits .or .u64 (x : Int) (y : Int)) = false := by rw [EXY.out]; simp
  clear b4 b4' K3 VZ CN
  go_wp2_with fail
  refine K4.out.mono ?_
  rintro e w5 ⟨rfl, b5⟩
  have b5' := R4.out.trans (b5.mono R4.out.size)
  have R5 := Lib.hid b5'
  have K5 := Lib.hid (CS.out A n cap w5 hl hn hc (S1.out w5 b5') (HT.out w5 (B1.out.trans (b5'.mono B1.out.size))))
  have EA := Lib.hid (bits_or_u64_nat xy (vStart P) fxy.out fs.out)
  clear b5 b5' K4 CS HT NE
  generalize vStart P = z at *
  obtain ⟨all, hall⟩ : ∃ all, xy ||| z = all := ⟨_, rfl⟩
  rw [hall] at EA RS
  clear hall fxy fs fa fb
  go_wp2_with fail
  rw [EXY.out]
  refine K5.out.mono ?_
  rintro e w6 ⟨rfl, b6⟩
  have b6' := R5.out.trans (b6.mono R5.out.size)
  have R6 := Lib.hid b6'
  have BW := Lib.hid (B1.out.trans (b6'.mono B1.out.size))
  have HC : Hid (∀ W, Below w6.heap.size w6 W → 0 < n → ∃ blk off, A = some ⟨blk, off, none⟩ ∧ ∀ j, j < n → W.cell? ⟨blk, off + j * 7, none⟩ = some (.int .i64 (nthS P j).op)) := fun W hW hp => by
    obtain ⟨blk, off, e, hI⟩ := (S1.out w6 b6').isP hl hp
    exact ⟨blk, off, e, fun j hj => (hI.at_ W hW j hj).1⟩
  clear b6 b6' K5 S1
  go_wp2_with fail
  rw [EA.out]
  clear EA EXY EAB hl ha hb
  have hnZ : n ≤ 40 := hn
  go_loopw [14] (fun i wr => ∃ k : Nat, k ≤ 64 ∧ i = .int .i64 (k : Int) ∧ wr = w6) (fun i _ => 64 - (intOf i).toNat)
  case atStart => exact ⟨0, by omega, rfl, rfl⟩
  case round =>
    obtain ⟨k, hk, rfl, rfl⟩ := hrel
    by_cases hk64 : k < 64
    · have hkz : (k : Int) < 64 := by omega
      have BZ := @bit_one all k
      cases hb : all.testBit k
      · rw [hb] at BZ
        clear HC RS hb
        go_wp2
        go_roundw
        case rel => exact ⟨k + 1, by omega, by go_num, trivial⟩
        case measure => simp [intOf]; omega
      · rw [hb] at BZ
        obtain ⟨hkn, hop⟩ := RS.out k hb
        have hge : decide ((k : Int) ≥ (n : Int)) = false := decide_eq_false (by omega)
        have hkn2 : (k : Int) < (n : Int) := by omega
        obtain ⟨blk, off, rfl, hcell⟩ := HC.out _ (Below.refl _ _) (by omega)
        have c0 := hcell k hkn
        unfold opS at hop
        generalize (nthS P k).op = op at *
        clear HC RS hb hcell
        rcases hop with rfl | rfl
        · go_wp2
          go_roundw
          case rel => exact ⟨k + 1, by omega, by go_num, trivial⟩
          case measure => simp [intOf]; omega
        · go_wp2
          go_roundw
          case rel => exact ⟨k + 1, by omega, by go_num, trivial⟩
          case measure => simp [intOf]; omega
    · obtain rfl : k = 64 := by omega
      have RN6 := Lib.hid (RN.out _ BW.out)
      clear HC RS RN
      go_wp2_with fail
      refine RN6.out.mono ?_
      rintro e w7 ⟨rfl, b7⟩
      have BF := Lib.hid (BW.out.trans (b7.mono BW.out.size))
      clear b7 RN6
      go_wp2
      go_ret
      exact ⟨rfl, BF.out⟩
end Go.Proofs.YtonfmbnankihbaaDoor
