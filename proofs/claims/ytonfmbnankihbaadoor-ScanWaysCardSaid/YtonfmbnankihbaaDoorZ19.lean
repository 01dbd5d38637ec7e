/-
  What the reference's Start, Next and Match tell of any steps. Conditions: lengths fit; words have 64 bits (FitS).
-/
import Derived.Test.YtonfmbnankihbaaDoorZ17
import Derived.Test.YtonfmbnankihbaaDoorZ18
import Derived.Test.YtonfmbnankihbaaDoorZ02
namespace Go.Proofs.YtonfmbnankihbaaDoor
open Go.RowKit
open Sc

/-- The words of steps fit. -/
def FitS (P : List St) : Prop := ∀ k, Fit4 (nthS P k).a (nthS P k).b (nthS P k).c (nthS P k).d

set_option maxRecDepth 100000 in
set_option maxHeartbeats 4000000 in
theorem rstart_any (P : List St) (A : Option Addr) (N cap : Nat) (w : World) (hN : P.length = N) (hbig : N ≤ 1048576) (hcap : N ≤ cap) (h : IsSt w A P) :
    Calls Tryd.prog 14 #[.slice A N cap] w fun e w' => e = .returned (.int .u64 ((vStart P : Nat) : Int)) ∧ Below w.heap.size w w' := by
  have CK := Lib.hid (rcheck_any P A N cap w hN hbig hcap h)
  cases hP : progOk P
  · have V := Lib.hid (bad_start hP)
    rw [hP] at CK
    clear h hP hN
    go_enter Tryd.func14, Tryd.ntmps14
    go_wp2_with fail
    refine CK.out.mono ?_
    rintro e w1 ⟨rfl, b1⟩
    have B1 := Lib.hid b1
    clear b1 CK
    go_wp2
    go_ret
    exact ⟨by rw [V.out]; rfl, B1.out⟩
  · have hlen := prog_len2 hP
    rw [hN] at hlen
    obtain ⟨blk, off, rfl, hI⟩ := h.isP hN (by omega)
    have RE := Lib.hid (fun W (hW : Below w.heap.size w W) => rreach_any P 0 blk off N cap W hP (by omega) (hI.grown hW))
    have V : Hid (vStart P = rreach P 0) := by show _ = _; unfold vStart; rw [if_pos hP]
    rw [hP] at CK
    clear h hP hN hI hlen
    go_enter Tryd.func14, Tryd.ntmps14
    go_wp2_with fail
    refine CK.out.mono ?_
    rintro e w1 ⟨rfl, b1⟩
    have B1 := Lib.hid b1
    have RE1 := Lib.hid (RE.out w1 b1)
    clear b1 CK RE
    go_wp2_with fail
    refine RE1.out.mono ?_
    rintro e w2 ⟨rfl, b2⟩
    have B2 := Lib.hid (B1.out.trans (b2.mono B1.out.size))
    clear b2 RE1
    go_wp2
    go_ret
    exact ⟨by rw [V.out]; rfl, B2.out⟩

set_option maxRecDepth 100000 in
set_option maxHeartbeats 8000000 in
theorem rscnext_any (P : List St) (now ch : Nat) (A : Option Addr) (N cap : Nat) (w : World) (hfit : FitS P) (hch : ch < 256) (hN : P.length = N) (hbig : N ≤ 1048576) (hcap : N ≤ cap) (h : IsSt w A P) :
    Calls Tryd.prog 15 #[.slice A N cap, .int .u64 (now : Int), .int .u8 (ch : Int)] w fun e w' => e = .returned (.int .u64 ((vNext P now ch : Nat) : Int)) ∧ Below w.heap.size w w' := by
  have CK := Lib.hid (rcheck_any P A N cap w hN hbig hcap h)
  cases hP : progOk P
  · have V := Lib.hid (bad_next hP now ch)
    rw [hP] at CK
    clear h hfit hP hN
    go_enter Tryd.func15, Tryd.ntmps15
    go_wp2_with fail
    refine CK.out.mono ?_
    rintro e w1 ⟨rfl, b1⟩
    have B1 := Lib.hid b1
    clear b1 CK
    go_wp2
    go_ret
    exact ⟨by rw [V.out]; rfl, B1.out⟩
  · have hlen := prog_len2 hP
    rw [hN] at hlen
    obtain ⟨blk, off, rfl, hI⟩ := h.isP hN (by omega)
    have hN40 := hlen.2
    have RE := Lib.hid (fun a (ha : a < N) W (hW : Below w.heap.size w W) => rreach_any P a blk off N cap W hP ha (hI.grown hW))
    have HC := Lib.hid hI.at_
    have HX : Hid (∀ k, k < N → opS P k = 1 → k + 1 < N) := fun k hk h1 => by have := (prog_at hP (show k < P.length by omega)).next h1; omega
    have HH := Lib.hid (fun k W => rhas_any (nthS P k).a (nthS P k).b (nthS P k).c (nthS P k).d ch hch W (hfit k))
    have V : Hid (vNext P now ch = rnext P now ch N) := by show _ = _; unfold vNext; rw [if_pos hP, hN]
    have RL : Hid (∀ k, rnext P now ch k < 18446744073709551616) := fun k => lt64 (N := N) (by omega) (fun j hj => by have := rnext_lim P now ch k j hj; omega)
    have RR : Hid (∀ k, rreach P k < 18446744073709551616) := fun k => lt64 (N := N) (by omega) (fun j hj => by have := rreach_lim P k j hj; omega)
    rw [hP] at CK
    clear h hP hN hI hlen hfit
    go_enter Tryd.func15, Tryd.ntmps15
    go_wp2_with fail
    refine CK.out.mono ?_
    rintro e w1 ⟨rfl, b1⟩
    have B1 := Lib.hid b1
    clear b1 CK
    have R0 : Hid (rnext P now ch 0 = 0) := rfl
    have Z0 : Hid ((0 : Int) = ((rnext P now ch 0 : Nat) : Int)) := by show _ = _; rw [R0.out]; rfl
    clear R0
    go_wp2_with fail
    rw [Z0.out]
    clear Z0
    go_loopw [7, 8] (fun z i wr => ∃ k : Nat, k ≤ N ∧ i = .int .i64 (k : Int) ∧ z = .int .u64 ((rnext P now ch k : Nat) : Int) ∧ Hid (Below w.heap.size w wr)) (fun _ i _ => N - (intOf i).toNat)
    case atStart => exact ⟨0, by omega, rfl, rfl, B1⟩
    case round =>
      clear B1
      obtain ⟨k, hk, rfl, rfl, HI⟩ := hrel
      by_cases hkN : k < N
      · have hkz : (k : Int) < (N : Int) := by omega
        obtain ⟨c0, c1, c2, c3, c4, _, _⟩ := HC.out wr HI.out k hkN
        have ht := Lib.hid (RL.out k)
        have hr := Lib.hid (RR.out (k + 1))
        have hop : Hid (opS P k = (nthS P k).op) := rfl
        have HK := Lib.hid (HH.out k)
        have XK := Lib.hid (HX.out k hkN)
        have RK := Lib.hid (fun h W hW => RE.out (k + 1) h W hW)
        have RS : Hid (rnext P now ch (k + 1) = if now.testBit k = true ∧ opS P k = 1 ∧ has (nthS P k) ch = true then rnext P now ch k ||| rreach P (k + 1) else rnext P now ch k) := rfl
        obtain ⟨st, hst⟩ : ∃ st, nthS P k = st := ⟨_, rfl⟩
        rw [hst] at c0 c1 c2 c3 c4 hop HK RS
        clear hst HC RL RR HX HH RE V
        obtain ⟨t, ht0⟩ : ∃ t, rnext P now ch k = t := ⟨_, rfl⟩
        rw [ht0] at ht RS
        rw [ht0]
        clear ht0
        obtain ⟨op, a, b, c, d, x, y⟩ := st
        dsimp only at c0 c1 c2 c3 c4 hop HK
        have BZ := @bit_one now k
        cases hb : now.testBit k
        · have R : Hid (rnext P now ch (k + 1) = t) := by show _ = _; rw [RS.out, if_neg (by rw [hb]; simp)]
          rw [hb] at BZ
          clear RS hop hb HK RK
          go_wp2
          clear BZ c0 c1 c2 c3 c4
          go_roundw
          case rel => exact ⟨k + 1, by omega, by go_num, by rw [R.out], HI⟩
          case measure => simp [intOf]; omega
        · rw [hb] at BZ
          by_cases h1 : op = 1
          · subst h1
            have HW : Hid (has ⟨1, a, b, c, d, x, y⟩ ch = hasB a b c d ch) := rfl
            cases hq : hasB a b c d ch
            · have R : Hid (rnext P now ch (k + 1) = t) := by show _ = _; rw [RS.out, HW.out, hq]; simp
              rw [hq] at HK
              clear RS hop hb RK HW hq
              go_wp2_with fail
              refine (HK.out _).mono ?_
              rintro e w3 ⟨rfl, b3⟩
              have B3 := Lib.hid (HI.out.trans (b3.mono HI.out.size))
              clear b3 HK c0 c1 c2 c3 c4
              go_wp2
              go_roundw
              case rel => exact ⟨k + 1, by omega, by go_num, by rw [R.out], B3⟩
              case measure => simp [intOf]; omega
            · have R : Hid (rnext P now ch (k + 1) = t ||| rreach P (k + 1)) := by show _ = _; rw [RS.out, if_pos ⟨hb, hop.out, by rw [HW.out, hq]⟩]
              have hk1 := XK.out hop.out
              have RK1 := Lib.hid (fun W hW => RK.out hk1 W hW)
              have EO := Lib.hid (bits_or_u64_nat t (rreach P (k + 1)) ht.out hr.out)
              rw [hq] at HK
              have hw1 : IntKind.i64.wrap ((k : Int) + 1) = ((k + 1 : Nat) : Int) := by rw [IntKind.wrap_i64]; omega
              clear RS hop hb RK HW hq ht hr
              generalize rreach P (k + 1) = r at *
              obtain ⟨t1, ht1⟩ : ∃ t1, t ||| r = t1 := ⟨_, rfl⟩
              rw [ht1] at EO R
              clear ht1
              go_wp2_with fail
              refine (HK.out _).mono ?_
              rintro e w3 ⟨rfl, b3⟩
              have b4 := HI.out.trans (b3.mono HI.out.size)
              have B4 := Lib.hid b4
              have RK2 := Lib.hid (RK1.out w3 b4)
              clear b3 b4 HK c0 c1 c2 c3 c4 RK1
              rw [show ((k + 1 : Nat) : Int) = (k : Int) + 1 by omega] at RK2 hw1
              go_wp2_with fail
              refine RK2.out.mono ?_
              rintro e w4 ⟨rfl, b4⟩
              have B5 := Lib.hid (B4.out.trans (b4.mono B4.out.size))
              clear b4 RK2
              go_wp2
              rw [EO.out]
              go_roundw
              case rel => exact ⟨k + 1, by omega, by go_num, by rw [R.out], B5.out⟩
              case measure => simp [intOf]; omega
          · have h1b : (op == 1) = false := by simpa using h1
            have R : Hid (rnext P now ch (k + 1) = t) := by show _ = _; rw [RS.out, if_neg (by rw [hop.out]; exact fun h => h1 h.2.1)]
            clear RS hop hb HK RK h1
            go_wp2
            clear BZ c0 c1 c2 c3 c4
            go_roundw
            case rel => exact ⟨k + 1, by omega, by go_num, by rw [R.out], HI⟩
            case measure => simp [intOf]; omega
      · obtain rfl : k = N := by omega
        have hkz : ¬ (k : Int) < (k : Int) := by omega
        clear HC
        go_wp2
        go_ret
        exact ⟨by rw [V.out]; rfl, HI.out⟩

set_option maxRecDepth 100000 in
set_option maxHeartbeats 8000000 in
theorem rscmatch_any (P : List St) (s : ByteArray) (A : Option Addr) (N cap : Nat) (w : World) (hs : s.size ≤ 1099511627776) (hfit : FitS P) (hN : P.length = N) (hbig : N ≤ 60) (hcap : N ≤ cap) (h : IsSt w A P) :
    Calls Tryd.prog 16 #[.slice A N cap, .string s] w fun e w' => e = .returned (.bool (vMatch P (txt8 s))) ∧ Below w.heap.size w w' := by
  have ST := Lib.hid (rstart_any P A N cap w hN (by omega) hcap h)
  have NE := Lib.hid (fun now ch hch W (hW : Below w.heap.size w W) => rscnext_any P now ch A N cap W hfit hch hN (by omega) hcap (h.grown hW))
  have S0 : Hid (vSet P (txt8 s) 0 = vStart P) := rfl
  have SS : Hid (∀ k, vSet P (txt8 s) (k + 1) = vNext P (vSet P (txt8 s) k) ((txt8 s).getD k 0)) := fun k => rfl
  have MF : Hid (vMatch P (txt8 s) = anyM P (vSet P (txt8 s) s.size) N) := by show _ = _; rw [vMatch, hN, txt8_len]
  have TX := Lib.hid (fun W k (hk : k < s.size) => txt8_at W s k hk)
  have TB := Lib.hid (fun k => txt8_lt s k)
  have HC : Hid (∀ W, Below w.heap.size w W → 0 < N → ∃ blk off, A = some ⟨blk, off, none⟩ ∧ ∀ j, j < N → W.cell? ⟨blk, off + j * 7, none⟩ = some (.int .i64 (nthS P j).op)) := fun W hW hp => by
    obtain ⟨blk, off, e, hI⟩ := h.isP hN hp
    exact ⟨blk, off, e, fun j hj => (hI.at_ W hW j hj).1⟩
  clear h hN hfit
  obtain ⟨L, hL⟩ : ∃ L, s.size = L := ⟨_, rfl⟩
  rw [hL] at TX hs MF
  go_enter Tryd.func16, Tryd.ntmps16
  go_wp2_with fail
  refine ST.out.mono ?_
  rintro e w1 ⟨rfl, b1⟩
  have B1 := Lib.hid b1
  clear b1 ST
  rw [← S0.out]
  clear S0
  go_wp2_with fail
  go_loopw [5, 6] (fun z i wr => ∃ k : Nat, k ≤ L ∧ i = .int .i64 (k : Int) ∧ z = .int .u64 ((vSet P (txt8 s) k : Nat) : Int) ∧ Hid (Below w.heap.size w wr)) (fun _ i _ => L - (intOf i).toNat)
  case atStart => exact ⟨0, by omega, rfl, rfl, B1⟩
  case round =>
    clear B1
    obtain ⟨k, hk, rfl, rfl, HI⟩ := hrel
    by_cases hkL : k < L
    · have hkz : (k : Int) < (L : Int) := by omega
      have SK := Lib.hid (SS.out k)
      have NK := Lib.hid (NE.out (vSet P (txt8 s) k) ((txt8 s).getD k 0) (TB.out k) wr HI.out)
      have TK := TX.out wr k hkL
      clear TX NE SS MF TB HC
      generalize vSet P (txt8 s) k = m at *
      generalize (txt8 s).getD k 0 = c at *
      go_wp2_with fail
      refine NK.out.mono ?_
      rintro e w3 ⟨rfl, b3⟩
      have B3 := Lib.hid (HI.out.trans (b3.mono HI.out.size))
      clear b3 NK TK
      go_wp2
      go_roundw
      case rel => exact ⟨k + 1, by omega, by go_num, by rw [SK.out], B3.out⟩
      case measure => simp [intOf]; omega
    · obtain rfl : k = L := by omega
      have hkz : ¬ (k : Int) < (k : Int) := by omega
      clear TX NE SS TB
      generalize vSet P (txt8 s) k = m at *
      go_wp2_with fail
      go_loopw [7] (fun i wr => ∃ j : Nat, j ≤ N ∧ i = .int .i64 (j : Int) ∧ Hid (Below w.heap.size w wr ∧ anyM P m j = false)) (fun i _ => N - (intOf i).toNat)
      case atStart => exact ⟨0, by omega, rfl, HI.out, rfl⟩
      case round =>
        clear HI
        obtain ⟨j, hj, rfl, HI⟩ := hrel
        by_cases hjN : j < N
        · have hjz : (j : Int) < (N : Int) := by omega
          obtain ⟨blk, off, rfl, hc⟩ := HC.out wr HI.out.1 (by omega)
          have c0 := hc j hjN
          have hop : Hid (opS P j = (nthS P j).op) := rfl
          obtain ⟨op, hst⟩ : ∃ op, (nthS P j).op = op := ⟨_, rfl⟩
          rw [hst] at c0 hop
          have AS : Hid (anyM P m (j + 1) = (anyM P m j || (m.testBit j && decide (opS P j = 4)))) := rfl
          have YES : Hid (m.testBit j = true → op = 4 → vMatch P (txt8 s) = true) := fun h1 h2 => by rw [MF.out]; exact (anyM_iff P m N).2 ⟨j, hjN, h1, by rw [hop.out]; exact h2⟩
          have BZ := @bit_one m j
          have BW := Lib.hid HI.out.1
          have AF := Lib.hid HI.out.2
          clear hst HC MF hc HI
          cases hb : m.testBit j
          · have R : Hid (anyM P m (j + 1) = false) := by show _ = _; rw [AS.out, AF.out, hb]; rfl
            rw [hb] at BZ
            clear AS YES hb hop AF
            go_wp2
            clear BZ c0
            go_roundw
            case rel => exact ⟨j + 1, by omega, by go_num, BW.out, R.out⟩
            case measure => simp [intOf]; omega
          · rw [hb] at BZ
            by_cases h4 : op = 4
            · subst h4
              have R := Lib.hid (YES.out hb rfl)
              clear AS YES hb hop AF
              go_wp2
              go_ret
              exact ⟨by rw [R.out]; rfl, BW.out⟩
            · have h4b : (op == 4) = false := by simpa using h4
              have R : Hid (anyM P m (j + 1) = false) := by show _ = _; rw [AS.out, AF.out, hop.out, decide_eq_false h4, Bool.and_false]; rfl
              clear AS YES hb hop AF h4
              go_wp2
              clear BZ c0
              go_roundw
              case rel => exact ⟨j + 1, by omega, by go_num, BW.out, R.out⟩
              case measure => simp [intOf]; omega
        · obtain rfl : j = N := by omega
          have hjz : ¬ (j : Int) < (j : Int) := by omega
          have R : Hid (vMatch P (txt8 s) = false) := by show _ = _; rw [MF.out]; exact HI.out.2
          have BW := Lib.hid HI.out.1
          clear HI MF HC
          go_wp2
          go_ret
          exact ⟨by rw [R.out]; rfl, BW.out⟩
end Go.Proofs.YtonfmbnankihbaaDoor
