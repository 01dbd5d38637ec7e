/-
  ScanRuns, ScanSets, ScanMatch as contracts: chapter 7's runs; of any steps, any set, any byte the first set and the next one; whether any steps match any text. Conditions: the library's table lies in its variable (DTab).
-/
import Derived.Test.YtonfmbnankihbaaDoorZ19
import Derived.Test.YtonfmbnankihbaaDoorZ34
import Derived.Test.YtonfmbnankihbaaDoorZ33
import Derived.Test.YtonfmbnankihbaaDoorZ37
namespace Go.Proofs.YtonfmbnankihbaaDoor
open Go.RowKit Go.Sort
open Pz Sc

/-- What is made of a pattern. -/
def madeS (s : ByteArray) : Bool := match parse (txt8 s) with | none => false | some t => Rx.made t
def progS (s : ByteArray) : List St := match parse (txt8 s) with | none => [] | some t => Rx.progL t
theorem progL_few (t : Rx) : (Rx.progL t).length ≤ 40 := by
  unfold Rx.progL
  split
  · rename_i h; rw [prog_len]; exact (Rx.size_yes h).2.1
  · simp

set_option maxRecDepth 100000 in
set_option maxHeartbeats 4000000 in
theorem made_any (s : ByteArray) (w : World) :
    Calls Tryd.prog 10 #[.string s] w fun e w' => (∃ A n cap, e = .returned (.tuple #[.slice A n cap, .bool (madeS s)]) ∧ (progS s).length = n ∧ n ≤ 40 ∧ n ≤ cap ∧ IsSt w' A (progS s)) ∧ Below w.heap.size w w' := by
  have P1 := Lib.hid (parse_all s w)
  cases hr : parse (txt8 s) with
  | none =>
    have e1 : Hid (madeS s = false) := by show _ = _; unfold madeS; rw [hr]
    have e2 : Hid (progS s = []) := by show _ = _; unfold progS; rw [hr]
    have PN := Lib.hid (fun w w' e (h : ParseRes w none e w') => h.no rfl)
    rw [hr] at P1
    clear hr
    go_enter Tryd.func10, Tryd.ntmps10
    go_wp2_with fail
    refine P1.out.mono ?_
    intro e w1 h1
    obtain ⟨rfl, b1⟩ := PN.out _ _ _ h1
    have B1 := Lib.hid (b1.alloc b1.size (.cells #[.int .i64 0, .int .u64 0, .int .u64 0, .int .u64 0, .int .u64 0, .slice none 0 0] 34))
    clear h1 b1 P1
    go_wp2
    go_ret2
    exact ⟨⟨none, 0, 0, by rw [e1.out]; rfl, by rw [e2.out]; rfl, by omega, by omega, by rw [e2.out]; exact IsSt.nil _ _⟩, B1.out⟩
  | some t =>
    have e1 : Hid (madeS s = Rx.made t) := by show _ = _; unfold madeS; rw [hr]
    have e2 : Hid (progS s = Rx.progL t) := by show _ = _; unfold progS; rw [hr]
    have PY := Lib.hid (fun w w' e (h : ParseRes w (some t) e w') => h.yes rfl)
    have hcnt := (parse_good hr).count
    have MK := Lib.hid (fun v W (h : IsRx W v t) => make_any t v W (by omega) h)
    have MA := Lib.hid (fun w w' e (h : MakeRes w t e w') => h.all)
    rw [hr] at P1
    clear hr hcnt
    go_enter Tryd.func10, Tryd.ntmps10
    go_wp2_with fail
    refine P1.out.mono ?_
    intro e w1 h1
    obtain ⟨op, a, b, c, d, A, n, cap, rfl, X1, b1⟩ := PY.out _ _ _ h1
    have B1 : Below w1.heap.size w1 (w1.alloc (.cells #[.int .i64 op, .int .u64 (a : Int), .int .u64 (b : Int), .int .u64 (c : Int), .int .u64 (d : Int), .slice A n cap] 34)) := (Below.refl _ _).alloc (Nat.le_refl _) _
    have M1 := Lib.hid (MK.out _ _ (X1.grown B1))
    have B := Lib.hid (b1.trans (B1.mono b1.size))
    clear h1 b1 B1 P1 X1 MK
    go_wp2_with fail
    generalize hw2 : w1.alloc (.cells #[.int .i64 op, .int .u64 (a : Int), .int .u64 (b : Int), .int .u64 (c : Int), .int .u64 (d : Int), .slice A n cap] 34) = w2 at *
    clear hw2
    refine M1.out.mono ?_
    intro e w3 h3
    obtain ⟨A3, n3, cap3, rfl, l3, s3, c3, S3, b3⟩ := MA.out _ _ _ h3
    have B3 := Lib.hid (B.out.trans (b3.mono B.out.size))
    have S3 := Lib.hid S3
    have l3 := Lib.hid l3
    clear h3 b3 M1
    go_wp2
    go_ret2
    exact ⟨⟨A3, n3, cap3, by rw [e1.out]; rfl, by rw [e2.out]; exact l3.out, s3, c3, by rw [e2.out]; exact S3.out⟩, B3.out⟩

def r1 : ByteArray := ⟨#[97, 42]⟩
def r2 : ByteArray := ⟨#[97, 97, 97]⟩
def r3 : ByteArray := ⟨#[]⟩
def r4 : ByteArray := ⟨#[97, 98]⟩
theorem r1_made : madeS r1 = true := by decide +kernel
theorem r1_prog : progS r1 = l6 := by decide +kernel
theorem r1_start : vStart l6 = 10 := by decide +kernel
theorem r1_next1 : vNext l6 10 97 = 10 := by decide +kernel
theorem r1_next2 : vNext l6 10 98 = 0 := by decide +kernel
theorem r1_match2 : vMatch l6 (txt8 r2) = true := by decide +kernel
theorem r1_match3 : vMatch l6 (txt8 r3) = true := by decide +kernel
theorem r1_match4 : vMatch l6 (txt8 r4) = false := by decide +kernel

set_option maxRecDepth 100000 in
set_option maxHeartbeats 4000000 in
theorem runs7_any (w : World) (hT : DTab w) : Calls Tryd.prog 3 #[] w fun e w' => e = .returned (.bool true) ∧ Below w.heap.size w w' := by
  have MD := Lib.hid (made_any r1 w)
  rw [r1_made, r1_prog] at MD
  have ST := Lib.hid (fun A cap W (hc : 4 ≤ cap) (h : IsSt W A l6) (hW : DTab W) => scstart_any l6 A 4 cap W rfl (by decide) hc h hW)
  have N1 := Lib.hid (fun A cap W (hc : 4 ≤ cap) (h : IsSt W A l6) (hW : DTab W) => scnext_any l6 10 97 A 4 cap W (by decide) (by decide) rfl (by decide) hc h hW)
  have N2 := Lib.hid (fun A cap W (hc : 4 ≤ cap) (h : IsSt W A l6) (hW : DTab W) => scnext_any l6 10 98 A 4 cap W (by decide) (by decide) rfl (by decide) hc h hW)
  have M2 := Lib.hid (fun A cap W (hc : 4 ≤ cap) (h : IsSt W A l6) (hW : DTab W) => scmatch_any l6 r2 A 4 cap W (by decide) rfl (by decide) hc h hW)
  have M3 := Lib.hid (fun A cap W (hc : 4 ≤ cap) (h : IsSt W A l6) (hW : DTab W) => scmatch_any l6 r3 A 4 cap W (by decide) rfl (by decide) hc h hW)
  have M4 := Lib.hid (fun A cap W (hc : 4 ≤ cap) (h : IsSt W A l6) (hW : DTab W) => scmatch_any l6 r4 A 4 cap W (by decide) rfl (by decide) hc h hW)
  rw [r1_start] at ST
  rw [r1_next1] at N1
  rw [r1_next2] at N2
  rw [r1_match2] at M2
  rw [r1_match3] at M3
  rw [r1_match4] at M4
  have HT := Lib.hid (fun W (hW : Below w.heap.size w W) => hT.below hW)
  clear hT
  go_enter Tryd.func3, Tryd.ntmps3
  go_wp2_with fail
  refine MD.out.mono ?_
  rintro e w1 ⟨⟨A, n, cap, rfl, hl, hn, hc, S1⟩, b1⟩
  obtain rfl : n = 4 := hl.symm
  have B1 := Lib.hid b1
  have S1 := Lib.hid (fun W (hW : Below w1.heap.size w1 W) => S1.grown hW)
  have C1 := Lib.hid (ST.out A cap w1 hc (S1.out w1 (Below.refl _ _)) (HT.out w1 b1))
  clear b1 MD hl hn
  go_wp2_with fail
  refine C1.out.mono ?_
  rintro e w2 ⟨rfl, b2⟩
  have R2 := Lib.hid b2
  have C2 := Lib.hid (N1.out A cap w2 hc (S1.out w2 b2) (HT.out w2 (B1.out.trans (b2.mono B1.out.size))))
  clear b2 C1
  go_wp2_with fail
  refine C2.out.mono ?_
  rintro e w3 ⟨rfl, b3⟩
  have b3' := R2.out.trans (b3.mono R2.out.size)
  have R3 := Lib.hid b3'
  have C3 := Lib.hid (N2.out A cap w3 hc (S1.out w3 b3') (HT.out w3 (B1.out.trans (b3'.mono B1.out.size))))
  clear b3 b3' C2
  go_wp2_with fail
  refine C3.out.mono ?_
  rintro e w4 ⟨rfl, b4⟩
  have b4' := R3.out.trans (b4.mono R3.out.size)
  have R4 := Lib.hid b4'
  have C4 := Lib.hid (M2.out A cap w4 hc (S1.out w4 b4') (HT.out w4 (B1.out.trans (b4'.mono B1.out.size))))
  clear b4 b4' C3
  go_wp2_with fail
  refine C4.out.mono ?_
  rintro e w5 ⟨rfl, b5⟩
  have b5' := R4.out.trans (b5.mono R4.out.size)
  have R5 := Lib.hid b5'
  have C5 := Lib.hid (M3.out A cap w5 hc (S1.out w5 b5') (HT.out w5 (B1.out.trans (b5'.mono B1.out.size))))
  clear b5 b5' C4
  go_wp2_with fail
  refine C5.out.mono ?_
  rintro e w6 ⟨rfl, b6⟩
  have b6' := R5.out.trans (b6.mono R5.out.size)
  have R6 := Lib.hid b6'
  have C6 := Lib.hid (M4.out A cap w6 hc (S1.out w6 b6') (HT.out w6 (B1.out.trans (b6'.mono B1.out.size))))
  clear b6 b6' C5
  go_wp2_with fail
  refine C6.out.mono ?_
  rintro e w7 ⟨rfl, b7⟩
  have BF := Lib.hid (B1.out.trans ((R6.out.trans (b7.mono R6.out.size)).mono B1.out.size))
  clear b7 C6
  go_wp2
  go_ret
  exact ⟨rfl, BF.out⟩

set_option maxRecDepth 100000 in
set_option maxHeartbeats 4000000 in
theorem sets_law (P : List St) (A : Option Addr) (N cap now ch : Nat) (w : World) (hN : P.length = N) (hcap : N ≤ cap) (h : IsSt w A P) (hfit : FitS P) (hnow : now < 18446744073709551616) (hch : ch < 256) (hT : DTab w) :
    Calls Tryd.prog 4 #[.slice A N cap, .int .u64 (now : Int), .int .u8 (ch : Int)] w fun e w' => e = .returned (.bool true) ∧ Below w.heap.size w w' := by
  have RN := Lib.hid (fun W (hW : Below w.heap.size w W) => runs7_any W (hT.below hW))
  by_cases h60 : 60 < N
  · have hz : decide ((N : Int) > 60) = true := decide_eq_true (by omega)
    have R0 := Lib.hid (RN.out w (Below.refl _ _))
    clear h60 h hT RN hN
    go_enter Tryd.func4, Tryd.ntmps4
    go_wp2_with fail
    refine R0.out.mono ?_
    rintro e w1 ⟨rfl, b1⟩
    have B := Lib.hid b1
    clear b1
    go_wp2
    go_ret
    exact ⟨rfl, B.out⟩
  have hz : decide ((N : Int) > 60) = false := decide_eq_false (by omega)
  have C1 := Lib.hid (scstart_any P A N cap w hN (by omega) hcap h hT)
  have C2 := Lib.hid (fun W (hW : Below w.heap.size w W) => rstart_any P A N cap W hN (by omega) hcap (h.grown hW))
  have C3 := Lib.hid (fun W (hW : Below w.heap.size w W) => scnext_any P now ch A N cap W hnow hch hN (by omega) hcap (h.grown hW) (hT.below hW))
  have C4 := Lib.hid (fun W (hW : Below w.heap.size w W) => rscnext_any P now ch A N cap W hfit hch hN (by omega) hcap (h.grown hW))
  generalize vStart P = z1 at *
  generalize vNext P now ch = z2 at *
  clear h hfit hT h60 hN
  go_enter Tryd.func4, Tryd.ntmps4
  go_wp2_with fail
  refine C1.out.mono ?_
  rintro e w1 ⟨rfl, b1⟩
  have R1 := Lib.hid b1
  have D2 := Lib.hid (C2.out w1 b1)
  clear b1 C1 C2
  go_wp2_with fail
  refine D2.out.mono ?_
  rintro e w2 ⟨rfl, b2⟩
  have b2' := R1.out.trans (b2.mono R1.out.size)
  have R2 := Lib.hid b2'
  have D3 := Lib.hid (C3.out w2 b2')
  clear b2 b2' D2 C3
  go_wp2_with fail
  refine D3.out.mono ?_
  rintro e w3 ⟨rfl, b3⟩
  have b3' := R2.out.trans (b3.mono R2.out.size)
  have R3 := Lib.hid b3'
  have D4 := Lib.hid (C4.out w3 b3')
  clear b3 b3' D3 C4
  go_wp2_with fail
  refine D4.out.mono ?_
  rintro e w4 ⟨rfl, b4⟩
  have b4' := R3.out.trans (b4.mono R3.out.size)
  have R4 := Lib.hid b4'
  have D5 := Lib.hid (RN.out w4 b4')
  clear b4 b4' D4 RN
  go_wp2_with fail
  refine D5.out.mono ?_
  rintro e w5 ⟨rfl, b5⟩
  have BF := Lib.hid (R4.out.trans (b5.mono R4.out.size))
  clear b5 D5
  go_wp2
  go_ret
  exact ⟨rfl, BF.out⟩

set_option maxRecDepth 100000 in
set_option maxHeartbeats 4000000 in
theorem match_law (P : List St) (s : ByteArray) (A : Option Addr) (N cap : Nat) (w : World) (hs : s.size ≤ maxLen) (hN : P.length = N) (hcap : N ≤ cap) (h : IsSt w A P) (hfit : FitS P) (hT : DTab w) :
    Calls Tryd.prog 5 #[.slice A N cap, .string s] w fun e w' => e = .returned (.bool true) ∧ Below w.heap.size w w' := by
  unfold maxLen at hs
  have RN := Lib.hid (fun W (hW : Below w.heap.size w W) => runs7_any W (hT.below hW))
  obtain ⟨L, hL⟩ : ∃ L, s.size = L := ⟨_, rfl⟩
  by_cases h60 : 60 < N ∨ 60 < L
  · have R0 := Lib.hid (RN.out w (Below.refl _ _))
    clear h hT RN hN hfit
    by_cases h1 : 60 < N
    · have hz : decide ((N : Int) > 60) = true := decide_eq_true (by omega)
      clear h60 h1
      go_enter Tryd.func5, Tryd.ntmps5
      go_wp2_with fail
      refine R0.out.mono ?_
      rintro e w1 ⟨rfl, b1⟩
      have B := Lib.hid b1
      clear b1
      go_wp2
      go_ret
      exact ⟨rfl, B.out⟩
    · have hz : decide ((N : Int) > 60) = false := decide_eq_false (by omega)
      have hz2 : decide ((L : Int) > 60) = true := decide_eq_true (by omega)
      clear h60 h1
      go_enter Tryd.func5, Tryd.ntmps5
      go_wp2_with fail
      refine R0.out.mono ?_
      rintro e w1 ⟨rfl, b1⟩
      have B := Lib.hid b1
      clear b1
      go_wp2
      go_ret
      exact ⟨rfl, B.out⟩
  have hz : decide ((N : Int) > 60) = false := decide_eq_false (by omega)
  have hz2 : decide ((L : Int) > 60) = false := decide_eq_false (by omega)
  have C1 := Lib.hid (scmatch_any P s A N cap w (by omega) hN (by omega) hcap h hT)
  have C2 := Lib.hid (fun W (hW : Below w.heap.size w W) => rscmatch_any P s A N cap W (by omega) hfit hN (by omega) hcap (h.grown hW))
  generalize vMatch P (txt8 s) = z at *
  clear h hfit hT h60 hN
  go_enter Tryd.func5, Tryd.ntmps5
  go_wp2_with fail
  refine C1.out.mono ?_
  rintro e w1 ⟨rfl, b1⟩
  have R1 := Lib.hid b1
  have D2 := Lib.hid (C2.out w1 b1)
  clear b1 C1 C2
  go_wp2_with fail
  refine D2.out.mono ?_
  rintro e w2 ⟨rfl, b2⟩
  have b2' := R1.out.trans (b2.mono R1.out.size)
  have R2 := Lib.hid b2'
  have D5 := Lib.hid (RN.out w2 b2')
  clear b2 b2' D2 RN
  go_wp2_with fail
  refine D5.out.mono ?_
  rintro e w5 ⟨rfl, b5⟩
  have BF := Lib.hid (R2.out.trans (b5.mono R2.out.size))
  clear b5 D5
  go_wp2
  go_ret
  exact ⟨rfl, BF.out⟩
end Go.Proofs.YtonfmbnankihbaaDoor
