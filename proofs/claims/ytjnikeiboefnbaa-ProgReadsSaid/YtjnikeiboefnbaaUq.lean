/-
  ProgReads as a contract: the program of any pattern. No conditions.
-/
import Derived.Test.YtjnikeiboefnbaaUo
import Derived.Test.YtjnikeiboefnbaaGg
namespace Go.Proofs.Ytjnikeiboefnbaa
open Go.RowKit Go.Sort
open Pz

theorem ParseRes.all {w w' : World} {r : Option Rx} {e : Ending} (h : ParseRes w r e w') : ∃ op a b c d A n cap, e = .returned (.tuple #[.agg #[.int .i64 op, .int .u64 ((a : Nat) : Int), .int .u64 ((b : Nat) : Int), .int .u64 ((c : Nat) : Int), .int .u64 ((d : Nat) : Int), .slice A n cap], .bool r.isSome]) ∧ IsRx w' (.agg #[.int .i64 op, .int .u64 (a : Int), .int .u64 (b : Int), .int .u64 (c : Int), .int .u64 (d : Int), .slice A n cap]) (r.getD Rx.nil) ∧ Below w.heap.size w w' := by
  cases hr : r with
  | none =>
    obtain ⟨he, hb⟩ := h.no hr
    exact ⟨0, 0, 0, 0, 0, none, 0, 0, he, (RxIn.leaf (fun _ => True) w' 0 0 0 0 0).is, hb⟩
  | some t =>
    obtain ⟨op, a, b, c, d, A, n, cap, he, hx, hb⟩ := h.yes hr
    exact ⟨op, a, b, c, d, A, n, cap, he, hx, hb⟩
theorem parse_few (s : ByteArray) : Rx.count ((parse (txt8 s)).getD Rx.nil) ≤ 1000 := by
  cases h : parse (txt8 s) with
  | none => decide
  | some t => exact (parse_good h).count

set_option maxRecDepth 100000 in
set_option maxHeartbeats 4000000 in
theorem reads_law (s : ByteArray) (w : World) :
    Calls Try.prog 5 #[.string s] w fun e w' => e = .returned (.bool true) ∧ Below w.heap.size w w' := by
  have RN := Lib.hid runs6_any
  have hcnt := parse_few s
  have P1 := Lib.hid (parse_all s w)
  have P2 := Lib.hid (fun W => rparse_any s W)
  obtain ⟨r, hr⟩ : ∃ r, parse (txt8 s) = r := ⟨_, rfl⟩
  rw [hr] at hcnt P1 P2
  obtain ⟨t, ht⟩ : ∃ t, r.getD Rx.nil = t := ⟨_, rfl⟩
  rw [ht] at hcnt
  have PA := Lib.hid (fun w w' e (h : ParseRes w r e w') => h.all)
  rw [ht] at PA
  obtain ⟨q, hq⟩ : ∃ q, r.isSome = q := ⟨_, rfl⟩
  rw [hq] at PA
  clear hr ht hq
  go_enter Try.func5, Try.ntmps5
  go_wp2_with fail
  refine P1.out.mono ?_
  intro e w1 h1
  obtain ⟨op, a, b, c, d, A, n, cap, rfl, X1, b1⟩ := PA.out _ _ _ h1
  have B1 : Below w1.heap.size w1 (w1.alloc (.cells #[.int .i64 op, .int .u64 (a : Int), .int .u64 (b : Int), .int .u64 (c : Int), .int .u64 (d : Int), .slice A n cap] 26)) := (Below.refl _ _).alloc (Nat.le_refl _) _
  have R1 : Hid (Row6 (w1.alloc (.cells #[.int .i64 op, .int .u64 (a : Int), .int .u64 (b : Int), .int .u64 (c : Int), .int .u64 (d : Int), .slice A n cap] 26)) w1.heap.size #[.int .i64 op, .int .u64 (a : Int), .int .u64 (b : Int), .int .u64 (c : Int), .int .u64 (d : Int), .slice A n cap]) := heap_alloc_new _ _
  replace X1 := Lib.hid (X1.grown B1)
  have B := Lib.hid (b1.trans (B1.mono b1.size))
  clear h1 b1 B1 P1
  go_wp2_with fail
  generalize hw2 : w1.alloc (.cells #[.int .i64 op, .int .u64 (a : Int), .int .u64 (b : Int), .int .u64 (c : Int), .int .u64 (d : Int), .slice A n cap] 26) = w2 at *
  generalize w1.heap.size = g1 at *
  clear hw2
  refine (P2.out _).mono ?_
  intro e w3 h3
  obtain ⟨op', a', b', c', d', A', n', cap', rfl, X2, b1⟩ := PA.out _ _ _ h3
  have B1 : Below w3.heap.size w3 (w3.alloc (.cells #[.int .i64 op', .int .u64 (a' : Int), .int .u64 (b' : Int), .int .u64 (c' : Int), .int .u64 (d' : Int), .slice A' n' cap'] 26)) := (Below.refl _ _).alloc (Nat.le_refl _) _
  have R2 : Hid (Row6 (w3.alloc (.cells #[.int .i64 op', .int .u64 (a' : Int), .int .u64 (b' : Int), .int .u64 (c' : Int), .int .u64 (d' : Int), .slice A' n' cap'] 26)) w3.heap.size #[.int .i64 op', .int .u64 (a' : Int), .int .u64 (b' : Int), .int .u64 (c' : Int), .int .u64 (d' : Int), .slice A' n' cap']) := heap_alloc_new _ _
  replace X2 := Lib.hid (X2.grown B1)
  have b2 := b1.trans (B1.mono b1.size)
  replace B := Lib.hid (B.out.trans (b2.mono B.out.size))
  replace R1 := Lib.hid (R1.out.grow b2)
  replace X1 := Lib.hid (X1.out.grown b2)
  clear h3 b1 B1 P2 b2 PA
  obtain ⟨e0, e1, e2, e3, e4, e5⟩ := R1.out.cells
  go_wp2_with fail
  generalize hw2 : w3.alloc (.cells #[.int .i64 op', .int .u64 (a' : Int), .int .u64 (b' : Int), .int .u64 (c' : Int), .int .u64 (d' : Int), .slice A' n' cap'] 26) = w4 at *
  generalize w3.heap.size = g2 at *
  clear hw2
  refine (make_any t _ _ hcnt X1.out).mono ?_
  intro e w5 h5
  obtain ⟨A1, n1, c1, rfl, l1, f1, k1, S1, b1⟩ := h5.all
  replace B := Lib.hid (B.out.trans (b1.mono B.out.size))
  replace R2 := Lib.hid (R2.out.grow b1)
  replace X2 := Lib.hid (X2.out.grown b1)
  replace S1 := Lib.hid S1
  clear h5 b1 X1 R1 e0 e1 e2 e3 e4 e5
  obtain ⟨e0, e1, e2, e3, e4, e5⟩ := R2.out.cells
  go_wp2_with fail
  refine (rmake_any t _ _ hcnt X2.out).mono ?_
  intro e w6 h6
  obtain ⟨A2, n2, c2, rfl, l2, f2, k2, S2, b1⟩ := h6.all
  replace B := Lib.hid (B.out.trans (b1.mono B.out.size))
  replace S1 := Lib.hid (S1.out.grown b1)
  replace S2 := Lib.hid S2
  have CS := Lib.hid (samest_any _ _ A1 A2 n1 n2 c1 c2 w6 l1 l2 (by omega) (by omega) k1 k2 S1.out S2.out)
  rw [decide_eq_true rfl] at CS
  have CK := Lib.hid (fun W hW => check_any _ A1 n1 c1 W l1 (by omega) k1 (S1.out.grown hW))
  have OK : Hid (Rx.made t = true → progOk (Rx.progL t) = true) := fun hm => by unfold Rx.progL; rw [if_pos hm]; exact prog_ok (Rx.size_yes hm).2.1
  clear h6 b1 X2 R2 e0 e1 e2 e3 e4 e5 l1 l2 S1 S2 hcnt
  generalize progOk (Rx.progL t) = ok at *
  cases hm : Rx.made t
  · clear CK OK
    go_wp2_with fail
    refine CS.out.mono ?_
    rintro e w7 ⟨rfl, b1⟩
    replace B := Lib.hid (B.out.trans (b1.mono B.out.size))
    clear b1 CS
    go_wp2_with fail
    refine (RN.out _).mono ?_
    rintro e w8 ⟨rfl, b1⟩
    replace B := Lib.hid (B.out.trans (b1.mono B.out.size))
    clear b1
    go_wp2
    go_ret
    exact ⟨rfl, B.out⟩
  · obtain rfl := OK.out hm
    clear OK
    go_wp2_with fail
    refine CS.out.mono ?_
    rintro e w7 ⟨rfl, b1⟩
    replace B := Lib.hid (B.out.trans (b1.mono B.out.size))
    have CK2 := Lib.hid (CK.out _ b1)
    clear b1 CS CK
    go_wp2_with fail
    refine CK2.out.mono ?_
    rintro e w9 ⟨rfl, b1⟩
    replace B := Lib.hid (B.out.trans (b1.mono B.out.size))
    clear b1 CK2
    go_wp2_with fail
    refine (RN.out _).mono ?_
    rintro e w8 ⟨rfl, b1⟩
    replace B := Lib.hid (B.out.trans (b1.mono B.out.size))
    clear b1
    go_wp2
    go_ret
    exact ⟨rfl, B.out⟩
end Go.Proofs.Ytjnikeiboefnbaa
