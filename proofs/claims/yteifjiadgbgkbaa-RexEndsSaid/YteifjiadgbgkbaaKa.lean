/-
  Chapter 5's runs (RexRuns), as a contract. No conditions.
-/
import Derived.Test.YteifjiadgbgkbaaJk
import Derived.Test.YteifjiadgbgkbaaJl
import Derived.Test.YteifjiadgbgkbaaIa
import Derived.Test.YteifjiadgbgkbaaHn
import Derived.Test.YteifjiadgbgkbaaEp
namespace Go.Proofs.Yteifjiadgbgkbaa
open Go.RowKit Go.Sort
open Pz

/-- What the program's Ends makes of any tree, as a list. -/
theorem ends_all {t : Rx} (hcnt : Rx.count t ≤ 1000) (hfit : Rx.fit t) (v : Value) (z : Int) (s : ByteArray) (w : World) (hL : s.size ≤ 100) (h : IsRx w v t) :
    Calls Try.prog 13 #[v, .string s, .int .i64 z] w fun e w' => ∃ A n c, e = .returned (.slice A n c) ∧ (ends (txt8 s) t z).length = n ∧ n ≤ 101 ∧ IsZ w' A (zn (ends (txt8 s) t z)) ∧ Below w.heap.size w w' := by
  by_cases hz : Rx.isRex t = true ∧ 0 ≤ z ∧ z ≤ (s.size : Int)
  · obtain ⟨p, rfl⟩ : ∃ p : Nat, z = (p : Int) := ⟨z.toNat, by omega⟩
    have e : ends (txt8 s) t (p : Int) = endsTo (txt8 s) t p (s.size + 1) := by
      unfold ends; rw [if_pos ⟨hz.1, hz.2.1, by rw [txt8_len]; exact hz.2.2⟩, txt8_len, Int.toNat_natCast]
    rw [e]
    refine (ends_some t v p s s.size w hcnt hz.1 hfit rfl hL (by omega) h).mono ?_
    rintro e w' ⟨v', rfl, ho, hb⟩
    rw [iz_zs] at ho
    obtain ⟨A, c, rfl, h1, h2, h3, h4⟩ := own_z ho
    exact ⟨A, _, c, rfl, rfl, Nat.le_trans (endsTo_len _ _ _ _) (by omega), h3, hb⟩
  · have e : ends (txt8 s) t z = [] := by unfold ends; rw [if_neg (fun h => hz (by rw [txt8_len] at h; exact h))]
    rw [e]
    refine (ends_none t v z s w hcnt h hz).mono ?_
    rintro e w' ⟨rfl, hb⟩
    exact ⟨none, 0, 0, rfl, rfl, by omega, IsZ.nil _ _, hb⟩
/-- What the reference's Ends makes of any tree, as a list. -/
theorem rends_all {t : Rx} (hcnt : Rx.count t ≤ 1000) (hfit : Rx.fit t) (v : Value) (z : Int) (s : ByteArray) (w : World) (hL : s.size ≤ 100) (h : IsRx w v t) :
    Calls Try.prog 19 #[v, .string s, .int .i64 z] w fun e w' => ∃ A n c, e = .returned (.slice A n c) ∧ (ends (txt8 s) t z).length = n ∧ n ≤ 101 ∧ IsZ w' A (zn (ends (txt8 s) t z)) ∧ Below w.heap.size w w' := by
  by_cases hz : Rx.isRex t = true ∧ 0 ≤ z ∧ z ≤ (s.size : Int)
  · obtain ⟨p, rfl⟩ : ∃ p : Nat, z = (p : Int) := ⟨z.toNat, by omega⟩
    have e : ends (txt8 s) t (p : Int) = endsTo (txt8 s) t p (s.size + 1) := by
      unfold ends; rw [if_pos ⟨hz.1, hz.2.1, by rw [txt8_len]; exact hz.2.2⟩, txt8_len, Int.toNat_natCast]
    rw [e]
    refine (rends_some t v p s s.size w hcnt hz.1 hfit rfl hL (by omega) h).mono ?_
    rintro e w' ⟨v', rfl, ho, hb⟩
    rw [iz_zs] at ho
    obtain ⟨A, c, rfl, h1, h2, h3, h4⟩ := own_z ho
    exact ⟨A, _, c, rfl, rfl, Nat.le_trans (endsTo_len _ _ _ _) (by omega), h3, hb⟩
  · have e : ends (txt8 s) t z = [] := by unfold ends; rw [if_neg (fun h => hz (by rw [txt8_len] at h; exact h))]
    rw [e]
    refine (rends_none t v z s w hcnt h hz).mono ?_
    rintro e w' ⟨rfl, hb⟩
    exact ⟨none, 0, 0, rfl, rfl, by omega, IsZ.nil _ _, hb⟩
def s1 : ByteArray := ⟨#[97, 42, 124, 98]⟩
def s2 : ByteArray := ⟨#[97, 42]⟩
def s3 : ByteArray := ⟨#[97, 42, 42]⟩
def s4 : ByteArray := ⟨#[97, 97, 98]⟩
def t2 : Rx := .mk 4 0 0 0 0 [.mk 1 0 8589934592 0 0 []]
def t1 : Rx := .mk 3 0 0 0 0 [t2, .mk 1 0 17179869184 0 0 []]
theorem p1 : parse (txt8 s1) = some t1 := by kernel_rfl
theorem p2 : parse (txt8 s2) = some t2 := by kernel_rfl
theorem p3 : parse (txt8 s3) = none := by kernel_rfl
theorem e4 : ends (txt8 s4) t2 0 = [0, 1, 2] := by decide +kernel
theorem ParseRes.yes {w w' : World} {r : Option Rx} {t : Rx} {e : Ending} (h : ParseRes w r e w') (hr : r = some t) : ∃ op a b c d A n cap, e = .returned (.tuple #[.agg #[.int .i64 op, .int .u64 ((a : Nat) : Int), .int .u64 ((b : Nat) : Int), .int .u64 ((c : Nat) : Int), .int .u64 ((d : Nat) : Int), .slice A n cap], .bool true]) ∧ IsRx w' (.agg (c6 op a b c d A n cap)) t ∧ Below w.heap.size w w' := by
  subst hr
  obtain ⟨hb, ⟨t', v, hr, he, hx⟩ | ⟨hr, _⟩⟩ := h
  · injection hr with hr
    subst hr
    obtain ⟨op, a, b, c, d, A, n, cap, rfl⟩ := hx.form
    exact ⟨op, a, b, c, d, A, n, cap, he, hx.is, hb⟩
  · cases hr
theorem ParseRes.no {w w' : World} {r : Option Rx} {e : Ending} (h : ParseRes w r e w') (hr : r = none) : e = .returned (.tuple #[.agg #[.int .i64 0, .int .u64 0, .int .u64 0, .int .u64 0, .int .u64 0, .slice none 0 0], .bool false]) ∧ Below w.heap.size w w' := by
  subst hr
  obtain ⟨hb, ⟨_, _, hr, _⟩ | ⟨_, he⟩⟩ := h
  · cases hr
  · exact ⟨he, hb⟩
theorem cell_grow {w w' : World} (hb : Below w.heap.size w w') {p : Addr} {v : Value} (h : w.cell? p = some v) : w'.cell? p = some v := (hb.cell (World.block_lt_of_cell? w _ h)).trans h
theorem IsRx.op {w : World} {V : Nat → Value} {op : Int} {a b c d : Nat} {ks : List Rx} (h : IsRx w (val6 V) (.mk op a b c d ks)) : V 0 = .int .i64 op := by
  generalize hv : val6 V = v at h
  cases h
  exact (val6_eq hv).1
theorem t1_form {w : World} {op : Int} {a b c d n cap : Nat} {A : Option Addr} (h : IsRx w (.agg (c6 op a b c d A n cap)) t1) : op = 3 ∧ n = 2 ∧ ∃ blk off, A = some ⟨blk, off, none⟩ ∧ w.cell? ⟨blk, off, none⟩ = some (.int .i64 4) ∧ w.cell? ⟨blk, off + 6, none⟩ = some (.int .i64 1) := by
  generalize hv : Value.agg (c6 op a b c d A n cap) = v at h
  unfold t1 at h
  cases h with
  | node _ _ _ _ _ _ A' cap' blk off V hcap hA hp hc hk =>
    simp [c6] at hv
    obtain ⟨h1, _, _, _, _, h2, h3, _⟩ := hv
    refine ⟨h1, h3, blk, off, h2.trans (hp (by simp)), ?_, ?_⟩
    · have := hc 0 0 (by simp) (by omega)
      have e := (hk 0 (by simp)).op
      rw [e] at this
      simpa using this
    · have := hc 1 0 (by simp) (by omega)
      have e := (hk 1 (by simp)).op
      rw [e] at this
      simpa using this
set_option maxRecDepth 100000 in
set_option maxHeartbeats 4000000 in
theorem runs_any (w : World) : Calls Try.prog 3 #[] w fun e w' => e = .returned (.bool true) ∧ Below w.heap.size w w' := by
  have P1 := Lib.hid (fun W => parse_any s1 (by decide) W)
  have P2 := Lib.hid (fun W => parse_any s2 (by decide) W)
  have P3 := Lib.hid (fun W => parse_any s3 (by decide) W)
  have B := Lib.hid (Below.refl w.heap.size w)
  go_enter Try.func3, Try.ntmps3
  go_wp2_with fail
  refine (P1.out _).mono ?_
  intro e w1 hp
  obtain ⟨op, a, b, c, d, A, n, cap, rfl, X1, b1⟩ := hp.yes p1
  obtain ⟨rfl, rfl, blk, off, rfl, k0, k1⟩ := t1_form X1
  have A1 : Below w1.heap.size w1 (w1.alloc (.cells #[.int .i64 3, .int .u64 (a : Int), .int .u64 (b : Int), .int .u64 (c : Int), .int .u64 (d : Int), .slice (some ⟨blk, off, none⟩) 2 cap] 26)) := (Below.refl _ _).alloc (Nat.le_refl _) _
  have R1 : Hid (Row6 (w1.alloc (.cells #[.int .i64 3, .int .u64 (a : Int), .int .u64 (b : Int), .int .u64 (c : Int), .int .u64 (d : Int), .slice (some ⟨blk, off, none⟩) 2 cap] 26)) w1.heap.size #[.int .i64 3, .int .u64 (a : Int), .int .u64 (b : Int), .int .u64 (c : Int), .int .u64 (d : Int), .slice (some ⟨blk, off, none⟩) 2 cap]) := heap_alloc_new w1 _
  have K0 := Lib.hid (cell_grow A1 k0)
  have K1 := Lib.hid (cell_grow A1 k1)
  replace B := Lib.hid ((B.out.trans b1).trans (A1.mono (B.out.trans b1).size))
  clear hp X1 b1 A1 k0 k1
  go_wp2_with fail
  generalize w1.alloc (.cells #[.int .i64 3, .int .u64 (a : Int), .int .u64 (b : Int), .int .u64 (c : Int), .int .u64 (d : Int), .slice (some ⟨blk, off, none⟩) 2 cap] 26) = W1 at *
  generalize w1.heap.size = g1 at *
  refine (P2.out _).mono ?_
  intro e w2 hp
  obtain ⟨op', a', b', c', d', A', n', cap', rfl, X2, b2⟩ := hp.yes p2
  have A1 : Below w2.heap.size w2 (w2.alloc (.cells #[.int .i64 op', .int .u64 (a' : Int), .int .u64 (b' : Int), .int .u64 (c' : Int), .int .u64 (d' : Int), .slice A' n' cap'] 26)) := (Below.refl _ _).alloc (Nat.le_refl _) _
  have R2 : Hid (Row6 (w2.alloc (.cells #[.int .i64 op', .int .u64 (a' : Int), .int .u64 (b' : Int), .int .u64 (c' : Int), .int .u64 (d' : Int), .slice A' n' cap'] 26)) w2.heap.size #[.int .i64 op', .int .u64 (a' : Int), .int .u64 (b' : Int), .int .u64 (c' : Int), .int .u64 (d' : Int), .slice A' n' cap']) := heap_alloc_new w2 _
  have b3 := b2.trans (A1.mono b2.size)
  replace X2 := Lib.hid (X2.grown A1)
  replace K0 := Lib.hid (cell_grow b3 K0.out)
  replace K1 := Lib.hid (cell_grow b3 K1.out)
  replace R1 := Lib.hid (R1.out.grow b3)
  replace B := Lib.hid (B.out.trans (b3.mono B.out.size))
  clear hp b2 A1 b3
  go_wp2_with fail
  generalize w2.alloc (.cells #[.int .i64 op', .int .u64 (a' : Int), .int .u64 (b' : Int), .int .u64 (c' : Int), .int .u64 (d' : Int), .slice A' n' cap'] 26) = W2 at *
  generalize w2.heap.size = g2 at *
  refine (P3.out _).mono ?_
  intro e w3 hp
  obtain ⟨rfl, b2⟩ := hp.no p3
  have A1 : Below w3.heap.size w3 (w3.alloc (.cells #[.int .i64 0, .int .u64 0, .int .u64 0, .int .u64 0, .int .u64 0, .slice none 0 0] 26)) := (Below.refl _ _).alloc (Nat.le_refl _) _
  have b3 := b2.trans (A1.mono b2.size)
  replace X2 := Lib.hid (X2.out.grown b3)
  have k0 := cell_grow b3 K0.out
  have k1 := cell_grow b3 K1.out
  obtain ⟨x0, _, _, _, _, x5⟩ := (R1.out.grow b3).cells
  obtain ⟨y0, y1, y2, y3, y4, y5⟩ := (R2.out.grow b3).cells
  replace B := Lib.hid (B.out.trans (b3.mono B.out.size))
  clear hp b2 A1 b3 K0 K1 R1 R2 P1 P2 P3
  have CE := Lib.hid (ends_all (parse_good p2).count (parse_good p2).fit _ 0 s4 _ (by decide) X2.out)
  rw [e4] at CE
  unfold c6 at CE
  go_wp2_with fail
  generalize w3.alloc (.cells #[.int .i64 0, .int .u64 0, .int .u64 0, .int .u64 0, .int .u64 0, .slice none 0 0] 26) = W3 at *
  refine CE.out.mono ?_
  rintro e w4 ⟨A4, n4, c4, rfl, l4, h4, Z4, b4⟩
  obtain rfl : n4 = 3 := by simpa using l4.symm
  have BL : Below w4.heap.size w4 (w4.alloc (.cells #[.int .i64 0, .int .i64 1, .int .i64 2] 3)) := (Below.refl _ _).alloc (Nat.le_refl _) _
  have ZL : IsZ (w4.alloc (.cells #[.int .i64 0, .int .i64 1, .int .i64 2] 3)) (some ⟨w4.heap.size, 0, none⟩) [0, 1, 2] := fun _ => ⟨_, _, rfl, fun j hj => by
    have e := heap_alloc_new w4 (.cells #[.int .i64 0, .int .i64 1, .int .i64 2] 3)
    rw [cell_of_row _ _ _ _ _ _ e]
    match j, hj with
    | 0, _ => rfl
    | 1, _ => rfl
    | 2, _ => rfl⟩
  have CS := Lib.hid (same_any (zn [0, 1, 2]) [0, 1, 2] _ _ 3 3 c4 3 _ rfl rfl (by omega) (by omega) (Z4.below BL) ZL)
  rw [show decide (zn [0, 1, 2] = [0, 1, 2]) = true by decide] at CS
  replace B := Lib.hid ((B.out.trans (b4.mono B.out.size)).trans (BL.mono (B.out.trans (b4.mono B.out.size)).size))
  clear CE b4 BL ZL Z4 l4
  go_wp2_with fail
  refine CS.out.mono ?_
  rintro e w5 ⟨rfl, n, rfl⟩
  go_wp2
  go_ret
  exact ⟨rfl, drewN_below B.out n⟩
end Go.Proofs.Yteifjiadgbgkbaa
