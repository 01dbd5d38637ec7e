/-
  Words of steps in a walk; math/bits.TrailingZeros64; what the program's takers and matches tell. Conditions: the library's table lies in its variable (DTab).
  What the program's takers, reached, next tell: steps that take a byte, the steps reached from a set, the next set. Conditions: the steps are a program (reached, next); the library's table lies in its variable (DTab).
  What the reference's reach tells: the steps reached from a place. Conditions: the steps are a program.
  What the program's Start, Next and Match tell of any steps. Conditions: lengths fit; the library's table lies in its variable (DTab).
-/
import Derived.Test.YtonfmbnankihbaaDoorZ15
import Derived.Test.YtonfmbnankihbaaDoorZ16
import Derived.Test.YtonfmbnankihbaaDoorZ09
import Derived.Lib.TrailingZeros
import Derived.Laws.Bits64b
import Derived.Deep.LoopGhost
import Derived.BigQuiet
import Derived.Lib.Hide
namespace Go.Proofs.YtonfmbnankihbaaDoor
open Go.RowKit
open Sc

/-- The library's table lies in its variable. -/
def DTab (w : World) : Prop := 0 < w.heap.size ∧ ∀ j, j < 64 → w.cell? ⟨0, j, none⟩ = some (.int .u8 ((Lib.deBruijn64tab.getD j 0 : Nat) : Int))
theorem DTab.below {w w' : World} (h : DTab w) (hb : Below w.heap.size w w') : DTab w' :=
  ⟨Nat.lt_of_lt_of_le h.1 hb.size, fun j hj => (hb.cell (p := ⟨_, j, none⟩) h.1).trans (h.2 j hj)⟩
theorem ctz_bit {x : Nat} (hx : x < 18446744073709551616) (h0 : x ≠ 0) : x.testBit (Lib.ctz 64 x) = true ∧ Lib.ctz 64 x < 64 := by
  obtain ⟨h1, h2⟩ := Lib.lowest_bit 64 x h0 (by simpa using hx)
  have : (2 ^ Lib.ctz 64 x).testBit (Lib.ctz 64 x) = true := bit_pow.2 rfl
  rw [← h1, Nat.testBit_and, Bool.and_eq_true] at this
  exact ⟨this.1, h2⟩
theorem tz_key (x a : Nat) (hx : x < 18446744073709551616) (hx0 : x ≠ 0) (hlow : x &&& (18446744073709551616 - x) = a) :
    IntKind.u64.wrap (bits BinOp.and IntKind.u64 (x : Int) (IntKind.u64.wrap (-(x : Int))) * 285870213051353865) / 288230376151711744 = ((a * 285870213051353865 % 18446744073709551616 / 288230376151711744 : Nat) : Int) := by
  have e1 : IntKind.u64.wrap (-(x : Int)) = ((18446744073709551616 - x : Nat) : Int) := by rw [IntKind.wrap_u64]; omega
  rw [e1, bits_and_u64_nat x _ hx (by omega), hlow, IntKind.wrap_u64]
  omega
set_option maxRecDepth 100000 in
theorem tz_core (x k idx : Nat) (w : World) (hx0 : ((x : Int) == 0) = false)
    (key : IntKind.u64.wrap (bits BinOp.and IntKind.u64 (x : Int) (IntKind.u64.wrap (-(x : Int))) * 285870213051353865) / 288230376151711744 = (idx : Int))
    (hi : idx < 64) (hk : k < 64) (hcell : w.cell? ⟨0, idx, none⟩ = some (.int .u8 (k : Int))) :
    Calls Tryd.prog 43 #[.int .u64 (x : Int)] w fun e w' => e = .returned (.int .i64 (k : Int)) ∧ w' = w := by
  go_enter Tryd.func43, Tryd.ntmps43
  go_wp2_with (simp only [key])
  go_ret
  exact ⟨rfl, rfl⟩
theorem tz_any (x : Nat) (hx : x < 18446744073709551616) (h0 : x ≠ 0) (w : World) (hT : DTab w) :
    Calls Tryd.prog 43 #[.int .u64 (x : Int)] w fun e w' => e = .returned (.int .i64 ((Lib.ctz 64 x : Nat) : Int)) ∧ w' = w := by
  obtain ⟨hlow, hk⟩ := Lib.lowest_bit 64 x h0 (by simpa using hx)
  obtain ⟨hi, htab⟩ := Lib.deBruijn64_at _ hk
  have hcell := hT.2 _ hi
  rw [htab] at hcell
  exact tz_core x _ _ w (by simp; omega) (tz_key x _ hx h0 (by simpa using hlow)) hi hk hcell

theorem and_one (q : Nat) : bits .and .u64 (q : Int) 1 = ((q % 2 : Nat) : Int) := by
  show IntKind.u64.wrap ((BitVec.ofInt 64 (q : Int) &&& BitVec.ofInt 64 1).toNat : Int) = _
  have h1 : (BitVec.ofInt 64 (q : Int)).toNat = q % 18446744073709551616 := by rw [BitVec.ofInt_natCast, BitVec.toNat_ofNat]
  have h2 : (BitVec.ofInt 64 1).toNat = 1 := by decide
  rw [BitVec.toNat_and, h1, h2, Nat.and_one_is_mod, IntKind.wrap_u64]
  omega
theorem or_two (a i : Nat) (ha : a < 18446744073709551616) (hi : i < 64) : bits .or .u64 (a : Int) (IntKind.u64.wrap (2 ^ i)) = ((a ||| 2 ^ i : Nat) : Int) := by
  have h2 : 2 ^ i < 18446744073709551616 := by have : 2 ^ i < 2 ^ 64 := Nat.pow_lt_pow_right (by omega) hi; simpa using this
  have e : ((2 : Int) ^ i) = ((2 ^ i : Nat) : Int) := by simp
  rw [e, IntKind.wrap_u64]
  generalize 2 ^ i = z at *
  have e2 : (z : Int) % 18446744073709551616 = (z : Int) := by omega
  rw [e2]
  exact bits_or_u64_nat a _ ha h2
theorem bit_is (q i : Nat) : (((q / 2 ^ i % 2 : Nat) : Int) == 1) = q.testBit i := by
  rw [Nat.testBit_eq_decide_div_mod_eq]
  generalize q / 2 ^ i % 2 = r
  rw [Bool.eq_iff_iff, beq_iff_eq, decide_eq_true_eq]
  omega
theorem bit_not (q i : Nat) : (((q / 2 ^ i % 2 : Nat) : Int) == 0) = !q.testBit i := by
  rw [Nat.testBit_eq_decide_div_mod_eq]
  have h2 := Nat.mod_lt (q / 2 ^ i) (show 0 < 2 by omega)
  generalize q / 2 ^ i % 2 = r at *
  rw [Bool.eq_iff_iff, beq_iff_eq, Bool.not_eq_true', decide_eq_false_iff_not]
  omega
theorem cell_word {W : World} {op x y : Int} {a b c d : Nat} {g j : Nat} (h : W.heap[g]? = some (.cells #[.int .i64 op, .int .u64 (a : Int), .int .u64 (b : Int), .int .u64 (c : Int), .int .u64 (d : Int), .int .i64 x, .int .i64 y] 48 (0, 0))) (hj : j < 4) : W.cell? ⟨g, 1 + j, none⟩ = some (.int .u64 ((word4 a b c d j : Nat) : Int)) := by
  rw [cell_of_row _ g _ _ _ _ h]
  match j, hj with
  | 0, _ => rfl
  | 1, _ => rfl
  | 2, _ => rfl
  | 3, _ => rfl
/-- What the loops over steps need. -/
structure IsP (w : World) (blk off N : Nat) (P : List St) : Prop where
  len : P.length = N
  at_ : ∀ W, Below w.heap.size w W → ∀ j, j < N → (W.cell? ⟨blk, off + j * 7, none⟩ = some (.int .i64 (nthS P j).op) ∧ W.cell? ⟨blk, off + j * 7 + 1, none⟩ = some (.int .u64 ((nthS P j).a : Int)) ∧ W.cell? ⟨blk, off + j * 7 + 2, none⟩ = some (.int .u64 ((nthS P j).b : Int)) ∧ W.cell? ⟨blk, off + j * 7 + 3, none⟩ = some (.int .u64 ((nthS P j).c : Int)) ∧ W.cell? ⟨blk, off + j * 7 + 4, none⟩ = some (.int .u64 ((nthS P j).d : Int)) ∧ W.cell? ⟨blk, off + j * 7 + 5, none⟩ = some (.int .i64 (nthS P j).x) ∧ W.cell? ⟨blk, off + j * 7 + 6, none⟩ = some (.int .i64 (nthS P j).y))
theorem IsSt.isP {w : World} {A : Option Addr} {P : List St} {N : Nat} (h : IsSt w A P) (hN : P.length = N) (hp : 0 < N) : ∃ blk off, A = some ⟨blk, off, none⟩ ∧ IsP w blk off N P := by
  obtain ⟨blk, off, rfl, hc⟩ := h.at (by omega)
  refine ⟨blk, off, rfl, hN, fun W hW j hj => ?_⟩
  obtain ⟨c0, c1, c2, c3, c4, c5, c6⟩ := hc j (by omega)
  have hl : blk < w.heap.size := World.block_lt_of_cell? w _ c0
  exact ⟨(hW.cell (p := ⟨blk, _, none⟩) hl).trans c0, (hW.cell (p := ⟨blk, _, none⟩) hl).trans c1, (hW.cell (p := ⟨blk, _, none⟩) hl).trans c2, (hW.cell (p := ⟨blk, _, none⟩) hl).trans c3, (hW.cell (p := ⟨blk, _, none⟩) hl).trans c4, (hW.cell (p := ⟨blk, _, none⟩) hl).trans c5, (hW.cell (p := ⟨blk, _, none⟩) hl).trans c6⟩
theorem IsP.grown {w w' : World} {blk off N : Nat} {P : List St} (h : IsP w blk off N P) (hb : Below w.heap.size w w') : IsP w' blk off N P :=
  ⟨h.len, fun W hW j hj => h.at_ W (hb.trans (hW.mono hb.size)) j hj⟩

set_option maxRecDepth 100000 in
set_option maxHeartbeats 4000000 in
theorem matches_any (P : List St) (blk off N cap : Nat) (w : World) (hbig : N ≤ 40) (h : IsP w blk off N P) :
    Calls Tryd.prog 28 #[.slice (some ⟨blk, off, none⟩) N cap] w fun e w' => e = .returned (.int .u64 ((mts P N : Nat) : Int)) ∧ Below w.heap.size w w' := by
  have HC := Lib.hid h.at_
  have ML : Hid (∀ k, k ≤ N → mts P k < 18446744073709551616) := fun k hk => lt64 (N := N) (by omega) fun j hj => by have := mts_lim P k j hj; omega
  have MS : Hid (∀ k, mts P (k + 1) = if opS P k = 4 then mts P k ||| 2 ^ k else mts P k) := fun k => rfl
  clear h
  go_enter Tryd.func28, Tryd.ntmps28
  go_wp2_with fail
  go_loopw [3, 8] (fun z i wr => ∃ k : Nat, k ≤ N ∧ i = .int .i64 (k : Int) ∧ z = .int .u64 ((mts P k : Nat) : Int) ∧ Hid (Below w.heap.size w wr)) (fun _ i _ => N - (intOf i).toNat)
  case atStart => exact ⟨0, by omega, rfl, rfl, Below.refl _ _⟩
  case round =>
    obtain ⟨k, hk, rfl, rfl, HI⟩ := hrel
    by_cases hkN : k < N
    · have hkz : (k : Int) < (N : Int) := by omega
      obtain ⟨c0, c1, c2, c3, c4, c5, c6⟩ := HC.out wr HI.out k hkN
      have MK := Lib.hid (MS.out k)
      have mlt := Lib.hid (ML.out k hk)
      have hop : Hid (opS P k = (nthS P k).op) := rfl
      obtain ⟨s, hs⟩ : ∃ s, nthS P k = s := ⟨_, rfl⟩
      rw [hs] at c0 c1 c2 c3 c4 c5 c6 hop
      clear hs HC ML MS
      obtain ⟨m, hm⟩ : ∃ m, mts P k = m := ⟨_, rfl⟩
      rw [hm] at MK mlt
      rw [hm]
      clear hm
      obtain ⟨op, a, b, c, d, x, y⟩ := s
      dsimp only at c0 c1 c2 c3 c4 c5 c6 hop
      have B6 : Hid (Below w.heap.size w (wr.alloc (.cells #[.int .i64 op, .int .u64 (a : Int), .int .u64 (b : Int), .int .u64 (c : Int), .int .u64 (d : Int), .int .i64 x, .int .i64 y] 48))) := HI.out.alloc HI.out.size _
      by_cases h4 : op = 4
      · subst h4
        have EO := Lib.hid (or_two m k mlt.out (by omega))
        have R : Hid (mts P (k + 1) = m ||| 2 ^ k) := by show _ = _; rw [MK.out, if_pos hop.out]
        obtain ⟨m', hm'⟩ : ∃ m', m ||| 2 ^ k = m' := ⟨_, rfl⟩
        rw [hm'] at EO R
        clear hm' MK mlt hop
        go_wp2
        rw [EO.out]
        go_wp2
        clear c0 c1 c2 c3 c4 c5 c6
        go_roundw
        case rel => exact ⟨k + 1, by omega, by go_num, by rw [R.out], B6.out⟩
        case measure => simp [intOf]; omega
      · have h4b : (op == 4) = false := by simpa using h4
        have R : Hid (mts P (k + 1) = m) := by show _ = _; rw [MK.out, if_neg (by rw [hop.out]; exact h4)]
        clear MK mlt hop h4
        go_wp2
        clear c0 c1 c2 c3 c4 c5 c6
        go_roundw
        case rel => exact ⟨k + 1, by omega, by go_num, by rw [R.out], B6.out⟩
        case measure => simp [intOf]; omega
    · obtain rfl : k = N := by omega
      have hkz : ¬ (k : Int) < (k : Int) := by omega
      go_wp2
      go_ret
      exact ⟨rfl, HI.out⟩
end Go.Proofs.YtonfmbnankihbaaDoor
namespace Go.Proofs.YtonfmbnankihbaaDoor
open Go.RowKit
open Sc

set_option maxRecDepth 100000 in
set_option maxHeartbeats 4000000 in
theorem takers_any (P : List St) (ch blk off N cap : Nat) (w : World) (hch : ch < 256) (hbig : N ≤ 40) (h : IsP w blk off N P) :
    Calls Tryd.prog 44 #[.slice (some ⟨blk, off, none⟩) N cap, .int .u8 (ch : Int)] w fun e w' => e = .returned (.int .u64 ((tks P ch N : Nat) : Int)) ∧ Below w.heap.size w w' := by
  have HC := Lib.hid h.at_
  have ML : Hid (∀ k, k ≤ N → tks P ch k < 18446744073709551616) := fun k hk => lt64 (N := N) (by omega) fun j hj => by have := tks_lim P ch k j hj; omega
  have MS : Hid (∀ k, tks P ch (k + 1) = if opS P k = 1 ∧ has (nthS P k) ch = true then tks P ch k ||| 2 ^ k else tks P ch k) := fun k => rfl
  have q1 : IntKind.u8.wrap ((ch : Int) / 64) = (ch : Int) / 64 := by simp [IntKind.wrap, IntKind.bits, IntKind.signed]; omega
  have q2 : IntKind.u8.wrap ((ch : Int) % 64) = (ch : Int) % 64 := by simp [IntKind.wrap, IntKind.bits, IntKind.signed]; omega
  have q9 : (ch : Int).tmod 64 = (ch : Int) % 64 := Int.tmod_eq_emod_of_nonneg (by omega)
  have q3 : (ch : Int) / 64 < 4 := by omega
  have q4 : (0 : Int) ≤ (ch : Int) / 64 := by omega
  have q5 : ((ch : Int) / 64).toNat = ch / 64 := by omega
  have q6 : (0 : Int) ≤ (ch : Int) % 64 := by omega
  have q7 : ((ch : Int) % 64).toNat = ch % 64 := by omega
  have q8 : (ch : Int) % 64 < 64 := by omega
  clear h
  go_enter Tryd.func44, Tryd.ntmps44
  go_wp2_with fail
  go_loopw [5, 10] (fun z i wr => ∃ k : Nat, k ≤ N ∧ i = .int .i64 (k : Int) ∧ z = .int .u64 ((tks P ch k : Nat) : Int) ∧ Hid (Below w.heap.size w wr)) (fun _ i _ => N - (intOf i).toNat)
  case atStart => exact ⟨0, by omega, rfl, rfl, Below.refl _ _⟩
  case round =>
    obtain ⟨k, hk, rfl, rfl, HI⟩ := hrel
    by_cases hkN : k < N
    · have hkz : (k : Int) < (N : Int) := by omega
      obtain ⟨c0, c1, c2, c3, c4, c5, c6⟩ := HC.out wr HI.out k hkN
      have MK := Lib.hid (MS.out k)
      have mlt := Lib.hid (ML.out k hk)
      have hop : Hid (opS P k = (nthS P k).op) := rfl
      obtain ⟨s, hs⟩ : ∃ s, nthS P k = s := ⟨_, rfl⟩
      rw [hs] at c0 c1 c2 c3 c4 c5 c6 hop MK
      clear hs HC ML MS
      obtain ⟨m, hm⟩ : ∃ m, tks P ch k = m := ⟨_, rfl⟩
      rw [hm] at MK mlt
      rw [hm]
      clear hm
      obtain ⟨op, a, b, c, d, x, y⟩ := s
      dsimp only at c0 c1 c2 c3 c4 c5 c6 hop
      have B6 : Hid (Below w.heap.size w (wr.alloc (.cells #[.int .i64 op, .int .u64 (a : Int), .int .u64 (b : Int), .int .u64 (c : Int), .int .u64 (d : Int), .int .i64 x, .int .i64 y] 48))) := HI.out.alloc HI.out.size _
      by_cases h1 : op = 1
      · subst h1
        have CW := cell_word (heap_alloc_new wr (.cells #[.int .i64 1, .int .u64 (a : Int), .int .u64 (b : Int), .int .u64 (c : Int), .int .u64 (d : Int), .int .i64 x, .int .i64 y] 48)) (show ch / 64 < 4 by omega)
        have HW : Hid (has ⟨1, a, b, c, d, x, y⟩ ch = (word4 a b c d (ch / 64) / 2 ^ (ch % 64) % 2 == 1)) := rfl
        generalize word4 a b c d (ch / 64) = z at *
        have HZ : (bits .and .u64 ((z : Int) / 2 ^ (ch % 64)) 1 == 1) = (z / 2 ^ (ch % 64) % 2 == 1) := by
          have e1 : (z : Int) / 2 ^ (ch % 64) = ((z / 2 ^ (ch % 64) : Nat) : Int) := by simp
          rw [e1, and_one, Bool.eq_iff_iff, beq_iff_eq, beq_iff_eq]; omega
        generalize (z / 2 ^ (ch % 64) % 2 == 1) = q at *
        have MK2 : Hid (tks P ch (k + 1) = if q = true then m ||| 2 ^ k else m) := by
          show _ = _
          rw [MK.out, HW.out, hop.out]; simp
        clear MK HW hop
        cases q
        · have R : Hid (tks P ch (k + 1) = m) := by show _ = _; rw [MK2.out, if_neg (by simp)]
          clear MK2 mlt
          go_wp2
          clear c0 c1 c2 c3 c4 c5 c6 HZ CW
          go_roundw
          case rel => exact ⟨k + 1, by omega, by go_num, by rw [R.out], B6.out⟩
          case measure => simp [intOf]; omega
        · have EO := Lib.hid (or_two m k mlt.out (by omega))
          have R : Hid (tks P ch (k + 1) = m ||| 2 ^ k) := by show _ = _; rw [MK2.out, if_pos rfl]
          obtain ⟨m', hm'⟩ : ∃ m', m ||| 2 ^ k = m' := ⟨_, rfl⟩
          rw [hm'] at EO R
          clear hm' MK2 mlt
          go_wp2
          rw [EO.out]
          clear c0 c1 c2 c3 c4 c5 c6 HZ CW
          go_roundw
          case rel => exact ⟨k + 1, by omega, by go_num, by rw [R.out], B6.out⟩
          case measure => simp [intOf]; omega
      · have h1b : (op == 1) = false := by simpa using h1
        have R : Hid (tks P ch (k + 1) = m) := by show _ = _; rw [MK.out, if_neg (by rw [hop.out]; exact fun h => h1 h.1)]
        clear MK mlt hop h1
        go_wp2
        clear c0 c1 c2 c3 c4 c5 c6
        go_roundw
        case rel => exact ⟨k + 1, by omega, by go_num, by rw [R.out], B6.out⟩
        case measure => simp [intOf]; omega
    · obtain rfl : k = N := by omega
      have hkz : ¬ (k : Int) < (k : Int) := by omega
      go_wp2
      go_ret
      exact ⟨rfl, HI.out⟩

theorem andnot_nat (a b : Nat) (ha : a < 18446744073709551616) (hb : b < 18446744073709551616) : bits .andNot .u64 (a : Int) (b : Int) = ((minus a b : Nat) : Int) := by
  show IntKind.u64.wrap ((BitVec.ofInt 64 (a : Int) &&& ~~~BitVec.ofInt 64 (b : Int)).toNat : Int) = _
  have h1 : (BitVec.ofInt 64 (a : Int)).toNat = a := by rw [BitVec.ofInt_natCast, BitVec.toNat_ofNat]; exact Nat.mod_eq_of_lt (by omega)
  have h2 : (BitVec.ofInt 64 (b : Int)).toNat = b := by rw [BitVec.ofInt_natCast, BitVec.toNat_ofNat]; exact Nat.mod_eq_of_lt (by omega)
  rw [BitVec.toNat_and, BitVec.toNat_not, h1, h2, IntKind.wrap_u64]
  have e : 2 ^ 64 - 1 - b = 18446744073709551615 - b := by omega
  rw [e]
  have hm : a &&& (18446744073709551615 - b) < 2 ^ 64 := Nat.and_lt_two_pow _ (by omega)
  unfold minus
  omega
theorem or_twos (a b : Nat) (ha : a < 64) (hb : b < 64) : bits .or .u64 (IntKind.u64.wrap (2 ^ a)) (IntKind.u64.wrap (2 ^ b)) = ((2 ^ a ||| 2 ^ b : Nat) : Int) := by
  have h2 : 2 ^ a < 18446744073709551616 := by have : 2 ^ a < 2 ^ 64 := Nat.pow_lt_pow_right (by omega) ha; simpa using this
  have e : ((2 : Int) ^ a) = ((2 ^ a : Nat) : Int) := by simp
  rw [e, IntKind.wrap_u64]
  generalize 2 ^ a = z at *
  have e2 : (z : Int) % 18446744073709551616 = (z : Int) := by omega
  rw [e2]
  exact or_two z b h2 hb
theorem pow_or_fit {a b : Nat} (ha : a < 64) (hb : b < 64) : 2 ^ a ||| 2 ^ b < 18446744073709551616 := by
  have := Nat.or_lt_two_pow (n := 64) (Nat.pow_lt_pow_right (show 1 < 2 by omega) ha) (Nat.pow_lt_pow_right (show 1 < 2 by omega) hb)
  simpa using this
theorem pow_fit {a : Nat} (ha : a < 64) : 2 ^ a < 18446744073709551616 := by
  have := Nat.pow_lt_pow_right (show 1 < 2 by omega) ha
  simpa using this
theorem or_fit {a b : Nat} (ha : a < 18446744073709551616) (hb : b < 18446744073709551616) : a ||| b < 18446744073709551616 := by
  have := Nat.or_lt_two_pow (n := 64) (x := a) (y := b) (by simpa using ha) (by simpa using hb)
  simpa using this

set_option maxRecDepth 100000 in
set_option maxHeartbeats 8000000 in
theorem reached_any (P : List St) (f blk off N cap : Nat) (w : World) (hP : progOk P = true) (hf : ∀ i, f.testBit i = true → i < P.length) (h : IsP w blk off N P) (hT : DTab w) :
    Calls Tryd.prog 26 #[.slice (some ⟨blk, off, none⟩) N cap, .int .u64 (f : Int)] w fun e w' => (∃ z : Nat, e = .returned (.int .u64 (z : Int)) ∧ Word z (fun q => ∃ p, f.testBit p = true ∧ Fs P p q)) ∧ Below w.heap.size w w' := by
  have hN40 : N ≤ 40 := by have := prog_len2 hP; rw [h.len] at this; omega
  have HC := Lib.hid h.at_
  have HL := Lib.hid h.len
  have HT := Lib.hid (fun W (hW : Below w.heap.size w W) => hT.below hW)
  have HB := Lib.hid (RInv.begin hf)
  have HP := Lib.hid hP
  clear h hT hf hP
  go_enter Tryd.func26, Tryd.ntmps26
  go_wp2_with fail
  go_loopg [5, 6, 7] (unseen 0 N) (fun m es se td wr => ∃ t s e : Nat, es = .int .u64 (e : Int) ∧ se = .int .u64 (s : Int) ∧ td = .int .u64 (t : Int) ∧ Hid (RInv P f t s e ∧ Below w.heap.size w wr ∧ unseen s N = m))
  case atStart => exact ⟨f, 0, 0, rfl, rfl, rfl, HB.out, Below.refl _ _, rfl⟩
  case round =>
    clear HB
    obtain ⟨t, s, e, rfl, rfl, rfl, HI⟩ := hrel
    by_cases h0 : t = 0
    · subst h0
      have W := Lib.hid HI.out.1.done
      have B := Lib.hid HI.out.2.1
      clear HC HL HT HP HI
      go_wp2
      go_ret
      exact ⟨⟨e, rfl, W.out⟩, B.out⟩
    · have hz : ((t : Int) != 0) = true := by simp; omega
      have hlen := prog_len2 HP.out
      have ht : t < 18446744073709551616 := lt64 (N := P.length) (by omega) fun j hj => HI.out.1.lim j (.inl hj)
      have hs : s < 18446744073709551616 := lt64 (N := P.length) (by omega) fun j hj => HI.out.1.lim j (.inr hj)
      have he : e < 18446744073709551616 := lt64 (N := P.length) (by omega) fun j hj => HI.out.1.lim j (.inr ((HI.out.1.ends j).1 hj).1)
      obtain ⟨hbt, hb64⟩ := ctz_bit ht h0
      have TZ := Lib.hid (tz_any t ht h0 wr (HT.out wr HI.out.2.1))
      generalize Lib.ctz 64 t = i at *
      have hiN : i < N := by have := HI.out.1.lim i (.inl hbt); rw [HL.out] at this; exact this
      have hiz : (i : Int) < (N : Int) := by omega
      have O := Lib.hid (prog_at HP.out (show i < P.length by rw [HL.out]; exact hiN))
      have ES := Lib.hid (or_two s i hs hb64)
      have EE := Lib.hid (or_two e i he hb64)
      have hs1 := Lib.hid (or_fit hs (pow_fit hb64))
      have ST := Lib.hid (fun t1 e1 => HI.out.1.step (i := i) (todo1 := t1) (ends1 := e1) HP.out hbt)
      have BW := Lib.hid HI.out.2.1
      have UN := Lib.hid HI.out.2.2
      have EM := Lib.hid (fun q => emv_of (P := P) (p := i) (q := q) HP.out)
      have hiP : Hid (i < P.length) := by show _ < _; rw [HL.out]; exact hiN
      obtain ⟨c0, c1, c2, c3, c4, c5, c6⟩ := HC.out wr HI.out.2.1 i hiN
      have hop : Hid (opS P i = (nthS P i).op) := rfl
      have hX := Lib.hid O.out.x2
      have hX3 := Lib.hid O.out.x3
      have hK := Lib.hid O.out.kind
      clear O hbt h0 HI
      obtain ⟨st, hst⟩ : ∃ st, nthS P i = st := ⟨_, rfl⟩
      rw [hst] at c0 c1 c2 c3 c4 c5 c6 hop hX hX3
      clear hst HC HT
      obtain ⟨s1, hs1e⟩ : ∃ s1, s ||| 2 ^ i = s1 := ⟨_, rfl⟩
      rw [hs1e] at ES hs1 ST
      clear hs1e
      obtain ⟨op, a, b, c, d, x, y⟩ := st
      dsimp only at c0 c1 c2 c3 c4 c5 c6 hop hX hX3
      have B6 : Hid (Below w.heap.size w (wr.alloc (.cells #[.int .i64 op, .int .u64 (a : Int), .int .u64 (b : Int), .int .u64 (c : Int), .int .u64 (d : Int), .int .i64 x, .int .i64 y] 48))) := BW.out.alloc BW.out.size _
      go_wp2_with fail
      refine TZ.out.mono ?_
      rintro e0 w' ⟨rfl, rfl⟩
      clear TZ
      by_cases h2 : op = 2
      · subst h2
        obtain ⟨ex, hx, ey, hy⟩ := hX.out hop.out
        clear hX3 hX
        generalize toX P i = X at *
        generalize toY P i = Y at *
        subst ex ey
        obtain ⟨p, hp⟩ : ∃ p, 2 ^ X ||| 2 ^ Y = p := ⟨_, rfl⟩
        obtain ⟨t1, ht1⟩ : ∃ t1, t ||| p = t1 := ⟨_, rfl⟩
        obtain ⟨t2, ht2⟩ : ∃ t2, minus t1 s1 = t2 := ⟨_, rfl⟩
        have hN64 : P.length ≤ 40 := hlen.2
        have hp64 : p < 18446744073709551616 := by rw [← hp]; exact pow_or_fit (by omega) (by omega)
        have ht164 : t1 < 18446744073709551616 := by rw [← ht1]; exact or_fit ht hp64
        have E1 : Hid (bits .or .u64 (IntKind.u64.wrap (2 ^ X)) (IntKind.u64.wrap (2 ^ Y)) = (p : Int)) := by have := or_twos X Y (by omega) (by omega); rw [hp] at this; exact this
        have E2 : Hid (bits .or .u64 (t : Int) (p : Int) = (t1 : Int)) := by have := bits_or_u64_nat t p ht hp64; rw [ht1] at this; exact this
        have E3 : Hid (bits .andNot .u64 (t1 : Int) (s1 : Int) = (t2 : Int)) := by have := andnot_nat t1 s1 ht164 hs1.out; rw [ht2] at this; exact this
        have R : Hid (RInv P f t2 s1 e ∧ unseen s1 P.length < unseen s P.length) := by
          have := ST.out t1 e (fun j => by
            rw [← ht1, ← hp, or_bit, or_bit, bit_pow, bit_pow, EM.out j]
            constructor
            · rintro (h | h)
              · exact .inl h
              · exact .inr ⟨hiP.out, .inl ⟨hop.out, h⟩⟩
            · rintro (h | ⟨_, ⟨_, h⟩ | ⟨h, _⟩⟩)
              · exact .inl h
              · exact .inr h
              · have := hop.out; omega) (fun j => by
            constructor
            · exact .inl
            · rintro (h | ⟨_, h⟩)
              · exact h
              · have := hop.out; omega)
          rw [ht2] at this
          exact this
        have hX64 : X < 64 := by omega
        have hY64 : Y < 64 := by omega
        clear hp ht1 ht2 ht164 hp64 ST EM hop hiP hK hx hy hN64 EE ht hs he hs1
        go_wp2_with fail
        rw [ES.out]
        go_quiet (fail)
        go_wp2
        rw [E1.out, E2.out, E3.out]
        have BN := Lib.hid (drewN_below B6.out nq)
        clear c0 c1 c2 c3 c4 c5 c6
        go_roundg (unseen s1 N)
        case measure => have := R.out.2; rw [HL.out] at this; rw [UN.out] at this; exact this
        case rel => exact ⟨t2, s1, e, rfl, rfl, rfl, R.out.1, BN.out, rfl⟩
      have h2b : (op == 2) = false := by simpa using h2
      by_cases h3 : op = 3
      · subst h3
        obtain ⟨ex, hx⟩ := hX3.out hop.out
        clear hX3 hX
        generalize toX P i = X at *
        generalize toY P i = Y at *
        subst ex
        obtain ⟨t1, ht1⟩ : ∃ t1, t ||| 2 ^ X = t1 := ⟨_, rfl⟩
        obtain ⟨t2, ht2⟩ : ∃ t2, minus t1 s1 = t2 := ⟨_, rfl⟩
        have hN64 : P.length ≤ 40 := hlen.2
        have ht164 : t1 < 18446744073709551616 := by rw [← ht1]; exact or_fit ht (pow_fit (by omega))
        have E2 : Hid (bits .or .u64 (t : Int) (IntKind.u64.wrap (2 ^ X)) = (t1 : Int)) := by have := or_two t X ht (by omega); rw [ht1] at this; exact this
        have E3 : Hid (bits .andNot .u64 (t1 : Int) (s1 : Int) = (t2 : Int)) := by have := andnot_nat t1 s1 ht164 hs1.out; rw [ht2] at this; exact this
        have R : Hid (RInv P f t2 s1 e ∧ unseen s1 P.length < unseen s P.length) := by
          have := ST.out t1 e (fun j => by
            rw [← ht1, or_bit, bit_pow, EM.out j]
            constructor
            · rintro (h | h)
              · exact .inl h
              · exact .inr ⟨hiP.out, .inr ⟨hop.out, h⟩⟩
            · rintro (h | ⟨_, ⟨h, _⟩ | ⟨_, h⟩⟩)
              · exact .inl h
              · have := hop.out; omega
              · exact .inr h) (fun j => by
            constructor
            · exact .inl
            · rintro (h | ⟨_, h⟩)
              · exact h
              · have := hop.out; omega)
          rw [ht2] at this
          exact this
        have hX64 : X < 64 := by omega
        clear ht1 ht2 ht164 ST EM hop hiP hK hx hN64 EE ht hs he hs1 h2
        go_wp2
        rw [ES.out, E2.out, E3.out]
        clear c0 c1 c2 c3 c4 c5 c6
        go_roundg (unseen s1 N)
        case measure => have := R.out.2; rw [HL.out] at this; rw [UN.out] at this; exact this
        case rel => exact ⟨t2, s1, e, rfl, rfl, rfl, R.out.1, B6.out, rfl⟩
      · have h3b : (op == 3) = false := by simpa using h3
        obtain ⟨e1, he1⟩ : ∃ e1, e ||| 2 ^ i = e1 := ⟨_, rfl⟩
        obtain ⟨t2, ht2⟩ : ∃ t2, minus t s1 = t2 := ⟨_, rfl⟩
        have hop14 : opS P i = 1 ∨ opS P i = 4 := by have := hK.out; rw [hop.out] at this ⊢; omega
        have E3 : Hid (bits .andNot .u64 (t : Int) (s1 : Int) = (t2 : Int)) := by have := andnot_nat t s1 ht hs1.out; rw [ht2] at this; exact this
        have R : Hid (RInv P f t2 s1 e1 ∧ unseen s1 P.length < unseen s P.length) := by
          have := ST.out t e1 (fun j => by
            rw [EM.out j]
            constructor
            · exact .inl
            · rintro (h | ⟨_, ⟨h, _⟩ | ⟨h, _⟩⟩)
              · exact h
              · omega
              · omega) (fun j => by
            rw [← he1, or_bit, bit_pow]
            constructor
            · rintro (h | h)
              · exact .inl h
              · exact .inr ⟨h, hop14⟩
            · rintro (h | ⟨h, _⟩)
              · exact .inl h
              · exact .inr h)
          rw [ht2] at this
          exact this
        rw [he1] at EE
        clear he1 ht2 ST EM hop hiP hK ht hs he hs1 h2 h3 hop14 hX hX3
        go_wp2
        rw [ES.out, EE.out, E3.out]
        clear c0 c1 c2 c3 c4 c5 c6
        go_roundg (unseen s1 N)
        case measure => have := R.out.2; rw [HL.out] at this; rw [UN.out] at this; exact this
        case rel => exact ⟨t2, s1, e1, rfl, rfl, rfl, R.out.1, B6.out, rfl⟩

set_option maxRecDepth 100000 in
set_option maxHeartbeats 4000000 in
theorem next0_any (P : List St) (now ch blk off N cap : Nat) (w : World) (hP : progOk P = true) (hnow : now < 18446744073709551616) (hch : ch < 256) (h : IsP w blk off N P) (hT : DTab w) :
    Calls Tryd.prog 27 #[.slice (some ⟨blk, off, none⟩) N cap, .int .u64 (now : Int), .int .u8 (ch : Int)] w fun e w' => e = .returned (.int .u64 ((vNext P now ch : Nat) : Int)) ∧ Below w.heap.size w w' := by
  have hlen := prog_len2 hP
  rw [h.len] at hlen
  have TK := Lib.hid (takers_any P ch blk off N cap w hch hlen.2 h)
  have RE := Lib.hid (fun f W (hW : Below w.heap.size w W) hf => reached_any P f blk off N cap W hP hf (h.grown hW) (hT.below hW))
  have NW : Hid (∀ z, Word z (fun q => ∃ p, (2 * (now &&& tks P ch N)).testBit p = true ∧ Fs P p q) → z = vNext P now ch) := fun z hz => by rw [← h.len] at hz; exact next_word hP hz
  have NL : Hid (∀ i, (2 * (now &&& tks P ch N)).testBit i = true → i < P.length) := by have := next_lim hP now ch; rw [h.len] at this ⊢; exact this
  have TL : tks P ch N < 18446744073709551616 := lt64 (N := N) (by omega) (tks_lim P ch N)
  have E1 : Hid (bits .and .u64 (now : Int) ((tks P ch N : Nat) : Int) = ((now &&& tks P ch N : Nat) : Int)) := bits_and_u64_nat _ _ hnow TL
  have hl : 2 * (now &&& tks P ch N) < 18446744073709551616 := lt64 (N := N) (by omega) (by have := NL.out; rw [h.len] at this; exact this)
  have E2 : Hid (IntKind.u64.wrap (((now &&& tks P ch N : Nat) : Int) * 2) = ((2 * (now &&& tks P ch N) : Nat) : Int)) := by show _ = _; rw [IntKind.wrap_u64]; omega
  clear h hT hlen hl TL
  generalize tks P ch N = m at *
  obtain ⟨m1, hm1⟩ : ∃ m1, now &&& m = m1 := ⟨_, rfl⟩
  rw [hm1] at NW NL E1 E2
  obtain ⟨m2, hm2⟩ : ∃ m2, 2 * m1 = m2 := ⟨_, rfl⟩
  rw [hm2] at NW NL E2
  clear hm1 hm2
  go_enter Tryd.func27, Tryd.ntmps27
  go_wp2_with fail
  refine TK.out.mono ?_
  rintro e w1 ⟨rfl, b1⟩
  have RE1 := Lib.hid (RE.out m2 w1 b1 NL.out)
  have B1 := Lib.hid b1
  clear b1 TK RE
  go_wp2_with fail
  rw [E1.out, E2.out]
  refine RE1.out.mono ?_
  rintro e w2 ⟨⟨z, rfl, hz⟩, b2⟩
  have hz2 := Lib.hid (NW.out z hz)
  have B2 := Lib.hid (B1.out.trans (b2.mono B1.out.size))
  clear hz b2 RE1 NW NL
  go_wp2
  go_ret
  exact ⟨by rw [hz2.out]; rfl, B2.out⟩
end Go.Proofs.YtonfmbnankihbaaDoor
namespace Go.Proofs.YtonfmbnankihbaaDoor
open Go.RowKit
open Sc

theorem shr_and (m i : Nat) : bits .and .u64 ((m : Int) / 2 ^ i) 1 = ((m / 2 ^ i % 2 : Nat) : Int) := by
  have e1 : (m : Int) / 2 ^ i = ((m / 2 ^ i : Nat) : Int) := by simp
  rw [e1, and_one]
theorem bit_zero {m i : Nat} : (bits .and .u64 ((m : Int) / 2 ^ i) 1 == 0) = !m.testBit i := by rw [shr_and, bit_not]
theorem bit_one {m i : Nat} : (bits .and .u64 ((m : Int) / 2 ^ i) 1 == 1) = m.testBit i := by rw [shr_and, bit_is]
theorem start_word64 {a : Nat} (h : a < 64) : IntKind.u64.wrap (2 ^ a) = ((2 ^ a : Nat) : Int) := by
  have h2 := pow_fit h
  have e : ((2 : Int) ^ a) = ((2 ^ a : Nat) : Int) := by simp
  rw [e, IntKind.wrap_u64]
  generalize 2 ^ a = z at *
  omega

set_option maxRecDepth 100000 in
set_option maxHeartbeats 8000000 in
theorem rreach_any (P : List St) (at_ blk off N cap : Nat) (w : World) (hP : progOk P = true) (ha : at_ < N) (h : IsP w blk off N P) :
    Calls Tryd.prog 30 #[.slice (some ⟨blk, off, none⟩) N cap, .int .i64 (at_ : Int)] w fun e w' => e = .returned (.int .u64 ((rreach P at_ : Nat) : Int)) ∧ Below w.heap.size w w' := by
  have hN40 : N ≤ 40 := by have := prog_len2 hP; rw [h.len] at this; omega
  have HC := Lib.hid h.at_
  have HL := Lib.hid h.len
  have HP := Lib.hid hP
  have E0 := Lib.hid (start_word64 (a := at_) (by omega))
  have ML : Hid (∀ j, (2 ^ at_).testBit j = true → j < P.length) := fun j hj => by rw [bit_pow] at hj; rw [h.len]; omega
  have M0 : Hid (rmet P (2 ^ at_) 0 = 2 ^ at_) := rfl
  have RR : Hid (rreach P at_ = rout P (rmet P (2 ^ at_) N) N) := by show _ = _; rw [← h.len]; rfl
  have MS : Hid (∀ n, rmet P (2 ^ at_) (n + 1) = rrow P (rmet P (2 ^ at_) n) N) := fun n => by rw [← h.len]; rfl
  have OL : Hid (∀ m k, k ≤ N → rout P m k < 18446744073709551616) := fun m k hk => lt64 (N := N) (by omega) fun j hj => by have := rout_lim P m k j hj; omega
  clear h hP
  obtain ⟨m0, hm0⟩ : ∃ m0, 2 ^ at_ = m0 := ⟨_, rfl⟩
  rw [hm0] at E0 ML M0 RR MS
  clear hm0
  go_enter Tryd.func30, Tryd.ntmps30
  go_wp2_with fail
  rw [E0.out, ← M0.out]
  clear E0 M0
  go_loopw [5, 6] (fun z i wr => ∃ n : Nat, n ≤ N ∧ i = .int .i64 (n : Int) ∧ z = .int .u64 ((rmet P m0 n : Nat) : Int) ∧ Hid (Below w.heap.size w wr)) (fun _ i _ => N - (intOf i).toNat)
  case atStart => exact ⟨0, by omega, rfl, rfl, Below.refl _ _⟩
  case round =>
    obtain ⟨n, hn, rfl, rfl, HI⟩ := hrel
    by_cases hnN : n < N
    · have hnz : (n : Int) < (N : Int) := by omega
      have MK := Lib.hid (MS.out n)
      have LM : Hid (∀ j, (rmet P m0 n).testBit j = true → j < P.length) := rmet_lim HP.out ML.out n
      clear MS RR OL ML
      have R0 : Hid (rrow P (rmet P m0 n) 0 = rmet P m0 n) := rfl
      obtain ⟨m1, hm1⟩ : ∃ m1, rmet P m0 n = m1 := ⟨_, rfl⟩
      rw [hm1] at MK LM R0
      rw [hm1]
      clear hm1
      go_wp2_with fail
      rw [← R0.out]
      clear R0
      go_loopw [5, 7] (fun z i wr => ∃ k : Nat, k ≤ N ∧ i = .int .i64 (k : Int) ∧ z = .int .u64 ((rrow P m1 k : Nat) : Int) ∧ Hid (Below w.heap.size w wr)) (fun _ i _ => N - (intOf i).toNat)
      case atStart => exact ⟨0, by omega, rfl, rfl, HI⟩
      case round =>
        clear HI
        obtain ⟨k, hk, rfl, rfl, HI⟩ := hrel
        by_cases hkN : k < N
        · have hkz : (k : Int) < (N : Int) := by omega
          obtain ⟨c0, c1, c2, c3, c4, c5, c6⟩ := HC.out wr HI.out k hkN
          have hlen : P.length ≤ 40 := (prog_len2 HP.out).2
          have ht : Hid (rrow P m1 k < 18446744073709551616) := lt64 (N := P.length) (by omega) (rrow_lim HP.out LM.out k (by rw [HL.out]; exact hk))
          have O := Lib.hid (prog_at HP.out (show k < P.length by rw [HL.out]; exact hkN))
          have hX := Lib.hid O.out.x2
          have hX3 := Lib.hid O.out.x3
          have hop : Hid (opS P k = (nthS P k).op) := rfl
          have RS : Hid (rrow P m1 (k + 1) = if (rrow P m1 k).testBit k = true then (if opS P k = 2 then (rrow P m1 k ||| 2 ^ toX P k) ||| 2 ^ toY P k else if opS P k = 3 then rrow P m1 k ||| 2 ^ toX P k else rrow P m1 k) else rrow P m1 k) := rfl
          obtain ⟨st, hst⟩ : ∃ st, nthS P k = st := ⟨_, rfl⟩
          rw [hst] at c0 c1 c2 c3 c4 c5 c6 hop hX hX3
          clear hst HC LM MK O
          obtain ⟨t, ht0⟩ : ∃ t, rrow P m1 k = t := ⟨_, rfl⟩
          rw [ht0] at ht RS
          rw [ht0]
          clear ht0
          obtain ⟨op, a, b, c, d, x, y⟩ := st
          dsimp only at c0 c1 c2 c3 c4 c5 c6 hop hX hX3
          have BZ := @bit_zero t k
          cases hb : t.testBit k
          · have R : Hid (rrow P m1 (k + 1) = t) := by show _ = _; rw [RS.out, if_neg (by rw [hb]; simp)]
            rw [hb] at BZ
            clear RS hX hX3 hop ht hb
            go_wp2
            clear BZ c0 c1 c2 c3 c4 c5 c6
            go_roundw
            case rel => exact ⟨k + 1, by omega, by go_num, by rw [R.out], HI⟩
            case measure => simp [intOf]; omega
          · rw [hb] at BZ
            have RS2 : Hid (rrow P m1 (k + 1) = (if opS P k = 2 then (t ||| 2 ^ toX P k) ||| 2 ^ toY P k else if opS P k = 3 then t ||| 2 ^ toX P k else t)) := by show _ = _; rw [RS.out, if_pos hb]
            clear RS hb
            by_cases h2 : op = 2
            · subst h2
              obtain ⟨ex, hx, ey, hy⟩ := hX.out hop.out
              have R : Hid (rrow P m1 (k + 1) = (t ||| 2 ^ toX P k) ||| 2 ^ toY P k) := by show _ = _; rw [RS2.out, if_pos hop.out]
              clear hX3 hX hop RS2
              generalize toX P k = X at *
              generalize toY P k = Y at *
              subst ex ey
              have E1 := Lib.hid (or_two t X ht.out (by omega))
              have E2 := Lib.hid (or_two (t ||| 2 ^ X) Y (or_fit ht.out (pow_fit (by omega))) (by omega))
              obtain ⟨t1, ht1⟩ : ∃ t1, t ||| 2 ^ X = t1 := ⟨_, rfl⟩
              rw [ht1] at E1 E2 R
              obtain ⟨t2, ht2⟩ : ∃ t2, t1 ||| 2 ^ Y = t2 := ⟨_, rfl⟩
              rw [ht2] at E2 R
              have hX64 : X < 64 := by omega
              have hY64 : Y < 64 := by omega
              clear hx hy ht1 ht2 ht
              go_wp2_with fail
              go_quiet (fail)
              rw [E1.out, E2.out]
              have BN := Lib.hid (drewN_below HI.out nq)
              clear E1 E2
              go_wp2
              clear BZ c0 c1 c2 c3 c4 c5 c6
              go_roundw
              case rel => exact ⟨k + 1, by omega, by go_num, by rw [R.out], BN.out⟩
              case measure => simp [intOf]; omega
            · have h2b : (op == 2) = false := by simpa using h2
              by_cases h3 : op = 3
              · subst h3
                obtain ⟨ex, hx⟩ := hX3.out hop.out
                have R : Hid (rrow P m1 (k + 1) = t ||| 2 ^ toX P k) := by show _ = _; rw [RS2.out, if_neg (by have := hop.out; omega), if_pos hop.out]
                clear hX3 hX hop RS2
                generalize toX P k = X at *
                subst ex
                have E1 := Lib.hid (or_two t X ht.out (by omega))
                obtain ⟨t1, ht1⟩ : ∃ t1, t ||| 2 ^ X = t1 := ⟨_, rfl⟩
                rw [ht1] at E1 R
                have hX64 : X < 64 := by omega
                clear hx ht1 ht h2
                go_wp2
                rw [E1.out]
                clear BZ c0 c1 c2 c3 c4 c5 c6
                go_roundw
                case rel => exact ⟨k + 1, by omega, by go_num, by rw [R.out], HI⟩
                case measure => simp [intOf]; omega
              · have h3b : (op == 3) = false := by simpa using h3
                have R : Hid (rrow P m1 (k + 1) = t) := by show _ = _; rw [RS2.out, if_neg (by rw [hop.out]; exact h2), if_neg (by rw [hop.out]; exact h3)]
                clear hX3 hX hop RS2 h2 h3 ht
                go_wp2
                clear BZ c0 c1 c2 c3 c4 c5 c6
                go_roundw
                case rel => exact ⟨k + 1, by omega, by go_num, by rw [R.out], HI⟩
                case measure => simp [intOf]; omega
        · obtain rfl : k = N := by omega
          have hkz : ¬ (k : Int) < (k : Int) := by omega
          clear HC
          go_wp2
          rw [← MK.out]
          go_roundw
          case rel => exact ⟨n + 1, by omega, by go_num, rfl, HI⟩
          case measure => simp [intOf]; omega
    · obtain rfl : n = N := by omega
      have hnz : ¬ (n : Int) < (n : Int) := by omega
      clear MS ML
      obtain ⟨m1, hm1⟩ : ∃ m1, rmet P m0 n = m1 := ⟨_, rfl⟩
      rw [hm1] at RR
      rw [hm1]
      clear hm1
      have R0 : Hid (rout P m1 0 = 0) := rfl
      have Z0 : Hid ((0 : Int) = ((rout P m1 0 : Nat) : Int)) := by show _ = _; rw [R0.out]; rfl
      clear R0
      go_wp2_with fail
      rw [Z0.out]
      clear Z0
      go_loopw [8, 9] (fun z i wr => ∃ k : Nat, k ≤ n ∧ i = .int .i64 (k : Int) ∧ z = .int .u64 ((rout P m1 k : Nat) : Int) ∧ Hid (Below w.heap.size w wr)) (fun _ i _ => n - (intOf i).toNat)
      case atStart => exact ⟨0, by omega, rfl, rfl, HI⟩
      case round =>
        clear HI
        obtain ⟨k, hk, rfl, rfl, HI⟩ := hrel
        by_cases hkN : k < n
        · have hkz : (k : Int) < (n : Int) := by omega
          obtain ⟨c0, _, _, _, _, _, _⟩ := HC.out wr HI.out k hkN
          have ht := Lib.hid (OL.out m1 k hk)
          have hop : Hid (opS P k = (nthS P k).op) := rfl
          have RS : Hid (rout P m1 (k + 1) = if m1.testBit k = true ∧ (opS P k = 1 ∨ opS P k = 4) then rout P m1 k ||| 2 ^ k else rout P m1 k) := rfl
          obtain ⟨op, hst⟩ : ∃ op, (nthS P k).op = op := ⟨_, rfl⟩
          rw [hst] at c0 hop
          clear hst HC RR OL
          obtain ⟨t, ht0⟩ : ∃ t, rout P m1 k = t := ⟨_, rfl⟩
          rw [ht0] at ht RS
          rw [ht0]
          clear ht0
          have BZ := @bit_one m1 k
          have EO := Lib.hid (or_two t k ht.out (by omega))
          clear ht
          cases hb : m1.testBit k
          · have R : Hid (rout P m1 (k + 1) = t) := by show _ = _; rw [RS.out, if_neg (by rw [hb]; simp)]
            rw [hb] at BZ
            clear RS hop EO hb
            go_wp2
            clear BZ c0
            go_roundw
            case rel => exact ⟨k + 1, by omega, by go_num, by rw [R.out], HI⟩
            case measure => simp [intOf]; omega
          · rw [hb] at BZ
            by_cases h1 : op = 1
            · subst h1
              have R : Hid (rout P m1 (k + 1) = t ||| 2 ^ k) := by show _ = _; rw [RS.out, if_pos ⟨hb, .inl hop.out⟩]
              obtain ⟨t1, ht1⟩ : ∃ t1, t ||| 2 ^ k = t1 := ⟨_, rfl⟩
              rw [ht1] at EO R
              clear RS hop ht1 hb
              go_wp2
              rw [EO.out]
              clear BZ c0
              go_roundw
              case rel => exact ⟨k + 1, by omega, by go_num, by rw [R.out], HI⟩
              case measure => simp [intOf]; omega
            · have h1b : (op == 1) = false := by simpa using h1
              by_cases h4 : op = 4
              · subst h4
                have R : Hid (rout P m1 (k + 1) = t ||| 2 ^ k) := by show _ = _; rw [RS.out, if_pos ⟨hb, .inr hop.out⟩]
                obtain ⟨t1, ht1⟩ : ∃ t1, t ||| 2 ^ k = t1 := ⟨_, rfl⟩
                rw [ht1] at EO R
                clear RS hop ht1 hb h1
                go_wp2
                rw [EO.out]
                clear BZ c0
                go_roundw
                case rel => exact ⟨k + 1, by omega, by go_num, by rw [R.out], HI⟩
                case measure => simp [intOf]; omega
              · have h4b : (op == 4) = false := by simpa using h4
                have R : Hid (rout P m1 (k + 1) = t) := by show _ = _; rw [RS.out, if_neg (by rw [hop.out]; rintro ⟨_, h | h⟩; exact h1 h; exact h4 h)]
                clear RS hop EO hb h1 h4
                go_wp2
                clear BZ c0
                go_roundw
                case rel => exact ⟨k + 1, by omega, by go_num, by rw [R.out], HI⟩
                case measure => simp [intOf]; omega
        · obtain rfl : k = n := by omega
          have hkz : ¬ (k : Int) < (k : Int) := by omega
          clear HC OL
          go_wp2
          go_ret
          exact ⟨by rw [RR.out]; rfl, HI.out⟩
end Go.Proofs.YtonfmbnankihbaaDoor
namespace Go.Proofs.YtonfmbnankihbaaDoor
open Go.RowKit
open Sc

theorem bad_start {P : List St} (h : progOk P = false) : vStart P = 0 := by unfold vStart; rw [if_neg (by rw [h]; simp)]
theorem bad_next {P : List St} (h : progOk P = false) (now c : Nat) : vNext P now c = 0 := by unfold vNext; rw [if_neg (by rw [h]; simp)]
theorem bad_match {P : List St} (h : progOk P = false) (S : List Nat) : vMatch P S = false := by
  cases hm : vMatch P S
  · rfl
  · rw [vMatch_iff, h] at hm; simp at hm

set_option maxRecDepth 100000 in
set_option maxHeartbeats 4000000 in
theorem scstart_any (P : List St) (A : Option Addr) (N cap : Nat) (w : World) (hN : P.length = N) (hbig : N ≤ 1048576) (hcap : N ≤ cap) (h : IsSt w A P) (hT : DTab w) :
    Calls Tryd.prog 11 #[.slice A N cap] w fun e w' => e = .returned (.int .u64 ((vStart P : Nat) : Int)) ∧ Below w.heap.size w w' := by
  have CK := Lib.hid (check_any P A N cap w hN hbig hcap h)
  cases hP : progOk P
  · have V := Lib.hid (bad_start hP)
    rw [hP] at CK
    clear h hT hP hN
    go_enter Tryd.func11, Tryd.ntmps11
    go_wp2_with fail
    refine CK.out.mono ?_
    rintro e w1 ⟨rfl, b1⟩
    have B1 := Lib.hid b1
    clear b1 CK
    go_wp2
    go_ret
    exact ⟨by rw [V.out]; rfl, B1.out⟩
  · have hlen := prog_len2 hP
    rw [hN] at hlen
    obtain ⟨blk, off, rfl, hI⟩ := h.isP hN (by omega)
    have RE := Lib.hid (fun W (hW : Below w.heap.size w W) => reached_any P 1 blk off N cap W hP (fun i hi => by
      have : (1 : Nat) = 2 ^ 0 := rfl
      rw [this, bit_pow] at hi; omega) (hI.grown hW) (hT.below hW))
    have NW := Lib.hid (fun z hz => start_word (P := P) (z := z) hP hz)
    rw [hP] at CK
    clear h hT hP hN hI hlen
    go_enter Tryd.func11, Tryd.ntmps11
    go_wp2_with fail
    refine CK.out.mono ?_
    rintro e w1 ⟨rfl, b1⟩
    have B1 := Lib.hid b1
    have RE1 := Lib.hid (RE.out w1 b1)
    clear b1 CK RE
    go_wp2_with fail
    refine RE1.out.mono ?_
    rintro e w2 ⟨⟨z, rfl, hz⟩, b2⟩
    have hz2 := Lib.hid (NW.out z hz)
    have B2 := Lib.hid (B1.out.trans (b2.mono B1.out.size))
    clear hz b2 RE1 NW
    go_wp2
    go_ret
    exact ⟨by rw [hz2.out]; rfl, B2.out⟩

set_option maxRecDepth 100000 in
set_option maxHeartbeats 4000000 in
theorem scnext_any (P : List St) (now ch : Nat) (A : Option Addr) (N cap : Nat) (w : World) (hnow : now < 18446744073709551616) (hch : ch < 256) (hN : P.length = N) (hbig : N ≤ 1048576) (hcap : N ≤ cap) (h : IsSt w A P) (hT : DTab w) :
    Calls Tryd.prog 12 #[.slice A N cap, .int .u64 (now : Int), .int .u8 (ch : Int)] w fun e w' => e = .returned (.int .u64 ((vNext P now ch : Nat) : Int)) ∧ Below w.heap.size w w' := by
  have CK := Lib.hid (check_any P A N cap w hN hbig hcap h)
  cases hP : progOk P
  · have V := Lib.hid (bad_next hP now ch)
    rw [hP] at CK
    clear h hT hP hN
    go_enter Tryd.func12, Tryd.ntmps12
    go_wp2_with fail
    refine CK.out.mono ?_
    rintro e w1 ⟨rfl, b1⟩
    have B1 := Lib.hid b1
    clear b1 CK
    go_wp2
    go_ret
    exact ⟨by rw [V.out]; rfl, B1.out⟩
  · have hlen := prog_len2 hP
    rw [hN] at hlen
    obtain ⟨blk, off, rfl, hI⟩ := h.isP hN (by omega)
    have RE := Lib.hid (fun W (hW : Below w.heap.size w W) => next0_any P now ch blk off N cap W hP hnow hch (hI.grown hW) (hT.below hW))
    rw [hP] at CK
    clear h hT hP hN hI hlen
    go_enter Tryd.func12, Tryd.ntmps12
    go_wp2_with fail
    refine CK.out.mono ?_
    rintro e w1 ⟨rfl, b1⟩
    have B1 := Lib.hid b1
    have RE1 := Lib.hid (RE.out w1 b1)
    clear b1 CK RE
    go_wp2_with fail
    refine RE1.out.mono ?_
    rintro e w2 ⟨rfl, b2⟩
    have B2 := Lib.hid (B1.out.trans (b2.mono B1.out.size))
    clear b2 RE1
    go_wp2
    go_ret
    exact ⟨rfl, B2.out⟩

set_option maxRecDepth 100000 in
set_option maxHeartbeats 4000000 in
theorem scmatch_any (P : List St) (s : ByteArray) (A : Option Addr) (N cap : Nat) (w : World) (hs : s.size ≤ 1099511627776) (hN : P.length = N) (hbig : N ≤ 1048576) (hcap : N ≤ cap) (h : IsSt w A P) (hT : DTab w) :
    Calls Tryd.prog 13 #[.slice A N cap, .string s] w fun e w' => e = .returned (.bool (vMatch P (txt8 s))) ∧ Below w.heap.size w w' := by
  have CK := Lib.hid (check_any P A N cap w hN hbig hcap h)
  cases hP : progOk P
  · have V := Lib.hid (bad_match hP (txt8 s))
    rw [hP] at CK
    clear h hT hP hN
    go_enter Tryd.func13, Tryd.ntmps13
    go_wp2_with fail
    refine CK.out.mono ?_
    rintro e w1 ⟨rfl, b1⟩
    have B1 := Lib.hid b1
    clear b1 CK
    go_wp2
    go_ret
    exact ⟨by rw [V.out]; rfl, B1.out⟩
  · have hlen := prog_len2 hP
    rw [hN] at hlen
    obtain ⟨blk, off, rfl, hI⟩ := h.isP hN (by omega)
    have RE := Lib.hid (fun W (hW : Below w.heap.size w W) => reached_any P 1 blk off N cap W hP (fun i hi => by
      have : (1 : Nat) = 2 ^ 0 := rfl
      rw [this, bit_pow] at hi; omega) (hI.grown hW) (hT.below hW))
    have NW := Lib.hid (fun z hz => start_word (P := P) (z := z) hP hz)
    have NE := Lib.hid (fun now ch hnow hch W (hW : Below w.heap.size w W) => next0_any P now ch blk off N cap W hP hnow hch (hI.grown hW) (hT.below hW))
    have MT := Lib.hid (fun W (hW : Below w.heap.size w W) => matches_any P blk off N cap W hlen.2 (hI.grown hW))
    have SL : Hid (∀ k, vSet P (txt8 s) k < 18446744073709551616) := fun k => lt64 (N := N) (by omega) fun j hj => by have := vSet_lim P _ k j hj; omega
    have S0 : Hid (vSet P (txt8 s) 0 = vStart P) := rfl
    have SS : Hid (∀ k, vSet P (txt8 s) (k + 1) = vNext P (vSet P (txt8 s) k) ((txt8 s).getD k 0)) := fun k => rfl
    have MF : Hid (vMatch P (txt8 s) = decide (vSet P (txt8 s) (txt8 s).length &&& mts P N ≠ 0)) := by show _ = _; rw [← hN, anyM_mts]; rfl
    have ML : Hid (mts P N < 18446744073709551616) := lt64 (N := N) (by omega) (mts_lim P N)
    have TXL : Hid ((txt8 s).length = s.size) := txt8_len s
    have TX := Lib.hid (fun W k (hk : k < s.size) => txt8_at W s k hk)
    have TB := Lib.hid (fun k => txt8_lt s k)
    rw [hP] at CK
    clear h hT hP hN hI hlen
    obtain ⟨L, hL⟩ : ∃ L, s.size = L := ⟨_, rfl⟩
    rw [hL] at TXL TX hs
    go_enter Tryd.func13, Tryd.ntmps13
    go_wp2_with fail
    refine CK.out.mono ?_
    rintro e w1 ⟨rfl, b1⟩
    have B1 := Lib.hid b1
    have RE1 := Lib.hid (RE.out w1 b1)
    clear b1 CK RE
    go_wp2_with fail
    refine RE1.out.mono ?_
    rintro e w2 ⟨⟨z, rfl, hz⟩, b2⟩
    have hz2 := NW.out z hz
    subst hz2
    have B2 := Lib.hid (B1.out.trans (b2.mono B1.out.size))
    clear hz b2 RE1 NW B1
    rw [← S0.out]
    have V0 : Hid (vSet P (txt8 s) 0 < 18446744073709551616) := SL.out 0
    clear S0
    go_wp2_with fail
    go_loopw [5, 14] (fun z i wr => ∃ k : Nat, k ≤ L ∧ i = .int .i64 (k : Int) ∧ z = .int .u64 ((vSet P (txt8 s) k : Nat) : Int) ∧ Hid (Below w.heap.size w wr)) (fun _ i _ => L - (intOf i).toNat)
    case atStart => exact ⟨0, by omega, rfl, rfl, B2.out⟩
    case round =>
      clear B2
      obtain ⟨k, hk, rfl, rfl, HI⟩ := hrel
      by_cases hkL : k < L
      · have hkz : (k : Int) < (L : Int) := by omega
        have SK := Lib.hid (SS.out k)
        have NK := Lib.hid (NE.out (vSet P (txt8 s) k) ((txt8 s).getD k 0) (SL.out k) (TB.out k) wr HI.out)
        have TK := TX.out wr k hkL
        generalize vSet P (txt8 s) k = m at *
        generalize (txt8 s).getD k 0 = c at *
        clear TX NE SS SL MT MF TB
        go_wp2_with fail
        refine NK.out.mono ?_
        rintro e w3 ⟨rfl, b3⟩
        have B3 := Lib.hid (HI.out.trans (b3.mono HI.out.size))
        clear b3 NK TK
        go_wp2
        go_roundw
        case rel => exact ⟨k + 1, by omega, by go_num, by rw [SK.out], B3.out⟩
        case measure => simp [intOf]; omega
      · obtain rfl : k = L := by omega
        have hkz : ¬ (k : Int) < (k : Int) := by omega
        have MW := Lib.hid (MT.out wr HI.out)
        have SK := Lib.hid (SL.out k)
        have MF2 : Hid (vMatch P (txt8 s) = decide (vSet P (txt8 s) k &&& mts P N ≠ 0)) := by show _ = _; rw [MF.out, TXL.out]
        have E1 := Lib.hid (bits_and_u64_nat (vSet P (txt8 s) k) (mts P N) SK.out ML.out)
        clear TX NE SS SL MT MF TB SK ML
        generalize vSet P (txt8 s) k = m at *
        generalize mts P N = m2 at *
        obtain ⟨m3, hm3⟩ : ∃ m3, m &&& m2 = m3 := ⟨_, rfl⟩
        rw [hm3] at E1 MF2
        clear hm3
        go_wp2_with fail
        refine MW.out.mono ?_
        rintro e w3 ⟨rfl, b3⟩
        have B3 := Lib.hid (HI.out.trans (b3.mono HI.out.size))
        clear b3 MW
        go_wp2
        go_ret
        refine ⟨?_, B3.out⟩
        rw [MF2.out]
        show Ending.returned (.bool (bits .and .u64 (m : Int) (m2 : Int) != 0)) = _
        rw [E1.out]
        congr 2
        rw [Bool.eq_iff_iff]; simp
end Go.Proofs.YtonfmbnankihbaaDoor
