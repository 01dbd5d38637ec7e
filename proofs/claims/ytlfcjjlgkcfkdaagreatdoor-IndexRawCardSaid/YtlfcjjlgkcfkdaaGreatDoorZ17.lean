/-
  What the program's takers, reached, next tell: steps that take a byte, the steps reached from a set, the next set. Conditions: the steps are a program (reached, next); the library's table lies in its variable (DTab).
  What the program's Start, Next and Match tell of any steps. Conditions: lengths fit; the library's table lies in its variable (DTab).
  The reference's parser in memory; what its more, fail, special, quoted and one do. Conditions: at most 40 bytes.
  What the reference's one and member do. Conditions: at most 40 bytes.
  What the reference's one and class do. Conditions: at most 40 bytes.
  What the reference's atom does, of what ways does one group deeper. Conditions: at most 40 bytes.
  What the reference's factor does, of what ways does one group deeper. Conditions: at most 40 bytes.
  What the reference's way and ways do. Conditions: at most 40 bytes.
-/
import Derived.Test.YtlfcjjlgkcfkdaaGreatDoorProg
import Derived.Test.YtlfcjjlgkcfkdaaGreatDoorZ01
import Derived.Test.YtlfcjjlgkcfkdaaGreatDoorZ02
import Derived.Test.YtlfcjjlgkcfkdaaGreatDoorZ05
import Derived.Test.YtlfcjjlgkcfkdaaGreatDoorZ07
import Derived.Test.YtlfcjjlgkcfkdaaGreatDoorZ08
import Derived.Test.YtlfcjjlgkcfkdaaGreatDoorZ09
import Derived.Test.YtlfcjjlgkcfkdaaGreatDoorZ10
import Derived.Test.YtlfcjjlgkcfkdaaGreatDoorZ14
import Derived.Test.YtlfcjjlgkcfkdaaGreatDoorZ16
import Derived.Test.YtlfcjjlgkcfkdaaGreatDoorZ03
import Derived.Test.YtlfcjjlgkcfkdaaGreatDoorZ04
import Derived.Test.YtlfcjjlgkcfkdaaGreatDoorZ06
import Derived.Test.YtlfcjjlgkcfkdaaGreatDoorZ11
import Derived.Deep.LoopGhost
import Derived.BigQuiet
import Derived.Lib.Hide
import Derived.Deep.RegionHeld3
import Derived.WalkKit
import Derived.WalkSpells
import Derived.WalkLawsBesides
import Derived.Below
import Derived.Lib.QuietBelow
import Derived.Laws.StructEq
import Derived.KernelRfl
import Derived.Laws.MakeOwn
import Derived.Laws.OwnMore
import Derived.OwnWalk
import Derived.Laws.CopyOwn
import Derived.Laws.AppendOwn
import Derived.Deep.QuietTactic
import Derived.Lib.Bytealg
import Derived.Laws.Externs
import Derived.Maps.AppendAt
import Derived.StillTailTactics
import Derived.Laws.ResultCell
import Derived.Lib.TrailingZeros
import Derived.Laws.Bits64b
import Derived.Deep.Cut
import Derived.Deep.CutRange
namespace Go.Proofs.YtlfcjjlgkcfkdaaGreatDoor
open Go.RowKit
open Sc

set_option maxRecDepth 100000 in
set_option maxHeartbeats 4000000 in
theorem takers_any (P : List St) (ch blk off N cap : Nat) (w : World) (hch : ch < 256) (hbig : N ≤ 40) (h : IsP w blk off N P) :
    Calls Tryz.prog 129 #[.slice (some ⟨blk, off, none⟩) N cap, .int .u8 (ch : Int)] w fun e w' => e = .returned (.int .u64 ((tks P ch N : Nat) : Int)) ∧ Below w.heap.size w w' := by
  have HC := Lib.hid h.at_
  have ML : Hid (∀ k, k ≤ N → tks P ch k < 18446744073709551616) := fun k hk => lt64 (N := N) (by omega) fun j hj => by have := tks_lim P ch k j hj; omega
  have MS : Hid (∀ k, tks P ch (k + 1) = if opS P k = 1 ∧ has (nthS P k) ch = true then tks P ch k ||| 2 ^ k else tks P ch k) := fun k => rfl
  have q1 : IntKind.u8.wrap ((ch : Int) / 64) = (ch : Int) / 64 := by simp [IntKind.wrap, IntKind.bits, IntKind.signed]; omega
  have q2 : IntKind.u8.wrap ((ch : Int) % 64) = (ch : Int) % 64 := by simp [IntKind.wrap, IntKind.bits, IntKind.signed]; omega
  have q9 : (ch : Int).tmod 64 = (ch : Int) % 64 := Int.tmod_eq_emod_of_nonneg (by omega)
  have q3 : (ch : Int) / 64 < 4 := by omega
  have q4 : (0 : Int) ≤ (ch : Int) / 64 := by omega
  have q5 : ((ch : Int) / 64).toNat = ch / 64 := by omega
  have q6 : (0 : Int) ≤ (ch : Int) % 64 := by omega
  have q7 : ((ch : Int) % 64).toNat = ch % 64 := by omega
  have q8 : (ch : Int) % 64 < 64 := by omega
  clear h
  go_enter Tryz.func129, Tryz.ntmps129
  go_wp2_with fail
  go_loopw [5, 10] (fun z i wr => ∃ k : Nat, k ≤ N ∧ i = .int .i64 (k : Int) ∧ z = .int .u64 ((tks P ch k : Nat) : Int) ∧ Hid (Below w.heap.size w wr)) (fun _ i _ => N - (intOf i).toNat)
  case atStart => exact ⟨0, by omega, rfl, rfl, Below.refl _ _⟩
  case round =>
    obtain ⟨k, hk, rfl, rfl, HI⟩ := hrel
    by_cases hkN : k < N
    · have hkz : (k : Int) < (N : Int) := by omega
      obtain ⟨c0, c1, c2, c3, c4, c5, c6⟩ := HC.out wr HI.out k hkN
      have MK := Lib.hid (MS.out k)
      have mlt := Lib.hid (ML.out k hk)
      have hop : Hid (opS P k = (nthS P k).op) := rfl
      obtain ⟨s, hs⟩ : ∃ s, nthS P k = s := ⟨_, rfl⟩
      rw [hs] at c0 c1 c2 c3 c4 c5 c6 hop MK
      clear hs HC ML MS
      obtain ⟨m, hm⟩ : ∃ m, tks P ch k = m := ⟨_, rfl⟩
      rw [hm] at MK mlt
      rw [hm]
      clear hm
      obtain ⟨op, a, b, c, d, x, y⟩ := s
      dsimp only at c0 c1 c2 c3 c4 c5 c6 hop
      have B6 : Hid (Below w.heap.size w (wr.alloc (.cells #[.int .i64 op, .int .u64 (a : Int), .int .u64 (b : Int), .int .u64 (c : Int), .int .u64 (d : Int), .int .i64 x, .int .i64 y] 163))) := HI.out.alloc HI.out.size _
      by_cases h1 : op = 1
      · subst h1
        have CW := cell_word (heap_alloc_new wr (.cells #[.int .i64 1, .int .u64 (a : Int), .int .u64 (b : Int), .int .u64 (c : Int), .int .u64 (d : Int), .int .i64 x, .int .i64 y] 163)) (show ch / 64 < 4 by omega)
        have HW : Hid (has ⟨1, a, b, c, d, x, y⟩ ch = (word4 a b c d (ch / 64) / 2 ^ (ch % 64) % 2 == 1)) := rfl
        generalize word4 a b c d (ch / 64) = z at *
        have HZ : (bits .and .u64 ((z : Int) / 2 ^ (ch % 64)) 1 == 1) = (z / 2 ^ (ch % 64) % 2 == 1) := by
          have e1 : (z : Int) / 2 ^ (ch % 64) = ((z / 2 ^ (ch % 64) : Nat) : Int) := by simp
          rw [e1, and_one, Bool.eq_iff_iff, beq_iff_eq, beq_iff_eq]; omega
        generalize (z / 2 ^ (ch % 64) % 2 == 1) = q at *
        have MK2 : Hid (tks P ch (k + 1) = if q = true then m ||| 2 ^ k else m) := by
          show _ = _
          rw [MK.out, HW.out, hop.out]; simp
        clear MK HW hop
        cases q
        · have R : Hid (tks P ch (k + 1) = m) := by show _ = _; rw [MK2.out, if_neg (by simp)]
          clear MK2 mlt
          go_wp2
          clear c0 c1 c2 c3 c4 c5 c6 HZ CW
          go_roundw
          case rel => exact ⟨k + 1, by omega, by go_num, by rw [R.out], B6.out⟩
          case measure => simp [intOf]; omega
        · have EO := Lib.hid (or_two m k mlt.out (by omega))
          have R : Hid (tks P ch (k + 1) = m ||| 2 ^ k) := by show _ = _; rw [MK2.out, if_pos rfl]
          obtain ⟨m', hm'⟩ : ∃ m', m ||| 2 ^ k = m' := ⟨_, rfl⟩
          rw [hm'] at EO R
          clear hm' MK2 mlt
          go_wp2
          rw [EO.out]
          clear c0 c1 c2 c3 c4 c5 c6 HZ CW
          go_roundw
          case rel => exact ⟨k + 1, by omega, by go_num, by rw [R.out], B6.out⟩
          case measure => simp [intOf]; omega
      · have h1b : (op == 1) = false := by simpa using h1
        have R : Hid (tks P ch (k + 1) = m) := by show _ = _; rw [MK.out, if_neg (by rw [hop.out]; exact fun h => h1 h.1)]
        clear MK mlt hop h1
        go_wp2
        clear c0 c1 c2 c3 c4 c5 c6
        go_roundw
        case rel => exact ⟨k + 1, by omega, by go_num, by rw [R.out], B6.out⟩
        case measure => simp [intOf]; omega
    · obtain rfl : k = N := by omega
      have hkz : ¬ (k : Int) < (k : Int) := by omega
      go_wp2
      go_ret
      exact ⟨rfl, HI.out⟩

theorem andnot_nat (a b : Nat) (ha : a < 18446744073709551616) (hb : b < 18446744073709551616) : bits .andNot .u64 (a : Int) (b : Int) = ((minus a b : Nat) : Int) := by
  show IntKind.u64.wrap ((BitVec.ofInt 64 (a : Int) &&& ~~~BitVec.ofInt 64 (b : Int)).toNat : Int) = _
  have h1 : (BitVec.ofInt 64 (a : Int)).toNat = a := by rw [BitVec.ofInt_natCast, BitVec.toNat_ofNat]; exact Nat.mod_eq_of_lt (by omega)
  have h2 : (BitVec.ofInt 64 (b : Int)).toNat = b := by rw [BitVec.ofInt_natCast, BitVec.toNat_ofNat]; exact Nat.mod_eq_of_lt (by omega)
  rw [BitVec.toNat_and, BitVec.toNat_not, h1, h2, IntKind.wrap_u64]
  have e : 2 ^ 64 - 1 - b = 18446744073709551615 - b := by omega
  rw [e]
  have hm : a &&& (18446744073709551615 - b) < 2 ^ 64 := Nat.and_lt_two_pow _ (by omega)
  unfold minus
  omega
theorem or_twos (a b : Nat) (ha : a < 64) (hb : b < 64) : bits .or .u64 (IntKind.u64.wrap (2 ^ a)) (IntKind.u64.wrap (2 ^ b)) = ((2 ^ a ||| 2 ^ b : Nat) : Int) := by
  have h2 : 2 ^ a < 18446744073709551616 := by have : 2 ^ a < 2 ^ 64 := Nat.pow_lt_pow_right (by omega) ha; simpa using this
  have e : ((2 : Int) ^ a) = ((2 ^ a : Nat) : Int) := by simp
  rw [e, IntKind.wrap_u64]
  generalize 2 ^ a = z at *
  have e2 : (z : Int) % 18446744073709551616 = (z : Int) := by omega
  rw [e2]
  exact or_two z b h2 hb
theorem pow_or_fit {a b : Nat} (ha : a < 64) (hb : b < 64) : 2 ^ a ||| 2 ^ b < 18446744073709551616 := by
  have := Nat.or_lt_two_pow (n := 64) (Nat.pow_lt_pow_right (show 1 < 2 by omega) ha) (Nat.pow_lt_pow_right (show 1 < 2 by omega) hb)
  simpa using this
theorem pow_fit {a : Nat} (ha : a < 64) : 2 ^ a < 18446744073709551616 := by
  have := Nat.pow_lt_pow_right (show 1 < 2 by omega) ha
  simpa using this
theorem or_fit {a b : Nat} (ha : a < 18446744073709551616) (hb : b < 18446744073709551616) : a ||| b < 18446744073709551616 := by
  have := Nat.or_lt_two_pow (n := 64) (x := a) (y := b) (by simpa using ha) (by simpa using hb)
  simpa using this

set_option maxRecDepth 100000 in
set_option maxHeartbeats 8000000 in
theorem reached_any (P : List St) (f blk off N cap : Nat) (w : World) (hP : progOk P = true) (hf : ∀ i, f.testBit i = true → i < P.length) (h : IsP w blk off N P) (hT : DTab w) :
    Calls Tryz.prog 107 #[.slice (some ⟨blk, off, none⟩) N cap, .int .u64 (f : Int)] w fun e w' => (∃ z : Nat, e = .returned (.int .u64 (z : Int)) ∧ Word z (fun q => ∃ p, f.testBit p = true ∧ Fs P p q)) ∧ Below w.heap.size w w' := by
  have hN40 : N ≤ 40 := by have := prog_len2 hP; rw [h.len] at this; omega
  have HC := Lib.hid h.at_
  have HL := Lib.hid h.len
  have HT := Lib.hid (fun W (hW : Below w.heap.size w W) => hT.below hW)
  have HB := Lib.hid (RInv.begin hf)
  have HP := Lib.hid hP
  clear h hT hf hP
  go_enter Tryz.func107, Tryz.ntmps107
  go_wp2_with fail
  go_loopg [5, 6, 7] (unseen 0 N) (fun m es se td wr => ∃ t s e : Nat, es = .int .u64 (e : Int) ∧ se = .int .u64 (s : Int) ∧ td = .int .u64 (t : Int) ∧ Hid (RInv P f t s e ∧ Below w.heap.size w wr ∧ unseen s N = m))
  case atStart => exact ⟨f, 0, 0, rfl, rfl, rfl, HB.out, Below.refl _ _, rfl⟩
  case round =>
    clear HB
    obtain ⟨t, s, e, rfl, rfl, rfl, HI⟩ := hrel
    by_cases h0 : t = 0
    · subst h0
      have W := Lib.hid HI.out.1.done
      have B := Lib.hid HI.out.2.1
      clear HC HL HT HP HI
      go_wp2
      go_ret
      exact ⟨⟨e, rfl, W.out⟩, B.out⟩
    · have hz : ((t : Int) != 0) = true := by simp; omega
      have hlen := prog_len2 HP.out
      have ht : t < 18446744073709551616 := lt64 (N := P.length) (by omega) fun j hj => HI.out.1.lim j (.inl hj)
      have hs : s < 18446744073709551616 := lt64 (N := P.length) (by omega) fun j hj => HI.out.1.lim j (.inr hj)
      have he : e < 18446744073709551616 := lt64 (N := P.length) (by omega) fun j hj => HI.out.1.lim j (.inr ((HI.out.1.ends j).1 hj).1)
      obtain ⟨hbt, hb64⟩ := ctz_bit ht h0
      have TZ := Lib.hid (tz_any t ht h0 wr (HT.out wr HI.out.2.1))
      generalize Lib.ctz 64 t = i at *
      have hiN : i < N := by have := HI.out.1.lim i (.inl hbt); rw [HL.out] at this; exact this
      have hiz : (i : Int) < (N : Int) := by omega
      have O := Lib.hid (prog_at HP.out (show i < P.length by rw [HL.out]; exact hiN))
      have ES := Lib.hid (or_two s i hs hb64)
      have EE := Lib.hid (or_two e i he hb64)
      have hs1 := Lib.hid (or_fit hs (pow_fit hb64))
      have ST := Lib.hid (fun t1 e1 => HI.out.1.step (i := i) (todo1 := t1) (ends1 := e1) HP.out hbt)
      have BW := Lib.hid HI.out.2.1
      have UN := Lib.hid HI.out.2.2
      have EM := Lib.hid (fun q => emv_of (P := P) (p := i) (q := q) HP.out)
      have hiP : Hid (i < P.length) := by show _ < _; rw [HL.out]; exact hiN
      obtain ⟨c0, c1, c2, c3, c4, c5, c6⟩ := HC.out wr HI.out.2.1 i hiN
      have hop : Hid (opS P i = (nthS P i).op) := rfl
      have hX := Lib.hid O.out.x2
      have hX3 := Lib.hid O.out.x3
      have hK := Lib.hid O.out.kind
      clear O hbt h0 HI
      obtain ⟨st, hst⟩ : ∃ st, nthS P i = st := ⟨_, rfl⟩
      rw [hst] at c0 c1 c2 c3 c4 c5 c6 hop hX hX3
      clear hst HC HT
      obtain ⟨s1, hs1e⟩ : ∃ s1, s ||| 2 ^ i = s1 := ⟨_, rfl⟩
      rw [hs1e] at ES hs1 ST
      clear hs1e
      obtain ⟨op, a, b, c, d, x, y⟩ := st
      dsimp only at c0 c1 c2 c3 c4 c5 c6 hop hX hX3
      have B6 : Hid (Below w.heap.size w (wr.alloc (.cells #[.int .i64 op, .int .u64 (a : Int), .int .u64 (b : Int), .int .u64 (c : Int), .int .u64 (d : Int), .int .i64 x, .int .i64 y] 163))) := BW.out.alloc BW.out.size _
      go_wp2_with fail
      refine TZ.out.mono ?_
      rintro e0 w' ⟨rfl, rfl⟩
      clear TZ
      by_cases h2 : op = 2
      · subst h2
        obtain ⟨ex, hx, ey, hy⟩ := hX.out hop.out
        clear hX3 hX
        generalize toX P i = X at *
        generalize toY P i = Y at *
        subst ex ey
        obtain ⟨p, hp⟩ : ∃ p, 2 ^ X ||| 2 ^ Y = p := ⟨_, rfl⟩
        obtain ⟨t1, ht1⟩ : ∃ t1, t ||| p = t1 := ⟨_, rfl⟩
        obtain ⟨t2, ht2⟩ : ∃ t2, minus t1 s1 = t2 := ⟨_, rfl⟩
        have hN64 : P.length ≤ 40 := hlen.2
        have hp64 : p < 18446744073709551616 := by rw [← hp]; exact pow_or_fit (by omega) (by omega)
        have ht164 : t1 < 18446744073709551616 := by rw [← ht1]; exact or_fit ht hp64
        have E1 : Hid (bits .or .u64 (IntKind.u64.wrap (2 ^ X)) (IntKind.u64.wrap (2 ^ Y)) = (p : Int)) := by have := or_twos X Y (by omega) (by omega); rw [hp] at this; exact this
        have E2 : Hid (bits .or .u64 (t : Int) (p : Int) = (t1 : Int)) := by have := bits_or_u64_nat t p ht hp64; rw [ht1] at this; exact this
        have E3 : Hid (bits .andNot .u64 (t1 : Int) (s1 : Int) = (t2 : Int)) := by have := andnot_nat t1 s1 ht164 hs1.out; rw [ht2] at this; exact this
        have R : Hid (RInv P f t2 s1 e ∧ unseen s1 P.length < unseen s P.length) := by
          have := ST.out t1 e (fun j => by
            rw [← ht1, ← hp, or_bit, or_bit, bit_pow, bit_pow, EM.out j]
            constructor
            · rintro (h | h)
              · exact .inl h
              · exact .inr ⟨hiP.out, .inl ⟨hop.out, h⟩⟩
            · rintro (h | ⟨_, ⟨_, h⟩ | ⟨h, _⟩⟩)
              · exact .inl h
              · exact .inr h
              · have := hop.out; omega) (fun j => by
            constructor
            · exact .inl
            · rintro (h | ⟨_, h⟩)
              · exact h
              · have := hop.out; omega)
          rw [ht2] at this
          exact this
        have hX64 : X < 64 := by omega
        have hY64 : Y < 64 := by omega
        clear hp ht1 ht2 ht164 hp64 ST EM hop hiP hK hx hy hN64 EE ht hs he hs1
        go_wp2_with fail
        rw [ES.out]
        go_quiet (fail)
        go_wp2
        rw [E1.out, E2.out, E3.out]
        have BN := Lib.hid (drewN_below B6.out nq)
        clear c0 c1 c2 c3 c4 c5 c6
        go_roundg (unseen s1 N)
        case measure => have := R.out.2; rw [HL.out] at this; rw [UN.out] at this; exact this
        case rel => exact ⟨t2, s1, e, rfl, rfl, rfl, R.out.1, BN.out, rfl⟩
      have h2b : (op == 2) = false := by simpa using h2
      by_cases h3 : op = 3
      · subst h3
        obtain ⟨ex, hx⟩ := hX3.out hop.out
        clear hX3 hX
        generalize toX P i = X at *
        generalize toY P i = Y at *
        subst ex
        obtain ⟨t1, ht1⟩ : ∃ t1, t ||| 2 ^ X = t1 := ⟨_, rfl⟩
        obtain ⟨t2, ht2⟩ : ∃ t2, minus t1 s1 = t2 := ⟨_, rfl⟩
        have hN64 : P.length ≤ 40 := hlen.2
        have ht164 : t1 < 18446744073709551616 := by rw [← ht1]; exact or_fit ht (pow_fit (by omega))
        have E2 : Hid (bits .or .u64 (t : Int) (IntKind.u64.wrap (2 ^ X)) = (t1 : Int)) := by have := or_two t X ht (by omega); rw [ht1] at this; exact this
        have E3 : Hid (bits .andNot .u64 (t1 : Int) (s1 : Int) = (t2 : Int)) := by have := andnot_nat t1 s1 ht164 hs1.out; rw [ht2] at this; exact this
        have R : Hid (RInv P f t2 s1 e ∧ unseen s1 P.length < unseen s P.length) := by
          have := ST.out t1 e (fun j => by
            rw [← ht1, or_bit, bit_pow, EM.out j]
            constructor
            · rintro (h | h)
              · exact .inl h
              · exact .inr ⟨hiP.out, .inr ⟨hop.out, h⟩⟩
            · rintro (h | ⟨_, ⟨h, _⟩ | ⟨_, h⟩⟩)
              · exact .inl h
              · have := hop.out; omega
              · exact .inr h) (fun j => by
            constructor
            · exact .inl
            · rintro (h | ⟨_, h⟩)
              · exact h
              · have := hop.out; omega)
          rw [ht2] at this
          exact this
        have hX64 : X < 64 := by omega
        clear ht1 ht2 ht164 ST EM hop hiP hK hx hN64 EE ht hs he hs1 h2
        go_wp2
        rw [ES.out, E2.out, E3.out]
        clear c0 c1 c2 c3 c4 c5 c6
        go_roundg (unseen s1 N)
        case measure => have := R.out.2; rw [HL.out] at this; rw [UN.out] at this; exact this
        case rel => exact ⟨t2, s1, e, rfl, rfl, rfl, R.out.1, B6.out, rfl⟩
      · have h3b : (op == 3) = false := by simpa using h3
        obtain ⟨e1, he1⟩ : ∃ e1, e ||| 2 ^ i = e1 := ⟨_, rfl⟩
        obtain ⟨t2, ht2⟩ : ∃ t2, minus t s1 = t2 := ⟨_, rfl⟩
        have hop14 : opS P i = 1 ∨ opS P i = 4 := by have := hK.out; rw [hop.out] at this ⊢; omega
        have E3 : Hid (bits .andNot .u64 (t : Int) (s1 : Int) = (t2 : Int)) := by have := andnot_nat t s1 ht hs1.out; rw [ht2] at this; exact this
        have R : Hid (RInv P f t2 s1 e1 ∧ unseen s1 P.length < unseen s P.length) := by
          have := ST.out t e1 (fun j => by
            rw [EM.out j]
            constructor
            · exact .inl
            · rintro (h | ⟨_, ⟨h, _⟩ | ⟨h, _⟩⟩)
              · exact h
              · omega
              · omega) (fun j => by
            rw [← he1, or_bit, bit_pow]
            constructor
            · rintro (h | h)
              · exact .inl h
              · exact .inr ⟨h, hop14⟩
            · rintro (h | ⟨h, _⟩)
              · exact .inl h
              · exact .inr h)
          rw [ht2] at this
          exact this
        rw [he1] at EE
        clear he1 ht2 ST EM hop hiP hK ht hs he hs1 h2 h3 hop14 hX hX3
        go_wp2
        rw [ES.out, EE.out, E3.out]
        clear c0 c1 c2 c3 c4 c5 c6
        go_roundg (unseen s1 N)
        case measure => have := R.out.2; rw [HL.out] at this; rw [UN.out] at this; exact this
        case rel => exact ⟨t2, s1, e1, rfl, rfl, rfl, R.out.1, B6.out, rfl⟩

set_option maxRecDepth 100000 in
set_option maxHeartbeats 4000000 in
theorem next0_any (P : List St) (now ch blk off N cap : Nat) (w : World) (hP : progOk P = true) (hnow : now < 18446744073709551616) (hch : ch < 256) (h : IsP w blk off N P) (hT : DTab w) :
    Calls Tryz.prog 108 #[.slice (some ⟨blk, off, none⟩) N cap, .int .u64 (now : Int), .int .u8 (ch : Int)] w fun e w' => e = .returned (.int .u64 ((vNext P now ch : Nat) : Int)) ∧ Below w.heap.size w w' := by
  have hlen := prog_len2 hP
  rw [h.len] at hlen
  have TK := Lib.hid (takers_any P ch blk off N cap w hch hlen.2 h)
  have RE := Lib.hid (fun f W (hW : Below w.heap.size w W) hf => reached_any P f blk off N cap W hP hf (h.grown hW) (hT.below hW))
  have NW : Hid (∀ z, Word z (fun q => ∃ p, (2 * (now &&& tks P ch N)).testBit p = true ∧ Fs P p q) → z = vNext P now ch) := fun z hz => by rw [← h.len] at hz; exact next_word hP hz
  have NL : Hid (∀ i, (2 * (now &&& tks P ch N)).testBit i = true → i < P.length) := by have := next_lim hP now ch; rw [h.len] at this ⊢; exact this
  have TL : tks P ch N < 18446744073709551616 := lt64 (N := N) (by omega) (tks_lim P ch N)
  have E1 : Hid (bits .and .u64 (now : Int) ((tks P ch N : Nat) : Int) = ((now &&& tks P ch N : Nat) : Int)) := bits_and_u64_nat _ _ hnow TL
  have hl : 2 * (now &&& tks P ch N) < 18446744073709551616 := lt64 (N := N) (by omega) (by have := NL.out; rw [h.len] at this; exact this)
  have E2 : Hid (IntKind.u64.wrap (((now &&& tks P ch N : Nat) : Int) * 2) = ((2 * (now &&& tks P ch N) : Nat) : Int)) := by show _ = _; rw [IntKind.wrap_u64]; omega
  clear h hT hlen hl TL
  generalize tks P ch N = m at *
  obtain ⟨m1, hm1⟩ : ∃ m1, now &&& m = m1 := ⟨_, rfl⟩
  rw [hm1] at NW NL E1 E2
  obtain ⟨m2, hm2⟩ : ∃ m2, 2 * m1 = m2 := ⟨_, rfl⟩
  rw [hm2] at NW NL E2
  clear hm1 hm2
  go_enter Tryz.func108, Tryz.ntmps108
  go_wp2_with fail
  refine TK.out.mono ?_
  rintro e w1 ⟨rfl, b1⟩
  have RE1 := Lib.hid (RE.out m2 w1 b1 NL.out)
  have B1 := Lib.hid b1
  clear b1 TK RE
  go_wp2_with fail
  rw [E1.out, E2.out]
  refine RE1.out.mono ?_
  rintro e w2 ⟨⟨z, rfl, hz⟩, b2⟩
  have hz2 := Lib.hid (NW.out z hz)
  have B2 := Lib.hid (B1.out.trans (b2.mono B1.out.size))
  clear hz b2 RE1 NW NL
  go_wp2
  go_ret
  exact ⟨by rw [hz2.out]; rfl, B2.out⟩

end Go.Proofs.YtlfcjjlgkcfkdaaGreatDoor
namespace Go.Proofs.YtlfcjjlgkcfkdaaGreatDoor
open Go.RowKit
open Sc

theorem bad_match {P : List St} (h : progOk P = false) (S : List Nat) : vMatch P S = false := by
  cases hm : vMatch P S
  · rfl
  · rw [vMatch_iff, h] at hm; simp at hm

set_option maxRecDepth 100000 in
set_option maxHeartbeats 4000000 in
theorem scmatch_any (P : List St) (s : ByteArray) (A : Option Addr) (N cap : Nat) (w : World) (hs : s.size ≤ 1099511627776) (hN : P.length = N) (hbig : N ≤ 1048576) (hcap : N ≤ cap) (h : IsSt w A P) (hT : DTab w) :
    Calls Tryz.prog 75 #[.slice A N cap, .string s] w fun e w' => e = .returned (.bool (vMatch P (txt8 s))) ∧ Below w.heap.size w w' := by
  have CK := Lib.hid (check_any P A N cap w hN hbig hcap h)
  cases hP : progOk P
  · have V := Lib.hid (bad_match hP (txt8 s))
    rw [hP] at CK
    clear h hT hP hN
    go_enter Tryz.func75, Tryz.ntmps75
    go_wp2_with fail
    refine CK.out.mono ?_
    rintro e w1 ⟨rfl, b1⟩
    have B1 := Lib.hid b1
    clear b1 CK
    go_wp2
    go_ret
    exact ⟨by rw [V.out]; rfl, B1.out⟩
  · have hlen := prog_len2 hP
    rw [hN] at hlen
    obtain ⟨blk, off, rfl, hI⟩ := h.isP hN (by omega)
    have RE := Lib.hid (fun W (hW : Below w.heap.size w W) => reached_any P 1 blk off N cap W hP (fun i hi => by
      have : (1 : Nat) = 2 ^ 0 := rfl
      rw [this, bit_pow] at hi; omega) (hI.grown hW) (hT.below hW))
    have NW := Lib.hid (fun z hz => start_word (P := P) (z := z) hP hz)
    have NE := Lib.hid (fun now ch hnow hch W (hW : Below w.heap.size w W) => next0_any P now ch blk off N cap W hP hnow hch (hI.grown hW) (hT.below hW))
    have MT := Lib.hid (fun W (hW : Below w.heap.size w W) => matches_any P blk off N cap W hlen.2 (hI.grown hW))
    have SL : Hid (∀ k, vSet P (txt8 s) k < 18446744073709551616) := fun k => lt64 (N := N) (by omega) fun j hj => by have := vSet_lim P _ k j hj; omega
    have S0 : Hid (vSet P (txt8 s) 0 = vStart P) := rfl
    have SS : Hid (∀ k, vSet P (txt8 s) (k + 1) = vNext P (vSet P (txt8 s) k) ((txt8 s).getD k 0)) := fun k => rfl
    have MF : Hid (vMatch P (txt8 s) = decide (vSet P (txt8 s) (txt8 s).length &&& mts P N ≠ 0)) := by show _ = _; rw [← hN, anyM_mts]; rfl
    have ML : Hid (mts P N < 18446744073709551616) := lt64 (N := N) (by omega) (mts_lim P N)
    have TXL : Hid ((txt8 s).length = s.size) := txt8_len s
    have TX := Lib.hid (fun W k (hk : k < s.size) => txt8_at W s k hk)
    have TB := Lib.hid (fun k => txt8_lt s k)
    rw [hP] at CK
    clear h hT hP hN hI hlen
    obtain ⟨L, hL⟩ : ∃ L, s.size = L := ⟨_, rfl⟩
    rw [hL] at TXL TX hs
    go_enter Tryz.func75, Tryz.ntmps75
    go_wp2_with fail
    refine CK.out.mono ?_
    rintro e w1 ⟨rfl, b1⟩
    have B1 := Lib.hid b1
    have RE1 := Lib.hid (RE.out w1 b1)
    clear b1 CK RE
    go_wp2_with fail
    refine RE1.out.mono ?_
    rintro e w2 ⟨⟨z, rfl, hz⟩, b2⟩
    have hz2 := NW.out z hz
    subst hz2
    have B2 := Lib.hid (B1.out.trans (b2.mono B1.out.size))
    clear hz b2 RE1 NW B1
    rw [← S0.out]
    have V0 : Hid (vSet P (txt8 s) 0 < 18446744073709551616) := SL.out 0
    clear S0
    go_wp2_with fail
    go_loopw [5, 14] (fun z i wr => ∃ k : Nat, k ≤ L ∧ i = .int .i64 (k : Int) ∧ z = .int .u64 ((vSet P (txt8 s) k : Nat) : Int) ∧ Hid (Below w.heap.size w wr)) (fun _ i _ => L - (intOf i).toNat)
    case atStart => exact ⟨0, by omega, rfl, rfl, B2.out⟩
    case round =>
      clear B2
      obtain ⟨k, hk, rfl, rfl, HI⟩ := hrel
      by_cases hkL : k < L
      · have hkz : (k : Int) < (L : Int) := by omega
        have SK := Lib.hid (SS.out k)
        have NK := Lib.hid (NE.out (vSet P (txt8 s) k) ((txt8 s).getD k 0) (SL.out k) (TB.out k) wr HI.out)
        have TK := TX.out wr k hkL
        generalize vSet P (txt8 s) k = m at *
        generalize (txt8 s).getD k 0 = c at *
        clear TX NE SS SL MT MF TB
        go_wp2_with fail
        refine NK.out.mono ?_
        rintro e w3 ⟨rfl, b3⟩
        have B3 := Lib.hid (HI.out.trans (b3.mono HI.out.size))
        clear b3 NK TK
        go_wp2
        go_roundw
        case rel => exact ⟨k + 1, by omega, by go_num, by rw [SK.out], B3.out⟩
        case measure => simp [intOf]; omega
      · obtain rfl : k = L := by omega
        have hkz : ¬ (k : Int) < (k : Int) := by omega
        have MW := Lib.hid (MT.out wr HI.out)
        have SK := Lib.hid (SL.out k)
        have MF2 : Hid (vMatch P (txt8 s) = decide (vSet P (txt8 s) k &&& mts P N ≠ 0)) := by show _ = _; rw [MF.out, TXL.out]
        have E1 := Lib.hid (bits_and_u64_nat (vSet P (txt8 s) k) (mts P N) SK.out ML.out)
        clear TX NE SS SL MT MF TB SK ML
        generalize vSet P (txt8 s) k = m at *
        generalize mts P N = m2 at *
        obtain ⟨m3, hm3⟩ : ∃ m3, m &&& m2 = m3 := ⟨_, rfl⟩
        rw [hm3] at E1 MF2
        clear hm3
        go_wp2_with fail
        refine MW.out.mono ?_
        rintro e w3 ⟨rfl, b3⟩
        have B3 := Lib.hid (HI.out.trans (b3.mono HI.out.size))
        clear b3 MW
        go_wp2
        go_ret
        refine ⟨?_, B3.out⟩
        rw [MF2.out]
        show Ending.returned (.bool (bits .and .u64 (m : Int) (m2 : Int) != 0)) = _
        rw [E1.out]
        congr 2
        rw [Bool.eq_iff_iff]; simp

end Go.Proofs.YtlfcjjlgkcfkdaaGreatDoor
namespace Go.Proofs.YtlfcjjlgkcfkdaaGreatDoor
open Go.RowKit Go.Sort
open Pz

/-- The reference's parser at place i, so many groups deep; bad: it is no pattern. -/
structure RPar (w : World) (P : Nat) (s : ByteArray) (i d : Nat) (b : Bool) : Prop where
  c0 : w.cell? ⟨P, 0, none⟩ = some (.string s)
  c1 : w.cell? ⟨P, 1, none⟩ = some (.int .i64 (i : Int))
  c2 : w.cell? ⟨P, 2, none⟩ = some (.int .i64 (d : Int))
  c3 : w.cell? ⟨P, 3, none⟩ = some (.bool b)
  fr : ∀ j, w.frozen? ⟨P, j, none⟩ = false
  le : i ≤ s.size
  dm : d ≤ 9
  sm : s.size ≤ 40
section
variable {w w' : World} {P i d : Nat} {s : ByteArray} {b : Bool}
theorem RPar.lt (h : RPar w P s i d b) : P < w.heap.size := World.block_lt_of_cell? w _ h.c0
theorem RPar.frame (h : RPar w P s i d b) (hb : w'.heap[P]? = w.heap[P]?) : RPar w' P s i d b :=
  ⟨(World.cell?_of_block (a := ⟨P, 0, none⟩) hb).trans h.c0, (World.cell?_of_block (a := ⟨P, 1, none⟩) hb).trans h.c1, (World.cell?_of_block (a := ⟨P, 2, none⟩) hb).trans h.c2, (World.cell?_of_block (a := ⟨P, 3, none⟩) hb).trans h.c3, fun j => (World.frozen?_of_block (a := ⟨P, j, none⟩) hb).trans (h.fr j), h.le, h.dm, h.sm⟩
theorem RPar.grown (h : RPar w P s i d b) (hb : Below w.heap.size w w') : RPar w' P s i d b := h.frame (hb.block P h.lt)
theorem RPar.drew (h : RPar w P s i d b) (q : Nat) : RPar (w.drewN q) P s i d b := ⟨h.c0, h.c1, h.c2, h.c3, h.fr, h.le, h.dm, h.sm⟩
theorem RPar.put1 (h : RPar w P s i d b) (j : Nat) (hj : j ≤ s.size) : RPar (w.setCell ⟨P, 1, none⟩ (.int .i64 (j : Int))) P s j d b :=
  ⟨(World.cell?_setCell_other _ _ _ _ (by simp)).trans h.c0, World.cell?_setCell_same _ _ _ h.c1, (World.cell?_setCell_other _ _ _ _ (by simp)).trans h.c2, (World.cell?_setCell_other _ _ _ _ (by simp)).trans h.c3, fun k => by rw [World.frozen?_setCell]; exact h.fr k, hj, h.dm, h.sm⟩
theorem RPar.put2 (h : RPar w P s i d b) (j : Nat) (hj : j ≤ 9) : RPar (w.setCell ⟨P, 2, none⟩ (.int .i64 (j : Int))) P s i j b :=
  ⟨(World.cell?_setCell_other _ _ _ _ (by simp)).trans h.c0, (World.cell?_setCell_other _ _ _ _ (by simp)).trans h.c1, World.cell?_setCell_same _ _ _ h.c2, (World.cell?_setCell_other _ _ _ _ (by simp)).trans h.c3, fun k => by rw [World.frozen?_setCell]; exact h.fr k, h.le, hj, h.sm⟩
theorem RPar.put3 (h : RPar w P s i d b) (b' : Bool) : RPar (w.setCell ⟨P, 3, none⟩ (.bool b')) P s i d b' :=
  ⟨(World.cell?_setCell_other _ _ _ _ (by simp)).trans h.c0, (World.cell?_setCell_other _ _ _ _ (by simp)).trans h.c1, (World.cell?_setCell_other _ _ _ _ (by simp)).trans h.c2, World.cell?_setCell_same _ _ _ h.c3, fun k => by rw [World.frozen?_setCell]; exact h.fr k, h.le, h.dm, h.sm⟩
end
set_option maxRecDepth 100000 in
set_option maxHeartbeats 1000000 in
theorem rmore_any (P i d : Nat) (s : ByteArray) (b : Bool) (w : World) (h : RPar w P s i d b) :
    Calls Tryz.prog 135 #[.pointer (some ⟨P, 0, none⟩)] w fun e w' => e = .returned (.bool (!b && decide (i < s.size))) ∧ ∃ n, w' = w.drewN n := by
  have c0 := h.c0
  have c1 := h.c1
  have c3 := h.c3
  have hle := h.le
  have hsm := h.sm
  clear h
  obtain ⟨L, hL⟩ : ∃ L, s.size = L := ⟨_, rfl⟩
  have R : Hid (decide (i < s.size) = decide (i < L)) := by show _ = _; rw [hL]
  cases b
  · have R2 : Hid ((!false && decide (i < s.size)) = decide (i < L)) := by show _ = _; rw [R.out]; rfl
    clear R
    go_enter Tryz.func135, Tryz.ntmps135
    go_wp2_with fail
    go_quiet (fail)
    go_wp2
    go_ret
    exact ⟨by rw [R2.out]; rfl, _, rfl⟩
  · clear R
    go_enter Tryz.func135, Tryz.ntmps135
    go_wp2_with fail
    go_quiet (fail)
    go_wp2
    go_ret
    exact ⟨rfl, _, rfl⟩
set_option maxRecDepth 100000 in
set_option maxHeartbeats 1000000 in
theorem rspecial_any (c : Nat) (hc : c < 256) (w : World) : Calls Tryz.prog 162 #[.int .u8 (c : Int)] w fun e w' => e = .returned (.bool (special c)) ∧ w = w' := by
  by_cases h : special c = true
  · have R := Lib.hid h
    have hh : c = 124 ∨ c = 42 ∨ c = 43 ∨ c = 63 ∨ c = 40 ∨ c = 41 ∨ c = 91 ∨ c = 93 ∨ c = 46 ∨ c = 92 := by simp [special] at h; omega
    clear h
    rcases hh with rfl | rfl | rfl | rfl | rfl | rfl | rfl | rfl | rfl | rfl <;>
    · go_enter Tryz.func162, Tryz.ntmps162
      go_wp2
      go_ret
      exact ⟨by rw [R.out]; rfl, rfl⟩
  · have hf : special c = false := by simpa using h
    have R := Lib.hid hf
    simp only [special, Bool.or_eq_false_iff, beq_eq_false_iff_ne] at hf
    obtain ⟨⟨⟨⟨⟨⟨⟨⟨⟨h1, h2⟩, h3⟩, h4⟩, h5⟩, h6⟩, h7⟩, h8⟩, h9⟩, h10⟩ := hf
    have e1 : ((c : Int) == 124) = false := by simp; omega
    have e2 : ((c : Int) == 42) = false := by simp; omega
    have e3 : ((c : Int) == 43) = false := by simp; omega
    have e4 : ((c : Int) == 63) = false := by simp; omega
    have e5 : ((c : Int) == 40) = false := by simp; omega
    have e6 : ((c : Int) == 41) = false := by simp; omega
    have e7 : ((c : Int) == 91) = false := by simp; omega
    have e8 : ((c : Int) == 93) = false := by simp; omega
    have e9 : ((c : Int) == 46) = false := by simp; omega
    have e10 : ((c : Int) == 92) = false := by simp; omega
    clear h h1 h2 h3 h4 h5 h6 h7 h8 h9 h10
    go_enter Tryz.func162, Tryz.ntmps162
    go_wp2
    go_ret
    exact ⟨by rw [R.out]; rfl, rfl⟩
set_option maxRecDepth 100000 in
set_option maxHeartbeats 1000000 in
theorem rquoted_any (c : Nat) (hc : c < 256) (w : World) : Calls Tryz.prog 158 #[.int .u8 (c : Int)] w fun e w' => e = .returned (.bool (quotable c)) ∧ w = w' := by
  have CS := Lib.hid (rspecial_any c hc w)
  have Q : Hid (quotable c = (special c || c == 94 || c == 45)) := rfl
  cases hs : special c
  · rw [hs] at CS Q
    have e1 : ((c : Int) == 94) = (c == 94) := by rw [Bool.eq_iff_iff]; simp; omega
    have e2 : ((c : Int) == 45) = (c == 45) := by rw [Bool.eq_iff_iff]; simp; omega
    cases h1 : (c == 94)
    · rw [h1] at e1 Q
      have Q2 : Hid (quotable c = (c == 45)) := Q.out
      generalize (c == 45) = bb at *
      clear h1 hs Q
      go_enter Tryz.func158, Tryz.ntmps158
      go_wp2_with fail
      refine CS.out.mono ?_
      rintro e w' ⟨rfl, rfl⟩
      clear CS
      go_wp2
      go_ret
      exact ⟨by rw [Q2.out]; rfl, rfl⟩
    · rw [h1] at e1 Q
      have Q2 : Hid (quotable c = true) := Q.out
      clear h1 hs Q e2
      go_enter Tryz.func158, Tryz.ntmps158
      go_wp2_with fail
      refine CS.out.mono ?_
      rintro e w' ⟨rfl, rfl⟩
      clear CS
      go_wp2
      go_ret
      exact ⟨by rw [Q2.out]; rfl, rfl⟩
  · rw [hs] at CS Q
    have Q2 : Hid (quotable c = true) := by show _ = _; rw [Q.out]; simp
    clear hs Q
    go_enter Tryz.func158, Tryz.ntmps158
    go_wp2_with fail
    refine CS.out.mono ?_
    rintro e w' ⟨rfl, rfl⟩
    clear CS
    go_wp2
    go_ret
    exact ⟨by rw [Q2.out]; rfl, rfl⟩
set_option maxRecDepth 100000 in
set_option maxHeartbeats 1000000 in
theorem rfail_any (P i d : Nat) (s : ByteArray) (b : Bool) (w : World) (h : RPar w P s i d b) :
    Calls Tryz.prog 159 #[.pointer (some ⟨P, 0, none⟩)] w fun e w' => e = .returned (.tuple #[]) ∧ Stp P w w' ∧ RPar w' P s i d true := by
  have H := Lib.hid (h.put3 true)
  have c3 := h.c3
  have f3 := h.fr 3
  clear h
  go_enter Tryz.func159, Tryz.ntmps159
  go_wp2
  go_end0
  exact ⟨rfl, Stp.put _ _ _, H.out⟩
section
variable {W : World} {P i d : Nat} {s : ByteArray}
theorem rmore_t (h : RPar W P s i d false) (hi : i < s.size) : Calls Tryz.prog 135 #[.pointer (some ⟨P, 0, none⟩)] W fun e w' => e = .returned (.bool true) ∧ ∃ n, w' = W.drewN n :=
  (rmore_any P i d s false W h).mono fun e w' ⟨h1, h2⟩ => ⟨by rw [h1, decide_eq_true hi]; rfl, h2⟩
theorem rmore_f (h : RPar W P s i d false) (hi : s.size ≤ i) : Calls Tryz.prog 135 #[.pointer (some ⟨P, 0, none⟩)] W fun e w' => e = .returned (.bool false) ∧ ∃ n, w' = W.drewN n :=
  (rmore_any P i d s false W h).mono fun e w' ⟨h1, h2⟩ => ⟨by rw [h1, decide_eq_false (by omega)]; rfl, h2⟩
theorem rmore_b (h : RPar W P s i d true) : Calls Tryz.prog 135 #[.pointer (some ⟨P, 0, none⟩)] W fun e w' => e = .returned (.bool false) ∧ ∃ n, w' = W.drewN n :=
  (rmore_any P i d s true W h).mono fun e w' ⟨h1, h2⟩ => ⟨by rw [h1]; rfl, h2⟩
end
/-- What member hands back. -/
def RMem (w : World) (P : Nat) (s : ByteArray) (i d : Nat) (e : Ending) (w' : World) : Prop :=
  ∃ c : Nat, c < 256 ∧ e = .returned (.int .u8 (c : Int)) ∧ Stp P w w' ∧ ((∃ j, byte1 (txt8 s) inside i = some (c, j) ∧ RPar w' P s j d false) ∨ (byte1 (txt8 s) inside i = none ∧ ∃ j, RPar w' P s j d true))
set_option maxRecDepth 100000 in
set_option maxHeartbeats 4000000 in
theorem rmember_any (P i d : Nat) (s : ByteArray) (w : World) (h : RPar w P s i d false) :
    Calls Tryz.prog 169 #[.pointer (some ⟨P, 0, none⟩)] w (RMem w P s i d) := by
  have H := Lib.hid h
  have hle := h.le
  have hsm := h.sm
  obtain ⟨L, hL⟩ : ∃ L, s.size = L := ⟨_, rfl⟩
  have FL := Lib.hid (fun i W (h : RPar W P s i d false) => rfail_any P i d s false W h)
  by_cases hi : i < L
  · have MT := Lib.hid (fun W (h : RPar W P s i d false) => rmore_t h (by omega))
    have TX := fun W => txt8_at W s i (by omega)
    have hpk : pk (txt8 s) i = (txt8 s).getD i 0 := pk_lt (by omega)
    obtain ⟨c, hc⟩ : ∃ c, (txt8 s).getD i 0 = c := ⟨_, rfl⟩
    have hcb : c < 256 := by rw [← hc]; exact txt8_lt s i
    simp only [hc] at TX
    rw [hc] at hpk
    obtain ⟨i1, hi1⟩ : ∃ i1, i + 1 = i1 := ⟨_, rfl⟩
    have hw1 : IntKind.i64.wrap ((i : Int) + 1) = (i1 : Int) := by rw [IntKind.wrap_i64]; omega
    have PU := Lib.hid (fun W (h : RPar W P s i d false) => h.put1 i1 (by omega))
    by_cases h92 : c = 92
    · have hz92 : ((c : Int) == 92) = true := by simp; omega
      have e0 : byte1 (txt8 s) inside i = if quotable (pk (txt8 s) i1) then some (pk (txt8 s) i1, i + 2) else none := by
        unfold byte1
        rw [if_pos (hpk.trans h92), hi1]
      by_cases h1 : i1 < L
      · have TX2 := fun W => txt8_at W s i1 (by omega)
        have hpk1 : pk (txt8 s) i1 = (txt8 s).getD i1 0 := pk_lt (by omega)
        obtain ⟨c2, hc2⟩ : ∃ c2, (txt8 s).getD i1 0 = c2 := ⟨_, rfl⟩
        have hcb2 : c2 < 256 := by rw [← hc2]; exact txt8_lt s i1
        simp only [hc2] at TX2
        rw [hc2] at hpk1
        rw [hpk1] at e0
        have M2 := Lib.hid (fun W (h : RPar W P s i1 d false) => rmore_t h (by omega))
        obtain ⟨q, hq⟩ : ∃ q, quotable c2 = q := ⟨_, rfl⟩
        have QC := Lib.hid (fun W => (rquoted_any c2 hcb2 W).mono fun e w' h => And.intro h.1 h.2.symm)
        rw [hq] at QC e0
        obtain ⟨i2, hi2⟩ : ∃ i2, i1 + 1 = i2 := ⟨_, rfl⟩
        have hw2 : IntKind.i64.wrap ((i1 : Int) + 1) = (i2 : Int) := by rw [IntKind.wrap_i64]; omega
        have hw3 : IntKind.i64.wrap ((i2 : Int) - 1) = (i1 : Int) := by rw [IntKind.wrap_i64]; omega
        have hw4 : (i2 : Int) - 1 = (i1 : Int) := by omega
        have PU2 := Lib.hid (fun W (h : RPar W P s i1 d false) => h.put1 i2 (by omega))
        cases q
        · have R : Hid (byte1 (txt8 s) inside i = none) := e0
          clear e0 h92 hpk hpk1 hc hc2 hi1 hq hi2 PU2 hw2 hw3 hw4
          clear h
          have c0 := H.out.c0
          have c1 := H.out.c1
          have f1 := H.out.fr 1
          go_enter Tryz.func169, Tryz.ntmps169
          go_wp2_with fail
          refine (MT.out _ H.out).mono ?_
          rintro e W1 ⟨rfl, n1, rfl⟩
          go_wp2_with fail
          go_quiet (fail)
          go_wp2_with fail
          have H1 : Hid (Stp P w ((w.drewN (n1 + nq)).setCell ⟨P, 1, none⟩ (.int .i64 (i1 : Int))) ∧ RPar ((w.drewN (n1 + nq)).setCell ⟨P, 1, none⟩ (.int .i64 (i1 : Int))) P s i1 d false) := ⟨((Stp.refl P w).drew (n1 + nq)).trans (Stp.put _ _ _), PU.out _ (H.out.drew _)⟩
          clear c0 c1 f1
          generalize (w.drewN (n1 + nq)).setCell ⟨P, 1, none⟩ (.int .i64 (i1 : Int)) = w1 at *
          have c0 := H1.out.2.c0
          have c1 := H1.out.2.c1
          have f1 := H1.out.2.fr 1
          go_quiet (first | (go_at_call 135; exact Calls.quiet_of (M2.out _ (H1.out.2.drew _))) | (go_at_call 158; exact Calls.quiet_of_same (QC.out _)))
          go_wp2_with fail
          refine (FL.out i1 _ (H1.out.2.drew _)).mono ?_
          rintro e W2 ⟨rfl, S1, P1⟩
          have H2 := Lib.hid (And.intro S1 P1)
          clear S1 P1
          go_wp2
          go_ret
          exact ⟨0, by omega, rfl, (H1.out.1.drew _).trans H2.out.1, .inr ⟨R.out, i1, H2.out.2⟩⟩
        · have R : Hid (byte1 (txt8 s) inside i = some (c2, i2)) := by show _ = _; rw [e0, ← hi2, ← hi1]; rfl
          clear e0 h92 hpk hpk1 hc hc2 hi1 hq hi2
          clear h
          have c0 := H.out.c0
          have c1 := H.out.c1
          have f1 := H.out.fr 1
          go_enter Tryz.func169, Tryz.ntmps169
          go_wp2_with fail
          refine (MT.out _ H.out).mono ?_
          rintro e W1 ⟨rfl, n1, rfl⟩
          go_wp2_with fail
          go_quiet (fail)
          go_wp2_with fail
          have H1 : Hid (Stp P w ((w.drewN (n1 + nq)).setCell ⟨P, 1, none⟩ (.int .i64 (i1 : Int))) ∧ RPar ((w.drewN (n1 + nq)).setCell ⟨P, 1, none⟩ (.int .i64 (i1 : Int))) P s i1 d false) := ⟨((Stp.refl P w).drew (n1 + nq)).trans (Stp.put _ _ _), PU.out _ (H.out.drew _)⟩
          clear c0 c1 f1
          generalize (w.drewN (n1 + nq)).setCell ⟨P, 1, none⟩ (.int .i64 (i1 : Int)) = w1 at *
          have c0 := H1.out.2.c0
          have c1 := H1.out.2.c1
          have f1 := H1.out.2.fr 1
          go_quiet (first | (go_at_call 135; exact Calls.quiet_of (M2.out _ (H1.out.2.drew _))) | (go_at_call 158; exact Calls.quiet_of_same (QC.out _)))
          go_wp2_with fail
          have H3 : Hid (Stp P w ((w1.drewN nq).setCell ⟨P, 1, none⟩ (.int .i64 (i2 : Int))) ∧ RPar ((w1.drewN nq).setCell ⟨P, 1, none⟩ (.int .i64 (i2 : Int))) P s i2 d false) := ⟨(H1.out.1.drew nq).trans (Stp.put _ _ _), PU2.out _ (H1.out.2.drew _)⟩
          clear c0 c1 f1
          generalize (w1.drewN nq).setCell ⟨P, 1, none⟩ (.int .i64 (i2 : Int)) = w2 at *
          have c0 := H3.out.2.c0
          have c1 := H3.out.2.c1
          have f1 := H3.out.2.fr 1
          go_quiet (fail)
          go_wp2
          go_ret
          exact ⟨c2, hcb2, rfl, H3.out.1.drew _, .inl ⟨i2, R.out, H3.out.2.drew _⟩⟩
      · have M2 := Lib.hid (fun W (h : RPar W P s i1 d false) => rmore_f h (by omega))
        have R : Hid (byte1 (txt8 s) inside i = none) := by show _ = _; rw [e0, pk_end (by omega)]; rfl
        clear e0 h92 hpk hc hi1
        clear h
        have c0 := H.out.c0
        have c1 := H.out.c1
        have f1 := H.out.fr 1
        go_enter Tryz.func169, Tryz.ntmps169
        go_wp2_with fail
        refine (MT.out _ H.out).mono ?_
        rintro e W1 ⟨rfl, n1, rfl⟩
        go_wp2_with fail
        go_quiet (fail)
        go_wp2_with fail
        have H1 : Hid (Stp P w ((w.drewN (n1 + nq)).setCell ⟨P, 1, none⟩ (.int .i64 (i1 : Int))) ∧ RPar ((w.drewN (n1 + nq)).setCell ⟨P, 1, none⟩ (.int .i64 (i1 : Int))) P s i1 d false) := ⟨((Stp.refl P w).drew (n1 + nq)).trans (Stp.put _ _ _), PU.out _ (H.out.drew _)⟩
        clear c0 c1 f1
        generalize (w.drewN (n1 + nq)).setCell ⟨P, 1, none⟩ (.int .i64 (i1 : Int)) = w1 at *
        have c0 := H1.out.2.c0
        have c1 := H1.out.2.c1
        have f1 := H1.out.2.fr 1
        go_quiet ((go_at_call 135; exact Calls.quiet_of (M2.out _ (H1.out.2.drew _))))
        go_wp2_with fail
        refine (FL.out i1 _ (H1.out.2.drew _)).mono ?_
        rintro e W2 ⟨rfl, S1, P1⟩
        have H2 := Lib.hid (And.intro S1 P1)
        clear S1 P1
        go_wp2
        go_ret
        exact ⟨0, by omega, rfl, (H1.out.1.drew _).trans H2.out.1, .inr ⟨R.out, i1, H2.out.2⟩⟩
    · have hz92 : ((c : Int) == 92) = false := by simp; omega
      have e0 : byte1 (txt8 s) inside i = if inside c = true then none else some (c, i1) := by
        unfold byte1
        rw [if_neg (by rw [hpk]; exact h92), hpk, ← hi1]
        by_cases hq : inside c = true
        · rw [if_pos (.inr hq), if_pos hq]
        · rw [if_neg (fun h => by rcases h with h | h; omega; exact hq h), if_neg hq]
      have ei : inside c = (c == 93 || c == 91 || c == 94 || c == 45) := by unfold inside; rw [(by simpa using h92 : (c == 92) = false)]; rfl
      by_cases hq : inside c = true
      · have R : Hid (byte1 (txt8 s) inside i = none) := by show _ = _; rw [e0, if_pos hq]
        have hh : c = 93 ∨ c = 91 ∨ c = 94 ∨ c = 45 := by rw [ei] at hq; simpa [or_assoc] using hq
        clear e0 h92 hpk hc hi1 ei hq hz92
        rcases hh with rfl | rfl | rfl | rfl <;>
        · clear h
          have c0 := H.out.c0
          have c1 := H.out.c1
          have f1 := H.out.fr 1
          go_enter Tryz.func169, Tryz.ntmps169
          go_wp2_with fail
          refine (MT.out _ H.out).mono ?_
          rintro e W1 ⟨rfl, n1, rfl⟩
          go_wp2_with fail
          go_quiet (fail)
          go_wp2_with fail
          have H1 : Hid (Stp P w ((w.drewN (n1 + nq)).setCell ⟨P, 1, none⟩ (.int .i64 (i1 : Int))) ∧ RPar ((w.drewN (n1 + nq)).setCell ⟨P, 1, none⟩ (.int .i64 (i1 : Int))) P s i1 d false) := ⟨((Stp.refl P w).drew (n1 + nq)).trans (Stp.put _ _ _), PU.out _ (H.out.drew _)⟩
          clear c0 c1 f1
          generalize (w.drewN (n1 + nq)).setCell ⟨P, 1, none⟩ (.int .i64 (i1 : Int)) = w1 at *
          go_wp2_with fail
          refine (FL.out i1 _ H1.out.2).mono ?_
          rintro e W2 ⟨rfl, S1, P1⟩
          have H2 := Lib.hid (And.intro S1 P1)
          clear S1 P1
          go_wp2
          go_ret
          exact ⟨_, by omega, rfl, H1.out.1.trans H2.out.1, .inr ⟨R.out, i1, H2.out.2⟩⟩
      · have R : Hid (byte1 (txt8 s) inside i = some (c, i1)) := by show _ = _; rw [e0, if_neg hq]
        have z1 : ((c : Int) == 93) = false := by simp; intro h; apply hq; rw [ei]; simp; omega
        have z2 : ((c : Int) == 91) = false := by simp; intro h; apply hq; rw [ei]; simp; omega
        have z3 : ((c : Int) == 94) = false := by simp; intro h; apply hq; rw [ei]; simp; omega
        have z4 : ((c : Int) == 45) = false := by simp; intro h; apply hq; rw [ei]; simp; omega
        clear e0 h92 hpk hc hi1 ei hq
        clear h
        have c0 := H.out.c0
        have c1 := H.out.c1
        have f1 := H.out.fr 1
        go_enter Tryz.func169, Tryz.ntmps169
        go_wp2_with fail
        refine (MT.out _ H.out).mono ?_
        rintro e W1 ⟨rfl, n1, rfl⟩
        go_wp2_with fail
        go_quiet (fail)
        go_wp2_with fail
        have H1 : Hid (Stp P w ((w.drewN (n1 + nq)).setCell ⟨P, 1, none⟩ (.int .i64 (i1 : Int))) ∧ RPar ((w.drewN (n1 + nq)).setCell ⟨P, 1, none⟩ (.int .i64 (i1 : Int))) P s i1 d false) := ⟨((Stp.refl P w).drew (n1 + nq)).trans (Stp.put _ _ _), PU.out _ (H.out.drew _)⟩
        clear c0 c1 f1
        generalize (w.drewN (n1 + nq)).setCell ⟨P, 1, none⟩ (.int .i64 (i1 : Int)) = w1 at *
        go_wp2
        go_ret
        exact ⟨c, hcb, rfl, H1.out.1, .inl ⟨i1, R.out, H1.out.2⟩⟩
  · have MF := Lib.hid (fun W (h : RPar W P s i d false) => rmore_f h (by omega))
    have R : Hid (byte1 (txt8 s) inside i = none) := by
      show _ = _
      unfold byte1
      rw [pk_end (by omega)]
      rfl
    clear h
    go_enter Tryz.func169, Tryz.ntmps169
    go_wp2_with fail
    refine (MF.out _ H.out).mono ?_
    rintro e W1 ⟨rfl, n1, rfl⟩
    go_wp2_with fail
    refine (FL.out i _ (H.out.drew _)).mono ?_
    rintro e W2 ⟨rfl, S1, P1⟩
    have H2 := Lib.hid (And.intro (((Stp.refl P w).drew n1).trans S1) P1)
    clear S1 P1
    go_wp2
    go_ret
    exact ⟨0, by omega, rfl, H2.out.1, .inr ⟨R.out, i, H2.out.2⟩⟩
/-- On the way through a function that has the reference's parser: its result's own block is as it was laid. -/
structure RAt (w : World) (P : Nat) (s : ByteArray) (i d : Nat) (b : Bool) (row : Array Value) (ty : TypeId) (W : World) : Prop where
  st : Stp P w W
  pa : RPar W P s i d b
  lt : P < w.heap.size
  r : W.heap[w.heap.size]? = some (.cells row ty (0, 0))
section
variable {w W W' : World} {P i d j d' : Nat} {s : ByteArray} {b b' : Bool} {row : Array Value} {ty : TypeId}
theorem RAt.start (h : RPar w P s i d b) (row : Array Value) (ty : TypeId) : RAt w P s i d b row ty (w.alloc (.cells row ty)) :=
  ⟨Stp.of ((Below.refl _ _).alloc (Nat.le_refl _) _), h.grown ((Below.refl _ _).alloc (Nat.le_refl _) _), h.lt, heap_alloc_new w _⟩
theorem RAt.big (h : RAt w P s i d b row ty W) : w.heap.size + 1 ≤ W.heap.size := (Array.getElem?_eq_some_iff.1 h.r).1
theorem RAt.step (h : RAt w P s i d b row ty W) (st : Stp P W W') (pa : RPar W' P s j d' b') : RAt w P s j d' b' row ty W' :=
  ⟨h.st.trans st, pa, h.lt, (st.block _ (by have := h.big; omega) (by have := h.lt; omega)).trans h.r⟩
theorem RAt.grow (h : RAt w P s i d b row ty W) (hb : Below W.heap.size W W') : RAt w P s i d b row ty W' := h.step (Stp.of hb) (h.pa.grown hb)
theorem RAt.drew (h : RAt w P s i d b row ty W) (q : Nat) : RAt w P s i d b row ty (W.drewN q) := h.step ((Stp.refl _ _).drew q) (h.pa.drew q)
theorem RAt.cell (h : RAt w P s i d b row ty W) {g k : Nat} {v : Value} (hg : w.heap.size < g) : RAt w P s i d b row ty (W.setCell ⟨g, k, none⟩ v) :=
  ⟨⟨h.st.os, h.st.tape, h.st.output, by simpa using h.st.size, fun q h1 h2 => (Below.heap_setCell _ _ _ _ (by show q ≠ g; omega)).trans (h.st.block q h1 h2)⟩, h.pa.frame (Below.heap_setCell _ _ _ _ (by show P ≠ g; have := h.lt; omega)), h.lt, (Below.heap_setCell _ _ _ _ (by show w.heap.size ≠ g; omega)).trans h.r⟩
theorem RAt.fin (h : RAt w P s i d b row ty W) (cs : Array Value) : Stp P w (W.setRow w.heap.size cs) ∧ RPar (W.setRow w.heap.size cs) P s i d b ∧ (W.setRow w.heap.size cs).heap[w.heap.size]? = some (.cells cs ty (0, 0)) :=
  ⟨⟨h.st.os, h.st.tape, h.st.output, by rw [setRow_size]; exact h.st.size, fun k h1 h2 => (setRow_other _ _ _ _ (by omega)).trans (h.st.block k h1 h2)⟩, h.pa.frame (setRow_other _ _ _ _ (by have := h.lt; omega)), setRow_heap _ _ _ _ _ _ h.r⟩
end
/-- What a part of the reference's parser hands back: a tree and where it ended, or any tree, and that it is no pattern. -/
def RRes (w : World) (P : Nat) (s : ByteArray) (d : Nat) (r : Option (Rx × Nat)) (e : Ending) (w' : World) : Prop :=
  ∃ v t, e = .returned v ∧ RxIn (fun b => w.heap.size ≤ b) w' v t ∧ Stp P w w' ∧ ((∃ j, r = some (t, j) ∧ RPar w' P s j d false) ∨ (r = none ∧ ∃ j d', RPar w' P s j d' true))
theorem rres_none {w W : World} {P j d d' : Nat} {s : ByteArray} {r : Option (Rx × Nat)} {cs : Array Value} {t : Rx} (hr : r = none) (h : RAt w P s j d' true zero6 135 W) (ht : RxIn (fun b => w.heap.size + 1 ≤ b) W (.agg cs) t) : RRes w P s d r (.returned (.agg cs)) (W.setRow w.heap.size cs) :=
  ⟨_, t, rfl, ht.frame (fun b hb => setRow_other _ _ _ _ (by omega)) (fun b _ hb => by omega), (h.fin _).1, .inr ⟨hr, j, d', (h.fin _).2.1⟩⟩
theorem rres_some {w W : World} {P j d : Nat} {s : ByteArray} {r : Option (Rx × Nat)} {cs : Array Value} {t : Rx} (hr : r = some (t, j)) (h : RAt w P s j d false zero6 135 W) (ht : RxIn (fun b => w.heap.size + 1 ≤ b) W (.agg cs) t) : RRes w P s d r (.returned (.agg cs)) (W.setRow w.heap.size cs) :=
  ⟨_, t, rfl, ht.frame (fun b hb => setRow_other _ _ _ _ (by omega)) (fun b _ hb => by omega), (h.fin _).1, .inl ⟨j, hr, (h.fin _).2.1⟩⟩
theorem leaf0 (B : Nat) (w : World) : RxIn (fun b => B ≤ b) w (.agg zero6) (.mk 0 0 0 0 0 []) := RxIn.leaf _ _ 0 0 0 0 0
theorem pow_wrap (c : Nat) : IntKind.u64.wrap (2 ^ (c % 64)) = ((2 ^ (c % 64) : Nat) : Int) := by
  have h2 : 2 ^ (c % 64) < 18446744073709551616 := Nat.pow_lt_pow_right (a := 2) (n := 64) (by omega) (by omega)
  have e2 : ((2 : Int) ^ (c % 64)) = ((2 ^ (c % 64) : Nat) : Int) := by simp
  rw [e2]
  generalize 2 ^ (c % 64) = q at *
  rw [IntKind.wrap_u64]; omega
/-- Where one lays its bit. -/
theorem one_start (w : World) : ∀ W, W = (w.alloc (.cells #[.int .u64 0, .int .u64 0, .int .u64 0, .int .u64 0] 132)).alloc (.cells #[.int .u64 0, .int .u64 0, .int .u64 0, .int .u64 0] 132) →
    Below w.heap.size w W ∧ W.heap[w.heap.size]? = some (.cells zero4 132 (0, 0)) ∧ Arr W (w.heap.size + 1) none4 := by
  rintro W rfl
  have e1 := heap_alloc_new w (.cells zero4 132)
  have b1 : Below w.heap.size w (w.alloc (.cells zero4 132)) := (Below.refl _ _).alloc (Nat.le_refl _) _
  have z1 : (w.alloc (.cells zero4 132)).heap.size = w.heap.size + 1 := by simp
  unfold zero4 at *
  generalize w.alloc (.cells #[.int .u64 0, .int .u64 0, .int .u64 0, .int .u64 0] 132) = w1 at *
  have e2 := heap_alloc_new w1 (.cells #[.int .u64 0, .int .u64 0, .int .u64 0, .int .u64 0] 132)
  rw [z1] at e2
  exact ⟨b1.alloc (by omega) _, (heap_alloc_old w1 _ (by omega)).trans e1, Arr.of (W := none4) e2⟩
set_option maxRecDepth 100000 in
set_option maxHeartbeats 2000000 in
theorem rone_any (c : Nat) (hc : c < 256) (w : World) :
    Calls Tryz.prog 160 #[.int .u8 (c : Int)] w fun e w' => e = .returned (set4 (put none4 c)) ∧ Below w.heap.size w w' := by
  obtain ⟨V, hV⟩ : ∃ V, put none4 c = V := ⟨_, rfl⟩
  rw [hV]
  have HV := Lib.hid hV
  clear hV
  have O1 := Lib.hid (one_start w _ rfl)
  have q1 : IntKind.u8.wrap ((c : Int) / 64) = (c : Int) / 64 := by rw [IntKind.wrap_u8]; omega
  have q2 : IntKind.u8.wrap ((c : Int) % 64) = (c : Int) % 64 := by rw [IntKind.wrap_u8]; omega
  have q9 : (c : Int).tmod 64 = (c : Int) % 64 := Int.tmod_eq_emod_of_nonneg (by omega)
  have q3 : (c : Int) / 64 < 4 := by omega
  have q4 : (0 : Int) ≤ (c : Int) / 64 := by omega
  have q5 : ((c : Int) / 64).toNat = c / 64 := by omega
  have q6 : (0 : Int) ≤ (c : Int) % 64 := by omega
  have q7 : ((c : Int) % 64).toNat = c % 64 := by omega
  have q8 : (c : Int) % 64 < 64 := by omega
  have EK := pow_wrap c
  have EP := Lib.hid (show ((2 : Int) ^ (c % 64)) = ((2 ^ (c % 64) : Nat) : Int) by simp)
  have PF : Hid (2 ^ (c % 64) < 18446744073709551616) := Nat.pow_lt_pow_right (a := 2) (n := 64) (by omega) (by omega)
  go_enter Tryz.func160, Tryz.ntmps160
  go_upto_region 2 with fail
  generalize (w.alloc (.cells #[.int .u64 0, .int .u64 0, .int .u64 0, .int .u64 0] 132)).alloc (.cells #[.int .u64 0, .int .u64 0, .int .u64 0, .int .u64 0] 132) = w1 at *
  have c1 := O1.out.2.2.c (c / 64) (by omega)
  have f1 := O1.out.2.2.f (c / 64)
  go_upto_region 3 with fail
  clear c1 f1 q1 q2 q3 q4 q5 q6 q7 q8 q9 EK
  rw [EP.out]
  have A2 := Lib.hid (O1.out.2.2.put (W' := V) (c / 64) (2 ^ (c % 64)) (by omega) (fun j hj => by rw [← HV.out]; unfold put; split <;> simp [none4]))
  have H2 : Hid ((w1.setCell ⟨w.heap.size + 1, c / 64, none⟩ (.int .u64 ((2 ^ (c % 64) : Nat) : Int))).heap[w.heap.size]? = some (.cells zero4 132 (0, 0))) := (Below.heap_setCell _ _ _ _ (by simp)).trans O1.out.2.1
  have B2 := Lib.hid (O1.out.1.setCell (p := ⟨w.heap.size + 1, c / 64, none⟩) (by simp) (.int .u64 ((2 ^ (c % 64) : Nat) : Int)))
  clear O1 PF EP
  generalize w1.setCell ⟨w.heap.size + 1, c / 64, none⟩ (.int .u64 ((2 ^ (c % 64) : Nat) : Int)) = w2 at *
  have x0 := A2.out.c 0 (by omega)
  have x1 := A2.out.c 1 (by omega)
  have x2 := A2.out.c 2 (by omega)
  have x3 := A2.out.c 3 (by omega)
  go_wp2_with (refine wpList_store_row rfl 132 (.tmp 2) (.tmp 11) rfl w.heap.size #[.int .u64 (V 0 : Int), .int .u64 (V 1 : Int), .int .u64 (V 2 : Int), .int .u64 (V 3 : Int)] rfl rfl 132 _ H2.out Tryz.size4 rfl (by simp [Value.oneCell']) ?_)
  refine bodyPost_ret (results_cell_row rfl _ _ w.heap.size 132 _ (0, 0) _ rfl (setRow_heap _ _ _ _ _ _ H2.out) Tryz.underlying132 rfl Tryz.size4) rfl ⟨rfl, ?_⟩
  have b := B2.out
  exact ⟨b.os, b.tape, b.output, by rw [setRow_size]; exact b.size, fun q hq => (setRow_other _ _ _ _ (by omega)).trans (b.block q hq)⟩
/-- What is told of a part of the reference's parser. -/
def RTells (f : FuncId) (P : Nat) (s : ByteArray) (d : Nat) (G : Nat → Option (Rx × Nat)) (pre : Nat → Prop) : Prop := ∀ i W, pre i → RPar W P s i d false → Calls Tryz.prog f #[.pointer (some ⟨P, 0, none⟩)] W (RRes W P s d (G i))
/-- The loop of class: so many members, so many rounds left. -/
def cls (S : List Nat) (n m : Nat) (W : Nat → Nat) (j : Nat) : Option ((Nat → Nat) × Nat) := if n = 0 ∧ pk S j = 93 then none else items S (m + 1) W j
theorem item_at {S : List Nat} {j : Nat} (h : pk S j = 93 ∨ pk S j = 256) : item S j = none := by
  unfold item
  have : byte1 S inside j = none := by
    unfold byte1
    rcases h with h | h <;> (rw [h]; rfl)
  rw [this]
theorem cls_start (S : List Nat) (m j : Nat) : cls S 0 m none4 j = cont S m none4 (item S j) := by
  unfold cls
  by_cases h : pk S j = 93
  · rw [if_pos ⟨rfl, h⟩, item_at (.inl h)]; rfl
  · rw [if_neg (fun e => h e.2), items_step h]
theorem cls_go {S : List Nat} {n m j lo hi k : Nat} {W : Nat → Nat} (h : ¬ pk S j = 93) (hi2 : item S j = some (lo, hi, k)) : cls S n (m + 1) W j = cls S (n + 1) m (span W lo (hi + 1 - lo)) k := by
  unfold cls
  rw [if_neg (fun e => h e.2), if_neg (fun e => by omega), items_step h, hi2, span_join W]
  rfl
theorem cls_no {S : List Nat} {n m j : Nat} {W : Nat → Nat} (h : ¬ pk S j = 93) (hi2 : item S j = none) : cls S n m W j = none := by
  unfold cls
  rw [if_neg (fun e => h e.2), items_step h, hi2]
  rfl
/-- On the way through class: the parser and the set so far. -/
structure RSt (w : World) (P : Nat) (s : ByteArray) (i d : Nat) (b : Bool) (g : Nat) (W : Nat → Nat) (wr : World) : Prop where
  ra : RAt w P s i d b zero6 135 wr
  ar : Arr wr g W
  hg : w.heap.size < g
section
variable {w wr w' : World} {P i j d g : Nat} {s : ByteArray} {b b' : Bool} {W V : Nat → Nat}
theorem RSt.pg (h : RSt w P s i d b g W wr) : P < g := by have := h.hg; have := h.ra.lt; omega
theorem RSt.step (h : RSt w P s i d b g W wr) (st : Stp P wr w') (pa : RPar w' P s j d b') : RSt w P s j d b' g W w' := ⟨h.ra.step st pa, h.ar.frame (st.block g h.ar.lt (by have := h.pg; omega)), h.hg⟩
theorem RSt.drew (h : RSt w P s i d b g W wr) (q : Nat) : RSt w P s i d b g W (wr.drewN q) := h.step ((Stp.refl _ _).drew q) (h.ra.pa.drew q)
theorem RSt.put1 (h : RSt w P s i d b g W wr) (j : Nat) (hj : j ≤ s.size) : RSt w P s j d b g W (wr.setCell ⟨P, 1, none⟩ (.int .i64 (j : Int))) := h.step (Stp.put _ _ _) (h.ra.pa.put1 j hj)
theorem RSt.cell (h : RSt w P s i d b g W wr) (k x : Nat) (hk : k < 4) (e : ∀ j, j < 4 → V j = if j = k then x else W j) : RSt w P s i d b g V (wr.setCell ⟨g, k, none⟩ (.int .u64 (x : Int))) := ⟨h.ra.cell h.hg, h.ar.put k x hk e, h.hg⟩
end
/-- What the loop of class keeps. -/
def CInv (w : World) (P : Nat) (s : ByteArray) (d g : Nat) (r : Option ((Nat → Nat) × Nat)) (m n : Nat) (wr : World) : Prop :=
  ∃ j b W, RSt w P s j d b g W wr ∧ Fits4 W ∧ n + m ≤ 42 ∧ (if b = true then r = none else cls (txt8 s) n m W j = r ∧ s.size < j + m)
/-- Behind an item's second byte. -/
def RItem (S : List Nat) (j lo hi k : Nat) (b : Bool) : Prop := (b = true ∧ item S j = none) ∨ (b = false ∧ j < k ∧ item S j = if hi < lo then none else some (lo, hi, k))
set_option maxRecDepth 100000 in
set_option maxHeartbeats 16000000 in
theorem rclass_any (P d : Nat) (s : ByteArray) : RTells 161 P s d (class1 (txt8 s) 42) (fun _ => True) := by
  intro i w _ h
  have H := Lib.hid (RAt.start h zero6 135)
  have hle := h.le
  have hsm := h.sm
  clear h
  unfold zero6 at H
  obtain ⟨L, hL⟩ : ∃ L, s.size = L := ⟨_, rfl⟩
  obtain ⟨nb, hnb⟩ : ∃ nb, nb = decide (pk (txt8 s) i = 94) := ⟨_, rfl⟩
  obtain ⟨i2, hi2⟩ : ∃ i2, i2 = if pk (txt8 s) i = 94 then i + 1 else i := ⟨_, rfl⟩
  have CE := Lib.hid (class_eq (txt8 s) 42 i nb i2 hnb hi2)
  rw [← cls_start] at CE
  obtain ⟨r, hr⟩ : ∃ r, cls (txt8 s) 0 42 none4 i2 = r := ⟨_, rfl⟩
  rw [hr] at CE
  have HR := Lib.hid hr
  have hi2b : i ≤ i2 ∧ i2 ≤ L := by
    rw [hi2]
    by_cases h : pk (txt8 s) i = 94
    · rw [if_pos h]; have := pk_in (s := s) (i := i) (by omega); omega
    · rw [if_neg h]; omega
  have HNB := Lib.hid (And.intro hnb hi2)
  clear hr hi2 hnb
  go_enter Tryz.func161, Tryz.ntmps161
  go_upto_region 1 with fail
  generalize w.alloc (.cells #[.int .i64 0, .int .u64 0, .int .u64 0, .int .u64 0, .int .u64 0, .slice none 0 0] 135) = w1 at *
  go_cut [3] from 10 (fun nv wx => nv = .bool nb ∧ Hid (RAt w P s i d false zero6 135 wx))
  case first =>
    have c0 := H.out.pa.c0
    have c1 := H.out.pa.c1
    by_cases hi : i < L
    · have MT := Lib.hid (fun W (h : RPar W P s i d false) => rmore_t h (by omega))
      have TX := fun W => txt8_at W s i (by omega)
      have hpk : pk (txt8 s) i = (txt8 s).getD i 0 := pk_lt (by omega)
      obtain ⟨c, hc⟩ : ∃ c, (txt8 s).getD i 0 = c := ⟨_, rfl⟩
      simp only [hc] at TX
      rw [hc] at hpk
      have hz : ((c : Int) == 94) = nb := by rw [HNB.out.1, hpk, Bool.eq_iff_iff]; simp; omega
      clear hpk hc
      go_quiet ((go_at_call 135; exact Calls.quiet_of (MT.out _ (H.out.pa.drew _))))
      go_wp2
      go_meet
      case rel => exact ⟨rfl, H.out.drew _⟩
    · have MF := Lib.hid (fun W (h : RPar W P s i d false) => rmore_f h (by omega))
      have hnb0 : nb = false := by rw [HNB.out.1, pk_end (by omega)]; rfl
      go_quiet ((go_at_call 135; exact Calls.quiet_of (MF.out _ (H.out.pa.drew _))))
      go_wp2
      go_meet
      case rel => exact ⟨by rw [hnb0], H.out.drew _⟩
  case rest =>
    clear H
    obtain ⟨rfl, H⟩ := hcut
    go_upto_if 24 with fail
    go_cut [] from 10 (fun wx => Hid (RAt w P s i2 d false zero6 135 wx))
    case first =>
      have c1 := H.out.pa.c1
      have f1 := H.out.pa.fr 1
      by_cases hp : pk (txt8 s) i = 94
      · have e1 : nb = true := by rw [HNB.out.1, hp]; rfl
        have e2 : i2 = i + 1 := by rw [HNB.out.2, if_pos hp]
        subst e1
        have hw1 : IntKind.i64.wrap ((i : Int) + 1) = (i2 : Int) := by rw [IntKind.wrap_i64]; omega
        have PU := Lib.hid (H.out.step (Stp.put _ _ _) (H.out.pa.put1 i2 (by omega)))
        clear hp e2
        go_wp2
        go_meet
        case rel => exact PU
      · have e1 : nb = false := by rw [HNB.out.1]; simpa using hp
        have e2 : i2 = i := by rw [HNB.out.2, if_neg hp]
        subst e1 e2
        clear hp
        go_wp2
        go_meet
        case rel => exact H
    case rest =>
      clear H
      have H := hcut
      have CI : Hid (CInv w P s d wc.heap.size r 42 0 (wc.alloc (.cells zero4 132))) := ⟨i2, false, none4, ⟨H.out.grow ((Below.refl _ _).alloc (Nat.le_refl _) _), Arr.of (W := none4) (heap_alloc_new wc _), by have := H.out.big; omega⟩, none4_fits, by omega, HR.out, by omega⟩
      clear H hcut
      unfold zero4 at CI
      go_wp2
      generalize wc.alloc (.cells #[.int .u64 0, .int .u64 0, .int .u64 0, .int .u64 0] 132) = w3 at *
      generalize wc.heap.size = g at *
      clear HNB HR
      go_loopg [5] 42 (fun m nv wr => ∃ n : Nat, nv = .int .i64 (n : Int) ∧ Hid (CInv w P s d g r m n wr))
      case atStart => exact ⟨0, rfl, CI⟩
      case round =>
        clear CI
        obtain ⟨n, rfl, HI⟩ := hrel
        obtain ⟨j, b, W, H, FW, hnm, HB⟩ := HI.out
        have H := Lib.hid H
        have FW := Lib.hid FW
        have HB := Lib.hid HB
        clear HI
        have hjL : j ≤ L := by have := H.out.ra.pa.le; omega
        by_cases hbad : b = true ∨ L ≤ j
        · have MF : Hid (∀ W (h : RPar W P s j d b), Calls Tryz.prog 135 #[.pointer (some ⟨P, 0, none⟩)] W fun e w' => e = .returned (.bool false) ∧ ∃ n, w' = W.drewN n) := by
            intro W h
            rcases hbad with rfl | hbad
            · exact rmore_b h
            · cases b
              · exact rmore_f h (by omega)
              · exact rmore_b h
          have hr : r = none := by
            have h := HB.out
            cases b
            · rw [if_neg (by simp)] at h
              rw [← h.1]
              have h256 : pk (txt8 s) j = 256 := pk_end (by rcases hbad with h | h; simp at h; omega)
              exact cls_no (by omega) (item_at (.inr h256))
            · simpa using h
          have R : Hid (class1 (txt8 s) 42 i = none) := by show _ = _; rw [CE.out, hr]; rfl
          clear hr CE HB
          clear hbad
          have c0 := H.out.ra.pa.c0
          have c1 := H.out.ra.pa.c1
          go_wp2_with fail
          go_quiet ((go_at_call 135; exact Calls.quiet_of (MF.out _ (H.out.ra.pa.drew _))))
          go_wp2_with fail
          refine (MF.out _ (H.out.ra.pa.drew _)).mono ?_
          rintro e W5 ⟨rfl, n5, rfl⟩
          replace H := Lib.hid (H.out.drew (nq + n5))
          go_wp2_with fail
          refine (rfail_any P j d s _ _ H.out.ra.pa).mono ?_
          rintro e W6 ⟨rfl, S1, P1⟩
          replace H := Lib.hid (H.out.step S1 P1)
          clear S1 P1
          go_wp2_with (refine wpList_store_row rfl 135 (.tmp 2) (.tmp 108) rfl w.heap.size #[.int .i64 0, .int .u64 0, .int .u64 0, .int .u64 0, .int .u64 0, .slice none 0 0] rfl rfl 135 _ H.out.ra.r Tryz.size6 rfl (by simp [Value.oneCell']) ?_)
          exact bodyPost_ret (results_cell_row rfl _ _ w.heap.size 135 _ (0, 0) _ rfl (H.out.ra.fin _).2.2 Tryz.underlying135 rfl Tryz.size6) rfl (rres_none R.out H.out.ra (leaf0 _ _))
        have hbf : b = false := by cases b; rfl; exact absurd (.inl rfl) hbad
        subst hbf
        have hjl : j < L := by omega
        clear hbad
        have MT := Lib.hid (fun W (h : RPar W P s j d false) => rmore_t h (by omega))
        have TX := fun W => txt8_at W s j (by omega)
        have hpk : pk (txt8 s) j = (txt8 s).getD j 0 := pk_lt (by omega)
        obtain ⟨c, hc⟩ : ∃ c, (txt8 s).getD j 0 = c := ⟨_, rfl⟩
        simp only [hc] at TX
        rw [hc] at hpk
        clear hc
        obtain ⟨HB1, HB2⟩ := (show cls (txt8 s) n gk W j = r ∧ s.size < j + gk by have h := HB.out; rwa [if_neg (by simp)] at h)
        clear HB
        by_cases h93 : c = 93
        · have hz : ((c : Int) != 93) = false := by simp; omega
          by_cases hn : n = 0
          · have hr : r = none := by rw [← HB1]; unfold cls; rw [if_pos ⟨hn, hpk.trans h93⟩]
            have HB := Lib.hid HB1
            have hnz : ((n : Int) == 0) = true := by simp; omega
            have R : Hid (class1 (txt8 s) 42 i = none) := by show _ = _; rw [CE.out, hr]; rfl
            clear hr CE HB
            clear hpk h93 HB1
            have c0 := H.out.ra.pa.c0
            have c1 := H.out.ra.pa.c1
            go_wp2_with fail
            go_quiet ((go_at_call 135; exact Calls.quiet_of (MT.out _ (H.out.ra.pa.drew _))))
            go_wp2_with fail
            refine (MT.out _ (H.out.ra.pa.drew _)).mono ?_
            rintro e W5 ⟨rfl, n5, rfl⟩
            replace H := Lib.hid (H.out.drew (nq + n5))
            go_wp2_with fail
            refine (rfail_any P j d s _ _ H.out.ra.pa).mono ?_
            rintro e W6 ⟨rfl, S1, P1⟩
            replace H := Lib.hid (H.out.step S1 P1)
            clear S1 P1
            go_wp2_with (refine wpList_store_row rfl 135 (.tmp 2) (.tmp 108) rfl w.heap.size #[.int .i64 0, .int .u64 0, .int .u64 0, .int .u64 0, .int .u64 0, .slice none 0 0] rfl rfl 135 _ H.out.ra.r Tryz.size6 rfl (by simp [Value.oneCell']) ?_)
            exact bodyPost_ret (results_cell_row rfl _ _ w.heap.size 135 _ (0, 0) _ rfl (H.out.ra.fin _).2.2 Tryz.underlying135 rfl Tryz.size6) rfl (rres_none R.out H.out.ra (leaf0 _ _))
          · have hr : r = some (W, j + 1) := by rw [← HB1]; unfold cls; rw [if_neg (fun e => hn e.1), items, if_pos (hpk.trans h93)]
            have R := Lib.hid CE.out
            rw [hr] at R
            have hnz : ((n : Int) == 0) = false := by simp; omega
            clear hr CE hpk h93 HB1
            obtain ⟨j1, hj1⟩ : ∃ j1, j + 1 = j1 := ⟨_, rfl⟩
            rw [hj1] at R
            have hw1 : IntKind.i64.wrap ((j : Int) + 1) = (j1 : Int) := by rw [IntKind.wrap_i64]; omega
            have c0 := H.out.ra.pa.c0
            have c1 := H.out.ra.pa.c1
            have f1 := H.out.ra.pa.fr 1
            go_wp2_with fail
            go_quiet ((go_at_call 135; exact Calls.quiet_of (MT.out _ (H.out.ra.pa.drew _))))
            go_wp2_with fail
            refine (MT.out _ (H.out.ra.pa.drew _)).mono ?_
            rintro e W5 ⟨rfl, n5, rfl⟩
            replace H := Lib.hid ((H.out.drew (nq + n5)).put1 j1 (by omega))
            go_upto_region 23 with fail
            clear c0 c1 f1 TX MT hw1 hz hnz
            generalize (wr.drewN (nq + n5)).setCell ⟨P, 1, none⟩ (.int .i64 (j1 : Int)) = w5 at *
            have x0 := H.out.ar.c 0 (by omega)
            have x1 := H.out.ar.c 1 (by omega)
            have x2 := H.out.ar.c 2 (by omega)
            have x3 := H.out.ar.c 3 (by omega)
            cases nb
            · have R2 : Hid (class1 (txt8 s) 42 i = some (setOf W, j1)) := R.out
              clear R
              go_wp2_with (refine wpList_store_row rfl 135 (.tmp 2) (.tmp 128) rfl w.heap.size #[.int .i64 1, .int .u64 (W 0 : Int), .int .u64 (W 1 : Int), .int .u64 (W 2 : Int), .int .u64 (W 3 : Int), .slice none 0 0] rfl rfl 135 _ H.out.ra.r Tryz.size6 rfl (by simp [Value.oneCell']) ?_)
              exact bodyPost_ret (results_cell_row rfl _ _ w.heap.size 135 _ (0, 0) _ rfl (H.out.ra.fin _).2.2 Tryz.underlying135 rfl Tryz.size6) rfl (rres_some R2.out H.out.ra (RxIn.leaf _ _ 1 _ _ _ _))
            · have R2 : Hid (class1 (txt8 s) 42 i = some (setOf (neg W), j1)) := R.out
              have f0 := H.out.ar.f 0
              have f1 := H.out.ar.f 1
              have f2 := H.out.ar.f 2
              have f3 := H.out.ar.f 3
              have X0 := xor_all _ (FW.out 0)
              have X1 := xor_all _ (FW.out 1)
              have X2 := xor_all _ (FW.out 2)
              have X3 := xor_all _ (FW.out 3)
              obtain ⟨V, hV⟩ : ∃ V, neg W = V := ⟨_, rfl⟩
              have y0 : 18446744073709551615 - W 0 = V 0 := by rw [← hV]; rfl
              have y1 : 18446744073709551615 - W 1 = V 1 := by rw [← hV]; rfl
              have y2 : 18446744073709551615 - W 2 = V 2 := by rw [← hV]; rfl
              have y3 : 18446744073709551615 - W 3 = V 3 := by rw [← hV]; rfl
              rw [y0] at X0
              rw [y1] at X1
              rw [y2] at X2
              rw [y3] at X3
              rw [hV] at R2
              clear y0 y1 y2 y3 hV R
              have HX := Lib.hid ((((H.out.cell 0 (V 0) (by omega) (fun _ _ => rfl)).cell 1 (V 1) (by omega) (fun _ _ => rfl)).cell 2 (V 2) (by omega) (fun _ _ => rfl)).cell 3 (V 3) (by omega) (fun _ _ => rfl))
              go_wp2
              refine wp_loop_rounds 5 ?_
              iterate 4 (rw [rounds_succ]; go_wp2)
              rw [rounds_succ]
              go_upto_region 28 with fail
              have H := HX
              clear HX x0 x1 x2 x3
              generalize ((((w5.setCell ⟨g, 0, none⟩ (.int .u64 (V 0 : Int))).setCell ⟨g, 1, none⟩ (.int .u64 (V 1 : Int))).setCell ⟨g, 2, none⟩ (.int .u64 (V 2 : Int))).setCell ⟨g, 3, none⟩ (.int .u64 (V 3 : Int))) = w6 at *
              have x0 : w6.cell? ⟨g, 0, none⟩ = some (.int .u64 (V 0 : Int)) := H.out.ar.c 0 (by omega)
              have x1 : w6.cell? ⟨g, 1, none⟩ = some (.int .u64 (V 1 : Int)) := H.out.ar.c 1 (by omega)
              have x2 : w6.cell? ⟨g, 2, none⟩ = some (.int .u64 (V 2 : Int)) := H.out.ar.c 2 (by omega)
              have x3 : w6.cell? ⟨g, 3, none⟩ = some (.int .u64 (V 3 : Int)) := H.out.ar.c 3 (by omega)
              go_wp2_with (refine wpList_store_row rfl 135 (.tmp 2) (.tmp 128) rfl w.heap.size #[.int .i64 1, .int .u64 (V 0 : Int), .int .u64 (V 1 : Int), .int .u64 (V 2 : Int), .int .u64 (V 3 : Int), .slice none 0 0] rfl rfl 135 _ H.out.ra.r Tryz.size6 rfl (by simp [Value.oneCell']) ?_)
              exact bodyPost_ret (results_cell_row rfl _ _ w.heap.size 135 _ (0, 0) _ rfl (H.out.ra.fin _).2.2 Tryz.underlying135 rfl Tryz.size6) rfl (rres_some R2.out H.out.ra (RxIn.leaf _ _ 1 _ _ _ _))
        · have hz : ((c : Int) != 93) = true := by simp; omega
          have HR := Lib.hid (And.intro HB1 HB2)
          have hb93 : ¬ pk (txt8 s) j = 93 := by omega
          have HP := Lib.hid hb93
          clear HB1 hpk h93 hb93
          have c0 := H.out.ra.pa.c0
          have c1 := H.out.ra.pa.c1
          go_wp2_with fail
          go_quiet ((go_at_call 135; exact Calls.quiet_of (MT.out _ (H.out.ra.pa.drew _))))
          replace H := Lib.hid (H.out.drew nq)
          clear c0 c1 TX MT hz
          go_wp2_with fail
          refine (rmember_any P j d s _ H.out.ra.pa).mono ?_
          rintro e W5 ⟨a, ha, rfl, S1, hb1⟩
          obtain ⟨k1, b1, P1, hb1⟩ : ∃ k1 b1, RPar W5 P s k1 d b1 ∧ ((b1 = false ∧ byte1 (txt8 s) inside j = some (a, k1)) ∨ (b1 = true ∧ byte1 (txt8 s) inside j = none)) := by
            rcases hb1 with ⟨k, h1, h2⟩ | ⟨h1, k, h2⟩
            · exact ⟨k, false, h2, .inl ⟨rfl, h1⟩⟩
            · exact ⟨k, true, h2, .inr ⟨rfl, h1⟩⟩
          replace H := Lib.hid (H.out.step S1 P1)
          have HB := Lib.hid hb1
          clear S1 P1 hb1
          go_upto_region 9 with fail
          go_cut [62] from 32 to 98 (fun v wx => ∃ q : Bool, v = .bool q ∧ (q = true ↔ b1 = false ∧ pk (txt8 s) k1 = 45) ∧ Hid (RSt w P s k1 d b1 g W wx))
          case first =>
            have c0 := H.out.ra.pa.c0
            have c1 := H.out.ra.pa.c1
            cases b1
            · by_cases hk : k1 < L
              · have MT := Lib.hid (fun W (h : RPar W P s k1 d false) => rmore_t h (by omega))
                have TX := fun W => txt8_at W s k1 (by omega)
                have hpk : pk (txt8 s) k1 = (txt8 s).getD k1 0 := pk_lt (by omega)
                obtain ⟨c2, hc⟩ : ∃ c2, (txt8 s).getD k1 0 = c2 := ⟨_, rfl⟩
                simp only [hc] at TX
                rw [hc] at hpk
                obtain ⟨q, hq⟩ : ∃ q, ((c2 : Int) == 45) = q := ⟨_, rfl⟩
                have HQ : Hid (q = true ↔ false = false ∧ pk (txt8 s) k1 = 45) := by show _ ↔ _; rw [← hq, hpk]; simp; omega
                clear hpk hc
                go_quiet ((go_at_call 135; exact Calls.quiet_of (MT.out _ (H.out.ra.pa.drew _))))
                go_wp2
                go_meet
                case rel => exact ⟨q, rfl, HQ.out, H.out.drew _⟩
              · have MF := Lib.hid (fun W (h : RPar W P s k1 d false) => rmore_f h (by omega))
                have HQ : Hid (false = true ↔ false = false ∧ pk (txt8 s) k1 = 45) := by show _ ↔ _; rw [pk_end (by omega)]; simp
                go_quiet ((go_at_call 135; exact Calls.quiet_of (MF.out _ (H.out.ra.pa.drew _))))
                go_wp2
                go_meet
                case rel => exact ⟨false, rfl, HQ.out, H.out.drew _⟩
            · have MB := Lib.hid (fun W (h : RPar W P s k1 d true) => rmore_b h)
              go_quiet ((go_at_call 135; exact Calls.quiet_of (MB.out _ (H.out.ra.pa.drew _))))
              go_wp2
              go_meet
              case rel => exact ⟨false, rfl, by simp, H.out.drew _⟩
          case rest =>
            clear H
            obtain ⟨q, rfl, hq, H⟩ := hcut
            have HQ := Lib.hid hq
            clear hq
            go_upto_if 62 with fail
            go_cut [7] from 32 to 98 (fun v wx => ∃ z k2 b2, v = .int .u8 ((z : Nat) : Int) ∧ z < 256 ∧ RItem (txt8 s) j a z k2 b2 ∧ Hid (RSt w P s k2 d b2 g W wx))
            case first =>
              cases q
              · have RI : RItem (txt8 s) j a a k1 b1 := by
                  rcases HB.out with ⟨h1, h2⟩ | ⟨h1, h2⟩
                  · refine .inr ⟨h1, (byte1_lt h2).2.1, ?_⟩
                    unfold item
                    rw [h2, if_neg (by omega)]
                    simp only
                    rw [if_neg (fun e => by have := HQ.out.2 ⟨h1, e⟩; cases this)]
                  · refine .inl ⟨h1, ?_⟩
                    unfold item
                    rw [h2]
                have RI := Lib.hid RI
                go_wp2
                go_meet
                case rel => exact ⟨a, k1, b1, rfl, ha, RI.out, H⟩
              · obtain ⟨hbf, h45⟩ := HQ.out.1 rfl
                subst hbf
                have hby : byte1 (txt8 s) inside j = some (a, k1) := by rcases HB.out with h | h; exact h.2; cases h.1
                have hk1 : k1 < s.size := pk_in (by omega)
                have hjk := (byte1_lt hby).2.1
                obtain ⟨k3, hk3⟩ : ∃ k3, k1 + 1 = k3 := ⟨_, rfl⟩
                have hw1 : IntKind.i64.wrap ((k1 : Int) + 1) = (k3 : Int) := by rw [IntKind.wrap_i64]; omega
                have EI : Hid (item (txt8 s) j = match byte1 (txt8 s) inside k3 with | none => none | some (hi, k) => if hi < a then none else some (a, hi, k)) := by show _ = _; unfold item; rw [hby]; simp only; rw [if_pos h45, hk3]; cases byte1 (txt8 s) inside k3 <;> rfl
                have c1 := H.out.ra.pa.c1
                have f1 := H.out.ra.pa.fr 1
                replace H := Lib.hid (H.out.put1 k3 (by omega))
                have HK : Hid (j < k3) := by show j < k3; omega
                clear h45 hby hk3 HQ HB hjk
                go_wp2_with fail
                generalize wc.setCell ⟨P, 1, none⟩ (.int .i64 (k3 : Int)) = w6 at *
                refine (rmember_any P k3 d s _ H.out.ra.pa).mono ?_
                rintro e W7 ⟨z, hz2, rfl, S1, hb1⟩
                have RI : ∃ k2 b2, RItem (txt8 s) j a z k2 b2 ∧ RPar W7 P s k2 d b2 := by
                  rcases hb1 with ⟨k, h1, h2⟩ | ⟨h1, k, h2⟩
                  · exact ⟨k, false, .inr ⟨rfl, by have := (byte1_lt h1).2.1; have := HK.out; omega, by rw [EI.out, h1]⟩, h2⟩
                  · exact ⟨k, true, .inl ⟨rfl, by rw [EI.out, h1]⟩, h2⟩
                obtain ⟨k2, b2, RI, P2⟩ := RI
                have H2 := Lib.hid (H.out.step S1 P2)
                have RI := Lib.hid RI
                clear S1 P2 hb1 H EI HK
                go_wp2
                go_meet
                case rel => exact ⟨z, k2, b2, rfl, hz2, RI.out, H2⟩
            case rest =>
              clear H HQ HB
              obtain ⟨z, k2, b2, rfl, hz2, RI, H⟩ := hcut
              have RI := Lib.hid RI
              have HA := Lib.hid (And.intro ha (And.intro hz2 hjL))
              by_cases hlt : z < a
              · obtain ⟨HR1, HR2⟩ := HR.out
                obtain ⟨m, rfl⟩ : ∃ m, gk = m + 1 := ⟨gk - 1, by omega⟩
                have hzl : (z : Int) < (a : Int) := by omega
                have hr0 : item (txt8 s) j = none := by
                  rcases RI.out with ⟨_, h⟩ | ⟨_, _, h⟩
                  · exact h
                  · rw [h, if_pos hlt]
                have hr : r = none := by rw [← HR1]; exact cls_no HP.out hr0
                go_wp2_with fail
                refine (rfail_any P k2 d s _ _ H.out.ra.pa).mono ?_
                rintro e W8 ⟨rfl, S1, P1⟩
                replace H := Lib.hid (H.out.step S1 P1)
                clear S1 P1
                obtain ⟨b3, hb3⟩ : ∃ b3, true = b3 := ⟨_, rfl⟩
                rw [hb3] at H
                have HF : Hid (if b3 = true then r = none else cls (txt8 s) (n + 1) m (span W a (z + 1 - a)) k2 = r ∧ s.size < k2 + m) := by
                  show ite _ _ _
                  rw [if_pos hb3.symm]; exact hr
                clear HR HR1 RI hr hr0 hb3
                go_wp2
                go_loopw [8] (fun cv wx => ∃ k : Nat, k ≤ z + 1 - a ∧ cv = .int .i64 ((a + k : Nat) : Int) ∧ Hid (RSt w P s k2 d b3 g (span W a k) wx)) (fun cv _ => z + 1 - (intOf cv).toNat)
                case atStart => exact ⟨0, by omega, rfl, H⟩
                case round =>
                  clear H
                  obtain ⟨k, hk, rfl, H⟩ := hrel
                  have ha := HA.out.1
                  have hz2 := HA.out.2.1
                  by_cases h4 : k < z + 1 - a
                  · exact absurd h4 (by omega)
                  · obtain rfl : k = z + 1 - a := by omega
                    have hkz : ¬ ((a + (z + 1 - a) : Nat) : Int) ≤ (z : Int) := by omega
                    generalize a + (z + 1 - a) = c4 at *
                    have hwn : IntKind.i64.wrap ((n : Int) + 1) = ((n + 1 : Nat) : Int) := by rw [IntKind.wrap_i64]; omega
                    go_wp2
                    go_roundg m
                    case measure => omega
                    case rel => exact ⟨n + 1, rfl, ⟨k2, b3, _, H.out, span_fits FW.out _ _, by omega, HF.out⟩⟩
              · obtain ⟨HR1, HR2⟩ := HR.out
                obtain ⟨m, rfl⟩ : ∃ m, gk = m + 1 := ⟨gk - 1, by omega⟩
                have hzl : ¬ (z : Int) < (a : Int) := by omega
                obtain ⟨b3, hb3⟩ : ∃ b3, b2 = b3 := ⟨_, rfl⟩
                have HF : Hid (if b3 = true then r = none else cls (txt8 s) (n + 1) m (span W a (z + 1 - a)) k2 = r ∧ s.size < k2 + m) := by
                  show ite _ _ _
                  rw [← hb3]
                  rcases RI.out with ⟨h1, h⟩ | ⟨h1, h2, h⟩
                  · rw [if_pos h1, ← HR1]; exact cls_no HP.out h
                  · rw [if_neg (by rw [h1]; simp)]; rw [if_neg hlt] at h
                    exact ⟨by rw [← HR1]; exact (cls_go HP.out h).symm, by omega⟩
                rw [hb3] at H
                clear HR HR1 RI hb3
                clear hlt
                go_wp2
                go_loopw [8] (fun cv wx => ∃ k : Nat, k ≤ z + 1 - a ∧ cv = .int .i64 ((a + k : Nat) : Int) ∧ Hid (RSt w P s k2 d b3 g (span W a k) wx)) (fun cv _ => z + 1 - (intOf cv).toNat)
                case atStart => exact ⟨0, by omega, rfl, H⟩
                case round =>
                  clear H
                  obtain ⟨k, hk, rfl, H⟩ := hrel
                  have ha := HA.out.1
                  have hz2 := HA.out.2.1
                  by_cases h4 : k < z + 1 - a
                  · obtain ⟨c3, hc3⟩ : ∃ c3, a + k = c3 := ⟨_, rfl⟩
                    have hkz : (c3 : Int) ≤ (z : Int) := by omega
                    have b1 : c3 < 256 := by omega
                    have c1 := H.out.ar.c (c3 / 64) (by omega)
                    have f1 := H.out.ar.f (c3 / 64)
                    obtain ⟨p, hp⟩ : ∃ p, 2 ^ (c3 % 64) = p := ⟨_, rfl⟩
                    have EP := pow_wrap c3
                    rw [hp] at EP
                    have EO := or_nat _ p (span_fits FW.out a k (c3 / 64)) (by rw [← hp]; exact Nat.pow_lt_pow_right (a := 2) (n := 64) (by omega) (by omega))
                    have NX := Lib.hid (H.out.cell (V := span W a (k + 1)) (c3 / 64) (span W a k (c3 / 64) ||| p) (by omega) (fun q _ => by show put (span W a k) (a + k) q = _; rw [hc3]; unfold put; rw [hp]; by_cases e : q = c3 / 64; rw [if_pos e, if_pos e, e]; rw [if_neg e, if_neg e]))
                    rw [hc3]
                    have HC := Lib.hid hc3
                    clear H hc3 hp
                    generalize span W a k (c3 / 64) = x at *
                    have q1 : IntKind.i64.wrap ((c3 : Int) / 64) = (c3 : Int) / 64 := by rw [IntKind.wrap_i64]; omega
                    have q2 : IntKind.i64.wrap ((c3 : Int) % 64) = (c3 : Int) % 64 := by rw [IntKind.wrap_i64]; omega
                    have q9 : (c3 : Int).tmod 64 = (c3 : Int) % 64 := Int.tmod_eq_emod_of_nonneg (by omega)
                    have q3 : (c3 : Int) / 64 < 4 := by omega
                    have q4 : (0 : Int) ≤ (c3 : Int) / 64 := by omega
                    have q5 : ((c3 : Int) / 64).toNat = c3 / 64 := by omega
                    have q6 : (0 : Int) ≤ (c3 : Int) % 64 := by omega
                    have q7 : ((c3 : Int) % 64).toNat = c3 % 64 := by omega
                    have q8 : (c3 : Int) % 64 < 64 := by omega
                    go_upto_region 16 with fail
                    clear q1 q2 q3 q4 q5 q6 q7 q8 q9 c1 f1 EP EO
                    go_wp2
                    go_roundw
                    case rel => exact ⟨k + 1, by omega, by have := HC.out; go_num, NX⟩
                    case measure => have := HC.out; simp [intOf]; omega
                  · obtain rfl : k = z + 1 - a := by omega
                    have hkz : ¬ ((a + (z + 1 - a) : Nat) : Int) ≤ (z : Int) := by omega
                    generalize a + (z + 1 - a) = c4 at *
                    have hwn : IntKind.i64.wrap ((n : Int) + 1) = ((n + 1 : Nat) : Int) := by rw [IntKind.wrap_i64]; omega
                    go_wp2
                    go_roundg m
                    case measure => omega
                    case rel => exact ⟨n + 1, rfl, ⟨k2, b3, _, H.out, span_fits FW.out _ _, by omega, HF.out⟩⟩

end Go.Proofs.YtlfcjjlgkcfkdaaGreatDoor
namespace Go.Proofs.YtlfcjjlgkcfkdaaGreatDoor
open Go.RowKit Go.Sort
open Pz

/-- What is told of groups: so many deep there are none; else they are ways, closed. -/
def GT (P : Nat) (s : ByteArray) (d : Nat) (G : Nat → Option (Rx × Nat)) : Prop :=
  (d = 8 ∧ ∀ i, G i = none) ∨ (d < 8 ∧ ∃ Wf, RTells 122 P s (d + 1) Wf (fun _ => True) ∧ ∀ i, G i = match Wf i with | none => none | some (x, j) => if pk (txt8 s) j = 41 then some (x, j + 1) else none)
theorem all_ones : setOf (neg none4) = .mk 1 18446744073709551615 18446744073709551615 18446744073709551615 18446744073709551615 [] := rfl
theorem RRes.form {w w' : World} {P d : Nat} {s : ByteArray} {r : Option (Rx × Nat)} {e : Ending} (h : RRes w P s d r e w') :
    ∃ op a b c d1 A n cap t, e = .returned (.agg #[.int .i64 op, .int .u64 ((a : Nat) : Int), .int .u64 ((b : Nat) : Int), .int .u64 ((c : Nat) : Int), .int .u64 ((d1 : Nat) : Int), .slice A n cap]) ∧ RxIn (fun b => w.heap.size ≤ b) w' (.agg (c6 op a b c d1 A n cap)) t ∧ Stp P w w' ∧ ((∃ j, r = some (t, j) ∧ RPar w' P s j d false) ∨ (r = none ∧ ∃ j d', RPar w' P s j d' true)) := by
  obtain ⟨v, t, he, hx, st, hr⟩ := h
  obtain ⟨op, a, b, c, d', A, n, cap, rfl⟩ := hx.form
  exact ⟨op, a, b, c, d', A, n, cap, t, he, hx, st, hr⟩
set_option maxRecDepth 100000 in
set_option maxHeartbeats 16000000 in
theorem ratom_any (P d : Nat) (s : ByteArray) (G : Nat → Option (Rx × Nat)) (hG : GT P s d G) : RTells 154 P s d (atom (txt8 s) 42 G) (fun i => i < s.size) := by
  intro i w hi h
  have H := Lib.hid (RAt.start h zero6 135)
  have hle := h.le
  have hsm := h.sm
  have hlt := h.lt
  clear h
  unfold zero6 at H
  have GH := Lib.hid hG
  clear hG
  obtain ⟨L, hL⟩ : ∃ L, s.size = L := ⟨_, rfl⟩
  rw [hL] at hi
  have TX := fun W => txt8_at W s i (by omega)
  have hpk : pk (txt8 s) i = (txt8 s).getD i 0 := pk_lt (by omega)
  obtain ⟨c, hc⟩ : ∃ c, (txt8 s).getD i 0 = c := ⟨_, rfl⟩
  have hcb : c < 256 := by rw [← hc]; exact txt8_lt s i
  simp only [hc] at TX
  rw [hc] at hpk
  clear hc
  obtain ⟨i1, hi1⟩ : ∃ i1, i + 1 = i1 := ⟨_, rfl⟩
  have hb1 : i1 ≤ s.size := by omega
  have hw1 : IntKind.i64.wrap ((i : Int) + 1) = (i1 : Int) := by rw [IntKind.wrap_i64]; omega
  obtain ⟨r, hr⟩ : ∃ r, atom (txt8 s) 42 G i = r := ⟨_, rfl⟩
  rw [hr]
  have e0 := hr
  unfold atom at e0
  rw [hpk, hi1] at e0
  clear hr
  by_cases h46 : c = 46
  · have R : Hid (r = some (.mk 1 18446744073709551615 18446744073709551615 18446744073709551615 18446744073709551615 [], i1)) := by show _ = _; rw [← e0, h46, ← all_ones]; rfl
    have z46 : ((c : Int) == 46) = true := by simp; omega
    clear e0 h46 hpk hi1 GH
    go_enter Tryz.func154, Tryz.ntmps154
    go_upto_region 1 with fail
    generalize w.alloc (.cells #[.int .i64 0, .int .u64 0, .int .u64 0, .int .u64 0, .int .u64 0, .slice none 0 0] 135) = w0 at *
    have c0 := H.out.pa.c0
    have c1 := H.out.pa.c1
    have f1 := H.out.pa.fr 1
    go_quiet (fail)
    go_upto_region 3 with fail
    replace H := Lib.hid (H.out.drew nq)
    have PU := Lib.hid (H.out.step (Stp.put _ _ _) (H.out.pa.put1 i1 hb1))
    clear c0 c1 f1 H TX
    have H := PU
    clear PU
    generalize (w0.drewN nq).setCell ⟨P, 1, none⟩ (.int .i64 (i1 : Int)) = w1 at *
    go_wp2_with (refine wpList_store_row rfl 135 (.tmp 2) (.tmp 25) rfl w.heap.size #[.int .i64 1, .int .u64 18446744073709551615, .int .u64 18446744073709551615, .int .u64 18446744073709551615, .int .u64 18446744073709551615, .slice none 0 0] rfl rfl 135 _ H.out.r Tryz.size6 rfl (by simp [Value.oneCell']) ?_)
    exact bodyPost_ret (results_cell_row rfl _ _ w.heap.size 135 _ (0, 0) _ rfl (H.out.fin _).2.2 Tryz.underlying135 rfl Tryz.size6) rfl (rres_some R.out H.out (RxIn.leaf _ _ 1 18446744073709551615 18446744073709551615 18446744073709551615 18446744073709551615))
  have z46 : ((c : Int) == 46) = false := by simp; omega
  by_cases h92 : c = 92
  · have z92 : ((c : Int) == 92) = true := by simp; omega
    clear GH
    have e1 : (match (if quotable (pk (txt8 s) i1) = true then some (pk (txt8 s) i1, i + 2) else none) with | none => none | some (c, j) => some (setOf (put none4 c), j)) = r := by
      have : byte1 (txt8 s) special i = if quotable (pk (txt8 s) i1) = true then some (pk (txt8 s) i1, i + 2) else none := by
        unfold byte1
        rw [if_pos (hpk.trans h92), hi1]
      rw [if_neg (by omega : ¬ c = 40), if_neg (by omega : ¬ c = 91), if_neg (by omega : ¬ c = 46), this] at e0
      exact e0
    by_cases h1 : i1 < L
    · have TX2 := fun W => txt8_at W s i1 (by omega)
      have hpk1 : pk (txt8 s) i1 = (txt8 s).getD i1 0 := pk_lt (by omega)
      obtain ⟨c2, hc2⟩ : ∃ c2, (txt8 s).getD i1 0 = c2 := ⟨_, rfl⟩
      have hcb2 : c2 < 256 := by rw [← hc2]; exact txt8_lt s i1
      simp only [hc2] at TX2
      rw [hpk1, hc2] at e1
      have M2 := Lib.hid (fun W (h : RPar W P s i1 d false) => rmore_t h (by omega))
      obtain ⟨q, hq⟩ : ∃ q, quotable c2 = q := ⟨_, rfl⟩
      have QC := Lib.hid (fun W => (rquoted_any c2 hcb2 W).mono fun e w' h => And.intro h.1 h.2.symm)
      rw [hq] at QC e1
      clear hc2 hq hpk1 e0 h92
      cases q
      · have R : Hid (r = none) := e1.symm
        clear e1 hpk hi1
        go_enter Tryz.func154, Tryz.ntmps154
        go_upto_region 1 with fail
        generalize w.alloc (.cells #[.int .i64 0, .int .u64 0, .int .u64 0, .int .u64 0, .int .u64 0, .slice none 0 0] 135) = w0 at *
        have c0 := H.out.pa.c0
        have c1 := H.out.pa.c1
        have f1 := H.out.pa.fr 1
        go_quiet (fail)
        go_upto_region 3 with fail
        replace H := Lib.hid (H.out.drew nq)
        have PU := Lib.hid (H.out.step (Stp.put _ _ _) (H.out.pa.put1 i1 hb1))
        clear c0 c1 f1 H TX
        have H := PU
        clear PU
        generalize (w0.drewN nq).setCell ⟨P, 1, none⟩ (.int .i64 (i1 : Int)) = w1 at *
        have c0 := H.out.pa.c0
        have c1 := H.out.pa.c1
        have f1 := H.out.pa.fr 1
        go_upto_region 6 with fail
        go_quiet (first | (go_at_call 135; exact Calls.quiet_of (M2.out _ (H.out.pa.drew _))) | (go_at_call 158; exact Calls.quiet_of_same (QC.out _)))
        replace H := Lib.hid (H.out.drew nq)
        go_wp2_with fail
        refine (rfail_any P i1 d s _ _ H.out.pa).mono ?_
        rintro e W6 ⟨rfl, S1, P1⟩
        replace H := Lib.hid (H.out.step S1 P1)
        clear S1 P1
        go_wp2_with (refine wpList_store_row rfl 135 (.tmp 2) (.tmp 47) rfl w.heap.size #[.int .i64 0, .int .u64 0, .int .u64 0, .int .u64 0, .int .u64 0, .slice none 0 0] rfl rfl 135 _ H.out.r Tryz.size6 rfl (by simp [Value.oneCell']) ?_)
        exact bodyPost_ret (results_cell_row rfl _ _ w.heap.size 135 _ (0, 0) _ rfl (H.out.fin _).2.2 Tryz.underlying135 rfl Tryz.size6) rfl (rres_none R.out H.out (leaf0 _ _))
      · obtain ⟨i2, hi2⟩ : ∃ i2, i1 + 1 = i2 := ⟨_, rfl⟩
        obtain ⟨U, hU⟩ : ∃ U, put none4 c2 = U := ⟨_, rfl⟩
        have R : Hid (r = some (setOf U, i2)) := by show _ = _; rw [← e1, ← hU, ← hi2, ← hi1]; rfl
        have ON : Hid (∀ W, Calls Tryz.prog 160 #[.int .u8 (c2 : Int)] W fun e w' => e = .returned (.agg #[.int .u64 (U 0 : Int), .int .u64 (U 1 : Int), .int .u64 (U 2 : Int), .int .u64 (U 3 : Int)]) ∧ Below W.heap.size W w') := fun W => by have := rone_any c2 hcb2 W; rw [hU] at this; exact this
        have hw2 : IntKind.i64.wrap ((i1 : Int) + 1) = (i2 : Int) := by rw [IntKind.wrap_i64]; omega
        have hw3 : IntKind.i64.wrap ((i2 : Int) - 1) = (i1 : Int) := by rw [IntKind.wrap_i64]; omega
        have hb2 : i2 ≤ s.size := by omega
        clear e1 hU hpk hi1 hi2
        go_enter Tryz.func154, Tryz.ntmps154
        go_upto_region 1 with fail
        generalize w.alloc (.cells #[.int .i64 0, .int .u64 0, .int .u64 0, .int .u64 0, .int .u64 0, .slice none 0 0] 135) = w0 at *
        have c0 := H.out.pa.c0
        have c1 := H.out.pa.c1
        have f1 := H.out.pa.fr 1
        go_quiet (fail)
        go_upto_region 3 with fail
        replace H := Lib.hid (H.out.drew nq)
        have PU := Lib.hid (H.out.step (Stp.put _ _ _) (H.out.pa.put1 i1 hb1))
        clear c0 c1 f1 H TX
        have H := PU
        clear PU
        generalize (w0.drewN nq).setCell ⟨P, 1, none⟩ (.int .i64 (i1 : Int)) = w1 at *
        have c0 := H.out.pa.c0
        have c1 := H.out.pa.c1
        have f1 := H.out.pa.fr 1
        go_upto_region 6 with fail
        go_quiet (first | (go_at_call 135; exact Calls.quiet_of (M2.out _ (H.out.pa.drew _))) | (go_at_call 158; exact Calls.quiet_of_same (QC.out _)))
        replace H := Lib.hid (H.out.drew nq)
        have PU := Lib.hid (H.out.step (Stp.put _ _ _) (H.out.pa.put1 i2 hb2))
        clear H
        have H := PU
        clear PU
        go_upto_region 10 with fail
        clear c0 c1 f1 hw1 hw2 M2 QC
        generalize (w1.drewN nq).setCell ⟨P, 1, none⟩ (.int .i64 (i2 : Int)) = w2 at *
        have c0 := H.out.pa.c0
        have c1 := H.out.pa.c1
        have f1 := H.out.pa.fr 1
        go_still_tail 10, (by kernel_rfl)
        change wpList _ _ _ _ _ (w2.drewN 1)
        replace H := Lib.hid (H.out.drew 1)
        go_wp2_with fail
        refine (ON.out _).mono ?_
        rintro e W5 ⟨rfl, B1⟩
        replace H := Lib.hid (H.out.grow B1)
        clear B1
        go_wp2_with (refine wpList_store_row rfl 135 (.tmp 2) (.tmp 66) rfl w.heap.size #[.int .i64 1, .int .u64 (U 0 : Int), .int .u64 (U 1 : Int), .int .u64 (U 2 : Int), .int .u64 (U 3 : Int), .slice none 0 0] rfl rfl 135 _ H.out.r Tryz.size6 rfl (by simp [Value.oneCell']) ?_)
        exact bodyPost_ret (results_cell_row rfl _ _ w.heap.size 135 _ (0, 0) _ rfl (H.out.fin _).2.2 Tryz.underlying135 rfl Tryz.size6) rfl (rres_some R.out H.out (RxIn.leaf _ _ 1 _ _ _ _))
    · have M2 := Lib.hid (fun W (h : RPar W P s i1 d false) => rmore_f h (by omega))
      have R : Hid (r = none) := by show _ = _; rw [← e1, pk_end (by omega : s.size ≤ i1)]; rfl
      clear e1 e0 h92 hpk hi1
      go_enter Tryz.func154, Tryz.ntmps154
      go_upto_region 1 with fail
      generalize w.alloc (.cells #[.int .i64 0, .int .u64 0, .int .u64 0, .int .u64 0, .int .u64 0, .slice none 0 0] 135) = w0 at *
      have c0 := H.out.pa.c0
      have c1 := H.out.pa.c1
      have f1 := H.out.pa.fr 1
      go_quiet (fail)
      go_upto_region 3 with fail
      replace H := Lib.hid (H.out.drew nq)
      have PU := Lib.hid (H.out.step (Stp.put _ _ _) (H.out.pa.put1 i1 hb1))
      clear c0 c1 f1 H TX
      have H := PU
      clear PU
      generalize (w0.drewN nq).setCell ⟨P, 1, none⟩ (.int .i64 (i1 : Int)) = w1 at *
      have c0 := H.out.pa.c0
      have c1 := H.out.pa.c1
      go_upto_region 6 with fail
      go_quiet ((go_at_call 135; exact Calls.quiet_of (M2.out _ (H.out.pa.drew _))))
      replace H := Lib.hid (H.out.drew nq)
      go_wp2_with fail
      refine (rfail_any P i1 d s _ _ H.out.pa).mono ?_
      rintro e W6 ⟨rfl, S1, P1⟩
      replace H := Lib.hid (H.out.step S1 P1)
      clear S1 P1
      go_wp2_with (refine wpList_store_row rfl 135 (.tmp 2) (.tmp 47) rfl w.heap.size #[.int .i64 0, .int .u64 0, .int .u64 0, .int .u64 0, .int .u64 0, .slice none 0 0] rfl rfl 135 _ H.out.r Tryz.size6 rfl (by simp [Value.oneCell']) ?_)
      exact bodyPost_ret (results_cell_row rfl _ _ w.heap.size 135 _ (0, 0) _ rfl (H.out.fin _).2.2 Tryz.underlying135 rfl Tryz.size6) rfl (rres_none R.out H.out (leaf0 _ _))
  have z92 : ((c : Int) == 92) = false := by simp; omega
  by_cases h40 : c = 40
  · have z40 : ((c : Int) == 40) = true := by simp; omega
    rw [if_pos h40] at e0
    rcases GH.out with ⟨hd8, hG⟩ | ⟨hd8, Wf, hW, hG⟩
    · have R : Hid (r = none) := by show _ = _; rw [← e0, hG]
      subst hd8
      clear e0 hG h40 hpk hi1 GH
      go_enter Tryz.func154, Tryz.ntmps154
      go_upto_region 1 with fail
      generalize w.alloc (.cells #[.int .i64 0, .int .u64 0, .int .u64 0, .int .u64 0, .int .u64 0, .slice none 0 0] 135) = w0 at *
      have c0 := H.out.pa.c0
      have c1 := H.out.pa.c1
      have f1 := H.out.pa.fr 1
      go_quiet (fail)
      go_upto_region 3 with fail
      replace H := Lib.hid (H.out.drew nq)
      have PU := Lib.hid (H.out.step (Stp.put _ _ _) (H.out.pa.put1 i1 hb1))
      clear c0 c1 f1 H TX
      have H := PU
      clear PU
      generalize (w0.drewN nq).setCell ⟨P, 1, none⟩ (.int .i64 (i1 : Int)) = w1 at *
      have c2 : _ = some (Value.int .i64 8) := H.out.pa.c2
      have f2 := H.out.pa.fr 2
      have PU := Lib.hid (H.out.step (Stp.put _ _ _) (H.out.pa.put2 9 (by omega)))
      clear H
      have H := PU
      clear PU
      go_wp2_with fail
      generalize w1.setCell ⟨P, 2, none⟩ (.int .i64 9) = w2 at *
      refine (rfail_any P i1 9 s _ _ H.out.pa).mono ?_
      rintro e W6 ⟨rfl, S1, P1⟩
      replace H := Lib.hid (H.out.step S1 P1)
      clear S1 P1
      go_wp2_with (refine wpList_store_row rfl 135 (.tmp 2) (.tmp 84) rfl w.heap.size #[.int .i64 0, .int .u64 0, .int .u64 0, .int .u64 0, .int .u64 0, .slice none 0 0] rfl rfl 135 _ H.out.r Tryz.size6 rfl (by simp [Value.oneCell']) ?_)
      exact bodyPost_ret (results_cell_row rfl _ _ w.heap.size 135 _ (0, 0) _ rfl (H.out.fin _).2.2 Tryz.underlying135 rfl Tryz.size6) rfl (rres_none R.out H.out (leaf0 _ _))
    · obtain ⟨d2, hd2⟩ : ∃ d2, d + 1 = d2 := ⟨_, rfl⟩
      rw [hd2] at hW
      have WC := Lib.hid hW
      have hwd : IntKind.i64.wrap ((d : Int) + 1) = (d2 : Int) := by rw [IntKind.wrap_i64]; omega
      have hwe : IntKind.i64.wrap ((d2 : Int) - 1) = (d : Int) := by rw [IntKind.wrap_i64]; omega
      have hd9 : d2 ≤ 9 := by omega
      have hz8 : decide ((d2 : Int) > 8) = false := decide_eq_false (by omega)
      have hdl : d ≤ 9 := by omega
      rw [hG i1] at e0
      have HE := Lib.hid e0
      clear e0 hG h40 hpk hi1 GH hW hd2
      go_enter Tryz.func154, Tryz.ntmps154
      go_upto_region 1 with fail
      generalize w.alloc (.cells #[.int .i64 0, .int .u64 0, .int .u64 0, .int .u64 0, .int .u64 0, .slice none 0 0] 135) = w0 at *
      have c0 := H.out.pa.c0
      have c1 := H.out.pa.c1
      have f1 := H.out.pa.fr 1
      go_quiet (fail)
      go_upto_region 3 with fail
      replace H := Lib.hid (H.out.drew nq)
      have PU := Lib.hid (H.out.step (Stp.put _ _ _) (H.out.pa.put1 i1 hb1))
      clear c0 c1 f1 H TX
      have H := PU
      clear PU
      generalize (w0.drewN nq).setCell ⟨P, 1, none⟩ (.int .i64 (i1 : Int)) = w1 at *
      have c2 := H.out.pa.c2
      have f2 := H.out.pa.fr 2
      have PU := Lib.hid (H.out.step (Stp.put _ _ _) (H.out.pa.put2 d2 hd9))
      clear H
      have H := PU
      clear PU
      go_wp2_with fail
      clear c2 f2 hwd
      generalize w1.setCell ⟨P, 2, none⟩ (.int .i64 (d2 : Int)) = w2 at *
      have hbig := H.out.big
      refine (WC.out i1 _ trivial H.out.pa).mono ?_
      intro e W5 hp
      obtain ⟨op, a, b, c3, d1, A, n, cap, t, rfl, RX, S1, hres⟩ := hp.form
      clear hp
      obtain ⟨j, d3, bb, P1, hres⟩ : ∃ j d3 bb, RPar W5 P s j d3 bb ∧ ((bb = false ∧ d3 = d2 ∧ Wf i1 = some (t, j)) ∨ (bb = true ∧ Wf i1 = none)) := by
        rcases hres with ⟨j, h1, h2⟩ | ⟨h1, j, d3, h2⟩
        · exact ⟨j, d2, false, h2, .inl ⟨rfl, rfl, h1⟩⟩
        · exact ⟨j, d3, true, h2, .inr ⟨rfl, h1⟩⟩
      replace H := Lib.hid (H.out.step S1 P1)
      have hgP : P < W5.heap.size := by have := H.out.big; omega
      replace RX := Lib.hid ((RX.under (Below.refl _ _) hbig).under ((Below.refl W5.heap.size W5).alloc (Nat.le_refl _) (.cells #[.int .i64 op, .int .u64 (a : Int), .int .u64 (b : Int), .int .u64 (c3 : Int), .int .u64 (d1 : Int), .slice A n cap] 135)) (Nat.le_refl _))
      replace H := Lib.hid (H.out.grow ((Below.refl W5.heap.size W5).alloc (Nat.le_refl _) (.cells #[.int .i64 op, .int .u64 (a : Int), .int .u64 (b : Int), .int .u64 (c3 : Int), .int .u64 (d1 : Int), .slice A n cap] 135)))
      have X6 : Hid (Row6 (W5.alloc (.cells #[.int .i64 op, .int .u64 (a : Int), .int .u64 (b : Int), .int .u64 (c3 : Int), .int .u64 (d1 : Int), .slice A n cap] 135)) W5.heap.size #[.int .i64 op, .int .u64 (a : Int), .int .u64 (b : Int), .int .u64 (c3 : Int), .int .u64 (d1 : Int), .slice A n cap]) := heap_alloc_new W5 _
      have hg2 : w.heap.size < W5.heap.size := by have := S1.size; omega
      clear S1 P1 hbig WC
      go_upto_region 17 with fail
      generalize W5.alloc (.cells #[.int .i64 op, .int .u64 (a : Int), .int .u64 (b : Int), .int .u64 (c3 : Int), .int .u64 (d1 : Int), .slice A n cap] 135) = W6 at *
      generalize W5.heap.size = g at *
      by_cases hno : bb = true ∨ L ≤ j
      · have MF : Hid (∀ W (h : RPar W P s j d3 bb), Calls Tryz.prog 135 #[.pointer (some ⟨P, 0, none⟩)] W fun e w' => e = .returned (.bool false) ∧ ∃ n, w' = W.drewN n) := by
          intro W h
          rcases hno with rfl | hno
          · exact rmore_b h
          · cases bb
            · exact rmore_f h (by omega)
            · exact rmore_b h
        have R : Hid (r = none) := by
          show _ = _
          rw [← HE.out]
          rcases hres with ⟨h1, h2, h3⟩ | ⟨h1, h2⟩
          · rw [h3]
            exact if_neg (by rw [pk_end (by rcases hno with h | h; rw [h1] at h; cases h; omega : s.size ≤ j)]; omega)
          · rw [h2]
        clear hres hno HE
        have c0 := H.out.pa.c0
        have c1 := H.out.pa.c1
        go_quiet ((go_at_call 135; exact Calls.quiet_of (MF.out _ (H.out.pa.drew _))))
        replace H := Lib.hid (H.out.drew nq)
        go_wp2_with fail
        refine (rfail_any P j d3 s _ _ H.out.pa).mono ?_
        rintro e W6 ⟨rfl, S1, P1⟩
        replace H := Lib.hid (H.out.step S1 P1)
        clear S1 P1
        go_wp2_with (refine wpList_store_row rfl 135 (.tmp 2) (.tmp 104) rfl w.heap.size #[.int .i64 0, .int .u64 0, .int .u64 0, .int .u64 0, .int .u64 0, .slice none 0 0] rfl rfl 135 _ H.out.r Tryz.size6 rfl (by simp [Value.oneCell']) ?_)
        exact bodyPost_ret (results_cell_row rfl _ _ w.heap.size 135 _ (0, 0) _ rfl (H.out.fin _).2.2 Tryz.underlying135 rfl Tryz.size6) rfl (rres_none R.out H.out (leaf0 _ _))
      have hbb : bb = false := by cases bb; rfl; exact absurd (.inl rfl) hno
      subst hbb
      have hjl : j < L := by omega
      obtain ⟨hd3, hWf⟩ : d3 = d2 ∧ Wf i1 = some (t, j) := by rcases hres with h | h; exact h.2; cases h.1
      subst hd3
      have MT := Lib.hid (fun W (h : RPar W P s j d3 false) => rmore_t h (by omega))
      have TX := fun W => txt8_at W s j (by omega)
      have hpk : pk (txt8 s) j = (txt8 s).getD j 0 := pk_lt (by omega)
      obtain ⟨c4, hc⟩ : ∃ c4, (txt8 s).getD j 0 = c4 := ⟨_, rfl⟩
      simp only [hc] at TX
      rw [hc] at hpk
      have e0 : (if pk (txt8 s) j = 41 then some (t, j + 1) else none) = r := by have := HE.out; rw [hWf] at this; exact this
      rw [hpk] at e0
      clear hc hpk hres hno HE hWf
      by_cases h41 : c4 = 41
      · have z41 : ((c4 : Int) != 41) = false := by simp; omega
        obtain ⟨j1, hj1⟩ : ∃ j1, j + 1 = j1 := ⟨_, rfl⟩
        have hb3 : j1 ≤ s.size := by omega
        have hw3 : IntKind.i64.wrap ((j : Int) + 1) = (j1 : Int) := by rw [IntKind.wrap_i64]; omega
        have R : Hid (r = some (t, j1)) := by show _ = _; rw [← e0, if_pos h41, hj1]
        clear e0 h41 hj1
        have c0 := H.out.pa.c0
        have c1 := H.out.pa.c1
        have f1 := H.out.pa.fr 1
        have c2 := H.out.pa.c2
        have f2 := H.out.pa.fr 2
        go_quiet ((go_at_call 135; exact Calls.quiet_of (MT.out _ (H.out.pa.drew _))))
        replace H := Lib.hid (H.out.drew nq)
        replace X6 := Lib.hid (X6.out.stp ((Stp.refl P W6).drew nq) hgP)
        replace RX := Lib.hid (RX.out.stp ((Stp.refl P W6).drew nq) (by omega) (Nat.le_refl _))
        have PU := Lib.hid (H.out.step (Stp.put _ _ _) (H.out.pa.put1 j1 hb3))
        replace PU := Lib.hid (PU.out.step (Stp.put _ _ _) (PU.out.pa.put2 d hdl))
        clear H
        have H := PU
        clear PU
        replace X6 := Lib.hid ((X6.out.stp (Stp.put _ 1 (.int .i64 (j1 : Int))) hgP).stp (Stp.put _ 2 (.int .i64 (d : Int))) hgP)
        replace RX := Lib.hid (RX.out.stp (Stp.put (P := P) _ 1 (.int .i64 (j1 : Int))) (by omega) (Nat.le_refl _))
        replace RX := Lib.hid (RX.out.stp (Stp.put (P := P) _ 2 (.int .i64 (d : Int))) (by omega) (Nat.le_refl _))
        go_upto_region 22 with fail
        generalize ((W6.drewN nq).setCell ⟨P, 1, none⟩ (.int .i64 (j1 : Int))).setCell ⟨P, 2, none⟩ (.int .i64 (d : Int)) = W7 at *
        clear c0 c1 c2 f1 f2
        obtain ⟨x0, x1, x2, x3, x4, x5⟩ := X6.out.cells
        go_wp2_with (refine wpList_store_row rfl 135 (.tmp 2) (.tmp 119) rfl w.heap.size #[.int .i64 op, .int .u64 (a : Int), .int .u64 (b : Int), .int .u64 (c3 : Int), .int .u64 (d1 : Int), .slice A n cap] rfl rfl 135 _ H.out.r Tryz.size6 rfl (by simp [Value.oneCell']) ?_)
        exact bodyPost_ret (results_cell_row rfl _ _ w.heap.size 135 _ (0, 0) _ rfl (H.out.fin _).2.2 Tryz.underlying135 rfl Tryz.size6) rfl (rres_some R.out H.out RX.out)
      · have z41 : ((c4 : Int) != 41) = true := by simp; omega
        have R : Hid (r = none) := by show _ = _; rw [← e0, if_neg h41]
        clear e0 h41
        have c0 := H.out.pa.c0
        have c1 := H.out.pa.c1
        go_quiet ((go_at_call 135; exact Calls.quiet_of (MT.out _ (H.out.pa.drew _))))
        replace H := Lib.hid (H.out.drew nq)
        go_wp2_with fail
        refine (rfail_any P j d3 s _ _ H.out.pa).mono ?_
        rintro e W6 ⟨rfl, S1, P1⟩
        replace H := Lib.hid (H.out.step S1 P1)
        clear S1 P1
        go_wp2_with (refine wpList_store_row rfl 135 (.tmp 2) (.tmp 104) rfl w.heap.size #[.int .i64 0, .int .u64 0, .int .u64 0, .int .u64 0, .int .u64 0, .slice none 0 0] rfl rfl 135 _ H.out.r Tryz.size6 rfl (by simp [Value.oneCell']) ?_)
        exact bodyPost_ret (results_cell_row rfl _ _ w.heap.size 135 _ (0, 0) _ rfl (H.out.fin _).2.2 Tryz.underlying135 rfl Tryz.size6) rfl (rres_none R.out H.out (leaf0 _ _))
  have z40 : ((c : Int) == 40) = false := by simp; omega
  rw [if_neg h40] at e0
  by_cases h91 : c = 91
  · have z91 : ((c : Int) == 91) = true := by simp; omega
    rw [if_pos h91] at e0
    have HE := Lib.hid e0
    clear e0 h40 h46 h91 h92 hpk hi1 GH
    go_enter Tryz.func154, Tryz.ntmps154
    go_upto_region 1 with fail
    generalize w.alloc (.cells #[.int .i64 0, .int .u64 0, .int .u64 0, .int .u64 0, .int .u64 0, .slice none 0 0] 135) = w0 at *
    have c0 := H.out.pa.c0
    have c1 := H.out.pa.c1
    have f1 := H.out.pa.fr 1
    go_quiet (fail)
    go_upto_region 3 with fail
    replace H := Lib.hid (H.out.drew nq)
    have PU := Lib.hid (H.out.step (Stp.put _ _ _) (H.out.pa.put1 i1 hb1))
    clear c0 c1 f1 H TX
    have H := PU
    clear PU
    generalize (w0.drewN nq).setCell ⟨P, 1, none⟩ (.int .i64 (i1 : Int)) = w1 at *
    go_wp2_with fail
    have hbig := H.out.big
    refine (rclass_any P d s i1 _ trivial H.out.pa).mono ?_
    intro e W5 hp
    obtain ⟨op, a, b, c3, d1, A, n, cap, t, rfl, RX, S1, hres⟩ := hp.form
    clear hp
    replace RX := Lib.hid (RX.under (Below.refl _ _) hbig)
    rcases hres with ⟨j, h1, P1⟩ | ⟨h1, j, d3, P1⟩
    · replace H := Lib.hid (H.out.step S1 P1)
      have R : Hid (r = some (t, j)) := by show _ = _; rw [← HE.out, h1]
      clear S1 P1 h1 HE
      go_wp2_with (refine wpList_store_row rfl 135 (.tmp 2) (.tmp 124) rfl w.heap.size #[.int .i64 op, .int .u64 (a : Int), .int .u64 (b : Int), .int .u64 (c3 : Int), .int .u64 (d1 : Int), .slice A n cap] rfl rfl 135 _ H.out.r Tryz.size6 rfl (by simp [Value.oneCell']) ?_)
      exact bodyPost_ret (results_cell_row rfl _ _ w.heap.size 135 _ (0, 0) _ rfl (H.out.fin _).2.2 Tryz.underlying135 rfl Tryz.size6) rfl (rres_some R.out H.out RX.out)
    · replace H := Lib.hid (H.out.step S1 P1)
      have R : Hid (r = none) := by show _ = _; rw [← HE.out, h1]
      clear S1 P1 h1 HE
      go_wp2_with (refine wpList_store_row rfl 135 (.tmp 2) (.tmp 124) rfl w.heap.size #[.int .i64 op, .int .u64 (a : Int), .int .u64 (b : Int), .int .u64 (c3 : Int), .int .u64 (d1 : Int), .slice A n cap] rfl rfl 135 _ H.out.r Tryz.size6 rfl (by simp [Value.oneCell']) ?_)
      exact bodyPost_ret (results_cell_row rfl _ _ w.heap.size 135 _ (0, 0) _ rfl (H.out.fin _).2.2 Tryz.underlying135 rfl Tryz.size6) rfl (rres_none R.out H.out RX.out)
  have z91 : ((c : Int) == 91) = false := by simp; omega
  rw [if_neg h91, if_neg h46] at e0
  have SP := Lib.hid (fun W => (rspecial_any c hcb W).mono fun e w' h => And.intro h.1 h.2.symm)
  have e1 : byte1 (txt8 s) special i = if special c = true then none else some (c, i1) := by
    unfold byte1
    rw [if_neg (by rw [hpk]; exact h92), hpk, hi1]
    by_cases hq : special c = true
    · rw [if_pos (.inr hq), if_pos hq]
    · rw [if_neg (fun h => by rcases h with h | h; omega; exact hq h), if_neg hq]
  rw [e1] at e0
  cases hsp : special c
  · rw [hsp] at SP e0
    obtain ⟨U, hU⟩ : ∃ U, put none4 c = U := ⟨_, rfl⟩
    have R : Hid (r = some (setOf U, i1)) := by show _ = _; rw [← e0, ← hU]; rfl
    have ON : Hid (∀ W, Calls Tryz.prog 160 #[.int .u8 (c : Int)] W fun e w' => e = .returned (.agg #[.int .u64 (U 0 : Int), .int .u64 (U 1 : Int), .int .u64 (U 2 : Int), .int .u64 (U 3 : Int)]) ∧ Below W.heap.size W w') := fun W => by have := rone_any c hcb W; rw [hU] at this; exact this
    clear e0 e1 hU hsp h40 h46 h91 h92 hpk hi1 GH
    go_enter Tryz.func154, Tryz.ntmps154
    go_upto_region 1 with fail
    generalize w.alloc (.cells #[.int .i64 0, .int .u64 0, .int .u64 0, .int .u64 0, .int .u64 0, .slice none 0 0] 135) = w0 at *
    have c0 := H.out.pa.c0
    have c1 := H.out.pa.c1
    have f1 := H.out.pa.fr 1
    go_quiet (fail)
    go_upto_region 3 with fail
    replace H := Lib.hid (H.out.drew nq)
    have PU := Lib.hid (H.out.step (Stp.put _ _ _) (H.out.pa.put1 i1 hb1))
    clear c0 c1 f1 H TX
    have H := PU
    clear PU
    generalize (w0.drewN nq).setCell ⟨P, 1, none⟩ (.int .i64 (i1 : Int)) = w1 at *
    go_wp2_with fail
    refine (SP.out _).mono ?_
    rintro e W5 ⟨rfl, rfl⟩
    clear SP
    go_wp2_with fail
    refine (ON.out _).mono ?_
    rintro e W5 ⟨rfl, B1⟩
    replace H := Lib.hid (H.out.grow B1)
    clear B1
    go_wp2_with (refine wpList_store_row rfl 135 (.tmp 2) (.tmp 133) rfl w.heap.size #[.int .i64 1, .int .u64 (U 0 : Int), .int .u64 (U 1 : Int), .int .u64 (U 2 : Int), .int .u64 (U 3 : Int), .slice none 0 0] rfl rfl 135 _ H.out.r Tryz.size6 rfl (by simp [Value.oneCell']) ?_)
    exact bodyPost_ret (results_cell_row rfl _ _ w.heap.size 135 _ (0, 0) _ rfl (H.out.fin _).2.2 Tryz.underlying135 rfl Tryz.size6) rfl (rres_some R.out H.out (RxIn.leaf _ _ 1 _ _ _ _))
  · rw [hsp] at SP e0
    have R : Hid (r = none) := e0.symm
    clear e0 e1 hsp h40 h46 h91 h92 hpk hi1 GH
    go_enter Tryz.func154, Tryz.ntmps154
    go_upto_region 1 with fail
    generalize w.alloc (.cells #[.int .i64 0, .int .u64 0, .int .u64 0, .int .u64 0, .int .u64 0, .slice none 0 0] 135) = w0 at *
    have c0 := H.out.pa.c0
    have c1 := H.out.pa.c1
    have f1 := H.out.pa.fr 1
    go_quiet (fail)
    go_upto_region 3 with fail
    replace H := Lib.hid (H.out.drew nq)
    have PU := Lib.hid (H.out.step (Stp.put _ _ _) (H.out.pa.put1 i1 hb1))
    clear c0 c1 f1 H TX
    have H := PU
    clear PU
    generalize (w0.drewN nq).setCell ⟨P, 1, none⟩ (.int .i64 (i1 : Int)) = w1 at *
    go_wp2_with fail
    refine (SP.out _).mono ?_
    rintro e W5 ⟨rfl, rfl⟩
    clear SP
    go_wp2_with fail
    refine (rfail_any P i1 d s _ _ H.out.pa).mono ?_
    rintro e W6 ⟨rfl, S1, P1⟩
    replace H := Lib.hid (H.out.step S1 P1)
    clear S1 P1
    go_wp2_with (refine wpList_store_row rfl 135 (.tmp 2) (.tmp 130) rfl w.heap.size #[.int .i64 0, .int .u64 0, .int .u64 0, .int .u64 0, .int .u64 0, .slice none 0 0] rfl rfl 135 _ H.out.r Tryz.size6 rfl (by simp [Value.oneCell']) ?_)
    exact bodyPost_ret (results_cell_row rfl _ _ w.heap.size 135 _ (0, 0) _ rfl (H.out.fin _).2.2 Tryz.underlying135 rfl Tryz.size6) rfl (rres_none R.out H.out (leaf0 _ _))
theorem rep_in (op : Int) (t : Rx) (B : Nat) (o : Int) (a b c d : Nat) (A : Option Addr) (n cap : Nat) (W : World) (hb : B ≤ W.heap.size) (hx : RxIn (fun b => B ≤ b) W (.agg (c6 o a b c d A n cap)) t) :
    RxIn (fun b => B ≤ b) (W.alloc (.cells (c6 o a b c d A n cap) 135)) (.agg (c6 op 0 0 0 0 (some ⟨W.heap.size, 0, none⟩) 1 1)) (rep op t) := by
  have X := hx.under ((Below.refl _ _).alloc (Nat.le_refl _) (.cells (c6 o a b c d A n cap) 135)) (Nat.le_refl _)
  have e3 := heap_alloc_new W (.cells (c6 o a b c d A n cap) 135)
  generalize W.alloc (.cells (c6 o a b c d A n cap) 135) = W2 at *
  refine RxIn.node op 0 0 0 0 [t] (some ⟨W.heap.size, 0, none⟩) 1 W.heap.size 0 (fun _ i => (c6 o a b c d A n cap).getD i Go.undef) (Nat.le_refl _) (fun e => by cases e) (fun _ => rfl) (fun _ => hb) (fun j i hj hi => ?_) (fun j hj => ?_)
  · obtain rfl : j = 0 := by simpa using hj
    obtain ⟨q0, q1, q2, q3, q4, q5⟩ := Row6.cells e3
    match i, hi with
    | 0, _ => exact q0
    | 1, _ => exact q1
    | 2, _ => exact q2
    | 3, _ => exact q3
    | 4, _ => exact q4
    | 5, _ => exact q5
  · obtain rfl : j = 0 := by simpa using hj
    exact X
set_option maxRecDepth 100000 in
set_option maxHeartbeats 16000000 in
theorem rfactor_any (P d : Nat) (s : ByteArray) (G : Nat → Option (Rx × Nat)) (hG : GT P s d G) : RTells 147 P s d (factor (txt8 s) 42 G) (fun i => i < s.size) := by
  intro i w hi h
  have H := Lib.hid (RAt.start h zero6 135)
  have hsm := h.sm
  have hlt := h.lt
  clear h
  unfold zero6 at H
  have AC := Lib.hid (ratom_any P d s G hG i)
  have HI := Lib.hid hi
  clear hG hi
  obtain ⟨L, hL⟩ : ∃ L, s.size = L := ⟨_, rfl⟩
  obtain ⟨r, hr⟩ : ∃ r, factor (txt8 s) 42 G i = r := ⟨_, rfl⟩
  rw [hr]
  have HE := Lib.hid hr
  clear hr
  go_enter Tryz.func147, Tryz.ntmps147
  go_wp2_with fail
  have hbig := H.out.big
  refine (AC.out _ HI.out H.out.pa).mono ?_
  intro e W5 hp
  obtain ⟨op, a, b, c3, d1, A, n, cap, t, rfl, RX, S1, hres⟩ := hp.form
  clear hp AC HI
  obtain ⟨j, d3, bb, P1, hres⟩ : ∃ j d3 bb, RPar W5 P s j d3 bb ∧ ((bb = false ∧ d3 = d ∧ atom (txt8 s) 42 G i = some (t, j)) ∨ (bb = true ∧ atom (txt8 s) 42 G i = none)) := by
    rcases hres with ⟨j, h1, h2⟩ | ⟨h1, j, d3, h2⟩
    · exact ⟨j, d, false, h2, .inl ⟨rfl, rfl, h1⟩⟩
    · exact ⟨j, d3, true, h2, .inr ⟨rfl, h1⟩⟩
  replace H := Lib.hid (H.out.step S1 P1)
  have hg2 : w.heap.size < W5.heap.size := by have := S1.size; omega
  replace RX := Lib.hid ((RX.under (Below.refl _ _) hbig).under ((Below.refl W5.heap.size W5).alloc (Nat.le_refl _) (.cells #[.int .i64 op, .int .u64 (a : Int), .int .u64 (b : Int), .int .u64 (c3 : Int), .int .u64 (d1 : Int), .slice A n cap] 135)) (Nat.le_refl _))
  replace H := Lib.hid (H.out.grow ((Below.refl W5.heap.size W5).alloc (Nat.le_refl _) (.cells #[.int .i64 op, .int .u64 (a : Int), .int .u64 (b : Int), .int .u64 (c3 : Int), .int .u64 (d1 : Int), .slice A n cap] 135)))
  have X6 : Hid (Row6 (W5.alloc (.cells #[.int .i64 op, .int .u64 (a : Int), .int .u64 (b : Int), .int .u64 (c3 : Int), .int .u64 (d1 : Int), .slice A n cap] 135)) W5.heap.size #[.int .i64 op, .int .u64 (a : Int), .int .u64 (b : Int), .int .u64 (c3 : Int), .int .u64 (d1 : Int), .slice A n cap]) := heap_alloc_new W5 _
  have hgP : P < W5.heap.size := by omega
  clear S1 P1 hbig
  go_upto_region 2 with fail
  generalize (W5.alloc (.cells #[.int .i64 op, .int .u64 (a : Int), .int .u64 (b : Int), .int .u64 (c3 : Int), .int .u64 (d1 : Int), .slice A n cap] 135)) = W6 at *
  generalize W5.heap.size = g at *
  by_cases hno : bb = true ∨ L ≤ j
  · have MF : Hid (∀ W (h : RPar W P s j d3 bb), Calls Tryz.prog 135 #[.pointer (some ⟨P, 0, none⟩)] W fun e w' => e = .returned (.bool false) ∧ ∃ n, w' = W.drewN n) := by
      intro W h
      rcases hno with rfl | hno
      · exact rmore_b h
      · cases bb
        · exact rmore_f h (by omega)
        · exact rmore_b h
    go_wp2_with fail
    refine (MF.out _ H.out.pa).mono ?_
    rintro e W7 ⟨rfl, n1, rfl⟩
    replace H := Lib.hid (H.out.drew n1)
    replace X6 := Lib.hid (X6.out.stp ((Stp.refl P W6).drew n1) hgP)
    replace RX := Lib.hid (RX.out.stp ((Stp.refl P W6).drew n1) (by omega) (Nat.le_refl _))
    obtain ⟨x0, x1, x2, x3, x4, x5⟩ := X6.out.cells
    rcases hres with ⟨h1, h2, h3⟩ | ⟨h1, h2⟩
    · subst h1 h2
      have R : Hid (r = some (t, j)) := by
        show _ = _
        have hp : pk (txt8 s) j = 256 := pk_end (by rcases hno with h | h; cases h; omega : s.size ≤ j)
        rw [← HE.out]; unfold factor; rw [h3]; simp only; rw [if_neg (by omega), if_neg (by omega), if_neg (by omega)]
      clear h3 hno MF HE
      go_wp2_with (refine wpList_store_row rfl 135 (.tmp 2) (.tmp 10) rfl w.heap.size #[.int .i64 op, .int .u64 (a : Int), .int .u64 (b : Int), .int .u64 (c3 : Int), .int .u64 (d1 : Int), .slice A n cap] rfl rfl 135 _ H.out.r Tryz.size6 rfl (by simp [Value.oneCell']) ?_)
      exact bodyPost_ret (results_cell_row rfl _ _ w.heap.size 135 _ (0, 0) _ rfl (H.out.fin _).2.2 Tryz.underlying135 rfl Tryz.size6) rfl (rres_some R.out H.out RX.out)
    · subst h1
      have R : Hid (r = none) := by show _ = _; rw [← HE.out]; unfold factor; rw [h2]
      clear h2 hno MF HE
      go_wp2_with (refine wpList_store_row rfl 135 (.tmp 2) (.tmp 10) rfl w.heap.size #[.int .i64 op, .int .u64 (a : Int), .int .u64 (b : Int), .int .u64 (c3 : Int), .int .u64 (d1 : Int), .slice A n cap] rfl rfl 135 _ H.out.r Tryz.size6 rfl (by simp [Value.oneCell']) ?_)
      exact bodyPost_ret (results_cell_row rfl _ _ w.heap.size 135 _ (0, 0) _ rfl (H.out.fin _).2.2 Tryz.underlying135 rfl Tryz.size6) rfl (rres_none R.out H.out RX.out)
  have hbb : bb = false := by cases bb; rfl; exact absurd (.inl rfl) hno
  subst hbb
  have hjl : j < L := by omega
  obtain ⟨hd3, hWf⟩ : d3 = d ∧ atom (txt8 s) 42 G i = some (t, j) := by rcases hres with h | h; exact h.2; cases h.1
  subst hd3
  have MT := Lib.hid (fun W (h : RPar W P s j d3 false) => rmore_t h (by omega))
  have TX := fun W => txt8_at W s j (by omega)
  have hpk : pk (txt8 s) j = (txt8 s).getD j 0 := pk_lt (by omega)
  obtain ⟨c4, hc⟩ : ∃ c4, (txt8 s).getD j 0 = c4 := ⟨_, rfl⟩
  simp only [hc] at TX
  rw [hc] at hpk
  have e0 := HE.out
  unfold factor at e0
  rw [hWf] at e0
  simp only at e0
  rw [hpk] at e0
  obtain ⟨j1, hj1⟩ : ∃ j1, j + 1 = j1 := ⟨_, rfl⟩
  have hb3 : j1 ≤ s.size := by omega
  have hw3 : IntKind.i64.wrap ((j : Int) + 1) = (j1 : Int) := by rw [IntKind.wrap_i64]; omega
  rw [hj1] at e0
  clear hc hpk hres hno HE hWf hj1
  by_cases h42 : c4 = 42
  · have z42 : ((c4 : Int) == 42) = true := by simp; omega
    rw [if_pos h42] at e0
    have R : Hid (r = some (rep 4 t, j1)) := e0.symm
    clear e0 h42
    have c0 := H.out.pa.c0
    have c1 := H.out.pa.c1
    have f1 := H.out.pa.fr 1
    go_wp2_with fail
    refine (MT.out _ H.out.pa).mono ?_
    rintro e W7 ⟨rfl, n1, rfl⟩
    go_wp2_with fail
    go_quiet (fail)
    go_upto_region 14 with fail
    replace H := Lib.hid (H.out.drew (n1 + nq))
    replace X6 := Lib.hid (X6.out.stp ((Stp.refl P W6).drew (n1 + nq)) hgP)
    replace RX := Lib.hid (RX.out.stp ((Stp.refl P W6).drew (n1 + nq)) (by omega) (Nat.le_refl _))
    have PU := Lib.hid (H.out.step (Stp.put _ _ _) (H.out.pa.put1 j1 hb3))
    clear H
    have H := PU
    clear PU
    replace X6 := Lib.hid (X6.out.stp (Stp.put _ 1 (.int .i64 (j1 : Int))) hgP)
    replace RX := Lib.hid (RX.out.stp (Stp.put (P := P) _ 1 (.int .i64 (j1 : Int))) (by omega) (Nat.le_refl _))
    generalize (W6.drewN (n1 + nq)).setCell ⟨P, 1, none⟩ (.int .i64 (j1 : Int)) = W7 at *
    clear c0 c1 f1
    obtain ⟨x0, x1, x2, x3, x4, x5⟩ := X6.out.cells
    have RR := Lib.hid (rep_in 4 t _ op a b c3 d1 A n cap _ H.out.big RX.out)
    replace H := Lib.hid (H.out.grow ((Below.refl W7.heap.size W7).alloc (Nat.le_refl _) (.cells #[.int .i64 op, .int .u64 (a : Int), .int .u64 (b : Int), .int .u64 (c3 : Int), .int .u64 (d1 : Int), .slice A n cap] 135)))
    clear RX X6
    go_wp2_with (refine wpList_store_row rfl 135 (.tmp 2) (.tmp 37) rfl w.heap.size #[.int .i64 4, .int .u64 0, .int .u64 0, .int .u64 0, .int .u64 0, .slice (some ⟨W7.heap.size, 0, none⟩) 1 1] rfl rfl 135 _ H.out.r Tryz.size6 rfl (by simp [Value.oneCell']) ?_)
    exact bodyPost_ret (results_cell_row rfl _ _ w.heap.size 135 _ (0, 0) _ rfl (H.out.fin _).2.2 Tryz.underlying135 rfl Tryz.size6) rfl (rres_some R.out H.out RR.out)
  have z42 : ((c4 : Int) == 42) = false := by simp; omega
  rw [if_neg h42] at e0
  by_cases h43 : c4 = 43
  · have z43 : ((c4 : Int) == 43) = true := by simp; omega
    rw [if_pos h43] at e0
    have R : Hid (r = some (rep 5 t, j1)) := e0.symm
    clear e0 h43
    have c0 := H.out.pa.c0
    have c1 := H.out.pa.c1
    have f1 := H.out.pa.fr 1
    go_wp2_with fail
    refine (MT.out _ H.out.pa).mono ?_
    rintro e W7 ⟨rfl, n1, rfl⟩
    go_wp2_with fail
    go_quiet (fail)
    go_upto_region 14 with fail
    replace H := Lib.hid (H.out.drew (n1 + nq))
    replace X6 := Lib.hid (X6.out.stp ((Stp.refl P W6).drew (n1 + nq)) hgP)
    replace RX := Lib.hid (RX.out.stp ((Stp.refl P W6).drew (n1 + nq)) (by omega) (Nat.le_refl _))
    have PU := Lib.hid (H.out.step (Stp.put _ _ _) (H.out.pa.put1 j1 hb3))
    clear H
    have H := PU
    clear PU
    replace X6 := Lib.hid (X6.out.stp (Stp.put _ 1 (.int .i64 (j1 : Int))) hgP)
    replace RX := Lib.hid (RX.out.stp (Stp.put (P := P) _ 1 (.int .i64 (j1 : Int))) (by omega) (Nat.le_refl _))
    generalize (W6.drewN (n1 + nq)).setCell ⟨P, 1, none⟩ (.int .i64 (j1 : Int)) = W7 at *
    clear c0 c1 f1
    obtain ⟨x0, x1, x2, x3, x4, x5⟩ := X6.out.cells
    have RR := Lib.hid (rep_in 5 t _ op a b c3 d1 A n cap _ H.out.big RX.out)
    replace H := Lib.hid (H.out.grow ((Below.refl W7.heap.size W7).alloc (Nat.le_refl _) (.cells #[.int .i64 op, .int .u64 (a : Int), .int .u64 (b : Int), .int .u64 (c3 : Int), .int .u64 (d1 : Int), .slice A n cap] 135)))
    clear RX X6
    go_wp2_with (refine wpList_store_row rfl 135 (.tmp 2) (.tmp 37) rfl w.heap.size #[.int .i64 5, .int .u64 0, .int .u64 0, .int .u64 0, .int .u64 0, .slice (some ⟨W7.heap.size, 0, none⟩) 1 1] rfl rfl 135 _ H.out.r Tryz.size6 rfl (by simp [Value.oneCell']) ?_)
    exact bodyPost_ret (results_cell_row rfl _ _ w.heap.size 135 _ (0, 0) _ rfl (H.out.fin _).2.2 Tryz.underlying135 rfl Tryz.size6) rfl (rres_some R.out H.out RR.out)
  have z43 : ((c4 : Int) == 43) = false := by simp; omega
  rw [if_neg h43] at e0
  by_cases h63 : c4 = 63
  · have z63 : ((c4 : Int) == 63) = true := by simp; omega
    rw [if_pos h63] at e0
    have R : Hid (r = some (rep 6 t, j1)) := e0.symm
    clear e0 h63
    have c0 := H.out.pa.c0
    have c1 := H.out.pa.c1
    have f1 := H.out.pa.fr 1
    go_wp2_with fail
    refine (MT.out _ H.out.pa).mono ?_
    rintro e W7 ⟨rfl, n1, rfl⟩
    go_wp2_with fail
    go_quiet (fail)
    go_upto_region 14 with fail
    replace H := Lib.hid (H.out.drew (n1 + nq))
    replace X6 := Lib.hid (X6.out.stp ((Stp.refl P W6).drew (n1 + nq)) hgP)
    replace RX := Lib.hid (RX.out.stp ((Stp.refl P W6).drew (n1 + nq)) (by omega) (Nat.le_refl _))
    have PU := Lib.hid (H.out.step (Stp.put _ _ _) (H.out.pa.put1 j1 hb3))
    clear H
    have H := PU
    clear PU
    replace X6 := Lib.hid (X6.out.stp (Stp.put _ 1 (.int .i64 (j1 : Int))) hgP)
    replace RX := Lib.hid (RX.out.stp (Stp.put (P := P) _ 1 (.int .i64 (j1 : Int))) (by omega) (Nat.le_refl _))
    generalize (W6.drewN (n1 + nq)).setCell ⟨P, 1, none⟩ (.int .i64 (j1 : Int)) = W7 at *
    clear c0 c1 f1
    obtain ⟨x0, x1, x2, x3, x4, x5⟩ := X6.out.cells
    have RR := Lib.hid (rep_in 6 t _ op a b c3 d1 A n cap _ H.out.big RX.out)
    replace H := Lib.hid (H.out.grow ((Below.refl W7.heap.size W7).alloc (Nat.le_refl _) (.cells #[.int .i64 op, .int .u64 (a : Int), .int .u64 (b : Int), .int .u64 (c3 : Int), .int .u64 (d1 : Int), .slice A n cap] 135)))
    clear RX X6
    go_wp2_with (refine wpList_store_row rfl 135 (.tmp 2) (.tmp 37) rfl w.heap.size #[.int .i64 6, .int .u64 0, .int .u64 0, .int .u64 0, .int .u64 0, .slice (some ⟨W7.heap.size, 0, none⟩) 1 1] rfl rfl 135 _ H.out.r Tryz.size6 rfl (by simp [Value.oneCell']) ?_)
    exact bodyPost_ret (results_cell_row rfl _ _ w.heap.size 135 _ (0, 0) _ rfl (H.out.fin _).2.2 Tryz.underlying135 rfl Tryz.size6) rfl (rres_some R.out H.out RR.out)
  have z63 : ((c4 : Int) == 63) = false := by simp; omega
  rw [if_neg h63] at e0
  have R : Hid (r = some (t, j)) := e0.symm
  clear e0
  have c0 := H.out.pa.c0
  have c1 := H.out.pa.c1
  have f1 := H.out.pa.fr 1
  go_wp2_with fail
  refine (MT.out _ H.out.pa).mono ?_
  rintro e W7 ⟨rfl, n1, rfl⟩
  go_wp2_with fail
  go_quiet (fail)
  go_upto_region 6 with fail
  replace H := Lib.hid (H.out.drew (n1 + nq))
  replace X6 := Lib.hid (X6.out.stp ((Stp.refl P W6).drew (n1 + nq)) hgP)
  replace RX := Lib.hid (RX.out.stp ((Stp.refl P W6).drew (n1 + nq)) (by omega) (Nat.le_refl _))
  obtain ⟨x0, x1, x2, x3, x4, x5⟩ := X6.out.cells
  clear c0 c1 f1
  go_wp2_with (refine wpList_store_row rfl 135 (.tmp 2) (.tmp 20) rfl w.heap.size #[.int .i64 op, .int .u64 (a : Int), .int .u64 (b : Int), .int .u64 (c3 : Int), .int .u64 (d1 : Int), .slice A n cap] rfl rfl 135 _ H.out.r Tryz.size6 rfl (by simp [Value.oneCell']) ?_)
  exact bodyPost_ret (results_cell_row rfl _ _ w.heap.size 135 _ (0, 0) _ rfl (H.out.fin _).2.2 Tryz.underlying135 rfl Tryz.size6) rfl (rres_some R.out H.out RX.out)
/-- Ahead of an append of a new kid, which lies in a literal's row. -/
theorem app_ready1 {w0 wr W1 : World} {P base : Nat} {kv : Value} {l : List Rx} {x : Rx} {op : Int} {a b c d : Nat} {A : Option Addr} {n cap : Nat} (hk : Kids base wr kv l) (hs : Stp P wr W1) (hP : P < base) (hbase : base ≤ wr.heap.size) (hx : RxIn (fun b => wr.heap.size ≤ b) W1 (.agg (c6 op a b c d A n cap)) x) (h2 : w0 = W1.alloc (.cells (c6 op a b c d A n cap) 135)) :
    Kids base w0 kv l ∧ (∀ i, i < 6 → w0.cell? ⟨W1.heap.size, i, none⟩ = some (v6f op a b c d A n cap i)) ∧ RxIn (fun b => base ≤ b ∧ b < w0.heap.size ∧ kv.ownBlock ≠ some b) w0 (val6 (v6f op a b c d A n cap)) x ∧ base ≤ w0.heap.size ∧ Below W1.heap.size W1 w0 := by
  subst h2
  have e2 := heap_alloc_new W1 (.cells (c6 op a b c d A n cap) 135)
  have B : Below W1.heap.size W1 (W1.alloc (.cells (c6 op a b c d A n cap) 135)) := (Below.refl _ _).alloc (Nat.le_refl _) _
  have z : (W1.alloc (.cells (c6 op a b c d A n cap) 135)).heap.size = W1.heap.size + 1 := by simp
  generalize W1.alloc (.cells (c6 op a b c d A n cap) 135) = w0 at *
  have hs1 := hs.size
  refine ⟨(hk.stp hs hP).under B, fun i hi => ?_, ?_, by omega, B⟩
  · obtain ⟨q0, q1, q2, q3, q4, q5⟩ := Row6.cells e2
    match i, hi with
    | 0, _ => exact q0
    | 1, _ => exact q1
    | 2, _ => exact q2
    | 3, _ => exact q3
    | 4, _ => exact q4
    | 5, _ => exact q5
  · have h2 : RxIn (fun b => wr.heap.size ≤ b ∧ b < W1.heap.size) W1 (val6 (v6f op a b c d A n cap)) x := RxIn.frame (show RxIn (fun b => wr.heap.size ≤ b) W1 (val6 (v6f op a b c d A n cap)) x from hx) (fun _ _ => rfl) (fun b h1 h2 => ⟨h2, h1⟩)
    refine h2.frame (fun b hq => B.block b hq.2) (fun b _ hq => ⟨by omega, by omega, fun e => ?_⟩)
    have := (hk.low b e).2
    omega
/-- A literal of one tree. -/
theorem Kids.lit {W : World} {B base : Nat} {x : Rx} {op : Int} {a b c d : Nat} {A : Option Addr} {n cap : Nat} (hb : base ≤ B) (hB : B ≤ W.heap.size) (hx : RxIn (fun b => B ≤ b) W (.agg (c6 op a b c d A n cap)) x) :
    Kids base (W.alloc (.cells (c6 op a b c d A n cap) 135)) (.slice (some ⟨W.heap.size, 0, none⟩) 1 1) [x] := by
  refine ⟨[v6f op a b c d A n cap], rfl, World.ownsRow_lit W _ 1 (by omega) (by decide) rfl, fun j hj => ?_⟩
  obtain rfl : j = 0 := by simpa using hj
  have h2 : RxIn (fun b => B ≤ b ∧ b < W.heap.size) W (val6 (v6f op a b c d A n cap)) x := RxIn.frame (show RxIn (fun b => B ≤ b) W (val6 (v6f op a b c d A n cap)) x from hx) (fun _ _ => rfl) (fun b h1 h2 => ⟨h2, h1⟩)
  exact h2.frame (fun b hq => heap_alloc_old W _ hq.2) (fun b _ hq => ⟨by omega, by simp; omega, fun e => by injection e with e; have e : W.heap.size = _ := e; omega⟩)
/-- A part's end: its tree, or no pattern. -/
def WayEnd (b : Bool) (d' d : Nat) (r : Option (Rx × Nat)) (t : Rx) (j : Nat) : Prop := (b = false ∧ d' = d ∧ r = some (t, j)) ∨ (b = true ∧ r = none)
theorem RAt.grown {w W W' : World} {P i d : Nat} {s : ByteArray} {b : Bool} {row : Array Value} {ty : TypeId} {o : Option Nat} (h : RAt w P s i d b row ty W) (hg : W.grownBy W' o) (ho : ∀ k, o = some k → w.heap.size < k) : RAt w P s i d b row ty W' := by
  have hb : ∀ k, k < W.heap.size → k ≤ w.heap.size → W'.heap[k]? = W.heap[k]? := fun k h1 h2 => hg.block k h1 (fun e => by have := ho k e.symm; omega)
  have h1 := h.big
  have h2 := h.lt
  exact ⟨⟨hg.os.trans h.st.os, hg.tape.trans h.st.tape, hg.output.trans h.st.output, Nat.le_trans h.st.size hg.size, fun k q1 q2 => (hb k (by omega) (by omega)).trans (h.st.block k q1 q2)⟩, h.pa.frame (hb P (by omega) (by omega)), h2, (hb _ (by omega) (Nat.le_refl _)).trans h.r⟩
theorem rres_mk {w W : World} {P j d d' : Nat} {b : Bool} {s : ByteArray} {r : Option (Rx × Nat)} {cs : Array Value} {t : Rx} (hr : WayEnd b d' d r t j) (h : RAt w P s j d' b zero6 135 W) (ht : RxIn (fun b => w.heap.size + 1 ≤ b) W (.agg cs) t) : RRes w P s d r (.returned (.agg cs)) (W.setRow w.heap.size cs) := by
  rcases hr with ⟨rfl, rfl, hr⟩ | ⟨rfl, hr⟩
  · exact rres_some hr h ht
  · exact rres_none hr h ht
/-- What the loops of way and ways keep: the kids so far. -/
def RWInv (w : World) (P : Nat) (s : ByteArray) (d : Nat) (F : Nat → List Rx → Nat → Option (Rx × Nat)) (r : Option (Rx × Nat)) (m : Nat) (kv : Value) (wr : World) : Prop :=
  ∃ j d' b l, RAt w P s j d' b zero6 135 wr ∧ Kids (w.heap.size + 1) wr kv l ∧ l.length + m ≤ 42 ∧ ((b = false ∧ d' = d ∧ F m l j = r ∧ s.size < j + m) ∨ (b = true ∧ r = none))
/-- The loop of ways behind a way. -/
def wLoop (S : List Nat) (G : Nat → Option (Rx × Nat)) (m : Nat) (l : List Rx) (j : Nat) : Option (Rx × Nat) := if pk S j = 124 then Pz.ways S 42 G m l (j + 1) else some (joined 3 l, j)
set_option maxRecDepth 100000 in
set_option maxHeartbeats 16000000 in
theorem rway_any (P d : Nat) (s : ByteArray) (G : Nat → Option (Rx × Nat)) (hA : Ahead G) (hG : GT P s d G) : RTells 134 P s d (way (txt8 s) 42 G 42 []) (fun _ => True) := by
  intro i w _ h
  have H0 := RAt.start h zero6 135
  have hsm := h.sm
  have hPw := h.lt
  obtain ⟨L, hL⟩ : ∃ L, s.size = L := ⟨_, rfl⟩
  obtain ⟨r, hr⟩ : ∃ r, way (txt8 s) 42 G 42 [] i = r := ⟨_, rfl⟩
  rw [hr]
  have W0 : Hid (RWInv w P s d (way (txt8 s) 42 G) r 42 (.slice none 0 0) (w.alloc (.cells zero6 135))) := ⟨i, d, false, [], H0, Kids.nil _ _, by simp, .inl ⟨rfl, rfl, hr, by omega⟩⟩
  clear h H0 hr
  unfold zero6 at W0
  have FC := Lib.hid (rfactor_any P d s G hG)
  have FL := Lib.hid (fun i t j => factor_lt (s := s) hA (i := i) (j := j) (t := t))
  clear hG hA
  go_enter Tryz.func134, Tryz.ntmps134
  go_wp2
  generalize w.alloc (.cells #[.int .i64 0, .int .u64 0, .int .u64 0, .int .u64 0, .int .u64 0, .slice none 0 0] 135) = w3 at W0 ⊢
  go_loopg [3] 42 (fun m kv wr => ∃ A n cap, kv = .slice A n cap ∧ Hid (RWInv w P s d (way (txt8 s) 42 G) r m kv wr))
  case atStart => exact ⟨_, _, _, rfl, W0⟩
  case round =>
    clear W0
    obtain ⟨A0, n0, cap0, rfl, HI⟩ := hrel
    obtain ⟨j, d2, b, l, H, K, hl, hst⟩ := HI
    have H := Lib.hid H
    have K := Lib.hid K
    have hjL : j ≤ L := by have := H.out.pa.le; omega
    by_cases hno : b = true ∨ L ≤ j
    · have MF : Hid (∀ W (h : RPar W P s j d2 b), Calls Tryz.prog 135 #[.pointer (some ⟨P, 0, none⟩)] W fun e w' => e = .returned (.bool false) ∧ ∃ n, w' = W.drewN n) := by
        intro W h
        rcases hno with rfl | hno
        · exact rmore_b h
        · cases b
          · exact rmore_f h (by omega)
          · exact rmore_b h
      have HP : Hid (WayEnd b d2 d r (joined 2 l) j) := by
        rcases hst with ⟨h1, h2, h3, h4⟩ | ⟨h1, h2⟩
        · refine .inl ⟨h1, h2, ?_⟩
          obtain ⟨m, rfl⟩ : ∃ m, gk = m + 1 := ⟨gk - 1, by omega⟩
          rw [way, if_pos (.inl (pk_end (by rcases hno with h | h; rw [h1] at h; cases h; omega : s.size ≤ j)))] at h3
          exact h3.symm
        · exact .inr ⟨h1, h2⟩
      clear hst hno
      have c0 := H.out.pa.c0
      have c1 := H.out.pa.c1
      go_wp2_with fail
      go_quiet ((go_at_call 135; exact Calls.quiet_of (MF.out _ (H.out.pa.drew _))))
      replace H := Lib.hid (H.out.drew nq)
      replace K := Lib.hid (K.out.under (drewN_below (Below.refl _ wr) nq))
      clear c0 c1 MF
      by_cases h1 : l.length = 1
      · obtain ⟨t, rfl⟩ := List.length_eq_one_iff.1 h1
        obtain ⟨rfl, gk2, V, rfl, hc, hx⟩ := K.out.one
        obtain ⟨op, a, b4, c3, d1, A, n, cap, hv⟩ := hx.form
        obtain ⟨e0, e1, e2, e3, e4, e5⟩ := val6_eq hv
        have hgl : gk2 < _ := World.block_lt_of_cell? _ _ (hc 0 (by omega))
        have x0 := hc 0 (by omega)
        have x1 := hc 1 (by omega)
        have x2 := hc 2 (by omega)
        have x3 := hc 3 (by omega)
        have x4 := hc 4 (by omega)
        have x5 := hc 5 (by omega)
        rw [e0] at x0
        rw [e1] at x1
        rw [e2] at x2
        rw [e3] at x3
        rw [e4] at x4
        rw [e5] at x5
        rw [hv] at hx
        have RX := Lib.hid hx
        clear hc hv e0 e1 e2 e3 e4 e5 hx h1 hgl K
        go_wp2_with (refine wpList_store_row rfl 135 (.tmp 2) (.tmp 40) rfl w.heap.size #[.int .i64 op, .int .u64 (a : Int), .int .u64 (b4 : Int), .int .u64 (c3 : Int), .int .u64 (d1 : Int), .slice A n cap] rfl rfl 135 _ H.out.r Tryz.size6 rfl (by simp [Value.oneCell']) ?_)
        exact bodyPost_ret (results_cell_row rfl _ _ w.heap.size 135 _ (0, 0) _ rfl (H.out.fin _).2.2 Tryz.underlying135 rfl Tryz.size6) rfl (rres_mk HP.out H.out RX.out)
      · obtain ⟨rfl, hx⟩ := K.out.node 2
        have h1z : ((l.length : Int) == 1) = false := by simp; omega
        rw [← joined_two (op := 2) h1] at hx
        have RX := Lib.hid hx
        obtain ⟨t, ht⟩ : ∃ t, joined 2 l = t := ⟨_, rfl⟩
        rw [ht] at RX HP
        clear hx h1 ht K
        generalize l.length = N at *
        go_wp2_with (refine wpList_store_row rfl 135 (.tmp 2) (.tmp 42) rfl w.heap.size #[.int .i64 2, .int .u64 0, .int .u64 0, .int .u64 0, .int .u64 0, .slice A0 N cap0] rfl rfl 135 _ H.out.r Tryz.size6 rfl (by simp [Value.oneCell']) ?_)
        exact bodyPost_ret (results_cell_row rfl _ _ w.heap.size 135 _ (0, 0) _ rfl (H.out.fin _).2.2 Tryz.underlying135 rfl Tryz.size6) rfl (rres_mk HP.out H.out RX.out)
    have hbf : b = false := by cases b; rfl; exact absurd (.inl rfl) hno
    subst hbf
    have hjl : j < L := by omega
    obtain ⟨hd2, hF, hj⟩ : d2 = d ∧ way (txt8 s) 42 G gk l j = r ∧ s.size < j + gk := by rcases hst with h | h; exact h.2; cases h.1
    subst hd2
    have MT := Lib.hid (fun W (h : RPar W P s j d2 false) => rmore_t h (by omega))
    have TX := fun W => txt8_at W s j (by omega)
    have hpk : pk (txt8 s) j = (txt8 s).getD j 0 := pk_lt (by omega)
    obtain ⟨c, hc⟩ : ∃ c, (txt8 s).getD j 0 = c := ⟨_, rfl⟩
    simp only [hc] at TX
    rw [hc] at hpk
    have hcb : c < 256 := by rw [← hc]; exact txt8_lt s j
    obtain ⟨m, rfl⟩ : ∃ m, gk = m + 1 := ⟨gk - 1, by omega⟩
    clear hc hst hno
    rw [way] at hF
    by_cases hx : c = 124 ∨ c = 41
    · have HP : Hid (WayEnd false d2 d2 r (joined 2 l) j) := by
        refine .inl ⟨rfl, rfl, ?_⟩
        rw [if_pos (by rw [hpk]; omega)] at hF
        exact hF.symm
      clear hF hpk FC FL
      have c0 := H.out.pa.c0
      have c1 := H.out.pa.c1
      rcases hx with hx | hx
      · have z1 : ((c : Int) != 124) = false := by simp; omega
        clear hx
        go_wp2_with fail
        go_quiet ((go_at_call 135; exact Calls.quiet_of (MT.out _ (H.out.pa.drew _))))
        replace H := Lib.hid (H.out.drew nq)
        replace K := Lib.hid (K.out.under (drewN_below (Below.refl _ wr) nq))
        clear c0 c1 MT
        by_cases h1 : l.length = 1
        · obtain ⟨t, rfl⟩ := List.length_eq_one_iff.1 h1
          obtain ⟨rfl, gk2, V, rfl, hc, hx⟩ := K.out.one
          obtain ⟨op, a, b4, c3, d1, A, n, cap, hv⟩ := hx.form
          obtain ⟨e0, e1, e2, e3, e4, e5⟩ := val6_eq hv
          have hgl : gk2 < _ := World.block_lt_of_cell? _ _ (hc 0 (by omega))
          have x0 := hc 0 (by omega)
          have x1 := hc 1 (by omega)
          have x2 := hc 2 (by omega)
          have x3 := hc 3 (by omega)
          have x4 := hc 4 (by omega)
          have x5 := hc 5 (by omega)
          rw [e0] at x0
          rw [e1] at x1
          rw [e2] at x2
          rw [e3] at x3
          rw [e4] at x4
          rw [e5] at x5
          rw [hv] at hx
          have RX := Lib.hid hx
          clear hc hv e0 e1 e2 e3 e4 e5 hx h1 hgl K
          go_wp2_with (refine wpList_store_row rfl 135 (.tmp 2) (.tmp 40) rfl w.heap.size #[.int .i64 op, .int .u64 (a : Int), .int .u64 (b4 : Int), .int .u64 (c3 : Int), .int .u64 (d1 : Int), .slice A n cap] rfl rfl 135 _ H.out.r Tryz.size6 rfl (by simp [Value.oneCell']) ?_)
          exact bodyPost_ret (results_cell_row rfl _ _ w.heap.size 135 _ (0, 0) _ rfl (H.out.fin _).2.2 Tryz.underlying135 rfl Tryz.size6) rfl (rres_mk HP.out H.out RX.out)
        · obtain ⟨rfl, hx⟩ := K.out.node 2
          have h1z : ((l.length : Int) == 1) = false := by simp; omega
          rw [← joined_two (op := 2) h1] at hx
          have RX := Lib.hid hx
          obtain ⟨t, ht⟩ : ∃ t, joined 2 l = t := ⟨_, rfl⟩
          rw [ht] at RX HP
          clear hx h1 ht K
          generalize l.length = N at *
          go_wp2_with (refine wpList_store_row rfl 135 (.tmp 2) (.tmp 42) rfl w.heap.size #[.int .i64 2, .int .u64 0, .int .u64 0, .int .u64 0, .int .u64 0, .slice A0 N cap0] rfl rfl 135 _ H.out.r Tryz.size6 rfl (by simp [Value.oneCell']) ?_)
          exact bodyPost_ret (results_cell_row rfl _ _ w.heap.size 135 _ (0, 0) _ rfl (H.out.fin _).2.2 Tryz.underlying135 rfl Tryz.size6) rfl (rres_mk HP.out H.out RX.out)
      · have z1 : ((c : Int) != 124) = true := by simp; omega
        have z2 : ((c : Int) != 41) = false := by simp; omega
        clear hx
        go_wp2_with fail
        go_quiet ((go_at_call 135; exact Calls.quiet_of (MT.out _ (H.out.pa.drew _))))
        replace H := Lib.hid (H.out.drew nq)
        replace K := Lib.hid (K.out.under (drewN_below (Below.refl _ wr) nq))
        clear c0 c1 MT
        by_cases h1 : l.length = 1
        · obtain ⟨t, rfl⟩ := List.length_eq_one_iff.1 h1
          obtain ⟨rfl, gk2, V, rfl, hc, hx⟩ := K.out.one
          obtain ⟨op, a, b4, c3, d1, A, n, cap, hv⟩ := hx.form
          obtain ⟨e0, e1, e2, e3, e4, e5⟩ := val6_eq hv
          have hgl : gk2 < _ := World.block_lt_of_cell? _ _ (hc 0 (by omega))
          have x0 := hc 0 (by omega)
          have x1 := hc 1 (by omega)
          have x2 := hc 2 (by omega)
          have x3 := hc 3 (by omega)
          have x4 := hc 4 (by omega)
          have x5 := hc 5 (by omega)
          rw [e0] at x0
          rw [e1] at x1
          rw [e2] at x2
          rw [e3] at x3
          rw [e4] at x4
          rw [e5] at x5
          rw [hv] at hx
          have RX := Lib.hid hx
          clear hc hv e0 e1 e2 e3 e4 e5 hx h1 hgl K
          go_wp2_with (refine wpList_store_row rfl 135 (.tmp 2) (.tmp 40) rfl w.heap.size #[.int .i64 op, .int .u64 (a : Int), .int .u64 (b4 : Int), .int .u64 (c3 : Int), .int .u64 (d1 : Int), .slice A n cap] rfl rfl 135 _ H.out.r Tryz.size6 rfl (by simp [Value.oneCell']) ?_)
          exact bodyPost_ret (results_cell_row rfl _ _ w.heap.size 135 _ (0, 0) _ rfl (H.out.fin _).2.2 Tryz.underlying135 rfl Tryz.size6) rfl (rres_mk HP.out H.out RX.out)
        · obtain ⟨rfl, hx⟩ := K.out.node 2
          have h1z : ((l.length : Int) == 1) = false := by simp; omega
          rw [← joined_two (op := 2) h1] at hx
          have RX := Lib.hid hx
          obtain ⟨t, ht⟩ : ∃ t, joined 2 l = t := ⟨_, rfl⟩
          rw [ht] at RX HP
          clear hx h1 ht K
          generalize l.length = N at *
          go_wp2_with (refine wpList_store_row rfl 135 (.tmp 2) (.tmp 42) rfl w.heap.size #[.int .i64 2, .int .u64 0, .int .u64 0, .int .u64 0, .int .u64 0, .slice A0 N cap0] rfl rfl 135 _ H.out.r Tryz.size6 rfl (by simp [Value.oneCell']) ?_)
          exact bodyPost_ret (results_cell_row rfl _ _ w.heap.size 135 _ (0, 0) _ rfl (H.out.fin _).2.2 Tryz.underlying135 rfl Tryz.size6) rfl (rres_mk HP.out H.out RX.out)
    have z1 : ((c : Int) != 124) = true := by simp; omega
    have z2 : ((c : Int) != 41) = true := by simp; omega
    rw [if_neg (by rw [hpk]; omega)] at hF
    have HF := Lib.hid hF
    have c0 := H.out.pa.c0
    have c1 := H.out.pa.c1
    clear hF hpk hx
    go_wp2_with fail
    go_quiet ((go_at_call 135; exact Calls.quiet_of (MT.out _ (H.out.pa.drew _))))
    replace H := Lib.hid (H.out.drew nq)
    replace K := Lib.hid (K.out.under (drewN_below (Below.refl _ wr) nq))
    clear c0 c1 MT z1 z2
    have hbig := H.out.big
    go_wp2_with fail
    refine (FC.out j _ (by omega) H.out.pa).mono ?_
    intro e W1 hp
    obtain ⟨op, a, b4, c3, d1, A, n, cap, x, rfl, RX, S1, hres⟩ := hp.form
    clear hp
    obtain ⟨k, d3, b3, P1, hst⟩ : ∃ k d3 b3, RPar W1 P s k d3 b3 ∧ ((b3 = false ∧ d3 = d2 ∧ way (txt8 s) 42 G m (l ++ [x]) k = r ∧ s.size < k + m) ∨ (b3 = true ∧ r = none)) := by
      rcases hres with ⟨k, h1, h2⟩ | ⟨h1, k, d3, h2⟩
      · have h3 := FL.out _ _ _ h1
        have h4 := HF.out
        rw [h1] at h4
        exact ⟨k, d2, false, h2, .inl ⟨rfl, rfl, h4, by omega⟩⟩
      · have h4 := HF.out
        rw [h1] at h4
        exact ⟨k, d3, true, h2, .inr ⟨rfl, h4.symm⟩⟩
    have AR := Lib.hid (app_ready1 K.out S1 (by omega) hbig RX rfl)
    replace H := Lib.hid ((H.out.step S1 P1).grow AR.out.2.2.2.2)
    have HST := Lib.hid hst
    clear S1 P1 RX K hbig hres hst HF
    go_wp2_with ((refine wpList_appR rfl (.tmp 30) (.tmp 33) rfl (w.heap.size + 1) (.slice A0 n0 cap0) l W1.heap.size rfl rfl AR.out.1 (v6f op a b4 c3 d1 A n cap) x AR.out.2.1 (v6f_one _ _ _ _ _ _ _ _) AR.out.2.2.1 (by omega) AR.out.2.2.2.1 ?_); (intro v' w' K2 G2); (replace H := Lib.hid (H.out.grown G2 (fun k hk => by have := (AR.out.1.low k hk).1; omega))); (obtain ⟨A2, n2, cap2, rfl⟩ := K2.form2); (replace K2 := Lib.hid K2); (clear G2 AR))
    go_roundg m
    case measure => omega
    case rel => exact ⟨_, _, _, rfl, ⟨k, d3, b3, l ++ [x], H.out, K2.out, by simp; omega, HST.out⟩⟩
set_option maxRecDepth 100000 in
set_option maxHeartbeats 16000000 in
theorem rways_any (P d : Nat) (s : ByteArray) (G : Nat → Option (Rx × Nat)) (hA : Ahead G) (hG : GT P s d G) : RTells 122 P s d (Pz.ways (txt8 s) 42 G 42 []) (fun _ => True) := by
  intro i w _ h
  have H := Lib.hid (RAt.start h zero6 135)
  have hsm := h.sm
  have hPw := h.lt
  obtain ⟨L, hL⟩ : ∃ L, s.size = L := ⟨_, rfl⟩
  obtain ⟨r, hr⟩ : ∃ r, Pz.ways (txt8 s) 42 G 42 [] i = r := ⟨_, rfl⟩
  rw [hr]
  have HR : Hid ((match way (txt8 s) 42 G 42 [] i with | none => none | some (x, j) => wLoop (txt8 s) G 41 [x] j) = r) := hr
  clear h hr
  unfold zero6 at H
  have FC := Lib.hid (rway_any P d s G hA hG)
  have FL := Lib.hid (fun i t j => way_le (s := s) hA (m := 42) (l := []) (i := i) (j := j) (t := t))
  clear hG hA
  go_enter Tryz.func122, Tryz.ntmps122
  go_wp2_with fail
  have hbig := H.out.big
  refine (FC.out i _ trivial H.out.pa).mono ?_
  intro e W1 hp
  obtain ⟨op, a, b4, c3, d1, A, n, cap, x, rfl, RX, S1, hres⟩ := hp.form
  clear hp
  obtain ⟨k, d3, b3, P1, hst⟩ : ∃ k d3 b3, RPar W1 P s k d3 b3 ∧ ((b3 = false ∧ d3 = d ∧ wLoop (txt8 s) G 41 [x] k = r ∧ s.size < k + 41) ∨ (b3 = true ∧ r = none)) := by
    rcases hres with ⟨k, h1, h2⟩ | ⟨h1, k, d3, h2⟩
    · have h4 := HR.out
      rw [h1] at h4
      exact ⟨k, d, false, h2, .inl ⟨rfl, rfl, h4, by omega⟩⟩
    · have h4 := HR.out
      rw [h1] at h4
      exact ⟨k, d3, true, h2, .inr ⟨rfl, h4.symm⟩⟩
  have W0 : Hid (RWInv w P s d (wLoop (txt8 s) G) r 41 (.slice (some ⟨W1.heap.size, 0, none⟩) 1 1) (W1.alloc (.cells #[.int .i64 op, .int .u64 (a : Int), .int .u64 (b4 : Int), .int .u64 (c3 : Int), .int .u64 (d1 : Int), .slice A n cap] 135))) :=
    ⟨k, d3, b3, [x], (H.out.step S1 P1).grow ((Below.refl _ _).alloc (Nat.le_refl _) _), Kids.lit hbig (by have := S1.size; omega) RX, by simp, hst⟩
  clear S1 P1 RX hbig hres hst HR H
  go_wp2
  generalize W1.alloc (.cells #[.int .i64 op, .int .u64 (a : Int), .int .u64 (b4 : Int), .int .u64 (c3 : Int), .int .u64 (d1 : Int), .slice A n cap] 135) = w3 at W0 ⊢
  go_loopg [3] 41 (fun m kv wr => ∃ A n cap, kv = .slice A n cap ∧ Hid (RWInv w P s d (wLoop (txt8 s) G) r m kv wr))
  case atStart => exact ⟨_, _, _, rfl, W0⟩
  case round =>
    clear W0
    obtain ⟨A0, n0, cap0, rfl, HI⟩ := hrel
    obtain ⟨j, d2, b, l, H, K, hl, hst⟩ := HI
    have H := Lib.hid H
    have K := Lib.hid K
    have hjL : j ≤ L := by have := H.out.pa.le; omega
    by_cases hno : b = true ∨ L ≤ j
    · have MF : Hid (∀ W (h : RPar W P s j d2 b), Calls Tryz.prog 135 #[.pointer (some ⟨P, 0, none⟩)] W fun e w' => e = .returned (.bool false) ∧ ∃ n, w' = W.drewN n) := by
        intro W h
        rcases hno with rfl | hno
        · exact rmore_b h
        · cases b
          · exact rmore_f h (by omega)
          · exact rmore_b h
      have HP : Hid (WayEnd b d2 d r (joined 3 l) j) := by
        rcases hst with ⟨h1, h2, h3, h4⟩ | ⟨h1, h2⟩
        · refine .inl ⟨h1, h2, ?_⟩
          rw [wLoop, if_neg (by rw [pk_end (by rcases hno with h | h; rw [h1] at h; cases h; omega : s.size ≤ j)]; omega)] at h3
          exact h3.symm
        · exact .inr ⟨h1, h2⟩
      clear hst hno
      have c0 := H.out.pa.c0
      have c1 := H.out.pa.c1
      go_wp2_with fail
      go_quiet ((go_at_call 135; exact Calls.quiet_of (MF.out _ (H.out.pa.drew _))))
      replace H := Lib.hid (H.out.drew nq)
      replace K := Lib.hid (K.out.under (drewN_below (Below.refl _ wr) nq))
      clear c0 c1 MF
      by_cases h1 : l.length = 1
      · obtain ⟨t, rfl⟩ := List.length_eq_one_iff.1 h1
        obtain ⟨rfl, gk2, V, rfl, hc, hx⟩ := K.out.one
        obtain ⟨op, a, b4, c3, d1, A, n, cap, hv⟩ := hx.form
        obtain ⟨e0, e1, e2, e3, e4, e5⟩ := val6_eq hv
        have hgl : gk2 < _ := World.block_lt_of_cell? _ _ (hc 0 (by omega))
        have x0 := hc 0 (by omega)
        have x1 := hc 1 (by omega)
        have x2 := hc 2 (by omega)
        have x3 := hc 3 (by omega)
        have x4 := hc 4 (by omega)
        have x5 := hc 5 (by omega)
        rw [e0] at x0
        rw [e1] at x1
        rw [e2] at x2
        rw [e3] at x3
        rw [e4] at x4
        rw [e5] at x5
        rw [hv] at hx
        have RX := Lib.hid hx
        clear hc hv e0 e1 e2 e3 e4 e5 hx h1 hgl K
        go_wp2_with (refine wpList_store_row rfl 135 (.tmp 2) (.tmp 38) rfl w.heap.size #[.int .i64 op, .int .u64 (a : Int), .int .u64 (b4 : Int), .int .u64 (c3 : Int), .int .u64 (d1 : Int), .slice A n cap] rfl rfl 135 _ H.out.r Tryz.size6 rfl (by simp [Value.oneCell']) ?_)
        exact bodyPost_ret (results_cell_row rfl _ _ w.heap.size 135 _ (0, 0) _ rfl (H.out.fin _).2.2 Tryz.underlying135 rfl Tryz.size6) rfl (rres_mk HP.out H.out RX.out)
      · obtain ⟨rfl, hx⟩ := K.out.node 3
        have h1z : ((l.length : Int) == 1) = false := by simp; omega
        rw [← joined_two (op := 3) h1] at hx
        have RX := Lib.hid hx
        obtain ⟨t, ht⟩ : ∃ t, joined 3 l = t := ⟨_, rfl⟩
        rw [ht] at RX HP
        clear hx h1 ht K
        generalize l.length = N at *
        go_wp2_with (refine wpList_store_row rfl 135 (.tmp 2) (.tmp 40) rfl w.heap.size #[.int .i64 3, .int .u64 0, .int .u64 0, .int .u64 0, .int .u64 0, .slice A0 N cap0] rfl rfl 135 _ H.out.r Tryz.size6 rfl (by simp [Value.oneCell']) ?_)
        exact bodyPost_ret (results_cell_row rfl _ _ w.heap.size 135 _ (0, 0) _ rfl (H.out.fin _).2.2 Tryz.underlying135 rfl Tryz.size6) rfl (rres_mk HP.out H.out RX.out)
    have hbf : b = false := by cases b; rfl; exact absurd (.inl rfl) hno
    subst hbf
    have hjl : j < L := by omega
    obtain ⟨hd2, hF, hj⟩ : d2 = d ∧ wLoop (txt8 s) G gk l j = r ∧ s.size < j + gk := by rcases hst with h | h; exact h.2; cases h.1
    subst hd2
    have MT := Lib.hid (fun W (h : RPar W P s j d2 false) => rmore_t h (by omega))
    have TX := fun W => txt8_at W s j (by omega)
    have hpk : pk (txt8 s) j = (txt8 s).getD j 0 := pk_lt (by omega)
    obtain ⟨c, hc⟩ : ∃ c, (txt8 s).getD j 0 = c := ⟨_, rfl⟩
    simp only [hc] at TX
    rw [hc] at hpk
    have hcb : c < 256 := by rw [← hc]; exact txt8_lt s j
    obtain ⟨m, rfl⟩ : ∃ m, gk = m + 1 := ⟨gk - 1, by omega⟩
    clear hc hst hno
    rw [wLoop] at hF
    by_cases hx : c = 124
    · have z1 : ((c : Int) == 124) = true := by simp; omega
      rw [if_pos (by rw [hpk]; exact hx)] at hF
      obtain ⟨j1, hj1⟩ : ∃ j1, j + 1 = j1 := ⟨_, rfl⟩
      have hw1 : IntKind.i64.wrap ((j : Int) + 1) = (j1 : Int) := by rw [IntKind.wrap_i64]; omega
      have hb3 : j1 ≤ s.size := by omega
      rw [hj1] at hF
      have HF : Hid ((match way (txt8 s) 42 G 42 [] j1 with | none => none | some (x, j) => wLoop (txt8 s) G m (l ++ [x]) j) = r) := hF
      have HJ : Hid (s.size < j1 + m) := by show _ < _; omega
      clear hF hpk hx hj1 hj
      have c0 := H.out.pa.c0
      have c1 := H.out.pa.c1
      have f1 := H.out.pa.fr 1
      go_wp2_with fail
      go_quiet ((go_at_call 135; exact Calls.quiet_of (MT.out _ (H.out.pa.drew _))))
      replace H := Lib.hid (H.out.drew nq)
      replace K := Lib.hid (K.out.under (drewN_below (Below.refl _ wr) nq))
      have PU := Lib.hid (H.out.step (Stp.put _ _ _) (H.out.pa.put1 j1 hb3))
      clear H
      have H := PU
      clear PU
      replace K := Lib.hid (K.out.stp (Stp.put (P := P) _ 1 (.int .i64 (j1 : Int))) (by omega))
      go_wp2_with fail
      generalize (wr.drewN nq).setCell ⟨P, 1, none⟩ (.int .i64 (j1 : Int)) = wq at *
      clear c0 c1 f1 MT TX
      have hbig := H.out.big
      refine (FC.out j1 _ trivial H.out.pa).mono ?_
      intro e W1 hp
      obtain ⟨op, a, b4, c3, d1, A, n, cap, x, rfl, RX, S1, hres⟩ := hp.form
      clear hp
      obtain ⟨k, d3, b3, P1, hst⟩ : ∃ k d3 b3, RPar W1 P s k d3 b3 ∧ ((b3 = false ∧ d3 = d2 ∧ wLoop (txt8 s) G m (l ++ [x]) k = r ∧ s.size < k + m) ∨ (b3 = true ∧ r = none)) := by
        rcases hres with ⟨k, h1, h2⟩ | ⟨h1, k, d3, h2⟩
        · have h3 := FL.out _ _ _ h1
          have h4 := HF.out
          rw [h1] at h4
          exact ⟨k, d2, false, h2, .inl ⟨rfl, rfl, h4, by have := HJ.out; omega⟩⟩
        · have h4 := HF.out
          rw [h1] at h4
          exact ⟨k, d3, true, h2, .inr ⟨rfl, h4.symm⟩⟩
      have AR := Lib.hid (app_ready1 K.out S1 (by omega) hbig RX rfl)
      replace H := Lib.hid ((H.out.step S1 P1).grow AR.out.2.2.2.2)
      have HST := Lib.hid hst
      clear S1 P1 RX K hbig hres hst HF
      go_wp2_with ((refine wpList_appR rfl (.tmp 28) (.tmp 31) rfl (w.heap.size + 1) (.slice A0 n0 cap0) l W1.heap.size rfl rfl AR.out.1 (v6f op a b4 c3 d1 A n cap) x AR.out.2.1 (v6f_one _ _ _ _ _ _ _ _) AR.out.2.2.1 (by omega) AR.out.2.2.2.1 ?_); (intro v' w' K2 G2); (replace H := Lib.hid (H.out.grown G2 (fun k hk => by have := (AR.out.1.low k hk).1; omega))); (obtain ⟨A2, n2, cap2, rfl⟩ := K2.form2); (replace K2 := Lib.hid K2); (clear G2 AR))
      go_roundg m
      case measure => omega
      case rel => exact ⟨_, _, _, rfl, ⟨k, d3, b3, l ++ [x], H.out, K2.out, by simp; omega, HST.out⟩⟩
    · have z1 : ((c : Int) == 124) = false := by simp; omega
      have HP : Hid (WayEnd false d2 d2 r (joined 3 l) j) := by
        refine .inl ⟨rfl, rfl, ?_⟩
        rw [if_neg (by rw [hpk]; exact hx)] at hF
        exact hF.symm
      clear hF hpk hx FC FL
      have c0 := H.out.pa.c0
      have c1 := H.out.pa.c1
      go_wp2_with fail
      go_quiet ((go_at_call 135; exact Calls.quiet_of (MT.out _ (H.out.pa.drew _))))
      replace H := Lib.hid (H.out.drew nq)
      replace K := Lib.hid (K.out.under (drewN_below (Below.refl _ wr) nq))
      clear c0 c1 MT
      by_cases h1 : l.length = 1
      · obtain ⟨t, rfl⟩ := List.length_eq_one_iff.1 h1
        obtain ⟨rfl, gk2, V, rfl, hc, hx⟩ := K.out.one
        obtain ⟨op, a, b4, c3, d1, A, n, cap, hv⟩ := hx.form
        obtain ⟨e0, e1, e2, e3, e4, e5⟩ := val6_eq hv
        have hgl : gk2 < _ := World.block_lt_of_cell? _ _ (hc 0 (by omega))
        have x0 := hc 0 (by omega)
        have x1 := hc 1 (by omega)
        have x2 := hc 2 (by omega)
        have x3 := hc 3 (by omega)
        have x4 := hc 4 (by omega)
        have x5 := hc 5 (by omega)
        rw [e0] at x0
        rw [e1] at x1
        rw [e2] at x2
        rw [e3] at x3
        rw [e4] at x4
        rw [e5] at x5
        rw [hv] at hx
        have RX := Lib.hid hx
        clear hc hv e0 e1 e2 e3 e4 e5 hx h1 hgl K
        go_wp2_with (refine wpList_store_row rfl 135 (.tmp 2) (.tmp 38) rfl w.heap.size #[.int .i64 op, .int .u64 (a : Int), .int .u64 (b4 : Int), .int .u64 (c3 : Int), .int .u64 (d1 : Int), .slice A n cap] rfl rfl 135 _ H.out.r Tryz.size6 rfl (by simp [Value.oneCell']) ?_)
        exact bodyPost_ret (results_cell_row rfl _ _ w.heap.size 135 _ (0, 0) _ rfl (H.out.fin _).2.2 Tryz.underlying135 rfl Tryz.size6) rfl (rres_mk HP.out H.out RX.out)
      · obtain ⟨rfl, hx⟩ := K.out.node 3
        have h1z : ((l.length : Int) == 1) = false := by simp; omega
        rw [← joined_two (op := 3) h1] at hx
        have RX := Lib.hid hx
        obtain ⟨t, ht⟩ : ∃ t, joined 3 l = t := ⟨_, rfl⟩
        rw [ht] at RX HP
        clear hx h1 ht K
        generalize l.length = N at *
        go_wp2_with (refine wpList_store_row rfl 135 (.tmp 2) (.tmp 40) rfl w.heap.size #[.int .i64 3, .int .u64 0, .int .u64 0, .int .u64 0, .int .u64 0, .slice A0 N cap0] rfl rfl 135 _ H.out.r Tryz.size6 rfl (by simp [Value.oneCell']) ?_)
        exact bodyPost_ret (results_cell_row rfl _ _ w.heap.size 135 _ (0, 0) _ rfl (H.out.fin _).2.2 Tryz.underlying135 rfl Tryz.size6) rfl (rres_mk HP.out H.out RX.out)
theorem rgroup_any (P : Nat) (s : ByteArray) : ∀ D d, d + D = 8 → GT P s d (group (txt8 s) 42 D)
  | 0, d, h => .inl ⟨by omega, fun _ => rfl⟩
  | D + 1, d, h => .inr ⟨by omega, _, rways_any P (d + 1) s _ (group_le D) (rgroup_any P s D (d + 1) (by omega)), fun _ => rfl⟩

end Go.Proofs.YtlfcjjlgkcfkdaaGreatDoor

