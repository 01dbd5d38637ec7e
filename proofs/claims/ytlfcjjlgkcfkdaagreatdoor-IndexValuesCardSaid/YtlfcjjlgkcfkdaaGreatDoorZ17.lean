/-
  What the program's takers, reached, next tell: steps that take a byte, the steps reached from a set, the next set. Conditions: the steps are a program (reached, next); the library's table lies in its variable (DTab).
  What the program's Start, Next and Match tell of any steps. Conditions: lengths fit; the library's table lies in its variable (DTab).
  The reference's parser in memory; what its more, fail, special, quoted and one do. Conditions: at most 40 bytes.
  What the reference's one and member do. Conditions: at most 40 bytes.
  What the reference's one and class do. Conditions: at most 40 bytes.
  What the reference's atom does, of what ways does one group deeper. Conditions: at most 40 bytes.
  What the reference's factor does, of what ways does one group deeper. Conditions: at most 40 bytes.
  What the reference's way and ways do. Conditions: at most 40 bytes.
-/
import Derived.Test.YtlfcjjlgkcfkdaaGreatDoorProg
import Derived.Test.YtlfcjjlgkcfkdaaGreatDoorZ01
import Derived.Test.YtlfcjjlgkcfkdaaGreatDoorZ02
import Derived.Test.YtlfcjjlgkcfkdaaGreatDoorZ05
import Derived.Test.YtlfcjjlgkcfkdaaGreatDoorZ07
import Derived.Test.YtlfcjjlgkcfkdaaGreatDoorZ08
import Derived.Test.YtlfcjjlgkcfkdaaGreatDoorZ09
import Derived.Test.YtlfcjjlgkcfkdaaGreatDoorZ10
import Derived.Test.YtlfcjjlgkcfkdaaGreatDoorZ14
import Derived.Test.YtlfcjjlgkcfkdaaGreatDoorZ16
import Derived.Test.YtlfcjjlgkcfkdaaGreatDoorZ03
import Derived.Test.YtlfcjjlgkcfkdaaGreatDoorZ04
import Derived.Test.YtlfcjjlgkcfkdaaGreatDoorZ06
import Derived.Test.YtlfcjjlgkcfkdaaGreatDoorZ11
import Derived.Deep.LoopGhost
import Derived.BigQuiet
import Derived.Lib.Hide
import Derived.Deep.RegionHeld3
import Derived.WalkKit
import Derived.WalkSpells
import Derived.WalkLawsBesides
import Derived.Below
import Derived.Lib.QuietBelow
import Derived.Laws.StructEq
import Derived.KernelRfl
import Derived.Laws.MakeOwn
import Derived.Laws.OwnMore
import Derived.OwnWalk
import Derived.Laws.CopyOwn
import Derived.Laws.AppendOwn
import Derived.Deep.QuietTactic
import Derived.Lib.Bytealg
import Derived.Laws.Externs
import Derived.Maps.AppendAt
import Derived.StillTailTactics
import Derived.Laws.ResultCell
import Derived.Lib.TrailingZeros
import Derived.Laws.Bits64b
import Derived.Deep.Cut
import Derived.Deep.CutRange
namespace Go.Proofs.YtlfcjjlgkcfkdaaGreatDoor
open Go.RowKit
open Sc

set_option maxRecDepth 100000 in
set_option maxHeartbeats 4000000 in
theorem takers_any (P : List St) (ch blk off N cap : Nat) (w : World) (hch : ch < 256) (hbig : N ≤ 40) (h : IsP w blk off N P) :
    Calls Tryz.prog 129 #[.slice (some ⟨blk, off, none⟩) N cap, .int .u8 (ch : Int)] w fun e w' => e = .returned (.int .u64 ((tks P ch N : Nat) : Int)) ∧ Below w.heap.size w w' := by
  have HC := Lib.hid h.at_
  have ML : Hid (∀ k, k ≤ N → tks P ch k < 18446744073709551616) := fun k hk => lt64 (N := N) (by omega) fun j hj => by have := tks_lim P ch k j hj; omega
  have MS : Hid (∀ k, tks P ch (k + 1) = if opS P k = 1 ∧ has (nthS P k) ch = true then tks P ch k ||| 2 ^ k else tks P ch k) := fun k => rfl
  have q1 : IntKind.u8.wrap ((ch : Int) / 64) = (ch : Int) / 64 := by simp [IntKind.wrap, IntKind.bits, IntKind.signed]; omega
  have q2 : IntKind.u8.wrap ((ch : Int) % 64) = (ch : Int) % 64 := by simp [IntKind.wrap, IntKind.bits, IntKind.signed]; omega
  have q9 : (ch : Int).tmod 64 = (ch : Int) % 64 := Int.tmod_eq_emod_of_nonneg (by omega)
  have q3 : (ch : Int) / 64 < 4 := by omega
  have q4 : (0 : Int) ≤ (ch : Int) / 64 := by omega
  have q5 : ((ch : Int) / 64).toNat = ch / 64 := by omega
  have q6 : (0 : Int) ≤ (ch : Int) % 64 := by omega
  have q7 : ((ch : Int) % 64).toNat = ch % 64 := by omega
  have q8 : (ch : Int) % 64 < 64 := by omega
  clear h
  go_enter Tryz.func129, Tryz.ntmps129
  go_wp2_with fail
  go_loopw [5, 10] (fun z i wr => ∃ k : Nat, k ≤ N ∧ i = .int .i64 (k : Int) ∧ z = .int .u64 ((tks P ch k : Nat) : Int) ∧ Hid (Below w.heap.size w wr)) (fun _ i _ => N - (intOf i).toNat)
  case atStart => exact ⟨0, by omega, rfl, rfl, Below.refl _ _⟩
  case round =>
    obtain ⟨k, hk, rfl, rfl, HI⟩ := hrel
    by_cases hkN : k < N
    · have hkz : (k : Int) < (N : Int) := by omega
      obtain ⟨c0, c1, c2, c3, c4, c5, c6⟩ := HC.out wr HI.out k hkN
      have MK := Lib.hid (MS.out k)
      have mlt := Lib.hid (ML.out k hk)
      have hop : Hid (opS P k = (nthS P k).op) := rfl
      obtain ⟨s, hs⟩ : ∃ s, nthS P k = s := ⟨_, rfl⟩
      rw [hs] at c0 c1 c2 c3 c4 c5 c6 hop MK
      clear hs HC ML MS
      obtain ⟨m, hm⟩ : ∃ m, tks P ch k = m := ⟨_, rfl⟩
      rw [hm] at MK mlt
      rw [hm]
      clear hm
      obtain ⟨op, a, b, c, d, x, y⟩ := s
      dsimp only at c0 c1 c2 c3 c4 c5 c6 hop
      have B6 : Hid (Below w.heap.size w (wr.alloc (.cells #[.int .i64 op, .int .u64 (a : Int), .int .u64 (b : Int), .int .u64 (c : Int), .int .u64 (d : Int), .int .i64 x, .int .i64 y] 163))) := HI.out.alloc HI.out.size _
      by_cases h1 : op = 1
      · subst h1
        have CW := cell_word (heap_alloc_new wr (.cells #[.int .i64 1, .int .u64 (a : Int), .int .u64 (b : Int), .int .u64 (c : Int), .int .u64 (d : Int), .int .i64 x, .int .i64 y] 163)) (show ch / 64 < 4 by omega)
        have HW : Hid (has ⟨1, a, b, c, d, x, y⟩ ch = (word4 a b c d (ch / 64) / 2 ^ (ch % 64) % 2 == 1)) := rfl
        generalize word4 a b c d (ch / 64) = z at *
        have HZ : (bits .and .u64 ((z : Int) / 2 ^ (ch % 64)) 1 == 1) = (z / 2 ^ (ch % 64) % 2 == 1) := by
          have e1 : (z : Int) / 2 ^ (ch % 64) = ((z / 2 ^ (ch % 64) : Nat) : Int) := by simp
          rw [e1, and_one, Bool.eq_iff_iff, beq_iff_eq, beq_iff_eq]; omega
        generalize (z / 2 ^ (ch % 64) % 2 == 1) = q at *
        have MK2 : Hid (tks P ch (k + 1) = if q = true then m ||| 2 ^ k else m) := by
          show _ = _
          rw [MK.out, HW.out, hop.out]; simp
        clear MK HW hop
        cases q
        · have R : Hid (tks P ch (k + 1) = m) := by show _ = _; rw [MK2.out, if_neg (by simp)]
          clear MK2 mlt
          go_wp2
          clear c0 c1 c2 c3 c4 c5 c6 HZ CW
          go_roundw
          case rel => exact ⟨k + 1, by omega, by go_num, by rw [R.out], B6.out⟩
          case measure => simp [intOf]; omega
        · have EO := Lib.hid (or_two m k mlt.out (by omega))
          have R : Hid (tks P ch (k + 1) = m ||| 2 ^ k) := by show _ = _; rw [MK2.out, if_pos rfl]
          obtain ⟨m', hm'⟩ : ∃ m', m ||| 2 ^ k = m' := ⟨_, rfl⟩
          rw [hm'] at EO R
          clear hm' MK2 mlt
          go_wp2
          rw [EO.out]
          clear c0 c1 c2 c3 c4 c5 c6 HZ CW
          go_roundw
          case rel => exact ⟨k + 1, by omega, by go_num, by rw [R.out], B6.out⟩
          case measure => simp [intOf]; omega
      · have h1b : (op == 1) = false := by simpa using h1
        have R : Hid (tks P ch (k + 1) = m) := by show _ = _; rw [MK.out, if_neg (by rw [hop.out]; exact fun h => h1 h.1)]
        clear MK mlt hop h1
        go_wp2
        clear c0 c1 c2 c3 c4 c5 c6
        go_roundw
        case rel => exact ⟨k + 1, by omega, by go_num, by rw [R.out], B6.out⟩
        case measure => simp [intOf]; omega
    · obtain rfl : k = N := by omega
      have hkz : ¬ (k : Int) < (k : Int) := by omega
      go_wp2
      go_ret
      exact ⟨rfl, HI.out⟩

theorem andnot_nat (a b : Nat) (ha : a < 18446744073709551616) (hb : b < 18446744073709551616) : bits .andNot .u64 (a : Int) (b : Int) = ((minus a b : Nat) : Int) := by
  show IntKind.u64.wrap ((BitVec.ofInt 64 (a : Int) &&& ~~~BitVec.ofInt 64 (b : Int)).toNat : Int) = _
  have h1 : (BitVec.ofInt 64 (a : Int)).toNat = a := by rw [BitVec.ofInt_natCast, BitVec.toNat_ofNat]; exact Nat.mod_eq_of_lt (by omega)
  have h2 : (BitVec.ofInt 64 (b : Int)).toNat = b := by rw [BitVec.ofInt_natCast, BitVec.toNat_ofNat]; exact Nat.mod_eq_of_lt (by omega)
  rw [BitVec.toNat_and, BitVec.toNat_not, h1, h2, IntKind.wrap_u64]
  have e : 2 ^ 64 - 1 - b = 18446744073709551615 - b := by omega
  rw [e]
  have hm : a &&& (18446744073709551615 - b) < 2 ^ 64 := Nat.and_lt_two_pow _ (by omega)
  unfold minus
  omega
theorem or_twos (a b : Nat) (ha : a < 64) (hb : b < 64) : bits .or .u64 (IntKind.u64.wrap (2 ^ a)) (IntKind.u64.wrap (2 ^ b)) = ((2 ^ a ||| 2 ^ b : Nat) : Int) := by
  have h2 : 2 ^ a < 18446744073709551616 := by have : 2 ^ a < 2 ^ 64 := Nat.pow_lt_pow_right (by omega) ha; simpa using this
  have e : ((2 : Int) ^ a) = ((2 ^ a : Nat) : Int) := by simp
  rw [e, IntKind.wrap_u64]
  generalize 2 ^ a = z at *
  have e2 : (z : Int) % 18446744073709551616 = (z : Int) := by omega
  rw [e2]
  exact or_two z b h2 hb
theorem pow_or_fit {a b : Nat} (ha : a < 64) (hb : b < 64) : 2 ^ a ||| 2 ^ b < 18446744073709551616 := by
  have := Nat.or_lt_two_pow (n := 64) (Nat.pow_lt_pow_right (show 1 < 2 by omega) ha) (Nat.pow_lt_pow_right (show 1 < 2 by omega) hb)
  simpa using this
theorem pow_fit {a : Nat} (ha : a < 64) : 2 ^ a < 18446744073709551616 := by
  have := Nat.pow_lt_pow_right (show 1 < 2 by omega) ha
  simpa using this
theorem or_fit {a b : Nat} (ha : a < 18446744073709551616) (hb : b < 18446744073709551616) : a ||| b < 18446744073709551616 := by
  have := Nat.or_lt_two_pow (n := 64) (x := a) (y := b) (by simpa using ha) (by simpa using hb)
  simpa using this

set_option maxRecDepth 100000 in
set_option maxHeartbeats 8000000 in
theorem reached_any (P : List St) (f blk off N cap : Nat) (w : World) (hP : progOk P = true) (hf : ∀ i, f.testBit i = true → i < P.length) (h : IsP w blk off N P) (hT : DTab w) :
    Calls Tryz.prog 107 #[.slice (some ⟨blk, off, none⟩) N cap, .int .u64 (f : Int)] w fun e w' => (∃ z : Nat, e = .returned (.int .u64 (z : Int)) ∧ Word z (fun q => ∃ p, f.testBit p = true ∧ Fs P p q)) ∧ Below w.heap.size w w' := by
  have hN40 : N ≤ 40 := by have := prog_len2 hP; rw [h.len] at this; omega
  have HC := Lib.hid h.at_
  have HL := Lib.hid h.len
  have HT := Lib.hid (fun W (hW : Below w.heap.size w W) => hT.below hW)
  have HB := Lib.hid (RInv.begin hf)
  have HP := Lib.hid hP
  clear h hT hf hP
  go_enter Tryz.func107, Tryz.ntmps107
  go_wp2_with fail
  go_loopg [5, 6, 7] (unseen 0 N) (fun m es se td wr => ∃ t s e : Nat, es = .int .u64 (e : Int) ∧ se = .int .u64 (s : Int) ∧ td = .int .u64 (t : Int) ∧ Hid (RInv P f t s e ∧ Below w.heap.size w wr ∧ unseen s N = m))
  case atStart => exact ⟨f, 0, 0, rfl, rfl, rfl, HB.out, Below.refl _ _, rfl⟩
  case round =>
    clear HB
    obtain ⟨t, s, e, rfl, rfl, rfl, HI⟩ := hrel
    by_cases h0 : t = 0
    · subst h0
      have W := Lib.hid HI.out.1.done
      have B := Lib.hid HI.out.2.1
      clear HC HL HT HP HI
      go_wp2
      go_ret
      exact ⟨⟨e, rfl, W.out⟩, B.out⟩
    · have hz : ((t : Int) != 0) = true := by simp; omega
      have hlen := prog_len2 HP.out
      have ht : t < 18446744073709551616 := lt64 (N := P.length) (by omega) fun j hj => HI.out.1.lim j (.inl hj)
      have hs : s < 18446744073709551616 := lt64 (N := P.length) (by omega) fun j hj => HI.out.1.lim j (.inr hj)
      have he : e < 18446744073709551616 := lt64 (N := P.length) (by omega) fun j hj => HI.out.1.lim j (.inr ((HI.out.1.ends j).1 hj).1)
      obtain ⟨hbt, hb64⟩ := ctz_bit ht h0
      have TZ := Lib.hid (tz_any t ht h0 wr (HT.out wr HI.out.2.1))
      generalize Lib.ctz 64 t = i at *
      have hiN : i < N := by have := HI.out.1.lim i (.inl hbt); rw [HL.out] at this; exact this
      have hiz : (i : Int) < (N : Int) := by omega
      have O := Lib.hid (prog_at HP.out (show i < P.length by rw [HL.out]; exact hiN))
      have ES := Lib.hid (or_two s i hs hb64)
      have EE := Lib.hid (or_two e i he hb64)
      have hs1 := Lib.hid (or_fit hs (pow_fit hb64))
      have ST := Lib.hid (fun t1 e1 => HI.out.1.step (i := i) (todo1 := t1) (ends1 := e1) HP.out hbt)
      have BW := Lib.hid HI.out.2.1
      have UN := Lib.hid HI.out.2.2
      have EM := Lib.hid (fun q => emv_of (P := P) (p := i) (q := q) HP.out)
      have hiP : Hid (i < P.length) := by show _ < _; rw [HL.out]; exact hiN
      obtain ⟨c0, c1, c2, c3, c4, c5, c6⟩ := HC.out wr HI.out.2.1 i hiN
      have hop : Hid (opS P i = (nthS P i).op) := rfl
      have hX := Lib.hid O.out.x2
      have hX3 := Lib.hid O.out.x3
      have hK := Lib.hid O.out.kind
      clear O hbt h0 HI
      obtain ⟨st, hst⟩ : ∃ st, nthS P i = st := ⟨_, rfl⟩
      rw [hst] at c0 c1 c2 c3 c4 c5 c6 hop hX hX3
      clear hst HC HT
      obtain ⟨s1, hs1e⟩ : ∃ s1, s ||| 2 ^ i = s1 := ⟨_, rfl⟩
      rw [hs1e] at ES hs1 ST
      clear hs1e
      obtain ⟨op, a, b, c, d, x, y⟩ := st
      dsimp only at c0 c1 c2 c3 c4 c5 c6 hop hX hX3
      have B6 : Hid (Below w.heap.size w (wr.alloc (.cells #[.int .i64 op, .int .u64 (a : Int), .int .u64 (b : Int), .int .u64 (c : Int), .int .u64 (d : Int), .int .i64 x, .int .i64 y] 163))) := BW.out.alloc BW.out.size _
      go_wp2_with fail
      refine TZ.out.mono ?_
      rintro e0 w' ⟨rfl, rfl⟩
      clear TZ
      by_cases h2 : op = 2
      · subst h2
        obtain ⟨ex, hx, ey, hy⟩ := hX.out hop.out
        clear hX3 hX
        generalize toX P i = X at *
        generalize toY P i = Y at *
        subst ex ey
        obtain ⟨p, hp⟩ : ∃ p, 2 ^ X ||| 2 ^ Y = p := ⟨_, rfl⟩
        obtain ⟨t1, ht1⟩ : ∃ t1, t ||| p = t1 := ⟨_, rfl⟩
        obtain ⟨t2, ht2⟩ : ∃ t2, minus t1 s1 = t2 := ⟨_, rfl⟩
        have hN64 : P.length ≤ 40 := hlen.2
        have hp64 : p < 18446744073709551616 := by rw [← hp]; exact pow_or_fit (by omega) (by omega)
        have ht164 : t1 < 18446744073709551616 := by rw [← ht1]; exact or_fit ht hp64
        have E1 : Hid (bits .or .u64 (IntKind.u64.wrap (2 ^ X)) (IntKind.u64.wrap (2 ^ Y)) = (p : Int)) := by have := or_twos X Y (by omega) (by omega); rw [hp] at this; exact this
        have E2 : Hid (bits .or .u64 (t : Int) (p : Int) = (t1 : Int)) := by have := bits_or_u64_nat t p ht hp64; rw [ht1] at this; exact this
        have E3 : Hid (bits .andNot .u64 (t1 : Int) (s1 : Int) = (t2 : Int)) := by have := andnot_nat t1 s1 ht164 hs1.out; rw [ht2] at this; exact this
        have R : Hid (RInv P f t2 s1 e ∧ unseen s1 P.length < unseen s P.length) := by
          have := ST.out t1 e (fun j => by
            rw [← ht1, ← hp, or_bit, or_bit, bit_pow, bit_pow, EM.out j]
            constructor
            · rintro (h | h)
              · exact .inl h
              · exact .inr ⟨hiP.out, .inl ⟨hop.out, h⟩⟩
            · rintro (h | ⟨_, ⟨_, h⟩ | ⟨h, _⟩⟩)
              · exact .inl h
              · exact .inr h
              · have := hop.out; omega) (fun j => by
            constructor
            · exact .inl
            · rintro (h | ⟨_, h⟩)
              · exact h
              · have := hop.out; omega)
          rw [ht2] at this
          exact this
        have hX64 : X < 64 := by omega
        have hY64 : Y < 64 := by omega
        clear hp ht1 ht2 ht164 hp64 ST EM hop hiP hK hx hy hN64 EE ht hs he hs1
        go_wp2_with fail
        rw [ES.out]
        go_quiet (fail)
        go_wp2
        rw [E1.out, E2.out, E3.out]
        have BN := Lib.hid (drewN_below B6.out nq)
        clear c0 c1 c2 c3 c4 c5 c6
        go_roundg (unseen s1 N)
        case measure => have := R.out.2; rw [HL.out] at this; rw [UN.out] at this; exact this
        case rel => exact ⟨t2, s1, e, rfl, rfl, rfl, R.out.1, BN.out, rfl⟩
      have h2b : (op == 2) = false := by simpa using h2
      by_cases h3 : op = 3
      · subst h3
        obtain ⟨ex, hx⟩ := hX3.out hop.out
        clear hX3 hX
        generalize toX P i = X at *
        generalize toY P i = Y at *
        subst ex
        obtain ⟨t1, ht1⟩ : ∃ t1, t ||| 2 ^ X = t1 := ⟨_, rfl⟩
        obtain ⟨t2, ht2⟩ : ∃ t2, minus t1 s1 = t2 := ⟨_, rfl⟩
        have hN64 : P.length ≤ 40 := hlen.2
        have ht164 : t1 < 18446744073709551616 := by rw [← ht1]; exact or_fit ht (pow_fit (by omega))
        have E2 : Hid (bits .or .u64 (t : Int) (IntKind.u64.wrap (2 ^ X)) = (t1 : Int)) := by have := or_two t X ht (by omega); rw [ht1] at this; exact this
        have E3 : Hid (bits .andNot .u64 (t1 : Int) (s1 : Int) = (t2 : Int)) := by have := andnot_nat t1 s1 ht164 hs1.out; rw [ht2] at this; exact this
        have R : Hid (RInv P f t2 s1 e ∧ unseen s1 P.length < unseen s P.length) := by
          have := ST.out t1 e (fun j => by
            rw [← ht1, or_bit, bit_pow, EM.out j]
            constructor
            · rintro (h | h)
              · exact .inl h
              · exact .inr ⟨hiP.out, .inr ⟨hop.out, h⟩⟩
            · rintro (h | ⟨_, ⟨h, _⟩ | ⟨_, h⟩⟩)
              · exact .inl h
              · have := hop.out; omega
              · exact .inr h) (fun j => by
            constructor
            · exact .inl
            · rintro (h | ⟨_, h⟩)
              · exact h
              · have := hop.out; omega)
          rw [ht2] at this
          exact this
        have hX64 : X < 64 := by omega
        clear ht1 ht2 ht164 ST EM hop hiP hK hx hN64 EE ht hs he hs1 h2
        go_wp2
        rw [ES.out, E2.out, E3.out]
        clear c0 c1 c2 c3 c4 c5 c6
        go_roundg (unseen s1 N)
        case measure => have := R.out.2; rw [HL.out] at this; rw [UN.out] at this; exact this
        case rel => exact ⟨t2, s1, e, rfl, rfl, rfl, R.out.1, B6.out, rfl⟩
      · have h3b : (op == 3) = false := by simpa using h3
        obtain ⟨e1, he1⟩ : ∃ e1, e ||| 2 ^ i = e1 := ⟨_, rfl⟩
        obtain ⟨t2, ht2⟩ : ∃ t2, minus t s1 = t2 := ⟨_, rfl⟩
        have hop14 : opS P i = 1 ∨ opS P i = 4 := by have := hK.out; rw [hop.out] at this ⊢; omega
        have E3 : Hid (bits .andNot .u64 (t : Int) (s1 : Int) = (t2 : Int)) := by have := andnot_nat t s1 ht hs1.out; rw [ht2] at this; exact this
        have R : Hid (RInv P f t2 s1 e1 ∧ unseen s1 P.length < unseen s P.length) := by
          have := ST.out t e1 (fun j => by
            rw [EM.out j]
            constructor
            · exact .inl
            · rintro (h | ⟨_, ⟨h, _⟩ | ⟨h, _⟩⟩)
              · exact h
              · omega
              · omega) (fun j => by
            rw [← he1, or_bit, bit_pow]
            constructor
            · rintro (h | h)
              · exact .inl h
              · exact .inr ⟨h, hop14⟩
            · rintro (h | ⟨h, _⟩)
              · exact .inl h
              · exact .inr h)
          rw [ht2] at this
          exact this
        rw [he1] at EE
        clear he1 ht2 ST EM hop hiP hK ht hs he hs1 h2 h3 hop14 hX hX3
        go_wp2
        rw [ES.out, EE.out, E3.out]
        clear c0 c1 c2 c3 c4 c5 c6
        go_roundg (unseen s1 N)
        case measure => have := R.out.2; rw [HL.out] at this; rw [UN.out] at this; exact this
        case rel => exact ⟨t2, s1, e1, rfl, rfl, rfl, R.out.1, B6.out, rfl⟩

set_option maxRecDepth 100000 in
set_option maxHeartbeats 4000000 in
theorem next0_any (P : List St) (now ch blk off N cap : Nat) (w : World) (hP : progOk P = true) (hnow : now < 18446744073709551616) (hch : ch < 256) (h : IsP w blk off N P) (hT : DTab w) :
    Calls Tryz.prog 108 #[.slice (some ⟨blk, off, none⟩) N cap, .int .u64 (now : Int), .int .u8 (ch : Int)] w fun e w' => e = .returned (.int .u64 ((vNext P now ch : Nat) : Int)) ∧ Below w.heap.size w w' := by
  have hlen := prog_len2 hP
  rw [h.len] at hlen
  have TK := Lib.hid (takers_any P ch blk off N cap w hch hlen.2 h)
  have RE := Lib.hid (fun f W (hW : Below w.heap.size w W) hf => reached_any P f blk off N cap W hP hf (h.grown hW) (hT.below hW))
  have NW : Hid (∀ z, Word z (fun q => ∃ p, (2 * (now &&& tks P ch N)).testBit p = true ∧ Fs P p q) → z = vNext P now ch) := fun z hz => by rw [← h.len] at hz; exact next_word hP hz
  have NL : Hid (∀ i, (2 * (now &&& tks P ch N)).testBit i = true → i < P.length) := by have := next_lim hP now ch; rw [h.len] at this ⊢; exact this
  have TL : tks P ch N < 18446744073709551616 := lt64 (N := N) (by omega) (tks_lim P ch N)
  have E1 : Hid (bits .and .u64 (now : Int) ((tks P ch N : Nat) : Int) = ((now &&& tks P ch N : Nat) : Int)) := bits_and_u64_nat _ _ hnow TL
  have hl : 2 * (now &&& tks P ch N) < 18446744073709551616 := lt64 (N := N) (by omega) (by have := NL.out; rw [h.len] at this; exact this)
  have E2 : Hid (IntKind.u64.wrap (((now &&& tks P ch N : Nat) : Int) * 2) = ((2 * (now &&& tks P ch N) : Nat) : Int)) := by show _ = _; rw [IntKind.wrap_u64]; omega
  clear h hT hlen hl TL
  generalize tks P ch N = m at *
  obtain ⟨m1, hm1⟩ : ∃ m1, now &&& m = m1 := ⟨_, rfl⟩
  rw [hm1] at NW NL E1 E2
  obtain ⟨m2, hm2⟩ : ∃ m2, 2 * m1 = m2 := ⟨_, rfl⟩
  rw [hm2] at NW NL E2
  clear hm1 hm2
  go_enter Tryz.func108, Tryz.ntmps108
  go_wp2_with fail
  refine TK.out.mono ?_
  rintro e w1 ⟨rfl, b1⟩
  have RE1 := Lib.hid (RE.out m2 w1 b1 NL.out)
  have B1 := Lib.hid b1
  clear b1 TK RE
  go_wp2_with fail
  rw [E1.out, E2.out]
  refine RE1.out.mono ?_
  rintro e w2 ⟨⟨z, rfl, hz⟩, b2⟩
  have hz2 := Lib.hid (NW.out z hz)
  have B2 := Lib.hid (B1.out.trans (b2.mono B1.out.size))
  clear hz b2 RE1 NW NL
  go_wp2
  go_ret
  exact ⟨by rw [hz2.out]; rfl, B2.out⟩

end Go.Proofs.YtlfcjjlgkcfkdaaGreatDoor
namespace Go.Proofs.YtlfcjjlgkcfkdaaGreatDoor
open Go.RowKit
open Sc

theorem bad_match {P : List St} (h : progOk P = false) (S : List Nat) : vMatch P S = false := by
  cases hm : vMatch P S
  · rfl
  · rw [vMatch_iff, h] at hm; simp at hm

set_option maxRecDepth 100000 in
set_option maxHeartbeats 4000000 in
theorem scmatch_any (P : List St) (s : ByteArray) (A : Option Addr) (N cap : Nat) (w : World) (hs : s.size ≤ 1099511627776) (hN : P.length = N) (hbig : N ≤ 1048576) (hcap : N ≤ cap) (h : IsSt w A P) (hT : DTab w) :
    Calls Tryz.prog 75 #[.slice A N cap, .string s] w fun e w' => e = .returned (.bool (vMatch P (txt8 s))) ∧ Below w.heap.size w w' := by
  have CK := Lib.hid (check_any P A N cap w hN hbig hcap h)
  cases hP : progOk P
  · have V := Lib.hid (bad_match hP (txt8 s))
    rw [hP] at CK
    clear h hT hP hN
    go_enter Tryz.func75, Tryz.ntmps75
    go_wp2_with fail
    refine CK.out.mono ?_
    rintro e w1 ⟨rfl, b1⟩
    have B1 := Lib.hid b1
    clear b1 CK
    go_wp2
    go_ret
    exact ⟨by rw [V.out]; rfl, B1.out⟩
  · have hlen := prog_len2 hP
    rw [hN] at hlen
    obtain ⟨blk, off, rfl, hI⟩ := h.isP hN (by omega)
    have RE := Lib.hid (fun W (hW : Below w.heap.size w W) => reached_any P 1 blk off N cap W hP (fun i hi => by
      have : (1 : Nat) = 2 ^ 0 := rfl
      rw [this, bit_pow] at hi; omega) (hI.grown hW) (hT.below hW))
    have NW := Lib.hid (fun z hz => start_word (P := P) (z := z) hP hz)
    have NE := Lib.hid (fun now ch hnow hch W (hW : Below w.heap.size w W) => next0_any P now ch blk off N cap W hP hnow hch (hI.grown hW) (hT.below hW))
    have MT := Lib.hid (fun W (hW : Below w.heap.size w W) => matches_any P blk off N cap W hlen.2 (hI.grown hW))
    have SL : Hid (∀ k, vSet P (txt8 s) k < 18446744073709551616) := fun k => lt64 (N := N) (by omega) fun j hj => by have := vSet_lim P _ k j hj; omega
    have S0 : Hid (vSet P (txt8 s) 0 = vStart P) := rfl
    have SS : Hid (∀ k, vSet P (txt8 s) (k + 1) = vNext P (vSet P (txt8 s) k) ((txt8 s).getD k 0)) := fun k => rfl
    have MF : Hid (vMatch P (txt8 s) = decide (vSet P (txt8 s) (txt8 s).length &&& mts P N ≠ 0)) := by show _ = _; rw [← hN, anyM_mts]; rfl
    have ML : Hid (mts P N < 18446744073709551616) := lt64 (N := N) (by omega) (mts_lim P N)
    have TXL : Hid ((txt8 s).length = s.size) := txt8_len s
    have TX := Lib.hid (fun W k (hk : k < s.size) => txt8_at W s k hk)
    have TB := Lib.hid (fun k => txt8_lt s k)
    rw [hP] at CK
    clear h hT hP hN hI hlen
    obtain ⟨L, hL⟩ : ∃ L, s.size = L := ⟨_, rfl⟩
    rw [hL] at TXL TX hs
    go_enter Tryz.func75, Tryz.ntmps75
    go_wp2_with fail
    refine CK.out.mono ?_
    rintro e w1 ⟨rfl, b1⟩
    have B1 := Lib.hid b1
    have RE1 := Lib.hid (RE.out w1 b1)
    clear b1 CK RE
    go_wp2_with fail
    refine RE1.out.mono ?_
    rintro e w2 ⟨⟨z, rfl, hz⟩, b2⟩
    have hz2 := NW.out z hz
    subst hz2
    have B2 := Lib.hid (B1.out.trans (b2.mono B1.out.size))
    clear hz b2 RE1 NW B1
    rw [← S0.out]
    have V0 : Hid (vSet P (txt8 s) 0 < 18446744073709551616) := SL.out 0
    clear S0
    go_wp2_with fail
    go_loopw [5, 14] (fun z i wr => ∃ k : Nat, k ≤ L ∧ i = .int .i64 (k : Int) ∧ z = .int .u64 ((vSet P (txt8 s) k : Nat) : Int) ∧ Hid (Below w.heap.size w wr)) (fun _ i _ => L - (intOf i).toNat)
    case atStart => exact ⟨0, by omega, rfl, rfl, B2.out⟩
    case round =>
      clear B2
      obtain ⟨k, hk, rfl, rfl, HI⟩ := hrel
      by_cases hkL : k < L
      · have hkz : (k : Int) < (L : Int) := by omega
        have SK := Lib.hid (SS.out k)
        have NK := Lib.hid (NE.out (vSet P (txt8 s) k) ((txt8 s).getD k 0) (SL.out k) (TB.out k) wr HI.out)
        have TK := TX.out wr k hkL
        generalize vSet P (txt8 s) k = m at *
        generalize (txt8 s).getD k 0 = c at *
        clear TX NE SS SL MT MF TB
        go_wp2_with fail
        refine NK.out.mono ?_
        rintro e w3 ⟨rfl, b3⟩
        have B3 := Lib.hid (HI.out.trans (b3.mono HI.out.size))
        clear b3 NK TK
        go_wp2
        go_roundw
        case rel => exact ⟨k + 1, by omega, by go_num, by rw [SK.out], B3.out⟩
        case measure => simp [intOf]; omega
      · obtain rfl : k = L := by omega
        have hkz : ¬ (k : Int) < (k : Int) := by omega
        have MW := Lib.hid (MT.out wr HI.out)
        have SK := Lib.hid (SL.out k)
        have MF2 : Hid (vMatch P (txt8 s) = decide (vSet P (txt8 s) k &&& mts P N ≠ 0)) := by show _ = _; rw [MF.out, TXL.out]
        have E1 := Lib.hid (bits_and_u64_nat (vSet P (txt8 s) k) (mts P N) SK.out ML.out)
        clear TX NE SS SL MT MF TB SK ML
        generalize vSet P (txt8 s) k = m at *
        generalize mts P N = m2 at *
        obtain ⟨m3, hm3⟩ : ∃ m3, m &&& m2 = m3 := ⟨_, rfl⟩
        rw [hm3] at E1 MF2
        clear hm3
        go_wp2_with fail
        refine MW.out.mono ?_
        rintro e w3 ⟨rfl, b3⟩
        have B3 := Lib.hid (HI.out.trans (b3.mono HI.out.size))
        clear b3 MW
        go_wp2
        go_ret
        refine ⟨?_, B3.out⟩
        rw [MF2.out]
        show Ending.returned (.bool (bits .and .u64 (m : Int) (m2 : Int) != 0)) = _
        rw [E1.out]
        congr 2
        rw [Bool.eq_iff_iff]; simp

end Go.Proofs.YtlfcjjlgkcfkdaaGreatDoor
namespace Go.Proofs.YtlfcjjlgkcfkdaaGreatDoor
open Go.RowKit Go.Sort
open Pz

/-- The reference's parser at place i, so many groups deep; bad: it is no pattern. -/
structure RPar (w : World) (P : Nat) (s : ByteArray) (i d : Nat) (b : Bool) : Prop where
  c0 : w.cell? ⟨P, 0, none⟩ = some (.string s)
  c1 : w.cell? ⟨P, 1, none⟩ = some (.int .i64 (i : Int))
  c2 : w.cell? ⟨P, 2, none⟩ = some (.int .i64 (d : Int))
  c3 : w.cell? ⟨P, 3, none⟩ = some (.bool b)
  fr : ∀ j, w.frozen? ⟨P, j, none⟩ = false
  le : i ≤ s.size
  dm : d ≤ 9
  sm : s.size ≤ 40
section
variable {w w' : World} {P i d : Nat} {s : ByteArray} {b : Bool}
theorem RPar.lt (h : RPar w P s i d b) : P < w.heap.size := World.block_lt_of_cell? w _ h.c0
theorem RPar.frame (h : RPar w P s i d b) (hb : w'.heap[P]? = w.heap[P]?) : RPar w' P s i d b :=
  ⟨(World.cell?_of_block (a := ⟨P, 0, none⟩) hb).trans h.c0, (World.cell?_of_block (a := ⟨P, 1, none⟩) hb).trans h.c1, (World.cell?_of_block (a := ⟨P, 2, none⟩) hb).trans h.c2, (World.cell?_of_block (a := ⟨P, 3, none⟩) hb).trans h.c3, fun j => (World.frozen?_of_block (a := ⟨P, j, none⟩) hb).trans (h.fr j), h.le, h.dm, h.sm⟩
theorem RPar.grown (h : RPar w P s i d b) (hb : Below w.heap.size w w') : RPar w' P s i d b := h.frame (hb.block P h.lt)
theorem RPar.drew (h : RPar w P s i d b) (q : Nat) : RPar (w.drewN q) P s i d b := ⟨h.c0, h.c1, h.c2, h.c3, h.fr, h.le, h.dm, h.sm⟩
theorem RPar.put1 (h : RPar w P s i d b) (j : Nat) (hj : j ≤ s.size) : RPar (w.setCell ⟨P, 1, none⟩ (.int .i64 (j : Int))) P s j d b :=
  ⟨(World.cell?_setCell_other _ _ _ _ (by simp)).trans h.c0, World.cell?_setCell_same _ _ _ h.c1, (World.cell?_setCell_other _ _ _ _ (by simp)).trans h.c2, (World.cell?_setCell_other _ _ _ _ (by simp)).trans h.c3, fun k => by rw [World.frozen?_setCell]; exact h.fr k, hj, h.dm, h.sm⟩
theorem RPar.put2 (h : RPar w P s i d b) (j : Nat) (hj : j ≤ 9) : RPar (w.setCell ⟨P, 2, none⟩ (.int .i64 (j : Int))) P s i j b :=
  ⟨(World.cell?_setCell_other _ _ _ _ (by simp)).trans h.c0, (World.cell?_setCell_other _ _ _ _ (by simp)).trans h.c1, World.cell?_setCell_same _ _ _ h.c2, (World.cell?_setCell_other _ _ _ _ (by simp)).trans h.c3, fun k => by rw [World.frozen?_setCell]; exact h.fr k, h.le, hj, h.sm⟩
end
section
variable {W : World} {P i d : Nat} {s : ByteArray}
end
/-- On the way through a function that has the reference's parser: its result's own block is as it was laid. -/
structure RAt (w : World) (P : Nat) (s : ByteArray) (i d : Nat) (b : Bool) (row : Array Value) (ty : TypeId) (W : World) : Prop where
  st : Stp P w W
  pa : RPar W P s i d b
  lt : P < w.heap.size
  r : W.heap[w.heap.size]? = some (.cells row ty (0, 0))
section
variable {w W W' : World} {P i d j d' : Nat} {s : ByteArray} {b b' : Bool} {row : Array Value} {ty : TypeId}
theorem RAt.start (h : RPar w P s i d b) (row : Array Value) (ty : TypeId) : RAt w P s i d b row ty (w.alloc (.cells row ty)) :=
  ⟨Stp.of ((Below.refl _ _).alloc (Nat.le_refl _) _), h.grown ((Below.refl _ _).alloc (Nat.le_refl _) _), h.lt, heap_alloc_new w _⟩
theorem RAt.big (h : RAt w P s i d b row ty W) : w.heap.size + 1 ≤ W.heap.size := (Array.getElem?_eq_some_iff.1 h.r).1
theorem RAt.step (h : RAt w P s i d b row ty W) (st : Stp P W W') (pa : RPar W' P s j d' b') : RAt w P s j d' b' row ty W' :=
  ⟨h.st.trans st, pa, h.lt, (st.block _ (by have := h.big; omega) (by have := h.lt; omega)).trans h.r⟩
theorem RAt.grow (h : RAt w P s i d b row ty W) (hb : Below W.heap.size W W') : RAt w P s i d b row ty W' := h.step (Stp.of hb) (h.pa.grown hb)
theorem RAt.drew (h : RAt w P s i d b row ty W) (q : Nat) : RAt w P s i d b row ty (W.drewN q) := h.step ((Stp.refl _ _).drew q) (h.pa.drew q)
theorem RAt.cell (h : RAt w P s i d b row ty W) {g k : Nat} {v : Value} (hg : w.heap.size < g) : RAt w P s i d b row ty (W.setCell ⟨g, k, none⟩ v) :=
  ⟨⟨h.st.os, h.st.tape, h.st.output, by simpa using h.st.size, fun q h1 h2 => (Below.heap_setCell _ _ _ _ (by show q ≠ g; omega)).trans (h.st.block q h1 h2)⟩, h.pa.frame (Below.heap_setCell _ _ _ _ (by show P ≠ g; have := h.lt; omega)), h.lt, (Below.heap_setCell _ _ _ _ (by show w.heap.size ≠ g; omega)).trans h.r⟩
theorem RAt.fin (h : RAt w P s i d b row ty W) (cs : Array Value) : Stp P w (W.setRow w.heap.size cs) ∧ RPar (W.setRow w.heap.size cs) P s i d b ∧ (W.setRow w.heap.size cs).heap[w.heap.size]? = some (.cells cs ty (0, 0)) :=
  ⟨⟨h.st.os, h.st.tape, h.st.output, by rw [setRow_size]; exact h.st.size, fun k h1 h2 => (setRow_other _ _ _ _ (by omega)).trans (h.st.block k h1 h2)⟩, h.pa.frame (setRow_other _ _ _ _ (by have := h.lt; omega)), setRow_heap _ _ _ _ _ _ h.r⟩
end
/-- What a part of the reference's parser hands back: a tree and where it ended, or any tree, and that it is no pattern. -/
def RRes (w : World) (P : Nat) (s : ByteArray) (d : Nat) (r : Option (Rx × Nat)) (e : Ending) (w' : World) : Prop :=
  ∃ v t, e = .returned v ∧ RxIn (fun b => w.heap.size ≤ b) w' v t ∧ Stp P w w' ∧ ((∃ j, r = some (t, j) ∧ RPar w' P s j d false) ∨ (r = none ∧ ∃ j d', RPar w' P s j d' true))
/-- On the way through class: the parser and the set so far. -/
structure RSt (w : World) (P : Nat) (s : ByteArray) (i d : Nat) (b : Bool) (g : Nat) (W : Nat → Nat) (wr : World) : Prop where
  ra : RAt w P s i d b zero6 135 wr
  ar : Arr wr g W
  hg : w.heap.size < g
section
variable {w wr w' : World} {P i j d g : Nat} {s : ByteArray} {b b' : Bool} {W V : Nat → Nat}
theorem RSt.pg (h : RSt w P s i d b g W wr) : P < g := by have := h.hg; have := h.ra.lt; omega
theorem RSt.step (h : RSt w P s i d b g W wr) (st : Stp P wr w') (pa : RPar w' P s j d b') : RSt w P s j d b' g W w' := ⟨h.ra.step st pa, h.ar.frame (st.block g h.ar.lt (by have := h.pg; omega)), h.hg⟩
theorem RSt.drew (h : RSt w P s i d b g W wr) (q : Nat) : RSt w P s i d b g W (wr.drewN q) := h.step ((Stp.refl _ _).drew q) (h.ra.pa.drew q)
theorem RSt.put1 (h : RSt w P s i d b g W wr) (j : Nat) (hj : j ≤ s.size) : RSt w P s j d b g W (wr.setCell ⟨P, 1, none⟩ (.int .i64 (j : Int))) := h.step (Stp.put _ _ _) (h.ra.pa.put1 j hj)
theorem RSt.cell (h : RSt w P s i d b g W wr) (k x : Nat) (hk : k < 4) (e : ∀ j, j < 4 → V j = if j = k then x else W j) : RSt w P s i d b g V (wr.setCell ⟨g, k, none⟩ (.int .u64 (x : Int))) := ⟨h.ra.cell h.hg, h.ar.put k x hk e, h.hg⟩
end
end Go.Proofs.YtlfcjjlgkcfkdaaGreatDoor
namespace Go.Proofs.YtlfcjjlgkcfkdaaGreatDoor
open Go.RowKit Go.Sort
open Pz

theorem RRes.form {w w' : World} {P d : Nat} {s : ByteArray} {r : Option (Rx × Nat)} {e : Ending} (h : RRes w P s d r e w') :
    ∃ op a b c d1 A n cap t, e = .returned (.agg #[.int .i64 op, .int .u64 ((a : Nat) : Int), .int .u64 ((b : Nat) : Int), .int .u64 ((c : Nat) : Int), .int .u64 ((d1 : Nat) : Int), .slice A n cap]) ∧ RxIn (fun b => w.heap.size ≤ b) w' (.agg (c6 op a b c d1 A n cap)) t ∧ Stp P w w' ∧ ((∃ j, r = some (t, j) ∧ RPar w' P s j d false) ∨ (r = none ∧ ∃ j d', RPar w' P s j d' true)) := by
  obtain ⟨v, t, he, hx, st, hr⟩ := h
  obtain ⟨op, a, b, c, d', A, n, cap, rfl⟩ := hx.form
  exact ⟨op, a, b, c, d', A, n, cap, t, he, hx, st, hr⟩
/-- A literal of one tree. -/
theorem Kids.lit {W : World} {B base : Nat} {x : Rx} {op : Int} {a b c d : Nat} {A : Option Addr} {n cap : Nat} (hb : base ≤ B) (hB : B ≤ W.heap.size) (hx : RxIn (fun b => B ≤ b) W (.agg (c6 op a b c d A n cap)) x) :
    Kids base (W.alloc (.cells (c6 op a b c d A n cap) 135)) (.slice (some ⟨W.heap.size, 0, none⟩) 1 1) [x] := by
  refine ⟨[v6f op a b c d A n cap], rfl, World.ownsRow_lit W _ 1 (by omega) (by decide) rfl, fun j hj => ?_⟩
  obtain rfl : j = 0 := by simpa using hj
  have h2 : RxIn (fun b => B ≤ b ∧ b < W.heap.size) W (val6 (v6f op a b c d A n cap)) x := RxIn.frame (show RxIn (fun b => B ≤ b) W (val6 (v6f op a b c d A n cap)) x from hx) (fun _ _ => rfl) (fun b h1 h2 => ⟨h2, h1⟩)
  exact h2.frame (fun b hq => heap_alloc_old W _ hq.2) (fun b _ hq => ⟨by omega, by simp; omega, fun e => by injection e with e; have e : W.heap.size = _ := e; omega⟩)
theorem RAt.grown {w W W' : World} {P i d : Nat} {s : ByteArray} {b : Bool} {row : Array Value} {ty : TypeId} {o : Option Nat} (h : RAt w P s i d b row ty W) (hg : W.grownBy W' o) (ho : ∀ k, o = some k → w.heap.size < k) : RAt w P s i d b row ty W' := by
  have hb : ∀ k, k < W.heap.size → k ≤ w.heap.size → W'.heap[k]? = W.heap[k]? := fun k h1 h2 => hg.block k h1 (fun e => by have := ho k e.symm; omega)
  have h1 := h.big
  have h2 := h.lt
  exact ⟨⟨hg.os.trans h.st.os, hg.tape.trans h.st.tape, hg.output.trans h.st.output, Nat.le_trans h.st.size hg.size, fun k q1 q2 => (hb k (by omega) (by omega)).trans (h.st.block k q1 q2)⟩, h.pa.frame (hb P (by omega) (by omega)), h2, (hb _ (by omega) (Nat.le_refl _)).trans h.r⟩
end Go.Proofs.YtlfcjjlgkcfkdaaGreatDoor

