/-
  What the program's others, union and span do: sets of four words. Conditions: words have 64 bits.
-/
import Derived.Test.YtjnikeiboefnbaaProg
import Derived.Test.YtjnikeiboefnbaaEa
import Derived.Test.YtjnikeiboefnbaaEd
import Derived.Test.YtjnikeiboefnbaaEi
import Derived.Test.YtjnikeiboefnbaaEl
import Derived.Test.YtjnikeiboefnbaaJa
import Derived.Test.YtjnikeiboefnbaaJb
import Derived.Test.YtjnikeiboefnbaaHd
import Derived.Test.YtjnikeiboefnbaaHe
import Derived.StillTailTactics
import Derived.Laws.AppendOwn
import Derived.Deep.QuietTactic
import Derived.BigQuiet
import Derived.Lib.Bytealg
import Derived.Laws.Externs
import Derived.Laws.CopyOwn
import Derived.Laws.MakeOwn
import Derived.Laws.OwnMore
import Derived.OwnWalk
import Derived.WalkKit
import Derived.WalkSpells
import Derived.WalkLawsBesides
import Derived.Lib.Hide
import Derived.Below
import Derived.Lib.QuietBelow
import Derived.Laws.StructEq
import Derived.KernelRfl
import Derived.Deep.RegionHeld3
namespace Go.Proofs.Ytjnikeiboefnbaa
open Go.RowKit Go.Sort
open Pz

/-- Four words as a value. -/
def set4 (W : Nat → Nat) : Value := .agg #[.int .u64 (W 0 : Int), .int .u64 (W 1 : Int), .int .u64 (W 2 : Int), .int .u64 (W 3 : Int)]
/-- Words that fit. -/
def Fits4 (W : Nat → Nat) : Prop := ∀ k, W k < 18446744073709551616
theorem xor_all (n : Nat) (h : n < 18446744073709551616) : bits .xor .u64 IntKind.u64.max (n : Int) = ((18446744073709551615 - n : Nat) : Int) := by
  have e := u64_xor_nat 18446744073709551615 n (by omega) h
  have : 18446744073709551615 ^^^ n = 18446744073709551615 - n := by
    have h2 := BitVec.toNat_not (x := BitVec.ofNat 64 n)
    have h3 : (~~~(BitVec.ofNat 64 n)) = (BitVec.allOnes 64) ^^^ (BitVec.ofNat 64 n) := by
      apply BitVec.eq_of_getElem_eq
      intro i hi
      simp only [BitVec.getElem_not, BitVec.getElem_xor, BitVec.getElem_allOnes, Bool.true_xor]
    rw [h3, BitVec.toNat_xor, BitVec.toNat_allOnes, BitVec.toNat_ofNat, Nat.mod_eq_of_lt h] at h2
    omega
  rw [this] at e
  exact e
theorem or_nat (a b : Nat) (h1 : a < 18446744073709551616) (h2 : b < 18446744073709551616) : bits .or .u64 (a : Int) (b : Int) = ((a ||| b : Nat) : Int) := u64_or_nat a b h1 h2
theorem neg_fits (W : Nat → Nat) : Fits4 (neg W) := fun k => by unfold neg; omega
theorem join_fits {V W : Nat → Nat} (h1 : Fits4 V) (h2 : Fits4 W) : Fits4 (join V W) := fun k => Nat.or_lt_two_pow (n := 64) (h1 k) (h2 k)
theorem put_fits {W : Nat → Nat} (h : Fits4 W) (c : Nat) : Fits4 (put W c) := fun k => by
  unfold put
  split
  · exact Nat.or_lt_two_pow (n := 64) (h k) (Nat.pow_lt_pow_right (by omega) (by omega))
  · exact h k
theorem none4_fits : Fits4 none4 := fun _ => by unfold none4; omega
theorem span_fits {W : Nat → Nat} (h : Fits4 W) (lo : Nat) : ∀ n, Fits4 (span W lo n)
  | 0 => h
  | n + 1 => put_fits (span_fits h lo n) _

/-- Four words in a block. -/
structure Arr (w : World) (g : Nat) (W : Nat → Nat) : Prop where
  c : ∀ k, k < 4 → w.cell? ⟨g, k, none⟩ = some (.int .u64 (W k : Int))
  f : ∀ k, w.frozen? ⟨g, k, none⟩ = false
theorem Arr.lt {w : World} {g : Nat} {W : Nat → Nat} (h : Arr w g W) : g < w.heap.size := World.block_lt_of_cell? w _ (h.c 0 (by omega))
theorem Arr.frame {w w' : World} {g : Nat} {W : Nat → Nat} (h : Arr w g W) (hb : w'.heap[g]? = w.heap[g]?) : Arr w' g W := ⟨fun k hk => (World.cell?_of_block (a := ⟨g, k, none⟩) hb).trans (h.c k hk), fun k => (World.frozen?_of_block (a := ⟨g, k, none⟩) hb).trans (h.f k)⟩
theorem Arr.grown {w w' : World} {g : Nat} {W : Nat → Nat} (h : Arr w g W) (hb : Below w.heap.size w w') : Arr w' g W := h.frame (hb.block g h.lt)
theorem Arr.drew {w : World} {g : Nat} {W : Nat → Nat} (h : Arr w g W) : Arr w.drew g W := ⟨h.c, h.f⟩
theorem Arr.put {w : World} {g : Nat} {W W' : Nat → Nat} (h : Arr w g W) (k x : Nat) (hk : k < 4) (e : ∀ j, j < 4 → W' j = if j = k then x else W j) : Arr (w.setCell ⟨g, k, none⟩ (.int .u64 (x : Int))) g W' := by
  refine ⟨fun j hj => ?_, fun j => by rw [World.frozen?_setCell]; exact h.f j⟩
  rw [e j hj]
  by_cases q : j = k
  · subst q; rw [if_pos rfl]; exact World.cell?_setCell_same _ _ _ (h.c j hk)
  · rw [if_neg q]; exact (World.cell?_setCell_other _ _ _ _ (by simp)).trans (h.c j hj)
theorem Arr.other {w : World} {g g' k : Nat} {W : Nat → Nat} {v : Value} (h : Arr w g W) (hne : g ≠ g') : Arr (w.setCell ⟨g', k, none⟩ v) g W := h.frame (Below.heap_setCell _ _ _ g hne)
theorem Arr.of {w : World} {g : Nat} {W : Nat → Nat} {ty : TypeId} (h : w.heap[g]? = some (.cells #[.int .u64 (W 0 : Int), .int .u64 (W 1 : Int), .int .u64 (W 2 : Int), .int .u64 (W 3 : Int)] ty (0, 0))) : Arr w g W := by
  refine ⟨fun k hk => ?_, fun k => by rw [World.frozen?, h]; simp⟩
  rw [cell_of_row _ _ _ _ _ _ h]
  match k, hk with
  | 0, _ => rfl
  | 1, _ => rfl
  | 2, _ => rfl
  | 3, _ => rfl
theorem Try.size4 : (Try.prog.info? 23).map (·.size) = some 4 := by kernel_rfl
def zero4 : Array Value := #[.int .u64 0, .int .u64 0, .int .u64 0, .int .u64 0]

set_option maxRecDepth 100000 in
set_option maxHeartbeats 2000000 in
theorem others_any (W : Nat → Nat) (hW : Fits4 W) (w : World) :
    Calls Try.prog 49 #[set4 W] w fun e w' => e = .returned (set4 (neg W)) ∧ Below w.heap.size w w' := by
  have h0 := xor_all _ (hW 0)
  have h1 := xor_all _ (hW 1)
  have h2 := xor_all _ (hW 2)
  have h3 := xor_all _ (hW 3)
  clear hW
  unfold set4 neg
  generalize W 0 = a at *
  generalize W 1 = b at *
  generalize W 2 = c at *
  generalize W 3 = d at *
  go_enter Try.func49, Try.ntmps49
  go_wp2
  refine wp_loop_rounds 5 ?_
  iterate 5 (rw [rounds_succ]; go_wp2)
  have hh := heap_alloc_new (w.alloc (.cells #[.int .u64 ((18446744073709551615 - a : Nat) : Int), .int .u64 ((18446744073709551615 - b : Nat) : Int), .int .u64 ((18446744073709551615 - c : Nat) : Int), .int .u64 ((18446744073709551615 - d : Nat) : Int)] 23)) (.cells #[.int .u64 ((18446744073709551615 - a : Nat) : Int), .int .u64 ((18446744073709551615 - b : Nat) : Int), .int .u64 ((18446744073709551615 - c : Nat) : Int), .int .u64 ((18446744073709551615 - d : Nat) : Int)] 23)
  rw [show (w.alloc (.cells #[.int .u64 ((18446744073709551615 - a : Nat) : Int), .int .u64 ((18446744073709551615 - b : Nat) : Int), .int .u64 ((18446744073709551615 - c : Nat) : Int), .int .u64 ((18446744073709551615 - d : Nat) : Int)] 23)).heap.size = w.heap.size + 1 by simp] at hh
  refine bodyPost_ret (results_cell_row rfl _ _ (w.heap.size + 1) 23 _ (0, 0) _ rfl hh Try.underlying23 rfl Try.size4) rfl ⟨rfl, ((Below.refl _ _).alloc (Nat.le_refl _) _).alloc (by simp) _⟩

/-- What union's loop keeps. -/
structure UInv (w : World) (g : Nat) (V W : Nat → Nat) (k : Nat) (wr : World) : Prop where
  below : Below w.heap.size w wr
  ge : w.heap.size ≤ g
  a : Arr wr g (fun j => if j < k then V j ||| W j else V j)
  b : Arr wr (g + 1) W
  r : wr.heap[g + 2]? = some (.cells zero4 23 (0, 0))
theorem UInv.start (w : World) (V W : Nat → Nat) : UInv w w.heap.size V W 0 (((w.alloc (.cells #[.int .u64 (V 0 : Int), .int .u64 (V 1 : Int), .int .u64 (V 2 : Int), .int .u64 (V 3 : Int)] 23)).alloc (.cells #[.int .u64 (W 0 : Int), .int .u64 (W 1 : Int), .int .u64 (W 2 : Int), .int .u64 (W 3 : Int)] 23)).alloc (.cells zero4 23)) := by
  have e1 := heap_alloc_new w (.cells #[.int .u64 (V 0 : Int), .int .u64 (V 1 : Int), .int .u64 (V 2 : Int), .int .u64 (V 3 : Int)] 23)
  have b1 : Below w.heap.size w (w.alloc (.cells #[.int .u64 (V 0 : Int), .int .u64 (V 1 : Int), .int .u64 (V 2 : Int), .int .u64 (V 3 : Int)] 23)) := (Below.refl _ _).alloc (Nat.le_refl _) _
  have z1 : (w.alloc (.cells #[.int .u64 (V 0 : Int), .int .u64 (V 1 : Int), .int .u64 (V 2 : Int), .int .u64 (V 3 : Int)] 23)).heap.size = w.heap.size + 1 := by simp
  generalize w.alloc (.cells #[.int .u64 (V 0 : Int), .int .u64 (V 1 : Int), .int .u64 (V 2 : Int), .int .u64 (V 3 : Int)] 23) = w1 at *
  have e2 := heap_alloc_new w1 (.cells #[.int .u64 (W 0 : Int), .int .u64 (W 1 : Int), .int .u64 (W 2 : Int), .int .u64 (W 3 : Int)] 23)
  have e3 := heap_alloc_old w1 (.cells #[.int .u64 (W 0 : Int), .int .u64 (W 1 : Int), .int .u64 (W 2 : Int), .int .u64 (W 3 : Int)] 23) (r := w.heap.size) (by omega)
  have b2 := b1.alloc (by omega) (.cells #[.int .u64 (W 0 : Int), .int .u64 (W 1 : Int), .int .u64 (W 2 : Int), .int .u64 (W 3 : Int)] 23)
  have z2 : (w1.alloc (.cells #[.int .u64 (W 0 : Int), .int .u64 (W 1 : Int), .int .u64 (W 2 : Int), .int .u64 (W 3 : Int)] 23)).heap.size = w.heap.size + 2 := by simp; omega
  rw [z1] at e2
  generalize w1.alloc (.cells #[.int .u64 (W 0 : Int), .int .u64 (W 1 : Int), .int .u64 (W 2 : Int), .int .u64 (W 3 : Int)] 23) = w2 at *
  have e4 := heap_alloc_new w2 (.cells zero4 23)
  rw [z2] at e4
  exact ⟨b2.alloc (by omega) _, Nat.le_refl _, (Arr.of (W := V) (e3.trans e1)).frame (heap_alloc_old w2 _ (by omega)), (Arr.of (W := W) e2).frame (heap_alloc_old w2 _ (by omega)), e4⟩
theorem UInv.next {w wr : World} {g k : Nat} {V W : Nat → Nat} (h : UInv w g V W k wr) (hk : k < 4) : UInv w g V W (k + 1) (wr.drew.setCell ⟨g, k, none⟩ (.int .u64 ((V k ||| W k : Nat) : Int))) := by
  refine ⟨(h.below.drew).setCell h.ge _, h.ge, h.a.drew.put _ _ hk (fun j _ => ?_), h.b.drew.other (by omega), (Below.heap_setCell _ _ _ _ (by simp)).trans h.r⟩
  show (if j < k + 1 then _ else _) = _
  by_cases e : j = k
  · subst e; simp
  · rw [if_neg e]
    by_cases q : j < k
    · rw [if_pos (by omega), if_pos q]
    · rw [if_neg (by omega), if_neg q]
set_option maxRecDepth 100000 in
set_option maxHeartbeats 2000000 in
theorem union_any (V W : Nat → Nat) (hV : Fits4 V) (hW : Fits4 W) (w : World) :
    Calls Try.prog 59 #[set4 V, set4 W] w fun e w' => e = .returned (set4 (join V W)) ∧ Below w.heap.size w w' := by
  have E := Lib.hid (fun k => or_nat _ _ (hV k) (hW k))
  clear hW hV
  have IN := Lib.hid (UInv.start w V W)
  unfold set4 join
  go_enter Try.func59, Try.ntmps59
  go_wp2
  unfold zero4 at IN
  generalize ((w.alloc (.cells #[.int .u64 (V 0 : Int), .int .u64 (V 1 : Int), .int .u64 (V 2 : Int), .int .u64 (V 3 : Int)] 23)).alloc (.cells #[.int .u64 (W 0 : Int), .int .u64 (W 1 : Int), .int .u64 (W 2 : Int), .int .u64 (W 3 : Int)] 23)).alloc (.cells #[.int .u64 0, .int .u64 0, .int .u64 0, .int .u64 0] 23) = w0 at IN ⊢
  go_loopw [6] (fun i wr => ∃ k : Nat, k ≤ 4 ∧ i = .int .i64 (k : Int) ∧ Hid (UInv w w.heap.size V W k wr)) (fun i _ => 4 - (intOf i).toNat)
  case atStart => exact ⟨0, by omega, rfl, IN⟩
  case round =>
    clear IN
    obtain ⟨k, hk, rfl, HI⟩ := hrel
    by_cases h4 : k < 4
    · have c1 := HI.out.a.c k h4
      have c2 := HI.out.b.c k h4
      have f1 := HI.out.a.f k
      rw [if_neg (by omega)] at c1
      have ek := E.out k
      have hkz : (k : Int) < 4 := by omega
      have NX := Lib.hid (HI.out.next h4)
      clear HI
      go_wp2
      go_still_tail 8, (by kernel_rfl)
      change wpList _ _ _ _ _ wr.drew
      go_wp2
      go_roundw
      case rel => exact ⟨k + 1, by omega, by go_num, NX⟩
      case measure => simp [intOf]; omega
    · obtain rfl : k = 4 := by omega
      have c0 := HI.out.a.c 0 (by omega)
      have c1 := HI.out.a.c 1 (by omega)
      have c2 := HI.out.a.c 2 (by omega)
      have c3 := HI.out.a.c 3 (by omega)
      rw [if_pos (by omega)] at c0 c1 c2 c3
      have B := Lib.hid HI.out.below
      have R := Lib.hid HI.out.r
      have e4 : (((4 : Nat) : Int) < 4) = False := by simp
      clear HI
      go_wp2_with (refine wpList_store_row rfl 23 (.tmp 4) (.tmp 18) rfl (w.heap.size + 2) #[.int .u64 ((V 0 ||| W 0 : Nat) : Int), .int .u64 ((V 1 ||| W 1 : Nat) : Int), .int .u64 ((V 2 ||| W 2 : Nat) : Int), .int .u64 ((V 3 ||| W 3 : Nat) : Int)] rfl rfl 23 _ R.out Try.size4 rfl (by simp [Value.oneCell']) ?_)
      refine bodyPost_ret (results_cell_row rfl _ _ (w.heap.size + 2) 23 _ (0, 0) _ rfl (setRow_heap _ _ _ _ _ _ R.out) Try.underlying23 rfl Try.size4) rfl ⟨rfl, ?_⟩
      have b := B.out
      exact ⟨b.os, b.tape, b.output, by rw [setRow_size]; exact b.size, fun q hq => (setRow_other _ _ _ _ (by omega)).trans (b.block q hq)⟩

/-- What span's loop keeps. -/
structure SInv (w : World) (lo k : Nat) (wr : World) : Prop where
  below : Below w.heap.size w wr
  a : Arr wr (w.heap.size + 1) (span none4 lo k)
  r : wr.heap[w.heap.size]? = some (.cells zero4 23 (0, 0))
theorem SInv.start (w : World) (lo : Nat) : SInv w lo 0 ((w.alloc (.cells zero4 23)).alloc (.cells zero4 23)) := by
  have e1 := heap_alloc_new w (.cells zero4 23)
  have b1 : Below w.heap.size w (w.alloc (.cells zero4 23)) := (Below.refl _ _).alloc (Nat.le_refl _) _
  have z1 : (w.alloc (.cells zero4 23)).heap.size = w.heap.size + 1 := by simp
  generalize w.alloc (.cells zero4 23) = w1 at *
  have e2 := heap_alloc_new w1 (.cells zero4 23)
  rw [z1] at e2
  exact ⟨b1.alloc (by omega) _, Arr.of (W := none4) e2, (heap_alloc_old w1 _ (by omega)).trans e1⟩
theorem SInv.next {w wr : World} {lo k : Nat} (h : SInv w lo k wr) (hc : lo + k < 256) : SInv w lo (k + 1) (wr.drew.setCell ⟨w.heap.size + 1, (lo + k) / 64, none⟩ (.int .u64 ((span none4 lo k ((lo + k) / 64) ||| 2 ^ ((lo + k) % 64) : Nat) : Int))) := by
  refine ⟨(h.below.drew).setCell (by simp) _, h.a.drew.put _ _ (by omega) (fun j _ => ?_), (Below.heap_setCell _ _ _ _ (by simp)).trans h.r⟩
  show put (span none4 lo k) (lo + k) j = _
  unfold put
  by_cases e : j = (lo + k) / 64
  · rw [if_pos e, if_pos e, e]
  · rw [if_neg e, if_neg e]
theorem or_wrap (x c : Nat) (h : x < 18446744073709551616) : bits .or .u64 (x : Int) (IntKind.u64.wrap (2 ^ (c % 64))) = ((x ||| 2 ^ (c % 64) : Nat) : Int) := by
  have h2 : 2 ^ (c % 64) < 18446744073709551616 := Nat.pow_lt_pow_right (a := 2) (n := 64) (by omega) (by omega)
  have e : IntKind.u64.wrap (2 ^ (c % 64)) = ((2 ^ (c % 64) : Nat) : Int) := by
    have e2 : ((2 : Int) ^ (c % 64)) = ((2 ^ (c % 64) : Nat) : Int) := by simp
    rw [e2]
    generalize 2 ^ (c % 64) = q at *
    rw [IntKind.wrap_u64]; omega
  rw [e]
  exact or_nat x _ h h2
set_option maxRecDepth 100000 in
set_option maxHeartbeats 2000000 in
theorem span_any (lo hi : Nat) (hl : lo < 256) (hh : hi < 256) (w : World) :
    Calls Try.prog 51 #[.int .u8 (lo : Int), .int .u8 (hi : Int)] w fun e w' => e = .returned (set4 (span none4 lo (hi + 1 - lo))) ∧ Below w.heap.size w w' := by
  have IN := Lib.hid (SInv.start w lo)
  go_enter Try.func51, Try.ntmps51
  go_wp2
  unfold zero4 at IN
  generalize ((w.alloc (.cells #[.int .u64 0, .int .u64 0, .int .u64 0, .int .u64 0] 23)).alloc (.cells #[.int .u64 0, .int .u64 0, .int .u64 0, .int .u64 0] 23)) = w0 at IN ⊢
  go_loopw [6] (fun i wr => ∃ k : Nat, k ≤ hi + 1 - lo ∧ i = .int .i64 ((lo + k : Nat) : Int) ∧ Hid (SInv w lo k wr)) (fun i _ => hi + 1 - (intOf i).toNat)
  case atStart => exact ⟨0, by omega, rfl, IN⟩
  case round =>
    clear IN
    obtain ⟨k, hk, rfl, HI⟩ := hrel
    by_cases h4 : k < hi + 1 - lo
    · obtain ⟨c, hc⟩ : ∃ c, lo + k = c := ⟨_, rfl⟩
      have NX := HI.out.next (by omega)
      have c1 := HI.out.a.c (c / 64) (by omega)
      have f1 := HI.out.a.f (c / 64)
      rw [hc] at NX ⊢
      have EK : Hid (bits .or .u64 (span none4 lo k (c / 64) : Int) (IntKind.u64.wrap (2 ^ (c % 64))) = ((span none4 lo k (c / 64) ||| 2 ^ (c % 64) : Nat) : Int)) := or_wrap _ c (span_fits none4_fits lo k _)
      have NX := Lib.hid NX
      have hkz : (c : Int) ≤ (hi : Int) := by omega
      have HC := Lib.hid hc
      have b1 : c < 256 := by omega
      clear HI hc
      generalize span none4 lo k (c / 64) = x at *
      have q1 : IntKind.i64.wrap ((c : Int) / 64) = (c : Int) / 64 := by rw [IntKind.wrap_i64]; omega
      have q2 : IntKind.i64.wrap ((c : Int) % 64) = (c : Int) % 64 := by rw [IntKind.wrap_i64]; omega
      have q9 : (c : Int).tmod 64 = (c : Int) % 64 := Int.tmod_eq_emod_of_nonneg (by omega)
      have q3 : (c : Int) / 64 < 4 := by omega
      have q4 : (0 : Int) ≤ (c : Int) / 64 := by omega
      have q5 : ((c : Int) / 64).toNat = c / 64 := by omega
      have q6 : (0 : Int) ≤ (c : Int) % 64 := by omega
      have q7 : ((c : Int) % 64).toNat = c % 64 := by omega
      have q8 : (c : Int) % 64 < 64 := by omega
      go_wp2
      go_still_tail 9, (by kernel_rfl)
      change wpList _ _ _ _ _ wr.drew
      rw [EK.out]
      clear q1 q2 q3 q4 q5 q6 q7 q8 q9
      go_wp2
      go_roundw
      case rel => exact ⟨k + 1, by omega, by have := HC.out; go_num, NX⟩
      case measure => have := HC.out; simp [intOf]; omega
    · obtain rfl : k = hi + 1 - lo := by omega
      have hkz : ¬ ((lo + (hi + 1 - lo) : Nat) : Int) ≤ (hi : Int) := by omega
      have c0 := HI.out.a.c 0 (by omega)
      have c1 := HI.out.a.c 1 (by omega)
      have c2 := HI.out.a.c 2 (by omega)
      have c3 := HI.out.a.c 3 (by omega)
      have B := Lib.hid HI.out.below
      have R := Lib.hid HI.out.r
      clear HI
      obtain ⟨U, hU⟩ : ∃ U, span none4 lo (hi + 1 - lo) = U := ⟨_, rfl⟩
      rw [hU] at c0 c1 c2 c3
      have HU := Lib.hid hU
      clear hU
      generalize lo + (hi + 1 - lo) = c at *
      go_wp2_with (refine wpList_store_row rfl 23 (.tmp 4) (.tmp 24) rfl w.heap.size #[.int .u64 (U 0 : Int), .int .u64 (U 1 : Int), .int .u64 (U 2 : Int), .int .u64 (U 3 : Int)] rfl rfl 23 _ R.out Try.size4 rfl (by simp [Value.oneCell']) ?_)
      refine bodyPost_ret (results_cell_row rfl _ _ w.heap.size 23 _ (0, 0) _ rfl (setRow_heap _ _ _ _ _ _ R.out) Try.underlying23 rfl Try.size4) rfl ⟨by rw [HU.out]; rfl, ?_⟩
      have b := B.out
      exact ⟨b.os, b.tape, b.output, by rw [setRow_size]; exact b.size, fun q hq => (setRow_other _ _ _ _ (by omega)).trans (b.block q hq)⟩

end Go.Proofs.Ytjnikeiboefnbaa
