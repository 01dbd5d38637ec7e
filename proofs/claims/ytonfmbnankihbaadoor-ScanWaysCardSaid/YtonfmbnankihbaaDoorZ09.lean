/-
  What the program's others, union and span do: sets of four words. Conditions: words have 64 bits.
  Trees that lie in known blocks; a slice of trees that one owns, appended to. Conditions: at most 100 of them.
-/
import Derived.Test.YtonfmbnankihbaaDoorProg
import Derived.Test.YtonfmbnankihbaaDoorZ01
import Derived.Test.YtonfmbnankihbaaDoorZ02
import Derived.Test.YtonfmbnankihbaaDoorZ04
import Derived.Test.YtonfmbnankihbaaDoorZ08
import Derived.Test.YtonfmbnankihbaaDoorZ03
import Derived.Test.YtonfmbnankihbaaDoorZ06
import Derived.Test.YtonfmbnankihbaaDoorZ07
import Derived.StillTailTactics
import Derived.WalkKit
import Derived.WalkSpells
import Derived.WalkLawsBesides
import Derived.Lib.Hide
import Derived.Below
import Derived.BigQuiet
import Derived.Lib.QuietBelow
import Derived.Laws.StructEq
import Derived.KernelRfl
import Derived.Deep.RegionHeld3
import Derived.Laws.MakeOwn
import Derived.Laws.OwnMore
import Derived.OwnWalk
import Derived.Laws.AppendOwn
import Derived.Laws.CopyOwn
import Derived.Deep.QuietTactic
import Derived.Lib.Bytealg
import Derived.Laws.Externs
import Derived.Maps.AppendAt
namespace Go.Proofs.YtonfmbnankihbaaDoor
open Go.RowKit Go.Sort
open Pz

/-- Four words as a value. -/
def set4 (W : Nat → Nat) : Value := .agg #[.int .u64 (W 0 : Int), .int .u64 (W 1 : Int), .int .u64 (W 2 : Int), .int .u64 (W 3 : Int)]
/-- Words that fit. -/
def Fits4 (W : Nat → Nat) : Prop := ∀ k, W k < 18446744073709551616
theorem xor_all (n : Nat) (h : n < 18446744073709551616) : bits .xor .u64 IntKind.u64.max (n : Int) = ((18446744073709551615 - n : Nat) : Int) := by
  have e := u64_xor_nat 18446744073709551615 n (by omega) h
  have : 18446744073709551615 ^^^ n = 18446744073709551615 - n := by
    have h2 := BitVec.toNat_not (x := BitVec.ofNat 64 n)
    have h3 : (~~~(BitVec.ofNat 64 n)) = (BitVec.allOnes 64) ^^^ (BitVec.ofNat 64 n) := by
      apply BitVec.eq_of_getElem_eq
      intro i hi
      simp only [BitVec.getElem_not, BitVec.getElem_xor, BitVec.getElem_allOnes, Bool.true_xor]
    rw [h3, BitVec.toNat_xor, BitVec.toNat_allOnes, BitVec.toNat_ofNat, Nat.mod_eq_of_lt h] at h2
    omega
  rw [this] at e
  exact e
theorem or_nat (a b : Nat) (h1 : a < 18446744073709551616) (h2 : b < 18446744073709551616) : bits .or .u64 (a : Int) (b : Int) = ((a ||| b : Nat) : Int) := u64_or_nat a b h1 h2
theorem neg_fits (W : Nat → Nat) : Fits4 (neg W) := fun k => by unfold neg; omega
theorem join_fits {V W : Nat → Nat} (h1 : Fits4 V) (h2 : Fits4 W) : Fits4 (join V W) := fun k => Nat.or_lt_two_pow (n := 64) (h1 k) (h2 k)
theorem put_fits {W : Nat → Nat} (h : Fits4 W) (c : Nat) : Fits4 (put W c) := fun k => by
  unfold put
  split
  · exact Nat.or_lt_two_pow (n := 64) (h k) (Nat.pow_lt_pow_right (by omega) (by omega))
  · exact h k
theorem none4_fits : Fits4 none4 := fun _ => by unfold none4; omega
theorem span_fits {W : Nat → Nat} (h : Fits4 W) (lo : Nat) : ∀ n, Fits4 (span W lo n)
  | 0 => h
  | n + 1 => put_fits (span_fits h lo n) _

/-- Four words in a block. -/
structure Arr (w : World) (g : Nat) (W : Nat → Nat) : Prop where
  c : ∀ k, k < 4 → w.cell? ⟨g, k, none⟩ = some (.int .u64 (W k : Int))
  f : ∀ k, w.frozen? ⟨g, k, none⟩ = false
theorem Arr.lt {w : World} {g : Nat} {W : Nat → Nat} (h : Arr w g W) : g < w.heap.size := World.block_lt_of_cell? w _ (h.c 0 (by omega))
theorem Arr.frame {w w' : World} {g : Nat} {W : Nat → Nat} (h : Arr w g W) (hb : w'.heap[g]? = w.heap[g]?) : Arr w' g W := ⟨fun k hk => (World.cell?_of_block (a := ⟨g, k, none⟩) hb).trans (h.c k hk), fun k => (World.frozen?_of_block (a := ⟨g, k, none⟩) hb).trans (h.f k)⟩
theorem Arr.grown {w w' : World} {g : Nat} {W : Nat → Nat} (h : Arr w g W) (hb : Below w.heap.size w w') : Arr w' g W := h.frame (hb.block g h.lt)
theorem Arr.drew {w : World} {g : Nat} {W : Nat → Nat} (h : Arr w g W) : Arr w.drew g W := ⟨h.c, h.f⟩
theorem Arr.put {w : World} {g : Nat} {W W' : Nat → Nat} (h : Arr w g W) (k x : Nat) (hk : k < 4) (e : ∀ j, j < 4 → W' j = if j = k then x else W j) : Arr (w.setCell ⟨g, k, none⟩ (.int .u64 (x : Int))) g W' := by
  refine ⟨fun j hj => ?_, fun j => by rw [World.frozen?_setCell]; exact h.f j⟩
  rw [e j hj]
  by_cases q : j = k
  · subst q; rw [if_pos rfl]; exact World.cell?_setCell_same _ _ _ (h.c j hk)
  · rw [if_neg q]; exact (World.cell?_setCell_other _ _ _ _ (by simp)).trans (h.c j hj)
theorem Arr.other {w : World} {g g' k : Nat} {W : Nat → Nat} {v : Value} (h : Arr w g W) (hne : g ≠ g') : Arr (w.setCell ⟨g', k, none⟩ v) g W := h.frame (Below.heap_setCell _ _ _ g hne)
theorem Arr.of {w : World} {g : Nat} {W : Nat → Nat} {ty : TypeId} (h : w.heap[g]? = some (.cells #[.int .u64 (W 0 : Int), .int .u64 (W 1 : Int), .int .u64 (W 2 : Int), .int .u64 (W 3 : Int)] ty (0, 0))) : Arr w g W := by
  refine ⟨fun k hk => ?_, fun k => by rw [World.frozen?, h]; simp⟩
  rw [cell_of_row _ _ _ _ _ _ h]
  match k, hk with
  | 0, _ => rfl
  | 1, _ => rfl
  | 2, _ => rfl
  | 3, _ => rfl
theorem Tryd.size4 : (Tryd.prog.info? 31).map (·.size) = some 4 := by kernel_rfl
def zero4 : Array Value := #[.int .u64 0, .int .u64 0, .int .u64 0, .int .u64 0]

set_option maxRecDepth 100000 in
set_option maxHeartbeats 2000000 in
theorem others_any (W : Nat → Nat) (hW : Fits4 W) (w : World) :
    Calls Tryd.prog 80 #[set4 W] w fun e w' => e = .returned (set4 (neg W)) ∧ Below w.heap.size w w' := by
  have h0 := xor_all _ (hW 0)
  have h1 := xor_all _ (hW 1)
  have h2 := xor_all _ (hW 2)
  have h3 := xor_all _ (hW 3)
  clear hW
  unfold set4 neg
  generalize W 0 = a at *
  generalize W 1 = b at *
  generalize W 2 = c at *
  generalize W 3 = d at *
  go_enter Tryd.func80, Tryd.ntmps80
  go_wp2
  refine wp_loop_rounds 5 ?_
  iterate 5 (rw [rounds_succ]; go_wp2)
  have hh := heap_alloc_new (w.alloc (.cells #[.int .u64 ((18446744073709551615 - a : Nat) : Int), .int .u64 ((18446744073709551615 - b : Nat) : Int), .int .u64 ((18446744073709551615 - c : Nat) : Int), .int .u64 ((18446744073709551615 - d : Nat) : Int)] 31)) (.cells #[.int .u64 ((18446744073709551615 - a : Nat) : Int), .int .u64 ((18446744073709551615 - b : Nat) : Int), .int .u64 ((18446744073709551615 - c : Nat) : Int), .int .u64 ((18446744073709551615 - d : Nat) : Int)] 31)
  rw [show (w.alloc (.cells #[.int .u64 ((18446744073709551615 - a : Nat) : Int), .int .u64 ((18446744073709551615 - b : Nat) : Int), .int .u64 ((18446744073709551615 - c : Nat) : Int), .int .u64 ((18446744073709551615 - d : Nat) : Int)] 31)).heap.size = w.heap.size + 1 by simp] at hh
  refine bodyPost_ret (results_cell_row rfl _ _ (w.heap.size + 1) 31 _ (0, 0) _ rfl hh Tryd.underlying31 rfl Tryd.size4) rfl ⟨rfl, ((Below.refl _ _).alloc (Nat.le_refl _) _).alloc (by simp) _⟩

/-- What union's loop keeps. -/
structure UInv (w : World) (g : Nat) (V W : Nat → Nat) (k : Nat) (wr : World) : Prop where
  below : Below w.heap.size w wr
  ge : w.heap.size ≤ g
  a : Arr wr g (fun j => if j < k then V j ||| W j else V j)
  b : Arr wr (g + 1) W
  r : wr.heap[g + 2]? = some (.cells zero4 31 (0, 0))
theorem UInv.start (w : World) (V W : Nat → Nat) : UInv w w.heap.size V W 0 (((w.alloc (.cells #[.int .u64 (V 0 : Int), .int .u64 (V 1 : Int), .int .u64 (V 2 : Int), .int .u64 (V 3 : Int)] 31)).alloc (.cells #[.int .u64 (W 0 : Int), .int .u64 (W 1 : Int), .int .u64 (W 2 : Int), .int .u64 (W 3 : Int)] 31)).alloc (.cells zero4 31)) := by
  have e1 := heap_alloc_new w (.cells #[.int .u64 (V 0 : Int), .int .u64 (V 1 : Int), .int .u64 (V 2 : Int), .int .u64 (V 3 : Int)] 31)
  have b1 : Below w.heap.size w (w.alloc (.cells #[.int .u64 (V 0 : Int), .int .u64 (V 1 : Int), .int .u64 (V 2 : Int), .int .u64 (V 3 : Int)] 31)) := (Below.refl _ _).alloc (Nat.le_refl _) _
  have z1 : (w.alloc (.cells #[.int .u64 (V 0 : Int), .int .u64 (V 1 : Int), .int .u64 (V 2 : Int), .int .u64 (V 3 : Int)] 31)).heap.size = w.heap.size + 1 := by simp
  generalize w.alloc (.cells #[.int .u64 (V 0 : Int), .int .u64 (V 1 : Int), .int .u64 (V 2 : Int), .int .u64 (V 3 : Int)] 31) = w1 at *
  have e2 := heap_alloc_new w1 (.cells #[.int .u64 (W 0 : Int), .int .u64 (W 1 : Int), .int .u64 (W 2 : Int), .int .u64 (W 3 : Int)] 31)
  have e3 := heap_alloc_old w1 (.cells #[.int .u64 (W 0 : Int), .int .u64 (W 1 : Int), .int .u64 (W 2 : Int), .int .u64 (W 3 : Int)] 31) (r := w.heap.size) (by omega)
  have b2 := b1.alloc (by omega) (.cells #[.int .u64 (W 0 : Int), .int .u64 (W 1 : Int), .int .u64 (W 2 : Int), .int .u64 (W 3 : Int)] 31)
  have z2 : (w1.alloc (.cells #[.int .u64 (W 0 : Int), .int .u64 (W 1 : Int), .int .u64 (W 2 : Int), .int .u64 (W 3 : Int)] 31)).heap.size = w.heap.size + 2 := by simp; omega
  rw [z1] at e2
  generalize w1.alloc (.cells #[.int .u64 (W 0 : Int), .int .u64 (W 1 : Int), .int .u64 (W 2 : Int), .int .u64 (W 3 : Int)] 31) = w2 at *
  have e4 := heap_alloc_new w2 (.cells zero4 31)
  rw [z2] at e4
  exact ⟨b2.alloc (by omega) _, Nat.le_refl _, (Arr.of (W := V) (e3.trans e1)).frame (heap_alloc_old w2 _ (by omega)), (Arr.of (W := W) e2).frame (heap_alloc_old w2 _ (by omega)), e4⟩
theorem UInv.next {w wr : World} {g k : Nat} {V W : Nat → Nat} (h : UInv w g V W k wr) (hk : k < 4) : UInv w g V W (k + 1) (wr.drew.setCell ⟨g, k, none⟩ (.int .u64 ((V k ||| W k : Nat) : Int))) := by
  refine ⟨(h.below.drew).setCell h.ge _, h.ge, h.a.drew.put _ _ hk (fun j _ => ?_), h.b.drew.other (by omega), (Below.heap_setCell _ _ _ _ (by simp)).trans h.r⟩
  show (if j < k + 1 then _ else _) = _
  by_cases e : j = k
  · subst e; simp
  · rw [if_neg e]
    by_cases q : j < k
    · rw [if_pos (by omega), if_pos q]
    · rw [if_neg (by omega), if_neg q]
set_option maxRecDepth 100000 in
set_option maxHeartbeats 2000000 in
theorem union_any (V W : Nat → Nat) (hV : Fits4 V) (hW : Fits4 W) (w : World) :
    Calls Tryd.prog 86 #[set4 V, set4 W] w fun e w' => e = .returned (set4 (join V W)) ∧ Below w.heap.size w w' := by
  have E := Lib.hid (fun k => or_nat _ _ (hV k) (hW k))
  clear hW hV
  have IN := Lib.hid (UInv.start w V W)
  unfold set4 join
  go_enter Tryd.func86, Tryd.ntmps86
  go_wp2
  unfold zero4 at IN
  generalize ((w.alloc (.cells #[.int .u64 (V 0 : Int), .int .u64 (V 1 : Int), .int .u64 (V 2 : Int), .int .u64 (V 3 : Int)] 31)).alloc (.cells #[.int .u64 (W 0 : Int), .int .u64 (W 1 : Int), .int .u64 (W 2 : Int), .int .u64 (W 3 : Int)] 31)).alloc (.cells #[.int .u64 0, .int .u64 0, .int .u64 0, .int .u64 0] 31) = w0 at IN ⊢
  go_loopw [6] (fun i wr => ∃ k : Nat, k ≤ 4 ∧ i = .int .i64 (k : Int) ∧ Hid (UInv w w.heap.size V W k wr)) (fun i _ => 4 - (intOf i).toNat)
  case atStart => exact ⟨0, by omega, rfl, IN⟩
  case round =>
    clear IN
    obtain ⟨k, hk, rfl, HI⟩ := hrel
    by_cases h4 : k < 4
    · have c1 := HI.out.a.c k h4
      have c2 := HI.out.b.c k h4
      have f1 := HI.out.a.f k
      rw [if_neg (by omega)] at c1
      have ek := E.out k
      have hkz : (k : Int) < 4 := by omega
      have NX := Lib.hid (HI.out.next h4)
      clear HI
      go_wp2
      go_still_tail 8, (by kernel_rfl)
      change wpList _ _ _ _ _ wr.drew
      go_wp2
      go_roundw
      case rel => exact ⟨k + 1, by omega, by go_num, NX⟩
      case measure => simp [intOf]; omega
    · obtain rfl : k = 4 := by omega
      have c0 := HI.out.a.c 0 (by omega)
      have c1 := HI.out.a.c 1 (by omega)
      have c2 := HI.out.a.c 2 (by omega)
      have c3 := HI.out.a.c 3 (by omega)
      rw [if_pos (by omega)] at c0 c1 c2 c3
      have B := Lib.hid HI.out.below
      have R := Lib.hid HI.out.r
      have e4 : (((4 : Nat) : Int) < 4) = False := by simp
      clear HI
      go_wp2_with (refine wpList_store_row rfl 31 (.tmp 4) (.tmp 18) rfl (w.heap.size + 2) #[.int .u64 ((V 0 ||| W 0 : Nat) : Int), .int .u64 ((V 1 ||| W 1 : Nat) : Int), .int .u64 ((V 2 ||| W 2 : Nat) : Int), .int .u64 ((V 3 ||| W 3 : Nat) : Int)] rfl rfl 31 _ R.out Tryd.size4 rfl (by simp [Value.oneCell']) ?_)
      refine bodyPost_ret (results_cell_row rfl _ _ (w.heap.size + 2) 31 _ (0, 0) _ rfl (setRow_heap _ _ _ _ _ _ R.out) Tryd.underlying31 rfl Tryd.size4) rfl ⟨rfl, ?_⟩
      have b := B.out
      exact ⟨b.os, b.tape, b.output, by rw [setRow_size]; exact b.size, fun q hq => (setRow_other _ _ _ _ (by omega)).trans (b.block q hq)⟩

/-- What span's loop keeps. -/
structure SInv (w : World) (lo k : Nat) (wr : World) : Prop where
  below : Below w.heap.size w wr
  a : Arr wr (w.heap.size + 1) (span none4 lo k)
  r : wr.heap[w.heap.size]? = some (.cells zero4 31 (0, 0))
theorem SInv.start (w : World) (lo : Nat) : SInv w lo 0 ((w.alloc (.cells zero4 31)).alloc (.cells zero4 31)) := by
  have e1 := heap_alloc_new w (.cells zero4 31)
  have b1 : Below w.heap.size w (w.alloc (.cells zero4 31)) := (Below.refl _ _).alloc (Nat.le_refl _) _
  have z1 : (w.alloc (.cells zero4 31)).heap.size = w.heap.size + 1 := by simp
  generalize w.alloc (.cells zero4 31) = w1 at *
  have e2 := heap_alloc_new w1 (.cells zero4 31)
  rw [z1] at e2
  exact ⟨b1.alloc (by omega) _, Arr.of (W := none4) e2, (heap_alloc_old w1 _ (by omega)).trans e1⟩
theorem SInv.next {w wr : World} {lo k : Nat} (h : SInv w lo k wr) (hc : lo + k < 256) : SInv w lo (k + 1) (wr.drew.setCell ⟨w.heap.size + 1, (lo + k) / 64, none⟩ (.int .u64 ((span none4 lo k ((lo + k) / 64) ||| 2 ^ ((lo + k) % 64) : Nat) : Int))) := by
  refine ⟨(h.below.drew).setCell (by simp) _, h.a.drew.put _ _ (by omega) (fun j _ => ?_), (Below.heap_setCell _ _ _ _ (by simp)).trans h.r⟩
  show put (span none4 lo k) (lo + k) j = _
  unfold put
  by_cases e : j = (lo + k) / 64
  · rw [if_pos e, if_pos e, e]
  · rw [if_neg e, if_neg e]
theorem or_wrap (x c : Nat) (h : x < 18446744073709551616) : bits .or .u64 (x : Int) (IntKind.u64.wrap (2 ^ (c % 64))) = ((x ||| 2 ^ (c % 64) : Nat) : Int) := by
  have h2 : 2 ^ (c % 64) < 18446744073709551616 := Nat.pow_lt_pow_right (a := 2) (n := 64) (by omega) (by omega)
  have e : IntKind.u64.wrap (2 ^ (c % 64)) = ((2 ^ (c % 64) : Nat) : Int) := by
    have e2 : ((2 : Int) ^ (c % 64)) = ((2 ^ (c % 64) : Nat) : Int) := by simp
    rw [e2]
    generalize 2 ^ (c % 64) = q at *
    rw [IntKind.wrap_u64]; omega
  rw [e]
  exact or_nat x _ h h2
set_option maxRecDepth 100000 in
set_option maxHeartbeats 2000000 in
theorem span_any (lo hi : Nat) (hl : lo < 256) (hh : hi < 256) (w : World) :
    Calls Tryd.prog 82 #[.int .u8 (lo : Int), .int .u8 (hi : Int)] w fun e w' => e = .returned (set4 (span none4 lo (hi + 1 - lo))) ∧ Below w.heap.size w w' := by
  have IN := Lib.hid (SInv.start w lo)
  go_enter Tryd.func82, Tryd.ntmps82
  go_wp2
  unfold zero4 at IN
  generalize ((w.alloc (.cells #[.int .u64 0, .int .u64 0, .int .u64 0, .int .u64 0] 31)).alloc (.cells #[.int .u64 0, .int .u64 0, .int .u64 0, .int .u64 0] 31)) = w0 at IN ⊢
  go_loopw [6] (fun i wr => ∃ k : Nat, k ≤ hi + 1 - lo ∧ i = .int .i64 ((lo + k : Nat) : Int) ∧ Hid (SInv w lo k wr)) (fun i _ => hi + 1 - (intOf i).toNat)
  case atStart => exact ⟨0, by omega, rfl, IN⟩
  case round =>
    clear IN
    obtain ⟨k, hk, rfl, HI⟩ := hrel
    by_cases h4 : k < hi + 1 - lo
    · obtain ⟨c, hc⟩ : ∃ c, lo + k = c := ⟨_, rfl⟩
      have NX := HI.out.next (by omega)
      have c1 := HI.out.a.c (c / 64) (by omega)
      have f1 := HI.out.a.f (c / 64)
      rw [hc] at NX ⊢
      have EK : Hid (bits .or .u64 (span none4 lo k (c / 64) : Int) (IntKind.u64.wrap (2 ^ (c % 64))) = ((span none4 lo k (c / 64) ||| 2 ^ (c % 64) : Nat) : Int)) := or_wrap _ c (span_fits none4_fits lo k _)
      have NX := Lib.hid NX
      have hkz : (c : Int) ≤ (hi : Int) := by omega
      have HC := Lib.hid hc
      have b1 : c < 256 := by omega
      clear HI hc
      generalize span none4 lo k (c / 64) = x at *
      have q1 : IntKind.i64.wrap ((c : Int) / 64) = (c : Int) / 64 := by rw [IntKind.wrap_i64]; omega
      have q2 : IntKind.i64.wrap ((c : Int) % 64) = (c : Int) % 64 := by rw [IntKind.wrap_i64]; omega
      have q9 : (c : Int).tmod 64 = (c : Int) % 64 := Int.tmod_eq_emod_of_nonneg (by omega)
      have q3 : (c : Int) / 64 < 4 := by omega
      have q4 : (0 : Int) ≤ (c : Int) / 64 := by omega
      have q5 : ((c : Int) / 64).toNat = c / 64 := by omega
      have q6 : (0 : Int) ≤ (c : Int) % 64 := by omega
      have q7 : ((c : Int) % 64).toNat = c % 64 := by omega
      have q8 : (c : Int) % 64 < 64 := by omega
      go_wp2
      go_still_tail 9, (by kernel_rfl)
      change wpList _ _ _ _ _ wr.drew
      rw [EK.out]
      clear q1 q2 q3 q4 q5 q6 q7 q8 q9
      go_wp2
      go_roundw
      case rel => exact ⟨k + 1, by omega, by have := HC.out; go_num, NX⟩
      case measure => have := HC.out; simp [intOf]; omega
    · obtain rfl : k = hi + 1 - lo := by omega
      have hkz : ¬ ((lo + (hi + 1 - lo) : Nat) : Int) ≤ (hi : Int) := by omega
      have c0 := HI.out.a.c 0 (by omega)
      have c1 := HI.out.a.c 1 (by omega)
      have c2 := HI.out.a.c 2 (by omega)
      have c3 := HI.out.a.c 3 (by omega)
      have B := Lib.hid HI.out.below
      have R := Lib.hid HI.out.r
      clear HI
      obtain ⟨U, hU⟩ : ∃ U, span none4 lo (hi + 1 - lo) = U := ⟨_, rfl⟩
      rw [hU] at c0 c1 c2 c3
      have HU := Lib.hid hU
      clear hU
      generalize lo + (hi + 1 - lo) = c at *
      go_wp2_with (refine wpList_store_row rfl 31 (.tmp 4) (.tmp 24) rfl w.heap.size #[.int .u64 (U 0 : Int), .int .u64 (U 1 : Int), .int .u64 (U 2 : Int), .int .u64 (U 3 : Int)] rfl rfl 31 _ R.out Tryd.size4 rfl (by simp [Value.oneCell']) ?_)
      refine bodyPost_ret (results_cell_row rfl _ _ w.heap.size 31 _ (0, 0) _ rfl (setRow_heap _ _ _ _ _ _ R.out) Tryd.underlying31 rfl Tryd.size4) rfl ⟨by rw [HU.out]; rfl, ?_⟩
      have b := B.out
      exact ⟨b.os, b.tape, b.output, by rw [setRow_size]; exact b.size, fun q hq => (setRow_other _ _ _ _ (by omega)).trans (b.block q hq)⟩

end Go.Proofs.YtonfmbnankihbaaDoor
namespace Go.Proofs.YtonfmbnankihbaaDoor
open Go.RowKit

theorem add0 (g j : Nat) : (⟨g, 0, none⟩ : Addr).add j = ⟨g, j, none⟩ := by unfold Addr.add; split <;> simp_all
/-- The value v is the tree t; its kids lie in blocks that Q tells. -/
inductive RxIn (Q : Nat → Prop) (w : World) : Value → Rx → Prop where
  | node (op : Int) (a b c d : Nat) (ks : List Rx) (A : Option Addr) (cap blk off : Nat) (V : Nat → Nat → Value) (hcap : ks.length ≤ cap) (hA : A = none → cap = 0) (hp : 0 < ks.length → A = some ⟨blk, off, none⟩) (hq : 0 < ks.length → Q blk)
      (hc : ∀ j i, j < ks.length → i < 6 → w.cell? ⟨blk, off + j * 6 + i, none⟩ = some (V j i)) (hk : ∀ j, j < ks.length → RxIn Q w (val6 (V j)) (Rx.nth ks j)) :
      RxIn Q w (.agg #[.int .i64 op, .int .u64 (a : Int), .int .u64 (b : Int), .int .u64 (c : Int), .int .u64 (d : Int), .slice A ks.length cap]) (.mk op a b c d ks)
theorem RxIn.is {Q : Nat → Prop} {w : World} {v : Value} {t : Rx} (h : RxIn Q w v t) : IsRx w v t := by
  induction h with
  | node op a b c d ks A cap blk off V hcap hA hp hq hc hk ih => exact .node op a b c d ks A cap blk off V hcap hA hp hc ih
theorem RxIn.frame {Q Q' : Nat → Prop} {w w' : World} {v : Value} {t : Rx} (h : RxIn Q w v t) (hb : ∀ b, Q b → w'.heap[b]? = w.heap[b]?) (hQ : ∀ b, b < w.heap.size → Q b → Q' b) : RxIn Q' w' v t := by
  induction h with
  | node op a b c d ks A cap blk off V hcap hA hp hq hc hk ih =>
    exact .node op a b c d ks A cap blk off V hcap hA hp (fun h0 => hQ _ (World.block_lt_of_cell? w _ (hc 0 0 h0 (by omega))) (hq h0)) (fun j i hj hi => (World.cell?_of_block (hb blk (hq (by omega)))).trans (hc j i hj hi)) (fun j hj => ih j hj)
/-- A node without kids. -/
theorem RxIn.leaf (Q : Nat → Prop) (w : World) (op : Int) (a b c d : Nat) : RxIn Q w (.agg #[.int .i64 op, .int .u64 (a : Int), .int .u64 (b : Int), .int .u64 (c : Int), .int .u64 (d : Int), .slice none 0 0]) (.mk op a b c d []) :=
  .node op a b c d [] none 0 0 0 (fun _ _ => Go.undef) (Nat.le_refl _) (fun _ => rfl) (fun h => absurd h (by simp)) (fun h => absurd h (by simp)) (fun _ _ h => absurd h (by simp)) (fun _ h => absurd h (by simp))
/-- What a tree's value looks like. -/
theorem RxIn.form {Q : Nat → Prop} {w : World} {v : Value} {t : Rx} (h : RxIn Q w v t) : ∃ op a b c d A n cap, v = .agg #[.int .i64 op, .int .u64 ((a : Nat) : Int), .int .u64 ((b : Nat) : Int), .int .u64 ((c : Nat) : Int), .int .u64 ((d : Nat) : Int), .slice A n cap] := by
  cases h with
  | node op a b c d ks A cap blk off V hcap hA hp hq hc hk => exact ⟨op, a, b, c, d, A, ks.length, cap, rfl⟩

def cells6 (V : Nat → Value) : List Value := [V 0, V 1, V 2, V 3, V 4, V 5]
def rc (L : List (Nat → Value)) : List Value := L.flatMap cells6
theorem rc_len : ∀ L : List (Nat → Value), (rc L).length = L.length * 6
  | [] => rfl
  | x :: r => by have := rc_len r; simp only [rc, List.flatMap_cons, List.length_append, List.length_cons] at this ⊢; rw [this]; simp [cells6]; omega
theorem rc_app (L M : List (Nat → Value)) : rc (L ++ M) = rc L ++ rc M := by simp [rc]
def row0 : Nat → Value := fun _ => Go.undef
def nthV (L : List (Nat → Value)) (j : Nat) : Nat → Value := L.getD j row0
theorem rc_get : ∀ (L : List (Nat → Value)) (j i : Nat), j < L.length → i < 6 → (rc L)[j * 6 + i]? = some (nthV L j i)
  | x :: r, 0, i, _, hi => by
    show (cells6 x ++ rc r)[0 * 6 + i]? = _
    rw [List.getElem?_append_left (by simp [cells6]; omega)]
    match i, hi with
    | 0, _ => rfl
    | 1, _ => rfl
    | 2, _ => rfl
    | 3, _ => rfl
    | 4, _ => rfl
    | 5, _ => rfl
  | x :: r, j + 1, i, hj, hi => by
    show (cells6 x ++ rc r)[(j + 1) * 6 + i]? = _
    rw [List.getElem?_append_right (by simp [cells6]; omega)]
    have := rc_get r j i (by simpa using hj) hi
    rw [show (j + 1) * 6 + i - (cells6 x).length = j * 6 + i by simp [cells6]; omega, this]
    rfl
theorem nthV_left {L : List (Nat → Value)} {x : Nat → Value} {j : Nat} (h : j < L.length) : nthV (L ++ [x]) j = nthV L j := by simp [nthV, List.getD, List.getElem?_append_left h]
theorem nthV_last (L : List (Nat → Value)) (x : Nat → Value) : nthV (L ++ [x]) L.length = x := by simp [nthV, List.getD]
theorem Rx.nth_left {L : List Rx} {x : Rx} {j : Nat} (h : j < L.length) : Rx.nth (L ++ [x]) j = Rx.nth L j := by simp [Rx.nth, List.getD, List.getElem?_append_left h]
theorem Rx.nth_last (L : List Rx) (x : Rx) : Rx.nth (L ++ [x]) L.length = x := by simp [Rx.nth, List.getD]

theorem Tryd.infoR : (Tryd.prog.info? 34).map (fun i => (i.zero, i.size, i.bytes)) = some (some (.agg #[.int .i64 0, .int .u64 0, .int .u64 0, .int .u64 0, .int .u64 0, .slice none 0 0]), 6, 64) := by kernel_rfl
/-- A slice of trees that one owns, in blocks from base on. -/
def Kids (base : Nat) (w : World) (v : Value) (ts : List Rx) : Prop :=
  ∃ L : List (Nat → Value), L.length = ts.length ∧ w.ownsRow base 34 6 v ts.length (rc L) ∧ ∀ j, j < ts.length → RxIn (fun b => base ≤ b ∧ b < w.heap.size ∧ v.ownBlock ≠ some b) w (val6 (nthV L j)) (Rx.nth ts j)
theorem Kids.nil (base : Nat) (w : World) : Kids base w (.slice none 0 0) [] := ⟨[], rfl, World.ownsRow_nil _ _ _ _, fun _ h => absurd h (by simp)⟩
theorem Kids.frame {base : Nat} {w w' : World} {v : Value} {ts : List Rx} (h : Kids base w v ts) (hs : w.heap.size ≤ w'.heap.size) (hb : ∀ b, base ≤ b → b < w.heap.size → w'.heap[b]? = w.heap[b]?) : Kids base w' v ts := by
  obtain ⟨L, h1, h2, h3⟩ := h
  refine ⟨L, h1, ⟨h2.1, ?_⟩, fun j hj => (h3 j hj).frame (fun b hq => hb b hq.1 hq.2.1) (fun b _ hq => ⟨hq.1, by omega, hq.2.2⟩)⟩
  rcases h2.2 with hn | ⟨g, cap, cur, e, hbg, hg, rest⟩
  · exact .inl hn
  · exact .inr ⟨g, cap, cur, e, hbg, (hb g hbg (Array.getElem?_eq_some_iff.1 hg).1).trans hg, rest⟩
theorem Kids.form {base : Nat} {w : World} {v : Value} {ts : List Rx} (h : Kids base w v ts) : ∃ A cap, v = .slice A ts.length cap ∧ (A = none → cap = 0) ∧ ts.length ≤ cap := by
  obtain ⟨L, h1, h2, h3⟩ := h
  rcases h2.2 with ⟨e, h0⟩ | ⟨g, cap, cur, e, hbg, hg, hc, rest⟩
  · exact ⟨none, 0, by rw [e, h0], fun _ => rfl, by omega⟩
  · exact ⟨_, cap, e, (fun e => by cases e), hc⟩
theorem Kids.low {base : Nat} {w : World} {v : Value} {ts : List Rx} (h : Kids base w v ts) : ∀ k, v.ownBlock = some k → base ≤ k ∧ k < w.heap.size := by
  obtain ⟨L, h1, h2, h3⟩ := h
  exact h2.lt
/-- Such a slice as a node's kids. -/
theorem Kids.node {base : Nat} {w : World} {A : Option Addr} {n cap : Nat} {ts : List Rx} (h : Kids base w (.slice A n cap) ts) (op : Int) : n = ts.length ∧ RxIn (fun b => base ≤ b) w (.agg #[.int .i64 op, .int .u64 0, .int .u64 0, .int .u64 0, .int .u64 0, .slice A n cap]) (.mk op 0 0 0 0 ts) := by
  obtain ⟨L, h1, h2, h3⟩ := h
  rcases h2.2 with ⟨e, h0⟩ | ⟨g, cap', cur, e, hbg, hg, hc, rest⟩
  · injection e with e1 e2 e3
    subst e1 e2 e3
    have : ts = [] := List.eq_nil_of_length_eq_zero h0
    subst this
    exact ⟨rfl, RxIn.leaf _ _ _ 0 0 0 0⟩
  · injection e with e1 e2 e3
    subst e1 e2 e3
    refine ⟨rfl, .node op 0 0 0 0 ts _ cap g 0 (nthV L) hc (fun e => by cases e) (fun _ => rfl) (fun _ => hbg) (fun j i hj hi => ?_) (fun j hj => (h3 j hj).frame (fun _ _ => rfl) (fun _ _ hq => hq.1))⟩
    have := h2.cells (g := g) rfl (j * 6 + i) _ (rc_get L j i (by omega) hi)
    rw [add0] at this; simpa using this
/-- Its only kid. -/
theorem Kids.one {base : Nat} {w : World} {A : Option Addr} {n cap : Nat} {t : Rx} (h : Kids base w (.slice A n cap) [t]) : n = 1 ∧ ∃ g V, A = some ⟨g, 0, none⟩ ∧ (∀ i, i < 6 → w.cell? ⟨g, i, none⟩ = some (V i)) ∧ RxIn (fun b => base ≤ b) w (val6 V) t := by
  obtain ⟨L, h1, h2, h3⟩ := h
  rcases h2.2 with ⟨e, h0⟩ | ⟨g, cap', cur, e, hbg, hg, hc, rest⟩
  · simp at h0
  · injection e with e1 e2 e3
    subst e1 e2 e3
    refine ⟨rfl, g, nthV L 0, rfl, fun i hi => ?_, (h3 0 (by simp)).frame (fun _ _ => rfl) (fun _ _ hq => hq.1)⟩
    have := h2.cells (g := g) rfl (0 * 6 + i) _ (rc_get L 0 i (by simp at h1; omega) hi)
    rw [add0] at this; simpa using this
/-- One tree more. -/
theorem run_appR {base : Nat} {w : World} {v : Value} {ts : List Rx} (ty : TypeId) (h : Kids base w v ts) (g : Nat) (V : Nat → Value) (t : Rx) (hV : ∀ i, i < 6 → w.cell? ⟨g, i, none⟩ = some (V i)) (h1 : ∀ i, i < 6 → (V i).oneCell' = true)
    (ht : RxIn (fun b => base ≤ b ∧ b < w.heap.size ∧ v.ownBlock ≠ some b) w (val6 V) t) (hn : ts.length ≤ 1000) (hbase : base ≤ w.heap.size) :
    ∃ v' w', (Builtin.append_ #[32, 32] ty #[v, .slice (some ⟨g, 0, none⟩) 1 1]).run Tryd.prog w = .ok v' w' ∧ Kids base w' v' (ts ++ [t]) ∧ w.grownBy w' v.ownBlock := by
  obtain ⟨L, hL, hown, hk⟩ := h
  obtain ⟨i0, hi, hz0, hz1, hz2⟩ := info_parts Tryd.infoR
  obtain ⟨v', w', hr, h2, h3, h4, h5⟩ := run_append_own_at (P := Tryd.prog) w base 32 ty 34 i0 _ 6 64 Tryd.underlying32 hi hz0 hz1 hz2 rfl (by decide) v ts.length _ hown ⟨g, 0, none⟩ 1 1 (cells6 V) rfl
    (by
      intro j u hj
      have hj6 : j < 6 := by
        rcases Nat.lt_or_ge j 6 with h | h
        · exact h
        · rw [List.getElem?_eq_none (by simpa [cells6] using h)] at hj; cases hj
      rw [add0, hV j hj6, ← hj]
      match j, hj6 with
      | 0, _ => rfl
      | 1, _ => rfl
      | 2, _ => rfl
      | 3, _ => rfl
      | 4, _ => rfl
      | 5, _ => rfl)
    (by
      intro u hu
      simp only [cells6, List.mem_cons, List.not_mem_nil, or_false] at hu
      rcases hu with rfl | rfl | rfl | rfl | rfl | rfl <;> exact h1 _ (by omega))
    (by unfold maxLen; omega) (by omega) hbase
  refine ⟨v', w', hr, ⟨L ++ [V], by simp [hL], ?_, fun j hj => ?_⟩, h3⟩
  · rw [List.length_append, rc_app]
    have : rc [V] = cells6 V := by simp [rc]
    rw [this]
    exact h2
  · have hfr : ∀ b, (base ≤ b ∧ b < w.heap.size ∧ v.ownBlock ≠ some b) → w'.heap[b]? = w.heap[b]? := fun b hq => h3.block b hq.2.1 (Ne.symm hq.2.2)
    have hQ : ∀ b, b < w.heap.size → (base ≤ b ∧ b < w.heap.size ∧ v.ownBlock ≠ some b) → (base ≤ b ∧ b < w'.heap.size ∧ v'.ownBlock ≠ some b) := fun b _ hq => ⟨hq.1, by have := h3.size; omega, by
      rcases h5 with h5 | h5
      · rw [h5]; exact hq.2.2
      · rw [h5]; intro e; injection e with e; omega⟩
    rw [List.length_append, List.length_singleton] at hj
    rcases Nat.lt_or_ge j ts.length with hlt | hge
    · rw [nthV_left (by omega), Rx.nth_left hlt]
      exact (hk j hlt).frame hfr hQ
    · obtain rfl : j = ts.length := by omega
      rw [Rx.nth_last, ← hL, nthV_last]
      exact ht.frame hfr hQ

end Go.Proofs.YtonfmbnankihbaaDoor
