/-
  What the program's others, union and span do: sets of four words. Conditions: words have 64 bits.
  Trees that lie in known blocks; a slice of trees that one owns, appended to. Conditions: at most 100 of them.
  What the program's byteBut does. Conditions: at most 100 bytes.
  What the program's item and brackets do. Conditions: at most 100 bytes.
-/
import Derived.Test.YtlfcjjlgkcfkdaaGreatDoorProg
import Derived.Test.YtlfcjjlgkcfkdaaGreatDoorZ01
import Derived.Test.YtlfcjjlgkcfkdaaGreatDoorZ02
import Derived.Test.YtlfcjjlgkcfkdaaGreatDoorZ04
import Derived.Test.YtlfcjjlgkcfkdaaGreatDoorZ06
import Derived.Test.YtlfcjjlgkcfkdaaGreatDoorZ05
import Derived.Test.YtlfcjjlgkcfkdaaGreatDoorZ03
import Derived.StillTailTactics
import Derived.Deep.RegionHeld3
import Derived.WalkKit
import Derived.WalkSpells
import Derived.WalkLawsBesides
import Derived.Lib.Hide
import Derived.Below
import Derived.BigQuiet
import Derived.Lib.QuietBelow
import Derived.Laws.StructEq
import Derived.KernelRfl
import Derived.Laws.MakeOwn
import Derived.Laws.OwnMore
import Derived.OwnWalk
import Derived.Laws.CopyOwn
import Derived.Laws.AppendOwn
import Derived.Deep.QuietTactic
import Derived.Lib.Bytealg
import Derived.Laws.Externs
import Derived.Maps.AppendAt
import Derived.Laws.ResultCell
namespace Go.Proofs.YtlfcjjlgkcfkdaaGreatDoor
open Go.RowKit Go.Sort
open Pz

/-- Four words as a value. -/
def set4 (W : Nat → Nat) : Value := .agg #[.int .u64 (W 0 : Int), .int .u64 (W 1 : Int), .int .u64 (W 2 : Int), .int .u64 (W 3 : Int)]
/-- Words that fit. -/
def Fits4 (W : Nat → Nat) : Prop := ∀ k, W k < 18446744073709551616
theorem xor_all (n : Nat) (h : n < 18446744073709551616) : bits .xor .u64 IntKind.u64.max (n : Int) = ((18446744073709551615 - n : Nat) : Int) := by
  have e := u64_xor_nat 18446744073709551615 n (by omega) h
  have : 18446744073709551615 ^^^ n = 18446744073709551615 - n := by
    have h2 := BitVec.toNat_not (x := BitVec.ofNat 64 n)
    have h3 : (~~~(BitVec.ofNat 64 n)) = (BitVec.allOnes 64) ^^^ (BitVec.ofNat 64 n) := by
      apply BitVec.eq_of_getElem_eq
      intro i hi
      simp only [BitVec.getElem_not, BitVec.getElem_xor, BitVec.getElem_allOnes, Bool.true_xor]
    rw [h3, BitVec.toNat_xor, BitVec.toNat_allOnes, BitVec.toNat_ofNat, Nat.mod_eq_of_lt h] at h2
    omega
  rw [this] at e
  exact e
theorem or_nat (a b : Nat) (h1 : a < 18446744073709551616) (h2 : b < 18446744073709551616) : bits .or .u64 (a : Int) (b : Int) = ((a ||| b : Nat) : Int) := u64_or_nat a b h1 h2
theorem neg_fits (W : Nat → Nat) : Fits4 (neg W) := fun k => by unfold neg; omega
theorem join_fits {V W : Nat → Nat} (h1 : Fits4 V) (h2 : Fits4 W) : Fits4 (join V W) := fun k => Nat.or_lt_two_pow (n := 64) (h1 k) (h2 k)
theorem put_fits {W : Nat → Nat} (h : Fits4 W) (c : Nat) : Fits4 (put W c) := fun k => by
  unfold put
  split
  · exact Nat.or_lt_two_pow (n := 64) (h k) (Nat.pow_lt_pow_right (by omega) (by omega))
  · exact h k
theorem none4_fits : Fits4 none4 := fun _ => by unfold none4; omega
theorem span_fits {W : Nat → Nat} (h : Fits4 W) (lo : Nat) : ∀ n, Fits4 (span W lo n)
  | 0 => h
  | n + 1 => put_fits (span_fits h lo n) _

/-- Four words in a block. -/
structure Arr (w : World) (g : Nat) (W : Nat → Nat) : Prop where
  c : ∀ k, k < 4 → w.cell? ⟨g, k, none⟩ = some (.int .u64 (W k : Int))
  f : ∀ k, w.frozen? ⟨g, k, none⟩ = false
theorem Arr.lt {w : World} {g : Nat} {W : Nat → Nat} (h : Arr w g W) : g < w.heap.size := World.block_lt_of_cell? w _ (h.c 0 (by omega))
theorem Arr.frame {w w' : World} {g : Nat} {W : Nat → Nat} (h : Arr w g W) (hb : w'.heap[g]? = w.heap[g]?) : Arr w' g W := ⟨fun k hk => (World.cell?_of_block (a := ⟨g, k, none⟩) hb).trans (h.c k hk), fun k => (World.frozen?_of_block (a := ⟨g, k, none⟩) hb).trans (h.f k)⟩
theorem Arr.grown {w w' : World} {g : Nat} {W : Nat → Nat} (h : Arr w g W) (hb : Below w.heap.size w w') : Arr w' g W := h.frame (hb.block g h.lt)
theorem Arr.drew {w : World} {g : Nat} {W : Nat → Nat} (h : Arr w g W) : Arr w.drew g W := ⟨h.c, h.f⟩
theorem Arr.put {w : World} {g : Nat} {W W' : Nat → Nat} (h : Arr w g W) (k x : Nat) (hk : k < 4) (e : ∀ j, j < 4 → W' j = if j = k then x else W j) : Arr (w.setCell ⟨g, k, none⟩ (.int .u64 (x : Int))) g W' := by
  refine ⟨fun j hj => ?_, fun j => by rw [World.frozen?_setCell]; exact h.f j⟩
  rw [e j hj]
  by_cases q : j = k
  · subst q; rw [if_pos rfl]; exact World.cell?_setCell_same _ _ _ (h.c j hk)
  · rw [if_neg q]; exact (World.cell?_setCell_other _ _ _ _ (by simp)).trans (h.c j hj)
theorem Arr.other {w : World} {g g' k : Nat} {W : Nat → Nat} {v : Value} (h : Arr w g W) (hne : g ≠ g') : Arr (w.setCell ⟨g', k, none⟩ v) g W := h.frame (Below.heap_setCell _ _ _ g hne)
theorem Arr.of {w : World} {g : Nat} {W : Nat → Nat} {ty : TypeId} (h : w.heap[g]? = some (.cells #[.int .u64 (W 0 : Int), .int .u64 (W 1 : Int), .int .u64 (W 2 : Int), .int .u64 (W 3 : Int)] ty (0, 0))) : Arr w g W := by
  refine ⟨fun k hk => ?_, fun k => by rw [World.frozen?, h]; simp⟩
  rw [cell_of_row _ _ _ _ _ _ h]
  match k, hk with
  | 0, _ => rfl
  | 1, _ => rfl
  | 2, _ => rfl
  | 3, _ => rfl
theorem Tryz.size4 : (Tryz.prog.info? 132).map (·.size) = some 4 := by kernel_rfl
def zero4 : Array Value := #[.int .u64 0, .int .u64 0, .int .u64 0, .int .u64 0]

set_option maxRecDepth 100000 in
set_option maxHeartbeats 2000000 in
theorem others_any (W : Nat → Nat) (hW : Fits4 W) (w : World) :
    Calls Tryz.prog 166 #[set4 W] w fun e w' => e = .returned (set4 (neg W)) ∧ Below w.heap.size w w' := by
  have h0 := xor_all _ (hW 0)
  have h1 := xor_all _ (hW 1)
  have h2 := xor_all _ (hW 2)
  have h3 := xor_all _ (hW 3)
  clear hW
  unfold set4 neg
  generalize W 0 = a at *
  generalize W 1 = b at *
  generalize W 2 = c at *
  generalize W 3 = d at *
  go_enter Tryz.func166, Tryz.ntmps166
  go_wp2
  refine wp_loop_rounds 5 ?_
  iterate 5 (rw [rounds_succ]; go_wp2)
  have hh := heap_alloc_new (w.alloc (.cells #[.int .u64 ((18446744073709551615 - a : Nat) : Int), .int .u64 ((18446744073709551615 - b : Nat) : Int), .int .u64 ((18446744073709551615 - c : Nat) : Int), .int .u64 ((18446744073709551615 - d : Nat) : Int)] 132)) (.cells #[.int .u64 ((18446744073709551615 - a : Nat) : Int), .int .u64 ((18446744073709551615 - b : Nat) : Int), .int .u64 ((18446744073709551615 - c : Nat) : Int), .int .u64 ((18446744073709551615 - d : Nat) : Int)] 132)
  rw [show (w.alloc (.cells #[.int .u64 ((18446744073709551615 - a : Nat) : Int), .int .u64 ((18446744073709551615 - b : Nat) : Int), .int .u64 ((18446744073709551615 - c : Nat) : Int), .int .u64 ((18446744073709551615 - d : Nat) : Int)] 132)).heap.size = w.heap.size + 1 by simp] at hh
  refine bodyPost_ret (results_cell_row rfl _ _ (w.heap.size + 1) 132 _ (0, 0) _ rfl hh Tryz.underlying132 rfl Tryz.size4) rfl ⟨rfl, ((Below.refl _ _).alloc (Nat.le_refl _) _).alloc (by simp) _⟩

/-- What union's loop keeps. -/
structure UInv (w : World) (g : Nat) (V W : Nat → Nat) (k : Nat) (wr : World) : Prop where
  below : Below w.heap.size w wr
  ge : w.heap.size ≤ g
  a : Arr wr g (fun j => if j < k then V j ||| W j else V j)
  b : Arr wr (g + 1) W
  r : wr.heap[g + 2]? = some (.cells zero4 132 (0, 0))
theorem UInv.start (w : World) (V W : Nat → Nat) : UInv w w.heap.size V W 0 (((w.alloc (.cells #[.int .u64 (V 0 : Int), .int .u64 (V 1 : Int), .int .u64 (V 2 : Int), .int .u64 (V 3 : Int)] 132)).alloc (.cells #[.int .u64 (W 0 : Int), .int .u64 (W 1 : Int), .int .u64 (W 2 : Int), .int .u64 (W 3 : Int)] 132)).alloc (.cells zero4 132)) := by
  have e1 := heap_alloc_new w (.cells #[.int .u64 (V 0 : Int), .int .u64 (V 1 : Int), .int .u64 (V 2 : Int), .int .u64 (V 3 : Int)] 132)
  have b1 : Below w.heap.size w (w.alloc (.cells #[.int .u64 (V 0 : Int), .int .u64 (V 1 : Int), .int .u64 (V 2 : Int), .int .u64 (V 3 : Int)] 132)) := (Below.refl _ _).alloc (Nat.le_refl _) _
  have z1 : (w.alloc (.cells #[.int .u64 (V 0 : Int), .int .u64 (V 1 : Int), .int .u64 (V 2 : Int), .int .u64 (V 3 : Int)] 132)).heap.size = w.heap.size + 1 := by simp
  generalize w.alloc (.cells #[.int .u64 (V 0 : Int), .int .u64 (V 1 : Int), .int .u64 (V 2 : Int), .int .u64 (V 3 : Int)] 132) = w1 at *
  have e2 := heap_alloc_new w1 (.cells #[.int .u64 (W 0 : Int), .int .u64 (W 1 : Int), .int .u64 (W 2 : Int), .int .u64 (W 3 : Int)] 132)
  have e3 := heap_alloc_old w1 (.cells #[.int .u64 (W 0 : Int), .int .u64 (W 1 : Int), .int .u64 (W 2 : Int), .int .u64 (W 3 : Int)] 132) (r := w.heap.size) (by omega)
  have b2 := b1.alloc (by omega) (.cells #[.int .u64 (W 0 : Int), .int .u64 (W 1 : Int), .int .u64 (W 2 : Int), .int .u64 (W 3 : Int)] 132)
  have z2 : (w1.alloc (.cells #[.int .u64 (W 0 : Int), .int .u64 (W 1 : Int), .int .u64 (W 2 : Int), .int .u64 (W 3 : Int)] 132)).heap.size = w.heap.size + 2 := by simp; omega
  rw [z1] at e2
  generalize w1.alloc (.cells #[.int .u64 (W 0 : Int), .int .u64 (W 1 : Int), .int .u64 (W 2 : Int), .int .u64 (W 3 : Int)] 132) = w2 at *
  have e4 := heap_alloc_new w2 (.cells zero4 132)
  rw [z2] at e4
  exact ⟨b2.alloc (by omega) _, Nat.le_refl _, (Arr.of (W := V) (e3.trans e1)).frame (heap_alloc_old w2 _ (by omega)), (Arr.of (W := W) e2).frame (heap_alloc_old w2 _ (by omega)), e4⟩
theorem UInv.next {w wr : World} {g k : Nat} {V W : Nat → Nat} (h : UInv w g V W k wr) (hk : k < 4) : UInv w g V W (k + 1) (wr.drew.setCell ⟨g, k, none⟩ (.int .u64 ((V k ||| W k : Nat) : Int))) := by
  refine ⟨(h.below.drew).setCell h.ge _, h.ge, h.a.drew.put _ _ hk (fun j _ => ?_), h.b.drew.other (by omega), (Below.heap_setCell _ _ _ _ (by simp)).trans h.r⟩
  show (if j < k + 1 then _ else _) = _
  by_cases e : j = k
  · subst e; simp
  · rw [if_neg e]
    by_cases q : j < k
    · rw [if_pos (by omega), if_pos q]
    · rw [if_neg (by omega), if_neg q]
set_option maxRecDepth 100000 in
set_option maxHeartbeats 2000000 in
theorem union_any (V W : Nat → Nat) (hV : Fits4 V) (hW : Fits4 W) (w : World) :
    Calls Tryz.prog 172 #[set4 V, set4 W] w fun e w' => e = .returned (set4 (join V W)) ∧ Below w.heap.size w w' := by
  have E := Lib.hid (fun k => or_nat _ _ (hV k) (hW k))
  clear hW hV
  have IN := Lib.hid (UInv.start w V W)
  unfold set4 join
  go_enter Tryz.func172, Tryz.ntmps172
  go_wp2
  unfold zero4 at IN
  generalize ((w.alloc (.cells #[.int .u64 (V 0 : Int), .int .u64 (V 1 : Int), .int .u64 (V 2 : Int), .int .u64 (V 3 : Int)] 132)).alloc (.cells #[.int .u64 (W 0 : Int), .int .u64 (W 1 : Int), .int .u64 (W 2 : Int), .int .u64 (W 3 : Int)] 132)).alloc (.cells #[.int .u64 0, .int .u64 0, .int .u64 0, .int .u64 0] 132) = w0 at IN ⊢
  go_loopw [6] (fun i wr => ∃ k : Nat, k ≤ 4 ∧ i = .int .i64 (k : Int) ∧ Hid (UInv w w.heap.size V W k wr)) (fun i _ => 4 - (intOf i).toNat)
  case atStart => exact ⟨0, by omega, rfl, IN⟩
  case round =>
    clear IN
    obtain ⟨k, hk, rfl, HI⟩ := hrel
    by_cases h4 : k < 4
    · have c1 := HI.out.a.c k h4
      have c2 := HI.out.b.c k h4
      have f1 := HI.out.a.f k
      rw [if_neg (by omega)] at c1
      have ek := E.out k
      have hkz : (k : Int) < 4 := by omega
      have NX := Lib.hid (HI.out.next h4)
      clear HI
      go_wp2
      go_still_tail 8, (by kernel_rfl)
      change wpList _ _ _ _ _ wr.drew
      go_wp2
      go_roundw
      case rel => exact ⟨k + 1, by omega, by go_num, NX⟩
      case measure => simp [intOf]; omega
    · obtain rfl : k = 4 := by omega
      have c0 := HI.out.a.c 0 (by omega)
      have c1 := HI.out.a.c 1 (by omega)
      have c2 := HI.out.a.c 2 (by omega)
      have c3 := HI.out.a.c 3 (by omega)
      rw [if_pos (by omega)] at c0 c1 c2 c3
      have B := Lib.hid HI.out.below
      have R := Lib.hid HI.out.r
      have e4 : (((4 : Nat) : Int) < 4) = False := by simp
      clear HI
      go_wp2_with (refine wpList_store_row rfl 132 (.tmp 4) (.tmp 18) rfl (w.heap.size + 2) #[.int .u64 ((V 0 ||| W 0 : Nat) : Int), .int .u64 ((V 1 ||| W 1 : Nat) : Int), .int .u64 ((V 2 ||| W 2 : Nat) : Int), .int .u64 ((V 3 ||| W 3 : Nat) : Int)] rfl rfl 132 _ R.out Tryz.size4 rfl (by simp [Value.oneCell']) ?_)
      refine bodyPost_ret (results_cell_row rfl _ _ (w.heap.size + 2) 132 _ (0, 0) _ rfl (setRow_heap _ _ _ _ _ _ R.out) Tryz.underlying132 rfl Tryz.size4) rfl ⟨rfl, ?_⟩
      have b := B.out
      exact ⟨b.os, b.tape, b.output, by rw [setRow_size]; exact b.size, fun q hq => (setRow_other _ _ _ _ (by omega)).trans (b.block q hq)⟩

/-- What span's loop keeps. -/
structure SInv (w : World) (lo k : Nat) (wr : World) : Prop where
  below : Below w.heap.size w wr
  a : Arr wr (w.heap.size + 1) (span none4 lo k)
  r : wr.heap[w.heap.size]? = some (.cells zero4 132 (0, 0))
theorem SInv.start (w : World) (lo : Nat) : SInv w lo 0 ((w.alloc (.cells zero4 132)).alloc (.cells zero4 132)) := by
  have e1 := heap_alloc_new w (.cells zero4 132)
  have b1 : Below w.heap.size w (w.alloc (.cells zero4 132)) := (Below.refl _ _).alloc (Nat.le_refl _) _
  have z1 : (w.alloc (.cells zero4 132)).heap.size = w.heap.size + 1 := by simp
  generalize w.alloc (.cells zero4 132) = w1 at *
  have e2 := heap_alloc_new w1 (.cells zero4 132)
  rw [z1] at e2
  exact ⟨b1.alloc (by omega) _, Arr.of (W := none4) e2, (heap_alloc_old w1 _ (by omega)).trans e1⟩
theorem SInv.next {w wr : World} {lo k : Nat} (h : SInv w lo k wr) (hc : lo + k < 256) : SInv w lo (k + 1) (wr.drew.setCell ⟨w.heap.size + 1, (lo + k) / 64, none⟩ (.int .u64 ((span none4 lo k ((lo + k) / 64) ||| 2 ^ ((lo + k) % 64) : Nat) : Int))) := by
  refine ⟨(h.below.drew).setCell (by simp) _, h.a.drew.put _ _ (by omega) (fun j _ => ?_), (Below.heap_setCell _ _ _ _ (by simp)).trans h.r⟩
  show put (span none4 lo k) (lo + k) j = _
  unfold put
  by_cases e : j = (lo + k) / 64
  · rw [if_pos e, if_pos e, e]
  · rw [if_neg e, if_neg e]
theorem or_wrap (x c : Nat) (h : x < 18446744073709551616) : bits .or .u64 (x : Int) (IntKind.u64.wrap (2 ^ (c % 64))) = ((x ||| 2 ^ (c % 64) : Nat) : Int) := by
  have h2 : 2 ^ (c % 64) < 18446744073709551616 := Nat.pow_lt_pow_right (a := 2) (n := 64) (by omega) (by omega)
  have e : IntKind.u64.wrap (2 ^ (c % 64)) = ((2 ^ (c % 64) : Nat) : Int) := by
    have e2 : ((2 : Int) ^ (c % 64)) = ((2 ^ (c % 64) : Nat) : Int) := by simp
    rw [e2]
    generalize 2 ^ (c % 64) = q at *
    rw [IntKind.wrap_u64]; omega
  rw [e]
  exact or_nat x _ h h2
set_option maxRecDepth 100000 in
set_option maxHeartbeats 2000000 in
theorem span_any (lo hi : Nat) (hl : lo < 256) (hh : hi < 256) (w : World) :
    Calls Tryz.prog 168 #[.int .u8 (lo : Int), .int .u8 (hi : Int)] w fun e w' => e = .returned (set4 (span none4 lo (hi + 1 - lo))) ∧ Below w.heap.size w w' := by
  have IN := Lib.hid (SInv.start w lo)
  go_enter Tryz.func168, Tryz.ntmps168
  go_wp2
  unfold zero4 at IN
  generalize ((w.alloc (.cells #[.int .u64 0, .int .u64 0, .int .u64 0, .int .u64 0] 132)).alloc (.cells #[.int .u64 0, .int .u64 0, .int .u64 0, .int .u64 0] 132)) = w0 at IN ⊢
  go_loopw [6] (fun i wr => ∃ k : Nat, k ≤ hi + 1 - lo ∧ i = .int .i64 ((lo + k : Nat) : Int) ∧ Hid (SInv w lo k wr)) (fun i _ => hi + 1 - (intOf i).toNat)
  case atStart => exact ⟨0, by omega, rfl, IN⟩
  case round =>
    clear IN
    obtain ⟨k, hk, rfl, HI⟩ := hrel
    by_cases h4 : k < hi + 1 - lo
    · obtain ⟨c, hc⟩ : ∃ c, lo + k = c := ⟨_, rfl⟩
      have NX := HI.out.next (by omega)
      have c1 := HI.out.a.c (c / 64) (by omega)
      have f1 := HI.out.a.f (c / 64)
      rw [hc] at NX ⊢
      have EK : Hid (bits .or .u64 (span none4 lo k (c / 64) : Int) (IntKind.u64.wrap (2 ^ (c % 64))) = ((span none4 lo k (c / 64) ||| 2 ^ (c % 64) : Nat) : Int)) := or_wrap _ c (span_fits none4_fits lo k _)
      have NX := Lib.hid NX
      have hkz : (c : Int) ≤ (hi : Int) := by omega
      have HC := Lib.hid hc
      have b1 : c < 256 := by omega
      clear HI hc
      generalize span none4 lo k (c / 64) = x at *
      have q1 : IntKind.i64.wrap ((c : Int) / 64) = (c : Int) / 64 := by rw [IntKind.wrap_i64]; omega
      have q2 : IntKind.i64.wrap ((c : Int) % 64) = (c : Int) % 64 := by rw [IntKind.wrap_i64]; omega
      have q9 : (c : Int).tmod 64 = (c : Int) % 64 := Int.tmod_eq_emod_of_nonneg (by omega)
      have q3 : (c : Int) / 64 < 4 := by omega
      have q4 : (0 : Int) ≤ (c : Int) / 64 := by omega
      have q5 : ((c : Int) / 64).toNat = c / 64 := by omega
      have q6 : (0 : Int) ≤ (c : Int) % 64 := by omega
      have q7 : ((c : Int) % 64).toNat = c % 64 := by omega
      have q8 : (c : Int) % 64 < 64 := by omega
      go_wp2
      go_still_tail 9, (by kernel_rfl)
      change wpList _ _ _ _ _ wr.drew
      rw [EK.out]
      clear q1 q2 q3 q4 q5 q6 q7 q8 q9
      go_wp2
      go_roundw
      case rel => exact ⟨k + 1, by omega, by have := HC.out; go_num, NX⟩
      case measure => have := HC.out; simp [intOf]; omega
    · obtain rfl : k = hi + 1 - lo := by omega
      have hkz : ¬ ((lo + (hi + 1 - lo) : Nat) : Int) ≤ (hi : Int) := by omega
      have c0 := HI.out.a.c 0 (by omega)
      have c1 := HI.out.a.c 1 (by omega)
      have c2 := HI.out.a.c 2 (by omega)
      have c3 := HI.out.a.c 3 (by omega)
      have B := Lib.hid HI.out.below
      have R := Lib.hid HI.out.r
      clear HI
      obtain ⟨U, hU⟩ : ∃ U, span none4 lo (hi + 1 - lo) = U := ⟨_, rfl⟩
      rw [hU] at c0 c1 c2 c3
      have HU := Lib.hid hU
      clear hU
      generalize lo + (hi + 1 - lo) = c at *
      go_wp2_with (refine wpList_store_row rfl 132 (.tmp 4) (.tmp 24) rfl w.heap.size #[.int .u64 (U 0 : Int), .int .u64 (U 1 : Int), .int .u64 (U 2 : Int), .int .u64 (U 3 : Int)] rfl rfl 132 _ R.out Tryz.size4 rfl (by simp [Value.oneCell']) ?_)
      refine bodyPost_ret (results_cell_row rfl _ _ w.heap.size 132 _ (0, 0) _ rfl (setRow_heap _ _ _ _ _ _ R.out) Tryz.underlying132 rfl Tryz.size4) rfl ⟨by rw [HU.out]; rfl, ?_⟩
      have b := B.out
      exact ⟨b.os, b.tape, b.output, by rw [setRow_size]; exact b.size, fun q hq => (setRow_other _ _ _ _ (by omega)).trans (b.block q hq)⟩

end Go.Proofs.YtlfcjjlgkcfkdaaGreatDoor
namespace Go.Proofs.YtlfcjjlgkcfkdaaGreatDoor
open Go.RowKit

theorem add0 (g j : Nat) : (⟨g, 0, none⟩ : Addr).add j = ⟨g, j, none⟩ := by unfold Addr.add; split <;> simp_all
/-- The value v is the tree t; its kids lie in blocks that Q tells. -/
inductive RxIn (Q : Nat → Prop) (w : World) : Value → Rx → Prop where
  | node (op : Int) (a b c d : Nat) (ks : List Rx) (A : Option Addr) (cap blk off : Nat) (V : Nat → Nat → Value) (hcap : ks.length ≤ cap) (hA : A = none → cap = 0) (hp : 0 < ks.length → A = some ⟨blk, off, none⟩) (hq : 0 < ks.length → Q blk)
      (hc : ∀ j i, j < ks.length → i < 6 → w.cell? ⟨blk, off + j * 6 + i, none⟩ = some (V j i)) (hk : ∀ j, j < ks.length → RxIn Q w (val6 (V j)) (Rx.nth ks j)) :
      RxIn Q w (.agg #[.int .i64 op, .int .u64 (a : Int), .int .u64 (b : Int), .int .u64 (c : Int), .int .u64 (d : Int), .slice A ks.length cap]) (.mk op a b c d ks)
theorem RxIn.is {Q : Nat → Prop} {w : World} {v : Value} {t : Rx} (h : RxIn Q w v t) : IsRx w v t := by
  induction h with
  | node op a b c d ks A cap blk off V hcap hA hp hq hc hk ih => exact .node op a b c d ks A cap blk off V hcap hA hp hc ih
theorem RxIn.frame {Q Q' : Nat → Prop} {w w' : World} {v : Value} {t : Rx} (h : RxIn Q w v t) (hb : ∀ b, Q b → w'.heap[b]? = w.heap[b]?) (hQ : ∀ b, b < w.heap.size → Q b → Q' b) : RxIn Q' w' v t := by
  induction h with
  | node op a b c d ks A cap blk off V hcap hA hp hq hc hk ih =>
    exact .node op a b c d ks A cap blk off V hcap hA hp (fun h0 => hQ _ (World.block_lt_of_cell? w _ (hc 0 0 h0 (by omega))) (hq h0)) (fun j i hj hi => (World.cell?_of_block (hb blk (hq (by omega)))).trans (hc j i hj hi)) (fun j hj => ih j hj)
/-- A node without kids. -/
theorem RxIn.leaf (Q : Nat → Prop) (w : World) (op : Int) (a b c d : Nat) : RxIn Q w (.agg #[.int .i64 op, .int .u64 (a : Int), .int .u64 (b : Int), .int .u64 (c : Int), .int .u64 (d : Int), .slice none 0 0]) (.mk op a b c d []) :=
  .node op a b c d [] none 0 0 0 (fun _ _ => Go.undef) (Nat.le_refl _) (fun _ => rfl) (fun h => absurd h (by simp)) (fun h => absurd h (by simp)) (fun _ _ h => absurd h (by simp)) (fun _ h => absurd h (by simp))
/-- What a tree's value looks like. -/
theorem RxIn.form {Q : Nat → Prop} {w : World} {v : Value} {t : Rx} (h : RxIn Q w v t) : ∃ op a b c d A n cap, v = .agg #[.int .i64 op, .int .u64 ((a : Nat) : Int), .int .u64 ((b : Nat) : Int), .int .u64 ((c : Nat) : Int), .int .u64 ((d : Nat) : Int), .slice A n cap] := by
  cases h with
  | node op a b c d ks A cap blk off V hcap hA hp hq hc hk => exact ⟨op, a, b, c, d, A, ks.length, cap, rfl⟩

def cells6 (V : Nat → Value) : List Value := [V 0, V 1, V 2, V 3, V 4, V 5]
def rc (L : List (Nat → Value)) : List Value := L.flatMap cells6
theorem rc_app (L M : List (Nat → Value)) : rc (L ++ M) = rc L ++ rc M := by simp [rc]
def row0 : Nat → Value := fun _ => Go.undef
def nthV (L : List (Nat → Value)) (j : Nat) : Nat → Value := L.getD j row0
theorem rc_get : ∀ (L : List (Nat → Value)) (j i : Nat), j < L.length → i < 6 → (rc L)[j * 6 + i]? = some (nthV L j i)
  | x :: r, 0, i, _, hi => by
    show (cells6 x ++ rc r)[0 * 6 + i]? = _
    rw [List.getElem?_append_left (by simp [cells6]; omega)]
    match i, hi with
    | 0, _ => rfl
    | 1, _ => rfl
    | 2, _ => rfl
    | 3, _ => rfl
    | 4, _ => rfl
    | 5, _ => rfl
  | x :: r, j + 1, i, hj, hi => by
    show (cells6 x ++ rc r)[(j + 1) * 6 + i]? = _
    rw [List.getElem?_append_right (by simp [cells6]; omega)]
    have := rc_get r j i (by simpa using hj) hi
    rw [show (j + 1) * 6 + i - (cells6 x).length = j * 6 + i by simp [cells6]; omega, this]
    rfl
theorem nthV_left {L : List (Nat → Value)} {x : Nat → Value} {j : Nat} (h : j < L.length) : nthV (L ++ [x]) j = nthV L j := by simp [nthV, List.getD, List.getElem?_append_left h]
theorem nthV_last (L : List (Nat → Value)) (x : Nat → Value) : nthV (L ++ [x]) L.length = x := by simp [nthV, List.getD]
theorem Rx.nth_left {L : List Rx} {x : Rx} {j : Nat} (h : j < L.length) : Rx.nth (L ++ [x]) j = Rx.nth L j := by simp [Rx.nth, List.getD, List.getElem?_append_left h]
theorem Rx.nth_last (L : List Rx) (x : Rx) : Rx.nth (L ++ [x]) L.length = x := by simp [Rx.nth, List.getD]

theorem Tryz.infoR : (Tryz.prog.info? 135).map (fun i => (i.zero, i.size, i.bytes)) = some (some (.agg #[.int .i64 0, .int .u64 0, .int .u64 0, .int .u64 0, .int .u64 0, .slice none 0 0]), 6, 64) := by kernel_rfl
/-- A slice of trees that one owns, in blocks from base on. -/
def Kids (base : Nat) (w : World) (v : Value) (ts : List Rx) : Prop :=
  ∃ L : List (Nat → Value), L.length = ts.length ∧ w.ownsRow base 135 6 v ts.length (rc L) ∧ ∀ j, j < ts.length → RxIn (fun b => base ≤ b ∧ b < w.heap.size ∧ v.ownBlock ≠ some b) w (val6 (nthV L j)) (Rx.nth ts j)
theorem Kids.nil (base : Nat) (w : World) : Kids base w (.slice none 0 0) [] := ⟨[], rfl, World.ownsRow_nil _ _ _ _, fun _ h => absurd h (by simp)⟩
theorem Kids.frame {base : Nat} {w w' : World} {v : Value} {ts : List Rx} (h : Kids base w v ts) (hs : w.heap.size ≤ w'.heap.size) (hb : ∀ b, base ≤ b → b < w.heap.size → w'.heap[b]? = w.heap[b]?) : Kids base w' v ts := by
  obtain ⟨L, h1, h2, h3⟩ := h
  refine ⟨L, h1, ⟨h2.1, ?_⟩, fun j hj => (h3 j hj).frame (fun b hq => hb b hq.1 hq.2.1) (fun b _ hq => ⟨hq.1, by omega, hq.2.2⟩)⟩
  rcases h2.2 with hn | ⟨g, cap, cur, e, hbg, hg, rest⟩
  · exact .inl hn
  · exact .inr ⟨g, cap, cur, e, hbg, (hb g hbg (Array.getElem?_eq_some_iff.1 hg).1).trans hg, rest⟩
theorem Kids.form {base : Nat} {w : World} {v : Value} {ts : List Rx} (h : Kids base w v ts) : ∃ A cap, v = .slice A ts.length cap ∧ (A = none → cap = 0) ∧ ts.length ≤ cap := by
  obtain ⟨L, h1, h2, h3⟩ := h
  rcases h2.2 with ⟨e, h0⟩ | ⟨g, cap, cur, e, hbg, hg, hc, rest⟩
  · exact ⟨none, 0, by rw [e, h0], fun _ => rfl, by omega⟩
  · exact ⟨_, cap, e, (fun e => by cases e), hc⟩
theorem Kids.low {base : Nat} {w : World} {v : Value} {ts : List Rx} (h : Kids base w v ts) : ∀ k, v.ownBlock = some k → base ≤ k ∧ k < w.heap.size := by
  obtain ⟨L, h1, h2, h3⟩ := h
  exact h2.lt
/-- Such a slice as a node's kids. -/
theorem Kids.node {base : Nat} {w : World} {A : Option Addr} {n cap : Nat} {ts : List Rx} (h : Kids base w (.slice A n cap) ts) (op : Int) : n = ts.length ∧ RxIn (fun b => base ≤ b) w (.agg #[.int .i64 op, .int .u64 0, .int .u64 0, .int .u64 0, .int .u64 0, .slice A n cap]) (.mk op 0 0 0 0 ts) := by
  obtain ⟨L, h1, h2, h3⟩ := h
  rcases h2.2 with ⟨e, h0⟩ | ⟨g, cap', cur, e, hbg, hg, hc, rest⟩
  · injection e with e1 e2 e3
    subst e1 e2 e3
    have : ts = [] := List.eq_nil_of_length_eq_zero h0
    subst this
    exact ⟨rfl, RxIn.leaf _ _ _ 0 0 0 0⟩
  · injection e with e1 e2 e3
    subst e1 e2 e3
    refine ⟨rfl, .node op 0 0 0 0 ts _ cap g 0 (nthV L) hc (fun e => by cases e) (fun _ => rfl) (fun _ => hbg) (fun j i hj hi => ?_) (fun j hj => (h3 j hj).frame (fun _ _ => rfl) (fun _ _ hq => hq.1))⟩
    have := h2.cells (g := g) rfl (j * 6 + i) _ (rc_get L j i (by omega) hi)
    rw [add0] at this; simpa using this
/-- Its only kid. -/
theorem Kids.one {base : Nat} {w : World} {A : Option Addr} {n cap : Nat} {t : Rx} (h : Kids base w (.slice A n cap) [t]) : n = 1 ∧ ∃ g V, A = some ⟨g, 0, none⟩ ∧ (∀ i, i < 6 → w.cell? ⟨g, i, none⟩ = some (V i)) ∧ RxIn (fun b => base ≤ b) w (val6 V) t := by
  obtain ⟨L, h1, h2, h3⟩ := h
  rcases h2.2 with ⟨e, h0⟩ | ⟨g, cap', cur, e, hbg, hg, hc, rest⟩
  · simp at h0
  · injection e with e1 e2 e3
    subst e1 e2 e3
    refine ⟨rfl, g, nthV L 0, rfl, fun i hi => ?_, (h3 0 (by simp)).frame (fun _ _ => rfl) (fun _ _ hq => hq.1)⟩
    have := h2.cells (g := g) rfl (0 * 6 + i) _ (rc_get L 0 i (by simp at h1; omega) hi)
    rw [add0] at this; simpa using this
/-- One tree more. -/
theorem run_appR {base : Nat} {w : World} {v : Value} {ts : List Rx} (ty : TypeId) (h : Kids base w v ts) (g : Nat) (V : Nat → Value) (t : Rx) (hV : ∀ i, i < 6 → w.cell? ⟨g, i, none⟩ = some (V i)) (h1 : ∀ i, i < 6 → (V i).oneCell' = true)
    (ht : RxIn (fun b => base ≤ b ∧ b < w.heap.size ∧ v.ownBlock ≠ some b) w (val6 V) t) (hn : ts.length ≤ 1000) (hbase : base ≤ w.heap.size) :
    ∃ v' w', (Builtin.append_ #[133, 133] ty #[v, .slice (some ⟨g, 0, none⟩) 1 1]).run Tryz.prog w = .ok v' w' ∧ Kids base w' v' (ts ++ [t]) ∧ w.grownBy w' v.ownBlock := by
  obtain ⟨L, hL, hown, hk⟩ := h
  obtain ⟨i0, hi, hz0, hz1, hz2⟩ := info_parts Tryz.infoR
  obtain ⟨v', w', hr, h2, h3, h4, h5⟩ := run_append_own_at (P := Tryz.prog) w base 133 ty 135 i0 _ 6 64 Tryz.underlying133 hi hz0 hz1 hz2 rfl (by decide) v ts.length _ hown ⟨g, 0, none⟩ 1 1 (cells6 V) rfl
    (by
      intro j u hj
      have hj6 : j < 6 := by
        rcases Nat.lt_or_ge j 6 with h | h
        · exact h
        · rw [List.getElem?_eq_none (by simpa [cells6] using h)] at hj; cases hj
      rw [add0, hV j hj6, ← hj]
      match j, hj6 with
      | 0, _ => rfl
      | 1, _ => rfl
      | 2, _ => rfl
      | 3, _ => rfl
      | 4, _ => rfl
      | 5, _ => rfl)
    (by
      intro u hu
      simp only [cells6, List.mem_cons, List.not_mem_nil, or_false] at hu
      rcases hu with rfl | rfl | rfl | rfl | rfl | rfl <;> exact h1 _ (by omega))
    (by unfold maxLen; omega) (by omega) hbase
  refine ⟨v', w', hr, ⟨L ++ [V], by simp [hL], ?_, fun j hj => ?_⟩, h3⟩
  · rw [List.length_append, rc_app]
    have : rc [V] = cells6 V := by simp [rc]
    rw [this]
    exact h2
  · have hfr : ∀ b, (base ≤ b ∧ b < w.heap.size ∧ v.ownBlock ≠ some b) → w'.heap[b]? = w.heap[b]? := fun b hq => h3.block b hq.2.1 (Ne.symm hq.2.2)
    have hQ : ∀ b, b < w.heap.size → (base ≤ b ∧ b < w.heap.size ∧ v.ownBlock ≠ some b) → (base ≤ b ∧ b < w'.heap.size ∧ v'.ownBlock ≠ some b) := fun b _ hq => ⟨hq.1, by have := h3.size; omega, by
      rcases h5 with h5 | h5
      · rw [h5]; exact hq.2.2
      · rw [h5]; intro e; injection e with e; omega⟩
    rw [List.length_append, List.length_singleton] at hj
    rcases Nat.lt_or_ge j ts.length with hlt | hge
    · rw [nthV_left (by omega), Rx.nth_left hlt]
      exact (hk j hlt).frame hfr hQ
    · obtain rfl : j = ts.length := by omega
      rw [Rx.nth_last, ← hL, nthV_last]
      exact ht.frame hfr hQ

end Go.Proofs.YtlfcjjlgkcfkdaaGreatDoor
namespace Go.Proofs.YtlfcjjlgkcfkdaaGreatDoor
open Go.RowKit Go.Sort
open Pz

def sQ : ByteArray := ⟨#[124, 42, 43, 63, 40, 41, 91, 93, 46, 92, 94, 45]⟩
def sS : ByteArray := ⟨#[124, 42, 43, 63, 40, 41, 91, 93, 46, 92]⟩
def sI : ByteArray := ⟨#[92, 93, 91, 94, 45]⟩
def sW : ByteArray := ⟨#[124, 41]⟩
theorem mem_Q : ∀ c, c < 256 → mem sQ c = quotable c := by decide +kernel
theorem mem_S : ∀ c, c < 256 → mem sS c = special c := by decide +kernel
theorem mem_I : ∀ c, c < 256 → mem sI c = inside c := by decide +kernel
theorem mem_W : ∀ c, c < 256 → mem sW c = (c == 124 || c == 41) := by decide +kernel

/-- What a byte that was read is told as. -/
def byteRes : Option (Nat × Nat) → Value
  | none => .tuple #[.int .u8 0, .bool false]
  | some (c, _) => .tuple #[.int .u8 (c : Int), .bool true]
theorem byte1_lt {s : ByteArray} {but : Nat → Bool} {i c j : Nat} (h : byte1 (txt8 s) but i = some (c, j)) : c < 256 ∧ i < j ∧ j ≤ s.size := by
  unfold byte1 at h
  split at h
  · split at h
    · rename_i h1 h2
      have h3 : pk (txt8 s) (i + 1) ≠ 256 := by intro e; rw [e] at h2; simp [quotable, special] at h2
      have h4 := pk_in h3
      have h5 := pk_byte h4
      simp at h
      omega
    · simp at h
  · split at h
    · simp at h
    · rename_i h1 h2
      have h3 : pk (txt8 s) i ≠ 256 := fun e => h2 (.inl e)
      have h4 := pk_in h3
      have h5 := pk_byte h4
      simp at h
      omega
set_option maxRecDepth 100000 in
set_option maxHeartbeats 4000000 in
theorem bytebut_any (P i d : Nat) (q s : ByteArray) (but : Nat → Bool) (hq : ∀ c, c < 256 → mem q c = but c) (w : World) (h : Par w P s i d) :
    Calls Tryz.prog 167 #[.pointer (some ⟨P, 0, none⟩), .string q] w fun e w' => e = .returned (byteRes (byte1 (txt8 s) but i)) ∧ Stp P w w' ∧ ∃ j, Par w' P s j d ∧ ∀ c k, byte1 (txt8 s) but i = some (c, k) → k = j := by
  have H := Lib.hid h
  have hle := h.le
  have hsm := h.sm
  clear h
  obtain ⟨L, hL⟩ : ∃ L, s.size = L := ⟨_, rfl⟩
  by_cases hi : i < L
  · by_cases h92 : pk (txt8 s) i = 92
    · obtain ⟨k, hk⟩ : ∃ k, i + 1 = k := ⟨_, rfl⟩
      have SK : Hid (∀ W (h : Par W P s i d), Calls Tryz.prog 138 #[.pointer (some ⟨P, 0, none⟩), .int .u8 92] W fun e w' => e = .returned (.bool true) ∧ Par w' P s (k) d ∧ Stp P W w') := fun W h => by have := skip_any P i d 92 s W (by omega) h; rw [h92] at this; rw [← hk]; exact this
      obtain ⟨b, hb⟩ : ∃ b, (decide (i < s.size) && mem q (pk (txt8 s) i)) = b := ⟨_, rfl⟩
      have NX : Hid (∀ W (h : Par W P s i d), Calls Tryz.prog 151 #[.pointer (some ⟨P, 0, none⟩), .string q] W fun e w' => e = .returned (.bool b) ∧ ∃ n, w' = W.drewN n) := fun W h => by have := next_any P i d q s W h; rw [hb] at this; exact this
      by_cases hi2 : k < L
      · have TX := fun W => txt8_at W s k (by omega)
        have hpk : pk (txt8 s) k = (txt8 s).getD k 0 := pk_lt (by omega)
        have hb : pk (txt8 s) k < 256 := pk_byte (by omega)
        have hN : (decide (k < s.size) && mem sQ (pk (txt8 s) k)) = quotable (pk (txt8 s) k) := by rw [decide_eq_true (by omega), mem_Q _ hb]; rfl
        obtain ⟨x, hx⟩ : ∃ x, (txt8 s).getD k 0 = x := ⟨_, rfl⟩
        rw [hpk, hx] at hN
        simp only [hx] at TX
        rw [hx] at hpk
        have hge : decide ((k : Int) ≥ (L : Int)) = false := decide_eq_false (by omega)
        have hw1 : IntKind.i64.wrap ((k : Int) + 1) = ((k + 1 : Nat) : Int) := by rw [IntKind.wrap_i64]; omega
        have R : Hid (byte1 (txt8 s) but i = if quotable x = true then some (x, k + 1) else none) := by show _ = _; rw [show k + 1 = i + 2 by omega]; simp only [byte1, h92, hk, hpk, if_true]
        have NQ : Hid (∀ W (h : Par W P s k d), Calls Tryz.prog 151 #[.pointer (some ⟨P, 0, none⟩), .string sQ] W fun e w' => e = .returned (.bool (quotable x)) ∧ ∃ n, w' = W.drewN n) := fun W h => by have := next_any P k d sQ s W h; rw [hpk, hN] at this; exact this
        clear hN hpk hb h92 hx
        cases hqx : quotable x with
        | true =>
          rw [hqx] at NQ R
          rw [if_pos rfl] at R
          go_enter Tryz.func167, Tryz.ntmps167
          go_wp2_with fail
          refine (NX.out _ H.out).mono ?_
          rintro e w' ⟨rfl, n1, rfl⟩
          go_wp2_with fail
          refine (SK.out _ (H.out.drew n1)).mono ?_
          rintro e w2 ⟨rfl, H2, S2⟩
          have H2 := Lib.hid H2
          have S2 := Lib.hid ((Stp.refl P w).drew n1 |>.trans S2)
          go_wp2_with fail
          refine (NQ.out _ H2.out).mono ?_
          rintro e w' ⟨rfl, n2, rfl⟩
          have H3 := H2
          have S3 := S2
          have c0 := H2.out.c0
          have c1 := H2.out.c1
          have f1 := H2.out.fr 1
          have H4 := Lib.hid (fun q => (H3.out.drew q).put1 (k + 1) (by omega))
          go_wp2_with fail
          go_quiet (fail)
          go_wp2_with fail
          go_quiet (fail)
          go_wp2
          go_ret2
          exact ⟨by rw [R.out]; rfl, (S3.out.drew _).trans (Stp.put _ _ _), k + 1, H4.out _, fun c k e => by rw [R.out] at e; simp at e; omega⟩
        | false =>
          rw [hqx] at NQ R
          rw [if_neg (by simp)] at R
          go_enter Tryz.func167, Tryz.ntmps167
          go_wp2_with fail
          refine (NX.out _ H.out).mono ?_
          rintro e w' ⟨rfl, n1, rfl⟩
          go_wp2_with fail
          refine (SK.out _ (H.out.drew n1)).mono ?_
          rintro e w2 ⟨rfl, H2, S2⟩
          have H2 := Lib.hid H2
          have S2 := Lib.hid ((Stp.refl P w).drew n1 |>.trans S2)
          go_wp2_with fail
          refine (NQ.out _ H2.out).mono ?_
          rintro e w' ⟨rfl, n2, rfl⟩
          have H3 := H2
          have S3 := S2
          have c0 := H2.out.c0
          have c1 := H2.out.c1
          have f1 := H2.out.fr 1
          go_wp2_with fail
          go_quiet (fail)
          go_wp2
          go_ret2
          first
            | exact ⟨by rw [R.out]; rfl, S3.out.drew _, _, H3.out.drew _, fun c k e => by rw [R.out] at e; cases e⟩
            | exact ⟨by rw [R.out]; rfl, (S3.out.drew _).drew _, _, (H3.out.drew _).drew _, fun c k e => by rw [R.out] at e; cases e⟩
      · have hge : decide ((k : Int) ≥ (L : Int)) = true := decide_eq_true (by omega)
        have hpk : pk (txt8 s) k = 256 := pk_end (by omega)
        have R : Hid (byte1 (txt8 s) but i = none) := by show _ = _; simp only [byte1, h92, hk, hpk, if_true]; rfl
        have NQ : Hid (∀ W (h : Par W P s k d), Calls Tryz.prog 151 #[.pointer (some ⟨P, 0, none⟩), .string sQ] W fun e w' => e = .returned (.bool false) ∧ ∃ n, w' = W.drewN n) := fun W h => by have := next_any P k d sQ s W h; rw [decide_eq_false (by omega : ¬ k < s.size)] at this; exact this
        clear hpk h92 hb
        go_enter Tryz.func167, Tryz.ntmps167
        go_wp2_with fail
        refine (NX.out _ H.out).mono ?_
        rintro e w' ⟨rfl, n1, rfl⟩
        go_wp2_with fail
        refine (SK.out _ (H.out.drew n1)).mono ?_
        rintro e w2 ⟨rfl, H2, S2⟩
        have H2 := Lib.hid H2
        have S2 := Lib.hid ((Stp.refl P w).drew n1 |>.trans S2)
        go_wp2_with fail
        refine (NQ.out _ H2.out).mono ?_
        rintro e w' ⟨rfl, n2, rfl⟩
        have H3 := H2
        have S3 := S2
        have c0 := H2.out.c0
        have c1 := H2.out.c1
        have f1 := H2.out.fr 1
        go_wp2_with fail
        go_quiet (fail)
        go_wp2
        go_ret2
        first
          | exact ⟨by rw [R.out]; rfl, S3.out.drew _, _, H3.out.drew _, fun c k e => by rw [R.out] at e; cases e⟩
          | exact ⟨by rw [R.out]; rfl, (S3.out.drew _).drew _, _, (H3.out.drew _).drew _, fun c k e => by rw [R.out] at e; cases e⟩
    · have TX := fun W => txt8_at W s i (by omega)
      have hpk : pk (txt8 s) i = (txt8 s).getD i 0 := pk_lt (by omega)
      have hb : pk (txt8 s) i < 256 := pk_byte (by omega)
      have hN : (decide (i < s.size) && mem q (pk (txt8 s) i)) = but (pk (txt8 s) i) := by rw [decide_eq_true (by omega), hq _ hb]; rfl
      obtain ⟨x, hx⟩ : ∃ x, (txt8 s).getD i 0 = x := ⟨_, rfl⟩
      rw [hpk, hx] at hN
      simp only [hx] at TX
      rw [hx] at hpk
      rw [hpk] at h92 hb
      have hge : decide ((i : Int) ≥ (L : Int)) = false := decide_eq_false (by omega)
      have hw1 : IntKind.i64.wrap ((i : Int) + 1) = ((i + 1 : Nat) : Int) := by rw [IntKind.wrap_i64]; omega
      have R : Hid (byte1 (txt8 s) but i = if but x = true then none else some (x, i + 1)) := by
        show _ = _
        simp only [byte1, hpk, if_neg h92]
        have : ¬ x = 256 := by omega
        simp [this]
      have SK : Hid (∀ W (h : Par W P s i d), Calls Tryz.prog 138 #[.pointer (some ⟨P, 0, none⟩), .int .u8 92] W fun e w' => e = .returned (.bool false) ∧ Par w' P s (i) d ∧ Stp P W w') := fun W h => by
        have := skip_any P i d 92 s W (by omega) h
        rw [hpk, if_neg h92, (by simpa using h92 : (x == 92) = false)] at this
        exact this
      have NX : Hid (∀ W (h : Par W P s i d), Calls Tryz.prog 151 #[.pointer (some ⟨P, 0, none⟩), .string q] W fun e w' => e = .returned (.bool (but x)) ∧ ∃ n, w' = W.drewN n) := fun W h => by have := next_any P i d q s W h; rw [hpk, hN] at this; exact this
      clear hN hpk hb h92 hx
      cases hqx : but x with
      | true =>
        rw [hqx] at NX R
        rw [if_pos rfl] at R
        go_enter Tryz.func167, Tryz.ntmps167
        go_wp2_with fail
        refine (NX.out _ H.out).mono ?_
        rintro e w' ⟨rfl, n1, rfl⟩
        go_wp2_with fail
        refine (SK.out _ (H.out.drew n1)).mono ?_
        rintro e w2 ⟨rfl, H2, S2⟩
        have H2 := Lib.hid H2
        have S2 := Lib.hid ((Stp.refl P w).drew n1 |>.trans S2)
        have H3 := H2
        have S3 := S2
        have c0 := H2.out.c0
        have c1 := H2.out.c1
        have f1 := H2.out.fr 1
        go_wp2_with fail
        go_quiet (fail)
        go_wp2
        go_ret2
        first
          | exact ⟨by rw [R.out]; rfl, S3.out.drew _, _, H3.out.drew _, fun c k e => by rw [R.out] at e; cases e⟩
          | exact ⟨by rw [R.out]; rfl, (S3.out.drew _).drew _, _, (H3.out.drew _).drew _, fun c k e => by rw [R.out] at e; cases e⟩
      | false =>
        rw [hqx] at NX R
        rw [if_neg (by simp)] at R
        go_enter Tryz.func167, Tryz.ntmps167
        go_wp2_with fail
        refine (NX.out _ H.out).mono ?_
        rintro e w' ⟨rfl, n1, rfl⟩
        go_wp2_with fail
        refine (SK.out _ (H.out.drew n1)).mono ?_
        rintro e w2 ⟨rfl, H2, S2⟩
        have H2 := Lib.hid H2
        have S2 := Lib.hid ((Stp.refl P w).drew n1 |>.trans S2)
        have H3 := H2
        have S3 := S2
        have c0 := H2.out.c0
        have c1 := H2.out.c1
        have f1 := H2.out.fr 1
        have H4 := Lib.hid (fun q => (H3.out.drew q).put1 (i + 1) (by omega))
        go_wp2_with fail
        go_quiet (fail)
        go_wp2_with fail
        go_quiet (fail)
        go_wp2
        go_ret2
        exact ⟨by rw [R.out]; rfl, (S3.out.drew _).trans (Stp.put _ _ _), i + 1, H4.out _, fun c k e => by rw [R.out] at e; simp at e; omega⟩
  · have hge : decide ((i : Int) ≥ (L : Int)) = true := decide_eq_true (by omega)
    have hpk : pk (txt8 s) i = 256 := pk_end (by omega)
    have R : Hid (byte1 (txt8 s) but i = none) := by show _ = _; simp [byte1, hpk]
    have SK : Hid (∀ W (h : Par W P s i d), Calls Tryz.prog 138 #[.pointer (some ⟨P, 0, none⟩), .int .u8 92] W fun e w' => e = .returned (.bool false) ∧ Par w' P s (i) d ∧ Stp P W w') := fun W h => by
      have := skip_any P i d 92 s W (by omega) h
      rw [hpk] at this
      exact this
    have NX : Hid (∀ W (h : Par W P s i d), Calls Tryz.prog 151 #[.pointer (some ⟨P, 0, none⟩), .string q] W fun e w' => e = .returned (.bool false) ∧ ∃ n, w' = W.drewN n) := fun W h => by have := next_any P i d q s W h; rw [decide_eq_false (by omega : ¬ i < s.size)] at this; exact this
    clear hpk
    go_enter Tryz.func167, Tryz.ntmps167
    go_wp2_with fail
    refine (NX.out _ H.out).mono ?_
    rintro e w' ⟨rfl, n1, rfl⟩
    go_wp2_with fail
    refine (SK.out _ (H.out.drew n1)).mono ?_
    rintro e w2 ⟨rfl, H2, S2⟩
    have H2 := Lib.hid H2
    have S2 := Lib.hid ((Stp.refl P w).drew n1 |>.trans S2)
    have H3 := H2
    have S3 := S2
    have c0 := H2.out.c0
    have c1 := H2.out.c1
    have f1 := H2.out.fr 1
    go_wp2_with fail
    go_quiet (fail)
    go_wp2
    go_ret2
    first
      | exact ⟨by rw [R.out]; rfl, S3.out.drew _, _, H3.out.drew _, fun c k e => by rw [R.out] at e; cases e⟩
      | exact ⟨by rw [R.out]; rfl, (S3.out.drew _).drew _, _, (H3.out.drew _).drew _, fun c k e => by rw [R.out] at e; cases e⟩

end Go.Proofs.YtlfcjjlgkcfkdaaGreatDoor
namespace Go.Proofs.YtlfcjjlgkcfkdaaGreatDoor
open Go.RowKit Go.Sort
open Pz

/-- On the way through a function that has the parser: its result's own block is as it was laid. -/
structure At (w : World) (P : Nat) (s : ByteArray) (i d : Nat) (row : Array Value) (ty : TypeId) (W : World) : Prop where
  st : Stp P w W
  pa : Par W P s i d
  lt : P < w.heap.size
  r : W.heap[w.heap.size]? = some (.cells row ty (0, 0))
section
variable {w W W' : World} {P i d j d' : Nat} {s : ByteArray} {row : Array Value} {ty : TypeId}
theorem At.start (h : Par w P s i d) (row : Array Value) (ty : TypeId) : At w P s i d row ty (w.alloc (.cells row ty)) :=
  ⟨Stp.of ((Below.refl _ _).alloc (Nat.le_refl _) _), h.grown ((Below.refl _ _).alloc (Nat.le_refl _) _), h.lt, heap_alloc_new w _⟩
theorem At.big (h : At w P s i d row ty W) : w.heap.size + 1 ≤ W.heap.size := (Array.getElem?_eq_some_iff.1 h.r).1
theorem At.step (h : At w P s i d row ty W) (st : Stp P W W') (pa : Par W' P s j d') : At w P s j d' row ty W' :=
  ⟨h.st.trans st, pa, h.lt, (st.block _ (by have := h.big; omega) (by have := h.lt; omega)).trans h.r⟩
theorem At.grow (h : At w P s i d row ty W) (hb : Below W.heap.size W W') : At w P s i d row ty W' := h.step (Stp.of hb) (h.pa.grown hb)
theorem At.drew (h : At w P s i d row ty W) (q : Nat) : At w P s i d row ty (W.drewN q) := h.step ((Stp.refl _ _).drew q) (h.pa.drew q)
theorem Par.frame (h : Par w P s i d) (hb : W.heap[P]? = w.heap[P]?) : Par W P s i d :=
  ⟨(World.cell?_of_block (a := ⟨P, 0, none⟩) hb).trans h.c0, (World.cell?_of_block (a := ⟨P, 1, none⟩) hb).trans h.c1, (World.cell?_of_block (a := ⟨P, 2, none⟩) hb).trans h.c2, fun j => (World.frozen?_of_block (a := ⟨P, j, none⟩) hb).trans (h.fr j), h.le, h.sm⟩
theorem At.fin (h : At w P s i d row ty W) (cs : Array Value) : Stp P w (W.setRow w.heap.size cs) ∧ Par (W.setRow w.heap.size cs) P s i d ∧ (W.setRow w.heap.size cs).heap[w.heap.size]? = some (.cells cs ty (0, 0)) :=
  ⟨⟨h.st.os, h.st.tape, h.st.output, by rw [setRow_size]; exact h.st.size, fun k h1 h2 => (setRow_other _ _ _ _ (by omega)).trans (h.st.block k h1 h2)⟩, h.pa.frame (setRow_other _ _ _ _ (by have := h.lt; omega)), setRow_heap _ _ _ _ _ _ h.r⟩
end
section
variable {P i d c j : Nat} {s : ByteArray}
theorem skip_yes (h : pk (txt8 s) i = c) (hc : c < 256) (W : World) (hp : Par W P s i d) : Calls Tryz.prog 138 #[.pointer (some ⟨P, 0, none⟩), .int .u8 (c : Int)] W fun e w' => e = .returned (.bool true) ∧ Stp P W w' ∧ Par w' P s (i + 1) d :=
  (skip_any P i d c s W hc hp).mono fun e w' ⟨h1, h2, h3⟩ => ⟨by rw [h1, h]; simp, h3, by rwa [if_pos h] at h2⟩
theorem skip_no (h : ¬ pk (txt8 s) i = c) (hc : c < 256) (W : World) (hp : Par W P s i d) : Calls Tryz.prog 138 #[.pointer (some ⟨P, 0, none⟩), .int .u8 (c : Int)] W fun e w' => e = .returned (.bool false) ∧ Stp P W w' ∧ Par w' P s i d :=
  (skip_any P i d c s W hc hp).mono fun e w' ⟨h1, h2, h3⟩ => ⟨by rw [h1, (by simpa using h : (pk (txt8 s) i == c) = false)], h3, by rwa [if_neg h] at h2⟩
theorem bb_some (q : ByteArray) (but : Nat → Bool) (hq : ∀ c, c < 256 → mem q c = but c) (h : byte1 (txt8 s) but i = some (c, j)) (W : World) (hp : Par W P s i d) : Calls Tryz.prog 167 #[.pointer (some ⟨P, 0, none⟩), .string q] W fun e w' => e = .returned (.tuple #[.int .u8 (c : Int), .bool true]) ∧ Stp P W w' ∧ Par w' P s j d :=
  (bytebut_any P i d q s but hq W hp).mono fun e w' ⟨h1, h2, k, h3, h4⟩ => ⟨by rw [h1, h]; rfl, h2, by rw [h4 c j h]; exact h3⟩
theorem bb_none (q : ByteArray) (but : Nat → Bool) (hq : ∀ c, c < 256 → mem q c = but c) (h : byte1 (txt8 s) but i = none) (W : World) (hp : Par W P s i d) : Calls Tryz.prog 167 #[.pointer (some ⟨P, 0, none⟩), .string q] W fun e w' => e = .returned (.tuple #[.int .u8 0, .bool false]) ∧ Stp P W w' ∧ ∃ j, Par w' P s j d :=
  (bytebut_any P i d q s but hq W hp).mono fun e w' ⟨h1, h2, k, h3, h4⟩ => ⟨by rw [h1, h]; rfl, h2, k, h3⟩
end
theorem run_ct {fn : Func} {p u : Tmp} {ty : TypeId} (h : fn.results = #[.cell p ty, .tmp u]) (tmps : Array Value) (P : Program) (w : World) (g : Nat) (cs : Array Value) (b : Value)
    (hp : tmps.getD p undef = .pointer (some ⟨g, 0, none⟩)) (hb : tmps.getD u undef = b) (hl : (loadVar ty ⟨g, 0, none⟩).run P w = .ok (.agg cs) w) :
    (results fn tmps).run P w = .ok (.tuple #[.agg cs, b]) w := by
  rw [results_cell_tmp h, hp, hb]
  simp [asAddr, hl, Result.andThen]
/-- What an item is told as. -/
def itemRes : Option (Nat × Nat × Nat) → Value
  | none => .tuple #[.agg zero4, .bool false]
  | some (lo, hi, _) => .tuple #[set4 (span none4 lo (hi + 1 - lo)), .bool true]
def ItemPost (w : World) (P : Nat) (s : ByteArray) (i d : Nat) (e : Ending) (w' : World) : Prop :=
  e = .returned (itemRes (item (txt8 s) i)) ∧ Stp P w w' ∧ ∃ j, Par w' P s j d ∧ ∀ lo hi k, item (txt8 s) i = some (lo, hi, k) → k = j
theorem item_post {w W : World} {P i d j : Nat} {s : ByteArray} (h : At w P s j d zero4 132 W) (cs : Array Value) (r : Option (Nat × Nat × Nat)) (b : Bool) (hr : item (txt8 s) i = r) (hv : itemRes r = .tuple #[.agg cs, .bool b]) (hj : ∀ lo hi k, r = some (lo, hi, k) → k = j) : ItemPost w P s i d (.returned (.tuple #[.agg cs, .bool b])) (W.setRow w.heap.size cs) := by
  subst hr
  exact ⟨by rw [hv], (h.fin cs).1, j, (h.fin cs).2.1, hj⟩
set_option maxRecDepth 100000 in
set_option maxHeartbeats 4000000 in
theorem item_any (P i d : Nat) (s : ByteArray) (w : World) (h : Par w P s i d) :
    Calls Tryz.prog 171 #[.pointer (some ⟨P, 0, none⟩)] w (ItemPost w P s i d) := by
  have H := Lib.hid (At.start h zero4 132)
  clear h
  unfold zero4 at H
  cases h1 : byte1 (txt8 s) inside i with
  | none =>
    have R : Hid (item (txt8 s) i = none) := by show _ = _; unfold item; rw [h1]
    have C1 := Lib.hid (fun W => bb_none (P := P) (d := d) sI inside mem_I h1 W)
    clear h1
    go_enter Tryz.func171, Tryz.ntmps171
    go_wp2_with fail
    refine (C1.out _ H.out.pa).mono ?_
    rintro e W1 ⟨rfl, S1, j1, P1⟩
    replace H := Lib.hid (H.out.step S1 P1)
    clear S1 P1
    go_wp2_with (refine wpList_store_row rfl 132 (.tmp 2) (.tmp 14) rfl w.heap.size #[.int .u64 0, .int .u64 0, .int .u64 0, .int .u64 0] rfl rfl 132 _ H.out.r Tryz.size4 rfl (by simp [Value.oneCell']) ?_)
    exact bodyPost_ret (run_ct rfl _ _ _ w.heap.size _ (.bool false) rfl rfl (run_loadVar_row _ _ _ _ _ _ _ (H.out.fin _).2.2 Tryz.underlying132 rfl Tryz.size4)) rfl (item_post H.out #[.int .u64 0, .int .u64 0, .int .u64 0, .int .u64 0] _ false R.out rfl (fun _ _ _ e => by cases e))
  | some q =>
    obtain ⟨lo, j⟩ := q
    have ⟨l1, _, _⟩ := byte1_lt h1
    have C1 := Lib.hid (fun W => bb_some (P := P) (d := d) sI inside mem_I h1 W)
    by_cases h2 : pk (txt8 s) j = 45
    · have C2 := Lib.hid (fun W => skip_yes (P := P) (d := d) h2 (by omega) W)
      cases h3 : byte1 (txt8 s) inside (j + 1) with
      | none =>
        have R : Hid (item (txt8 s) i = none) := by show _ = _; unfold item; rw [h1]; simp only [h2, if_true, h3]
        have C3 := Lib.hid (fun W => bb_none (P := P) (d := d) sI inside mem_I h3 W)
        clear h1 h2 h3
        go_enter Tryz.func171, Tryz.ntmps171
        go_wp2_with fail
        refine (C1.out _ H.out.pa).mono ?_
        rintro e W1 ⟨rfl, S1, P1⟩
        replace H := Lib.hid (H.out.step S1 P1)
        clear S1 P1
        go_wp2_with fail
        refine (C2.out _ H.out.pa).mono ?_
        rintro e W1 ⟨rfl, S1, P1⟩
        replace H := Lib.hid (H.out.step S1 P1)
        clear S1 P1
        go_wp2_with fail
        refine (C3.out _ H.out.pa).mono ?_
        rintro e W1 ⟨rfl, S1, j1, P1⟩
        replace H := Lib.hid (H.out.step S1 P1)
        clear S1 P1
        go_wp2_with (refine wpList_store_row rfl 132 (.tmp 2) (.tmp 33) rfl w.heap.size #[.int .u64 0, .int .u64 0, .int .u64 0, .int .u64 0] rfl rfl 132 _ H.out.r Tryz.size4 rfl (by simp [Value.oneCell']) ?_)
        exact bodyPost_ret (run_ct rfl _ _ _ w.heap.size _ (.bool false) rfl rfl (run_loadVar_row _ _ _ _ _ _ _ (H.out.fin _).2.2 Tryz.underlying132 rfl Tryz.size4)) rfl (item_post H.out #[.int .u64 0, .int .u64 0, .int .u64 0, .int .u64 0] _ false R.out rfl (fun _ _ _ e => by cases e))
      | some q =>
        obtain ⟨hi, k⟩ := q
        have ⟨l2, _, _⟩ := byte1_lt h3
        have C3 := Lib.hid (fun W => bb_some (P := P) (d := d) sI inside mem_I h3 W)
        by_cases h4 : hi < lo
        · have R : Hid (item (txt8 s) i = none) := by show _ = _; unfold item; rw [h1]; simp only [h2, if_true, h3, if_pos h4]
          have hz : (hi : Int) < (lo : Int) := by omega
          clear h1 h2 h3 h4
          go_enter Tryz.func171, Tryz.ntmps171
          go_wp2_with fail
          refine (C1.out _ H.out.pa).mono ?_
          rintro e W1 ⟨rfl, S1, P1⟩
          replace H := Lib.hid (H.out.step S1 P1)
          clear S1 P1
          go_wp2_with fail
          refine (C2.out _ H.out.pa).mono ?_
          rintro e W1 ⟨rfl, S1, P1⟩
          replace H := Lib.hid (H.out.step S1 P1)
          clear S1 P1
          go_wp2_with fail
          refine (C3.out _ H.out.pa).mono ?_
          rintro e W1 ⟨rfl, S1, P1⟩
          replace H := Lib.hid (H.out.step S1 P1)
          clear S1 P1
          go_wp2_with (refine wpList_store_row rfl 132 (.tmp 2) (.tmp 33) rfl w.heap.size #[.int .u64 0, .int .u64 0, .int .u64 0, .int .u64 0] rfl rfl 132 _ H.out.r Tryz.size4 rfl (by simp [Value.oneCell']) ?_)
          exact bodyPost_ret (run_ct rfl _ _ _ w.heap.size _ (.bool false) rfl rfl (run_loadVar_row _ _ _ _ _ _ _ (H.out.fin _).2.2 Tryz.underlying132 rfl Tryz.size4)) rfl (item_post H.out #[.int .u64 0, .int .u64 0, .int .u64 0, .int .u64 0] _ false R.out rfl (fun _ _ _ e => by cases e))
        · have R : Hid (item (txt8 s) i = some (lo, hi, k)) := by show _ = _; unfold item; rw [h1]; simp only [h2, if_true, h3, if_neg h4]
          have hz : ¬ (hi : Int) < (lo : Int) := by omega
          have SP := Lib.hid (fun W => span_any lo hi (by omega) (by omega) W)
          unfold set4 at SP
          obtain ⟨U, hU⟩ : ∃ U, span none4 lo (hi + 1 - lo) = U := ⟨_, rfl⟩
          rw [hU] at SP
          have HU := Lib.hid hU
          clear hU
          clear h1 h2 h3 h4
          go_enter Tryz.func171, Tryz.ntmps171
          go_wp2_with fail
          refine (C1.out _ H.out.pa).mono ?_
          rintro e W1 ⟨rfl, S1, P1⟩
          replace H := Lib.hid (H.out.step S1 P1)
          clear S1 P1
          go_wp2_with fail
          refine (C2.out _ H.out.pa).mono ?_
          rintro e W1 ⟨rfl, S1, P1⟩
          replace H := Lib.hid (H.out.step S1 P1)
          clear S1 P1
          go_wp2_with fail
          refine (C3.out _ H.out.pa).mono ?_
          rintro e W1 ⟨rfl, S1, P1⟩
          replace H := Lib.hid (H.out.step S1 P1)
          clear S1 P1
          go_wp2_with fail
          refine (SP.out _).mono ?_
          rintro e W1 ⟨rfl, B1⟩
          replace H := Lib.hid (H.out.grow B1)
          clear B1
          go_wp2_with (refine wpList_store_row rfl 132 (.tmp 2) (.tmp 36) rfl w.heap.size #[.int .u64 (U 0 : Int), .int .u64 (U 1 : Int), .int .u64 (U 2 : Int), .int .u64 (U 3 : Int)] rfl rfl 132 _ H.out.r Tryz.size4 rfl (by simp [Value.oneCell']) ?_)
          exact bodyPost_ret (run_ct rfl _ _ _ w.heap.size _ (.bool true) rfl rfl (run_loadVar_row _ _ _ _ _ _ _ (H.out.fin _).2.2 Tryz.underlying132 rfl Tryz.size4)) rfl (item_post H.out #[.int .u64 (U 0 : Int), .int .u64 (U 1 : Int), .int .u64 (U 2 : Int), .int .u64 (U 3 : Int)] _ true R.out (by rw [itemRes, HU.out]; rfl) (fun _ _ _ e => by simp at e; omega))
    · have C2 := Lib.hid (fun W => skip_no (P := P) (d := d) h2 (by omega) W)
      have R : Hid (item (txt8 s) i = some (lo, lo, j)) := by show _ = _; unfold item; rw [h1]; simp only [if_neg h2]
      have SP := Lib.hid (fun W => span_any lo lo (by omega) (by omega) W)
      unfold set4 at SP
      obtain ⟨U, hU⟩ : ∃ U, span none4 lo (lo + 1 - lo) = U := ⟨_, rfl⟩
      rw [hU] at SP
      have HU := Lib.hid hU
      clear hU
      clear h1 h2
      go_enter Tryz.func171, Tryz.ntmps171
      go_wp2_with fail
      refine (C1.out _ H.out.pa).mono ?_
      rintro e W1 ⟨rfl, S1, P1⟩
      replace H := Lib.hid (H.out.step S1 P1)
      clear S1 P1
      go_wp2_with fail
      refine (C2.out _ H.out.pa).mono ?_
      rintro e W1 ⟨rfl, S1, P1⟩
      replace H := Lib.hid (H.out.step S1 P1)
      clear S1 P1
      go_wp2_with fail
      refine (SP.out _).mono ?_
      rintro e W1 ⟨rfl, B1⟩
      replace H := Lib.hid (H.out.grow B1)
      clear B1
      go_wp2_with (refine wpList_store_row rfl 132 (.tmp 2) (.tmp 20) rfl w.heap.size #[.int .u64 (U 0 : Int), .int .u64 (U 1 : Int), .int .u64 (U 2 : Int), .int .u64 (U 3 : Int)] rfl rfl 132 _ H.out.r Tryz.size4 rfl (by simp [Value.oneCell']) ?_)
      exact bodyPost_ret (run_ct rfl _ _ _ w.heap.size _ (.bool true) rfl rfl (run_loadVar_row _ _ _ _ _ _ _ (H.out.fin _).2.2 Tryz.underlying132 rfl Tryz.size4)) rfl (item_post H.out #[.int .u64 (U 0 : Int), .int .u64 (U 1 : Int), .int .u64 (U 2 : Int), .int .u64 (U 3 : Int)] _ true R.out (by rw [itemRes, HU.out]; rfl) (fun _ _ _ e => by simp at e; omega))

end Go.Proofs.YtlfcjjlgkcfkdaaGreatDoor

