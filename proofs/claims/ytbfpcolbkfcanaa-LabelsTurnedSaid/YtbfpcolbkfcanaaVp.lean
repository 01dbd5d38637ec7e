/-
  What vint.Put and the reference's Put do, for every number: they return a new slice that holds 'put n', and write nothing that was there.
-/
import Derived.Test.YtbfpcolbkfcanaaBy
namespace Go.Proofs.Ytbfpcolbkfcanaa
open Go.RowKit

def PutInv (w : World) (n : Nat) (a v : Value) (wr : World) : Prop :=
  ∃ (m : Nat) (acc : List Nat), acc.length ≤ 9 ∧ a = .int .u64 (m : Int) ∧ Vm.PutRel n acc m ∧ wr.ownsRow w.heap.size 5 1 v acc.length (by8 acc) ∧ Below w.heap.size w wr

theorem put_step {w wr w1 : World} {n m : Nat} {acc : List Nat} {v v' : Value} {o : Obj} (hl : acc.length ≤ 9) (hr : Vm.PutRel n acc m) (hm : 128 ≤ m) (hown : wr.ownsRow w.heap.size 5 1 v acc.length (by8 acc)) (hb : Below w.heap.size w wr)
    (hown' : w1.ownsRow w.heap.size 5 1 v' (acc.length + 1) (by8 acc ++ [.int .u8 ((m : Int) % 128 + 128)])) (hg : (wr.alloc o).grownBy w1 v.ownBlock) : PutInv w n (.int .u64 ((m / 128 : Nat) : Int)) v' w1 := by
  obtain ⟨h1, h2⟩ := Vm.putRel_step hl hr hm
  refine ⟨m / 128, acc ++ [m % 128 + 128], h1, rfl, h2, ?_, ?_⟩
  · have e : by8 (acc ++ [m % 128 + 128]) = by8 acc ++ [.int .u8 ((m : Int) % 128 + 128)] := by simp [by8]
    rw [e, List.length_append]; exact hown'
  · exact (hb.alloc hb.size o).grown hg (by have := hb.size; simp; omega) (own_ge hown)

theorem wrapq {m : Nat} (h : Vm.Fits m) : IntKind.u64.wrap ((m : Int) / 128) = ((m / 128 : Nat) : Int) := by
  unfold Vm.Fits at h; rw [IntKind.wrap_u64]; omega
theorem put_done {w wr w1 : World} {n m : Nat} {acc : List Nat} {v v' : Value} {o : Obj} (hr : Vm.PutRel n acc m) (hm : m < 128) (hown : wr.ownsRow w.heap.size 5 1 v acc.length (by8 acc)) (hb : Below w.heap.size w wr)
    (hown' : w1.ownsRow w.heap.size 5 1 v' (acc.length + 1) (by8 acc ++ [.int .u8 (m : Int)])) (hg : (wr.alloc o).grownBy w1 v.ownBlock) : MadeBytes w (Vm.put n) (.returned v') w1 := by
  refine ⟨v', rfl, ?_, (hb.alloc hb.size o).grown hg (by have := hb.size; simp; omega) (own_ge hown)⟩
  rw [← Vm.putRel_end hr hm, List.length_append]
  have e : by8 (acc ++ [m]) = by8 acc ++ [.int .u8 (m : Int)] := by simp [by8]
  rw [e]; exact hown'

set_option maxRecDepth 100000 in
set_option maxHeartbeats 400000 in
theorem put_any (n : Nat) (w : World) (hn : Vm.Fits n) : Calls Try.prog 30 #[.int .u64 (n : Int)] w (MadeBytes w (Vm.put n)) := by
  obtain ⟨i0, hi, hz0, hz1, hz2⟩ := info_parts Try.info5
  go_enter Try.func30, Try.ntmps30
  go_wp2
  go_loopw [0, 3] (fun a v wr => PutInv w n a v wr) (fun a _ _ => (intOf a).toNat)
  case atStart => exact ⟨n, [], by simp, rfl, Vm.putRel_start n hn, World.ownsRow_nil _ _ _ _, Below.refl _ _⟩
  case round =>
    obtain ⟨m, acc, hl, rfl, hrel, hown, hb⟩ := hrel
    have HR := Lib.hid hrel
    clear hrel
    by_cases hlt : 128 ≤ m
    · go_wp2_with (at_builtin; (refine wpList_append_own _ rfl _ _ 28 rfl w.heap.size 5 i0 (.int .u8 0) 1 1 Try.underlying28 hi hz0 hz1 hz2 rfl (by decide) _ _ _ rfl (hown.alloc _) ⟨wr.heap.size, 0, none⟩ 1 1 [.int .u8 ((m : Int) % 128 + 128)] rfl rfl (cell_one_new _ _ _) (one8 _) (len_ok hl) (by omega) (bel_size hb) ?_))
      intro v' w1 hown' hgrow _
      have R := put_step hl HR.out hlt hown hb hown' hgrow
      clear hown' hgrow hown hb
      go_wp2
      go_roundw
      case rel => exact R
      case measure => simp [intOf]; omega
    · go_wp2_with (at_builtin; (refine wpList_append_own _ rfl _ _ 28 rfl w.heap.size 5 i0 (.int .u8 0) 1 1 Try.underlying28 hi hz0 hz1 hz2 rfl (by decide) _ _ _ rfl (hown.alloc _) ⟨wr.heap.size, 0, none⟩ 1 1 [.int .u8 (m : Int)] rfl rfl (cell_one_new _ _ _) (one8 _) (len_ok hl) (by omega) (bel_size hb) ?_))
      intro v' w1 hown' hgrow _
      have R := put_done HR.out (by omega) hown hb hown' hgrow
      clear hown' hgrow hown hb
      go_wp2
      go_ret
      exact R

set_option maxRecDepth 100000 in
set_option maxHeartbeats 400000 in
theorem rput_any (n : Nat) (w : World) (hn : Vm.Fits n) : Calls Try.prog 41 #[.int .u64 (n : Int)] w (MadeBytes w (Vm.put n)) := by
  obtain ⟨i0, hi, hz0, hz1, hz2⟩ := info_parts Try.info5
  go_enter Try.func41, Try.ntmps41
  go_wp2
  go_loopw [0, 3] (fun a v wr => PutInv w n a v wr) (fun a _ _ => (intOf a).toNat)
  case atStart => exact ⟨n, [], by simp, rfl, Vm.putRel_start n hn, World.ownsRow_nil _ _ _ _, Below.refl _ _⟩
  case round =>
    obtain ⟨m, acc, hl, rfl, hrel, hown, hb⟩ := hrel
    have HR := Lib.hid hrel
    clear hrel
    by_cases hlt : 128 ≤ m
    · go_wp2_with (at_builtin; (refine wpList_append_own _ rfl _ _ 28 rfl w.heap.size 5 i0 (.int .u8 0) 1 1 Try.underlying28 hi hz0 hz1 hz2 rfl (by decide) _ _ _ rfl (hown.alloc _) ⟨wr.heap.size, 0, none⟩ 1 1 [.int .u8 ((m : Int) % 128 + 128)] rfl rfl (cell_one_new _ _ _) (one8 _) (len_ok hl) (by omega) (bel_size hb) ?_))
      intro v' w1 hown' hgrow _
      have R := put_step hl HR.out hlt hown hb hown' hgrow
      clear hown' hgrow hown hb
      go_wp2
      go_roundw
      case rel => rw [wrapq (Vm.fits_of HR.out)]; exact R
      case measure => rw [wrapq (Vm.fits_of HR.out)]; simp [intOf]; omega
    · go_wp2_with (at_builtin; (refine wpList_append_own _ rfl _ _ 28 rfl w.heap.size 5 i0 (.int .u8 0) 1 1 Try.underlying28 hi hz0 hz1 hz2 rfl (by decide) _ _ _ rfl (hown.alloc _) ⟨wr.heap.size, 0, none⟩ 1 1 [.int .u8 (m : Int)] rfl rfl (cell_one_new _ _ _) (one8 _) (len_ok hl) (by omega) (bel_size hb) ?_))
      intro v' w1 hown' hgrow _
      have R := put_done HR.out (by omega) hown hb hown' hgrow
      clear hown' hgrow hown hb
      go_wp2
      go_ret
      exact R

end Go.Proofs.Ytbfpcolbkfcanaa
