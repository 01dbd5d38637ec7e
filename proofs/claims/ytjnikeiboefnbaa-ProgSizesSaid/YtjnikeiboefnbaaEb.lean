/-
  What sordinekeep.Nodes does: how many nodes a tree has, or one more than may be. Conditions: at most 1000 may be.
-/
import Derived.Test.YtjnikeiboefnbaaProg
import Derived.Test.YtjnikeiboefnbaaEa
import Derived.WalkKit
import Derived.WalkSpells
import Derived.WalkLawsBesides
import Derived.Lib.Hide
import Derived.Below
import Derived.BigQuiet
import Derived.Lib.QuietBelow
import Derived.Laws.StructEq
import Derived.KernelRfl
import Derived.Deep.RegionHeld3
namespace Go.Proofs.Ytjnikeiboefnbaa
open Go.RowKit

theorem Rx.countL_take {ks : List Rx} {k : Nat} (h : k < ks.length) : Rx.countL (ks.take (k + 1)) = Rx.countL (ks.take k) + Rx.count (Rx.nth ks k) := by
  rw [Rx.nth_eq h]
  induction ks generalizing k with
  | nil => simp at h
  | cons x r ih =>
    cases k with
    | zero => simp [Rx.countL]
    | succ k =>
      have := ih (k := k) (by simpa using h)
      simp only [List.take_succ_cons, Rx.countL, List.getElem_cons_succ] at this ⊢
      omega
theorem Rx.take_le {ks : List Rx} {k : Nat} (h : k ≤ ks.length) : k ≤ Rx.countL (ks.take k) := by
  have := Rx.len_count (ks.take k)
  rw [List.length_take, Nat.min_eq_left h] at this
  exact this
/-- A node's cells in its own block. -/
theorem box6 {w : World} {v0 v1 v2 v3 v4 v5 : Value} {ty : TypeId} {W : World} (h : Below (w.heap.size + 1) (w.alloc (.cells #[v0, v1, v2, v3, v4, v5] ty)) W) :
    (W.cell? ⟨w.heap.size, 0, none⟩ = some v0 ∧ W.cell? ⟨w.heap.size, 1, none⟩ = some v1 ∧ W.cell? ⟨w.heap.size, 2, none⟩ = some v2 ∧ W.cell? ⟨w.heap.size, 3, none⟩ = some v3 ∧ W.cell? ⟨w.heap.size, 4, none⟩ = some v4 ∧ W.cell? ⟨w.heap.size, 5, none⟩ = some v5) ∧ Below w.heap.size w W := by
  have e := heap_alloc_new w (.cells #[v0, v1, v2, v3, v4, v5] ty)
  have e2 : W.heap[w.heap.size]? = _ := (h.block w.heap.size (by omega)).trans e
  refine ⟨⟨?_, ?_, ?_, ?_, ?_, ?_⟩, ((Below.refl _ _).alloc (Nat.le_refl _) _).trans (h.mono (by omega))⟩ <;> (rw [cell_of_row _ w.heap.size _ _ ty (0, 0) e2]; rfl)

set_option maxRecDepth 100000 in
set_option maxHeartbeats 4000000 in
theorem nodes_any : ∀ (n : Nat) (t : Rx) (v : Value) (m : Nat) (w : World), m ≤ 1000 → Rx.count t ≤ n → IsRx w v t → Calls Try.prog 12 #[v, .int .i64 (m : Int)] w fun e w' => e = .returned (.int .i64 ((min (Rx.count t) (m + 1) : Nat) : Int)) ∧ Below w.heap.size w w' := by
  intro n
  induction n with
  | zero => intro t v m w _ hs; have := Rx.count_pos t; omega
  | succ n ih =>
    intro t v m w hm hs h
    cases h with
    | node op a b c_ d ks A cap blk off V hcap hA hp hc hk =>
      rw [Rx.count] at hs
      have IH : Hid (∀ j, j < ks.length → ∀ (m' : Nat) (W : World), m' ≤ 1000 → Below w.heap.size w W → Calls Try.prog 12 #[val6 (V j), .int .i64 (m' : Int)] W fun e w' => e = .returned (.int .i64 ((min (Rx.count (Rx.nth ks j)) (m' + 1) : Nat) : Int)) ∧ Below W.heap.size W w') := fun j hj m' W hm' hW => ih _ _ m' W hm' (by have := Rx.nth_count hj; omega) ((hk j hj).grown hW)
      have HC : Hid (∀ W, Below w.heap.size w W → ∀ j i, j < ks.length → i < 6 → W.cell? ⟨blk, off + j * 6 + i, none⟩ = some (V j i)) := fun W hW j i hj hi => (hW.cell (World.block_lt_of_cell? w _ (hc j i hj hi))).trans (hc j i hj hi)
      have HP := Lib.hid hp
      have CT := Lib.hid (fun k => Rx.countL_take (ks := ks) (k := k))
      have TL := Lib.hid (fun k => Rx.take_le (ks := ks) (k := k))
      have CE : Hid (Rx.countL (ks.take ks.length) = Rx.countL ks) := by show _ = _; rw [List.take_length]
      have CC : Hid (Rx.count (.mk op a b c_ d ks) = 1 + Rx.countL ks) := by show _ = _; rw [Rx.count]
      have MO : Hid (∀ k, k ≤ ks.length → Rx.countL (ks.take k) ≤ Rx.countL ks) := by
        intro k hk
        have : ∀ j, k + j ≤ ks.length → Rx.countL (ks.take k) ≤ Rx.countL (ks.take (k + j)) := by
          intro j
          induction j with
          | zero => intro _; exact Nat.le_refl _
          | succ j ihj =>
            intro hj
            have h1 := ihj (by omega)
            have h2 := Rx.countL_take (ks := ks) (k := k + j) (by omega)
            rw [← Nat.add_assoc, h2]; omega
        have := this (ks.length - k) (by omega)
        rwa [show k + (ks.length - k) = ks.length by omega, List.take_length] at this
      clear hp hc hk ih hA hs
      obtain ⟨N, hN⟩ : ∃ N, ks.length = N := ⟨_, rfl⟩
      rw [hN] at hcap IH HC HP CT TL CE MO ⊢
      clear hN hcap
      have BX := Lib.hid (fun W => box6 (w := w) (v0 := .int .i64 op) (v1 := .int .u64 (a : Int)) (v2 := .int .u64 (b : Int)) (v3 := .int .u64 (c_ : Int)) (v4 := .int .u64 (d : Int)) (v5 := .slice A N cap) (ty := 26) (W := W))
      have SZ0 : Hid (w.heap.size + 1 ≤ (w.alloc (.cells #[.int .i64 op, .int .u64 (a : Int), .int .u64 (b : Int), .int .u64 (c_ : Int), .int .u64 (d : Int), .slice A N cap] 26)).heap.size) := by show _ ≤ _; simp
      go_enter Try.func12, Try.ntmps12
      go_wp2
      obtain ⟨w0, hw0⟩ : ∃ w0, w.alloc (.cells #[.int .i64 op, .int .u64 (a : Int), .int .u64 (b : Int), .int .u64 (c_ : Int), .int .u64 (d : Int), .slice A N cap] 26) = w0 := ⟨_, rfl⟩
      rw [hw0] at BX SZ0 ⊢
      clear hw0
      go_loopw [5, 6] (fun vn i wr => ∃ k c : Nat, k ≤ N ∧ k < c ∧ c ≤ m + 1 ∧ i = .int .i64 (k : Int) ∧ vn = .int .i64 (c : Int) ∧ Hid (Below (w.heap.size + 1) w0 wr ∧ c = min (1 + Rx.countL (ks.take k)) (m + 1))) (fun _ i _ => N - (intOf i).toNat)
      case atStart => exact ⟨0, 1, by omega, by omega, by omega, rfl, rfl, Below.refl _ _, by simp [Rx.countL]⟩
      case round =>
        obtain ⟨k, c, hk, hkc, hcm, rfl, rfl, HI⟩ := hrel
        obtain ⟨⟨_, _, _, _, _, q5⟩, BW⟩ := BX.out wr HI.out.1
        have BWH := Lib.hid BW
        have A1 := Lib.hid HI.out.1
        have A2 := Lib.hid HI.out.2
        clear BW HI
        by_cases hkn : k < N
        · have hkz : (k : Int) < (N : Int) := by omega
          by_cases hle : c ≤ m
          · have hlez : (c : Int) ≤ (m : Int) := by omega
            have hAe := HP.out (by omega)
            subst hAe
            have c0 := HC.out wr BWH.out k 0 hkn (by omega)
            have c1 := HC.out wr BWH.out k 1 hkn (by omega)
            have c2 := HC.out wr BWH.out k 2 hkn (by omega)
            have c3 := HC.out wr BWH.out k 3 hkn (by omega)
            have c4 := HC.out wr BWH.out k 4 hkn (by omega)
            have c5 := HC.out wr BWH.out k 5 hkn (by omega)
            simp only [Nat.add_zero] at c0
            have CK := Lib.hid (IH.out k hkn (m - c) wr (by omega) BWH.out)
            have em : ((m - c : Nat) : Int) = (m : Int) - (c : Int) := by omega
            rw [em] at CK
            unfold val6 at CK
            generalize V k 0 = v0 at *
            generalize V k 1 = v1 at *
            generalize V k 2 = v2 at *
            generalize V k 3 = v3 at *
            generalize V k 4 = v4 at *
            generalize V k 5 = v5 at *
            obtain ⟨r, hr⟩ : ∃ r, min (Rx.count (Rx.nth ks k)) (m - c + 1) = r := ⟨_, rfl⟩
            rw [hr] at CK
            have hr1 : 1 ≤ r ∧ r ≤ m - c + 1 := by have := Rx.count_pos (Rx.nth ks k); omega
            have R : Hid (c + r = min (1 + Rx.countL (ks.take (k + 1))) (m + 1)) := by
              show _ = _
              have h1 := A2.out
              rw [CT.out k hkn]
              omega
            clear hr em HC
            have wm : IntKind.i64.wrap ((m : Int) - (c : Int)) = (m : Int) - (c : Int) := by rw [IntKind.wrap_i64]; omega
            have wc : IntKind.i64.wrap ((c : Int) + (r : Int)) = (c : Int) + (r : Int) := by rw [IntKind.wrap_i64]; omega
            go_wp2_with fail
            refine CK.out.mono ?_
            rintro e w' ⟨rfl, b'⟩
            have B := Lib.hid (A1.out.trans (b'.mono (by have := A1.out.size; have := SZ0.out; omega)))
            clear b' CK c0 c1 c2 c3 c4 c5 q5
            go_wp2
            go_roundw
            case rel => exact ⟨k + 1, c + r, by omega, by omega, by omega, by go_num, by simp, B.out, R.out⟩
            case measure => simp [intOf]; omega
          · have hlez : ¬ (c : Int) ≤ (m : Int) := by omega
            have R : Hid (min (Rx.count (.mk op a b c_ d ks)) (m + 1) = c) := by
              show _ = _
              have h1 := A2.out
              have h2 := MO.out k hk
              rw [CC.out]; omega
            clear HC IH
            go_wp2
            go_ret
            exact ⟨by rw [R.out]; rfl, BWH.out⟩
        · obtain rfl : k = N := by omega
          have hkz : ¬ (k : Int) < (k : Int) := by omega
          have R : Hid (min (Rx.count (.mk op a b c_ d ks)) (m + 1) = c) := by
            show _ = _
            have h1 := A2.out
            rw [CE.out] at h1
            rw [CC.out]; omega
          clear HC IH
          go_wp2
          go_ret
          exact ⟨by rw [R.out]; rfl, BWH.out⟩

end Go.Proofs.Ytjnikeiboefnbaa
