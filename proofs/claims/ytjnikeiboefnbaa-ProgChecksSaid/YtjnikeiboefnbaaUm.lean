/-
  What sordinelaw6's same does: it tells whether two lists of steps are the same. Conditions: lengths fit.
-/
import Derived.Test.YtjnikeiboefnbaaProg
import Derived.Test.YtjnikeiboefnbaaEa
import Derived.Test.YtjnikeiboefnbaaJb
import Derived.Test.YtjnikeiboefnbaaHa
import Derived.Test.YtjnikeiboefnbaaHd
import Derived.Test.YtjnikeiboefnbaaJd
import Derived.Test.YtjnikeiboefnbaaJh
import Derived.Test.YtjnikeiboefnbaaUa
import Derived.Test.YtjnikeiboefnbaaUb
import Derived.Test.YtjnikeiboefnbaaUk
import Derived.Laws.AppendOwn
import Derived.Maps.AppendAt
import Derived.Deep.LoopGhost
import Derived.Deep.QuietTactic
import Derived.BigQuiet
import Derived.Lib.Bytealg
import Derived.Laws.Externs
import Derived.Laws.CopyOwn
import Derived.Laws.MakeOwn
import Derived.Laws.OwnMore
import Derived.OwnWalk
import Derived.StillTailTactics
import Derived.WalkKit
import Derived.WalkSpells
import Derived.WalkLawsBesides
import Derived.Lib.Hide
import Derived.Below
import Derived.Lib.QuietBelow
import Derived.Laws.StructEq
import Derived.KernelRfl
import Derived.Deep.RegionHeld3
import Derived.Laws.ResultCell
namespace Go.Proofs.Ytjnikeiboefnbaa
open Go.RowKit

theorem eq_arr4 (n : Nat) (a b c d a' b' c' d' : Int) : ∀ W, (Op.equalIn (n + 2) 23 (.agg #[.int .u64 a, .int .u64 b, .int .u64 c, .int .u64 d]) (.agg #[.int .u64 a', .int .u64 b', .int .u64 c', .int .u64 d'])).run Try.prog W = .ok (a == a' && b == b' && c == c' && d == d') W := by
  intro W
  obtain ⟨i, hi⟩ : ∃ i, Try.prog.info? 22 = some i := Option.isSome_iff_exists.1 (by kernel_rfl)
  have he := Try.underlying22
  have q := fun x y => run_equalIn_int (P := Try.prog) W n 22 .u64 .u64 x y he
  have u := run_underlying (w := W) he
  rw [run_equalIn_array W (n + 1) _ _ Try.underlying23 hi, Try.one64]
  have e : List.range 4 = [0, 1, 2, 3] := rfl
  rw [e]
  simp [Op.eqItems, part, isAgg, u, q, Sem.run_bind]
  by_cases h1 : a = a' <;> by_cases h2 : b = b' <;> by_cases h3 : c = c' <;> by_cases h4 : d = d' <;> simp [h1, h2, h3, h4]
theorem st_eql (w : World) (s t : St) : (Op.equalIn 10000 33 (.agg (cells7 s).toArray) (.agg (cells7 t).toArray)).run Try.prog w = .ok (decide (s = t)) w := by
  have hs : Try.prog.stoodInHeld 33 = false := by kernel_rfl
  rw [run_equalIn_agg _ 9999 _ _ _ (by kernel_rfl) hs]
  obtain ⟨op, a, b, c, d, x, y⟩ := s
  obtain ⟨op', a', b', c', d', x', y'⟩ := t
  have EA := eq_arr4 9997 (a : Int) b c d a' b' c' d'
  simp only [Program.fieldsOf, Try.underlying33, cells7]
  go_simp
  simp only [Int.natCast_inj]
  by_cases h0 : op = op'
  · by_cases h1 : a = a'
    · by_cases h2 : b = b'
      · by_cases h3 : c = c'
        · by_cases h4 : d = d'
          · by_cases h5 : x = x' <;> by_cases h6 : y = y' <;> simp [h0, h1, h2, h3, h4, h5, h6]
          · simp [h0, h1, h2, h3, h4]
        · simp [h0, h1, h2, h3]
      · simp [h0, h1, h2]
    · simp [h0, h1]
  · simp [h0]
theorem st_neq (w : World) (s t : St) : (binOp .neq 33 (.agg (cells7 s).toArray) (.agg (cells7 t).toArray)).run Try.prog w = .ok (.bool (!decide (s = t))) w := by
  rw [run_neq_struct, st_eql]; rfl
theorem st_eq (w : World) (s t : St) : (binOp .eql 33 (.agg (cells7 s).toArray) (.agg (cells7 t).toArray)).run Try.prog w = .ok (.bool (decide (s = t))) w := by
  rw [run_eql_struct, st_eql]; rfl
theorem ext_nthS {xs ys : List St} (hl : xs.length = ys.length) (h : ∀ j, j < xs.length → nthS xs j = nthS ys j) : xs = ys :=
  List.ext_getElem hl fun j h1 h2 => by have := h j h1; rwa [nthS_eq h1, nthS_eq h2] at this

set_option maxRecDepth 100000 in
set_option maxHeartbeats 1000000 in
theorem samest_any (xs ys : List St) (A B : Option Addr) (nx ny ca cb : Nat) (w : World) (ex : xs.length = nx) (ey : ys.length = ny) (hx : nx ≤ 1048576) (hy : ny ≤ 1048576) (hca : nx ≤ ca) (hcb : ny ≤ cb) (ha : IsSt w A xs) (hb : IsSt w B ys) :
    Calls Try.prog 16 #[.slice A nx ca, .slice B ny cb] w fun e w' => e = .returned (.bool (decide (xs = ys))) ∧ Below w.heap.size w w' := by
  by_cases hl : nx = ny
  · subst hl
    have HE : Hid ((∀ j, j < nx → nthS xs j = nthS ys j) → xs = ys) := fun h => ext_nthS (by omega) (by rw [ex]; exact h)
    have HA := Lib.hid (fun W (hW : Below w.heap.size w W) (hp : 0 < nx) => (ha.grown hW).at (by omega))
    have HB := Lib.hid (fun W (hW : Below w.heap.size w W) (hp : 0 < nx) => (hb.grown hW).at (by omega))
    have EX := Lib.hid ex
    have EY := Lib.hid ey
    clear ha hb ex ey
    go_enter Try.func16, Try.ntmps16
    go_wp2_with fail
    go_loopw [5] (fun i wr => ∃ k : Nat, k ≤ nx ∧ i = .int .i64 (k : Int) ∧ Hid ((∀ j, j < k → nthS xs j = nthS ys j) ∧ Below w.heap.size w wr)) (fun i _ => nx - (intOf i).toNat)
    case atStart => exact ⟨0, by omega, rfl, fun j hj => by omega, Below.refl _ _⟩
    case round =>
      obtain ⟨k, hk, rfl, HI⟩ := hrel
      by_cases hkn : k < nx
      · have hkz : (k : Int) < (nx : Int) := by omega
        obtain ⟨b1, o1, rfl, h1⟩ := HA.out wr HI.out.2 (by omega)
        obtain ⟨b2, o2, rfl, h2⟩ := HB.out wr HI.out.2 (by omega)
        obtain ⟨c0, c1, c2, c3, c4, c5, c6⟩ := h1 k (by rw [EX.out]; exact hkn)
        obtain ⟨d0, d1, d2, d3, d4, d5, d6⟩ := h2 k (by rw [EY.out]; exact hkn)
        clear h1 h2 HA HB
        have NE := fun W => st_neq W (nthS xs k) (nthS ys k)
        have AL := Lib.hid HI.out.1
        have BL := Lib.hid HI.out.2
        have HNE : Hid (nthS xs k ≠ nthS ys k → decide (xs = ys) = false) := fun e => by rw [decide_eq_false_iff_not]; intro h; exact e (by rw [h])
        have HEQ : Hid (nthS xs k = nthS ys k → ∀ j, j < k + 1 → nthS xs j = nthS ys j) := fun e j hj => by
          by_cases hjk : j < k
          · exact AL.out j hjk
          · obtain rfl : j = k := by omega
            exact e
        clear HI AL
        obtain ⟨s, hs⟩ : ∃ s, nthS xs k = s := ⟨_, rfl⟩
        obtain ⟨t, ht⟩ : ∃ t, nthS ys k = t := ⟨_, rfl⟩
        rw [hs] at c0 c1 c2 c3 c4 c5 c6 NE HNE HEQ
        rw [ht] at d0 d1 d2 d3 d4 d5 d6 NE HNE HEQ
        clear hs ht
        by_cases e : s = t
        · have HE2 := Lib.hid (HEQ.out e)
          subst e
          clear HEQ HNE
          obtain ⟨op, a, b, c, d, x, y⟩ := s
          simp only [cells7, decide_true, Bool.not_true] at NE
          dsimp only at c0 c1 c2 c3 c4 c5 c6 d0 d1 d2 d3 d4 d5 d6
          go_wp2_with fail
          go_quiet (fail)
          have B2 := Lib.hid (below_drewN BL.out nq)
          clear c0 c1 c2 c3 c4 c5 c6 d0 d1 d2 d3 d4 d5 d6 NE BL
          go_wp2
          go_roundw
          case rel => exact ⟨k + 1, by omega, by go_num, HE2.out, B2.out⟩
          case measure => simp [intOf]; omega
        · have R := Lib.hid (HNE.out e)
          have e2 : decide (s = t) = false := decide_eq_false e
          simp only [e2, Bool.not_false] at NE
          clear HEQ HNE e e2
          obtain ⟨op, a, b, c, d, x, y⟩ := s
          obtain ⟨op', a', b', c', d', x', y'⟩ := t
          simp only [cells7] at NE
          dsimp only at c0 c1 c2 c3 c4 c5 c6 d0 d1 d2 d3 d4 d5 d6
          go_wp2_with fail
          go_quiet (fail)
          have B2 := Lib.hid (below_drewN BL.out nq)
          clear c0 c1 c2 c3 c4 c5 c6 d0 d1 d2 d3 d4 d5 d6 NE BL
          go_wp2
          go_ret
          exact ⟨by rw [R.out]; rfl, B2.out⟩
      · obtain rfl : k = nx := by omega
        have hkz : ¬ (k : Int) < (k : Int) := by omega
        have R : Hid (decide (xs = ys) = true) := decide_eq_true (HE.out HI.out.1)
        clear HA HB
        go_wp2
        go_ret
        exact ⟨by rw [R.out]; rfl, HI.out.2⟩
  · have hlz : ((nx : Int) != (ny : Int)) = true := by simp; omega
    have R : Hid (decide (xs = ys) = false) := by show _ = _; rw [decide_eq_false_iff_not]; intro h; rw [h] at ex; omega
    clear ha hb ex ey
    go_enter Try.func16, Try.ntmps16
    go_wp2
    go_ret
    exact ⟨by rw [R.out]; rfl, Below.refl _ _⟩

end Go.Proofs.Ytjnikeiboefnbaa
