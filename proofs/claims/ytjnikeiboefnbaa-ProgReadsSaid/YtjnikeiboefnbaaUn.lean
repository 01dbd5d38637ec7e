/-
  ProgRuns as a contract: chapter 6's runs. No conditions.
-/
import Derived.Test.YtjnikeiboefnbaaKa
import Derived.Test.YtjnikeiboefnbaaUj
import Derived.Test.YtjnikeiboefnbaaUk
import Derived.Test.YtjnikeiboefnbaaUm
namespace Go.Proofs.Ytjnikeiboefnbaa
open Go.RowKit Go.Sort
open Pz

def l6 : List St := [⟨2, 0, 0, 0, 0, 1, 3⟩, ⟨1, 0, 8589934592, 0, 0, 0, 0⟩, ⟨3, 0, 0, 0, 0, 0, 0⟩, ⟨4, 0, 0, 0, 0, 0, 0⟩]
theorem prog6 : progOf t2 = l6 := by decide +kernel
theorem made6 : Rx.made t2 = true := by decide +kernel
theorem ok6 : progOk l6 = true := by decide +kernel
/-- A program that was made, as a row that reads so. -/
theorem MakeRes.yes {w w' : World} {t : Rx} {e : Ending} (h : MakeRes w t e w') (hm : Rx.made t = true) : ∃ A cap, e = .returned (.tuple #[.slice A (Rx.sz t + 1) cap, .bool true]) ∧ IsSt w' A (progOf t) ∧ Below w.heap.size w w' ∧ Rx.sz t + 1 ≤ cap := by
  obtain ⟨hb, ⟨_, g, cap, he, hs⟩ | ⟨hn, _⟩⟩ := h
  · refine ⟨_, cap, he, hs.is, hb, ?_⟩
    rcases hs.2 with ⟨e1, _⟩ | ⟨g', cap', cur, e1, _, _, hc, _⟩
    · cases e1
    · injection e1 with _ _ e3
      subst e3
      rw [progOf, List.length_append, Rx.lay_len] at hc
      exact hc
  · rw [hn] at hm; cases hm
theorem MakeRes.no {w w' : World} {t : Rx} {e : Ending} (h : MakeRes w t e w') (hm : Rx.made t = false) : e = .returned (.tuple #[.slice none 0 0, .bool false]) ∧ Below w.heap.size w w' := by
  obtain ⟨hb, ⟨hy, _⟩ | ⟨_, he⟩⟩ := h
  · rw [hm] at hy; cases hy
  · exact ⟨he, hb⟩

set_option maxRecDepth 100000 in
set_option maxHeartbeats 4000000 in
theorem runs6_any (w : World) : Calls Try.prog 3 #[] w fun e w' => e = .returned (.bool true) ∧ Below w.heap.size w w' := by
  have P0 := Lib.hid (parse_any s2 (by decide) w)
  have MK := Lib.hid (fun v W (h : IsRx W v t2) => make_any t2 v W (by decide) h)
  have CK := Lib.hid (fun A cap W (hc : 4 ≤ cap) (h : IsSt W A l6) => check_any l6 A 4 cap W rfl (by decide) hc h)
  rw [ok6] at CK
  go_enter Try.func3, Try.ntmps3
  go_wp2_with fail
  refine P0.out.mono ?_
  intro e w1 h1
  obtain ⟨op, a, b, c, d, A, n, cap, rfl, X1, B1⟩ := h1.yes p2
  obtain ⟨f1, B2⟩ : (w1.alloc (.cells (c6 op a b c d A n cap) 26)).heap[w1.heap.size]? = some (.cells (c6 op a b c d A n cap) 26 (0, 0)) ∧ Below w1.heap.size w1 (w1.alloc (.cells (c6 op a b c d A n cap) 26)) := ⟨heap_alloc_new _ _, (Below.refl _ _).alloc (Nat.le_refl _) _⟩
  have X2 := X1.grown B2
  have M2 := Lib.hid (MK.out _ _ X2)
  have B2' := Lib.hid (B1.trans (B2.mono B1.size))
  unfold c6 at *
  clear P0 h1 X1 X2 f1 B2 B1 MK
  go_wp2_with fail
  refine M2.out.mono ?_
  intro e w3 h3
  obtain ⟨A3, cap3, rfl, S3, B3, hc3⟩ := h3.yes made6
  rw [prog6] at S3
  have hz : Rx.sz t2 + 1 = 4 := rfl
  rw [hz] at hc3 ⊢
  obtain ⟨blk, off, rfl, HC⟩ := S3.at (by decide)
  have C3 := Lib.hid (CK.out _ cap3 w3 hc3 S3)
  have B4 := Lib.hid (B2'.out.trans (B3.mono B2'.out.size))
  obtain ⟨a0, a1, a2, a3, a4, a5, a6⟩ := HC 0 (by decide)
  obtain ⟨b0, _⟩ := HC 1 (by decide)
  obtain ⟨c0, c1, c2, c3, c4, c5, c6'⟩ := HC 2 (by decide)
  obtain ⟨d0, d1, d2, d3, d4, d5, d6⟩ := HC 3 (by decide)
  have E0 : ∀ W, (binOp .eql 33 (.agg #[.int .i64 2, .int .u64 0, .int .u64 0, .int .u64 0, .int .u64 0, .int .i64 1, .int .i64 3]) (.agg #[.int .i64 2, .int .u64 0, .int .u64 0, .int .u64 0, .int .u64 0, .int .i64 1, .int .i64 3])).run Try.prog W = .ok (.bool true) W := fun W => (st_eq W ⟨2, 0, 0, 0, 0, 1, 3⟩ ⟨2, 0, 0, 0, 0, 1, 3⟩).trans (by rw [decide_eq_true rfl])
  have E2 : ∀ W, (binOp .eql 33 (.agg #[.int .i64 3, .int .u64 0, .int .u64 0, .int .u64 0, .int .u64 0, .int .i64 0, .int .i64 0]) (.agg #[.int .i64 3, .int .u64 0, .int .u64 0, .int .u64 0, .int .u64 0, .int .i64 0, .int .i64 0])).run Try.prog W = .ok (.bool true) W := fun W => (st_eq W ⟨3, 0, 0, 0, 0, 0, 0⟩ ⟨3, 0, 0, 0, 0, 0, 0⟩).trans (by rw [decide_eq_true rfl])
  have E3 : ∀ W, (binOp .eql 33 (.agg #[.int .i64 4, .int .u64 0, .int .u64 0, .int .u64 0, .int .u64 0, .int .i64 0, .int .i64 0]) (.agg #[.int .i64 4, .int .u64 0, .int .u64 0, .int .u64 0, .int .u64 0, .int .i64 0, .int .i64 0])).run Try.prog W = .ok (.bool true) W := fun W => (st_eq W ⟨4, 0, 0, 0, 0, 0, 0⟩ ⟨4, 0, 0, 0, 0, 0, 0⟩).trans (by rw [decide_eq_true rfl])
  simp only [Nat.zero_mul, Nat.one_mul, Nat.add_zero] at a0 a1 a2 a3 a4 a5 a6 b0
  simp only [l6, nthS, List.getD_cons_zero, List.getD_cons_succ] at a0 a1 a2 a3 a4 a5 a6 b0 c0 c1 c2 c3 c4 c5 c6' d0 d1 d2 d3 d4 d5 d6
  clear HC S3 h3 B3 M2 CK hz
  go_wp2_with fail
  refine C3.out.mono ?_
  rintro e w5 ⟨rfl, b5⟩
  have B5 := Lib.hid (B4.out.trans (b5.mono B4.out.size))
  clear b5
  go_wp2
  go_ret
  exact ⟨rfl, B5.out⟩
end Go.Proofs.Ytjnikeiboefnbaa
