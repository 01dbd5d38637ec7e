/-
  Steps read in memory; what the program's Check does: may steps be a program? Conditions: lengths fit.
  Words of steps in a walk; math/bits.TrailingZeros64; what the program's takers and matches tell. Conditions: the library's table lies in its variable (DTab).
-/
import Derived.Test.YtjmojjjgifkkiaaDoorProg
import Derived.Test.YtjmojjjgifkkiaaDoorZ01
import Derived.Test.YtjmojjjgifkkiaaDoorZ02
import Derived.Test.YtjmojjjgifkkiaaDoorZ04
import Derived.Test.YtjmojjjgifkkiaaDoorZ06
import Derived.Test.YtjmojjjgifkkiaaDoorZ05
import Derived.Test.YtjmojjjgifkkiaaDoorZ08
import Derived.Test.YtjmojjjgifkkiaaDoorZ09
import Derived.Test.YtjmojjjgifkkiaaDoorZ03
import Derived.Test.YtjmojjjgifkkiaaDoorZ10
import Derived.Test.YtjmojjjgifkkiaaDoorZ11
import Derived.Laws.MakeOwn
import Derived.Laws.OwnMore
import Derived.OwnWalk
import Derived.WalkKit
import Derived.WalkSpells
import Derived.WalkLawsBesides
import Derived.Lib.Hide
import Derived.Below
import Derived.BigQuiet
import Derived.Lib.QuietBelow
import Derived.Laws.StructEq
import Derived.KernelRfl
import Derived.Deep.QuietTactic
import Derived.Lib.Bytealg
import Derived.Laws.Externs
import Derived.Laws.AppendOwn
import Derived.Deep.LoopGhost
import Derived.Deep.RegionHeld3
import Derived.Laws.CopyOwn
import Derived.StillTailTactics
import Derived.Maps.AppendAt
import Derived.Laws.ResultCell
import Derived.Lib.TrailingZeros
import Derived.Laws.Bits64b
namespace Go.Proofs.YtjmojjjgifkkiaaDoor
open Go.RowKit

/-- Steps lie in a row of memory. -/
def IsSt (w : World) (A : Option Addr) (L : List St) : Prop := 0 < L.length → ∃ b off, A = some ⟨b, off, none⟩ ∧ ∀ j i, j < L.length → i < 7 → w.cell? ⟨b, off + j * 7 + i, none⟩ = some (cellS (nthS L j) i)
theorem IsSt.grown {w w' : World} {A : Option Addr} {L : List St} (h : IsSt w A L) (hb : Below w.heap.size w w') : IsSt w' A L := fun hp => by
  obtain ⟨b, off, e, hc⟩ := h hp
  exact ⟨b, off, e, fun j i hj hi => (hb.cell (World.block_lt_of_cell? w _ (hc j i hj hi))).trans (hc j i hj hi)⟩
theorem IsSt.nil (w : World) (A : Option Addr) : IsSt w A [] := fun h => absurd h (by simp)
theorem Steps.is {base : Nat} {w : World} {A : Option Addr} {n cap : Nat} {L : List St} (h : Steps base w (.slice A n cap) L) : IsSt w A L := fun hp => by
  obtain ⟨g, cap', e⟩ := h.form2 hp
  injection e with e1 e2 e3
  subst e1
  exact ⟨g, 0, rfl, fun j i hj hi => by rw [Nat.zero_add]; exact h.cell hj hi⟩
/-- The seven cells of a step. -/
theorem IsSt.at {w : World} {A : Option Addr} {L : List St} (h : IsSt w A L) (hp : 0 < L.length) : ∃ b off, A = some ⟨b, off, none⟩ ∧ ∀ j, j < L.length → (w.cell? ⟨b, off + j * 7, none⟩ = some (.int .i64 (nthS L j).op) ∧ w.cell? ⟨b, off + j * 7 + 1, none⟩ = some (.int .u64 ((nthS L j).a : Int)) ∧ w.cell? ⟨b, off + j * 7 + 2, none⟩ = some (.int .u64 ((nthS L j).b : Int)) ∧ w.cell? ⟨b, off + j * 7 + 3, none⟩ = some (.int .u64 ((nthS L j).c : Int)) ∧ w.cell? ⟨b, off + j * 7 + 4, none⟩ = some (.int .u64 ((nthS L j).d : Int)) ∧ w.cell? ⟨b, off + j * 7 + 5, none⟩ = some (.int .i64 (nthS L j).x) ∧ w.cell? ⟨b, off + j * 7 + 6, none⟩ = some (.int .i64 (nthS L j).y)) := by
  obtain ⟨b, off, e, hc⟩ := h hp
  exact ⟨b, off, e, fun j hj => ⟨hc j 0 hj (by omega), hc j 1 hj (by omega), hc j 2 hj (by omega), hc j 3 hj (by omega), hc j 4 hj (by omega), hc j 5 hj (by omega), hc j 6 hj (by omega)⟩⟩
theorem all_step {L : List St} {n k : Nat} (h : k < L.length) : (L.drop k).all (fun s => s.ok n) = ((nthS L k).ok n && (L.drop (k + 1)).all (fun s => s.ok n)) := by rw [List.drop_eq_getElem_cons h, nthS_eq h]; rfl
theorem all_end {L : List St} {n k : Nat} (h : L.length ≤ k) : (L.drop k).all (fun s => s.ok n) = true := by rw [List.drop_of_length_le h]; rfl
theorem last_nth {L : List St} (h : 0 < L.length) : lastOp L = (nthS L (L.length - 1)).op := by
  unfold lastOp
  rw [nthS_eq (by omega)]
  cases L with
  | nil => simp at h
  | cons x r =>
    have : (x :: r) ≠ [] := by simp
    rw [List.getLastD_eq_getLast?, List.getLast?_eq_getElem?]
    simp
theorem set_neqA (a b c d : Nat) : ∀ W, (binOp .neq 57 (.agg #[.int .u64 (a : Int), .int .u64 (b : Int), .int .u64 (c : Int), .int .u64 (d : Int)]) (.agg #[.int .u64 0, .int .u64 0, .int .u64 0, .int .u64 0])).run Tryd.prog W = .ok (.bool (!(a == 0 && b == 0 && c == 0 && d == 0))) W := by
  intro W
  have := set_eql (a : Int) b c d 0 0 0 0 W
  rw [run_eql_struct] at this
  rw [run_neq_struct]
  generalize (Op.equalIn 10000 57 (.agg #[.int .u64 (a : Int), .int .u64 (b : Int), .int .u64 (c : Int), .int .u64 (d : Int)]) (.agg #[.int .u64 0, .int .u64 0, .int .u64 0, .int .u64 0])).run Tryd.prog W = r at *
  have e4 : (((a : Int) == 0 && (b : Int) == 0 && (c : Int) == 0 && (d : Int) == 0)) = (a == 0 && b == 0 && c == 0 && d == 0) := by rw [Bool.eq_iff_iff]; simp
  rw [e4] at this
  cases r with
  | ok q W' => simp [Result.andThen] at this ⊢; obtain ⟨h1, h2⟩ := this; exact ⟨by rw [h1], h2⟩
  | halt q W' => simp [Result.andThen] at this

set_option maxRecDepth 100000 in
theorem isIndex_any (z : Int) (n : Nat) (w : World) : Calls Tryd.prog 101 #[.int .i64 z, .int .i64 (n : Int)] w fun e w' => e = .returned (.bool (okIdx z n)) ∧ w' = w := by
  go_enter Tryd.func101, Tryd.ntmps101
  by_cases h1 : 0 ≤ z
  · have h0 : decide ((0 : Int) ≤ z) = true := decide_eq_true h1
    go_wp2
    go_ret
    exact ⟨by simp [okIdx, h1], rfl⟩
  · have h0 : decide ((0 : Int) ≤ z) = false := decide_eq_false h1
    go_wp2
    go_ret
    exact ⟨by simp only [okIdx, h0, Bool.false_and]; rfl, rfl⟩

set_option maxRecDepth 100000 in
set_option maxHeartbeats 4000000 in
theorem isStep_any (op : Int) (a b c d : Nat) (x y : Int) (n : Nat) (w : World) :
    Calls Tryd.prog 83 #[.agg #[.int .i64 op, .int .u64 (a : Int), .int .u64 (b : Int), .int .u64 (c : Int), .int .u64 (d : Int), .int .i64 x, .int .i64 y], .int .i64 (n : Int)] w fun e w' => e = .returned (.bool (St.ok ⟨op, a, b, c, d, x, y⟩ n)) ∧ Below w.heap.size w w' := by
  have B := Lib.hid (((Below.refl w.heap.size w)).alloc (Nat.le_refl _) (.cells #[.int .i64 op, .int .u64 (a : Int), .int .u64 (b : Int), .int .u64 (c : Int), .int .u64 (d : Int), .int .i64 x, .int .i64 y] 107))
  have NQ := set_neqA a b c d
  have OK0 : Hid (St.ok ⟨op, a, b, c, d, x, y⟩ n = if op = 1 then x == 0 && y == 0 else (a == 0 && b == 0 && c == 0 && d == 0) && (if op = 2 then okIdx x n && okIdx y n else if op = 3 then okIdx x n && y == 0 else if op = 4 then x == 0 && y == 0 else false)) := rfl
  obtain ⟨q, hq⟩ : ∃ q, (a == 0 && b == 0 && c == 0 && d == 0) = q := ⟨_, rfl⟩
  obtain ⟨xz, hxz⟩ : ∃ xz, (x == 0) = xz := ⟨_, rfl⟩
  obtain ⟨yz, hyz⟩ : ∃ yz, (y == 0) = yz := ⟨_, rfl⟩
  rw [hq] at NQ OK0
  rw [hxz, hyz] at OK0
  clear hq
  have IX := Lib.hid (fun W => isIndex_any x n W)
  have IY := Lib.hid (fun W => isIndex_any y n W)
  by_cases h1 : op = 1
  · subst h1
    have R : Hid (St.ok ⟨1, a, b, c, d, x, y⟩ n = (xz && yz)) := by show _ = _; rw [OK0.out]; rfl
    clear OK0 NQ IX IY
    go_enter Tryd.func83, Tryd.ntmps83
    cases xz
    · go_wp2
      go_ret
      exact ⟨by rw [R.out]; rfl, B.out⟩
    · go_wp2
      go_ret
      exact ⟨by rw [R.out]; rfl, B.out⟩
  have p1 : (op == 1) = false := by simpa using h1
  have OK1 : Hid (St.ok ⟨op, a, b, c, d, x, y⟩ n = (q && (if op = 2 then okIdx x n && okIdx y n else if op = 3 then okIdx x n && yz else if op = 4 then xz && yz else false))) := by show _ = _; rw [OK0.out, if_neg h1]
  clear OK0
  cases q
  · have R : Hid (St.ok ⟨op, a, b, c, d, x, y⟩ n = false) := by show _ = _; rw [OK1.out]; rfl
    clear OK1 h1 IX IY
    go_enter Tryd.func83, Tryd.ntmps83
    go_wp2
    go_ret
    exact ⟨by rw [R.out]; rfl, B.out⟩
  by_cases h2 : op = 2
  · subst h2
    obtain ⟨ix, hix⟩ : ∃ ix, okIdx x n = ix := ⟨_, rfl⟩
    obtain ⟨iy, hiy⟩ : ∃ iy, okIdx y n = iy := ⟨_, rfl⟩
    rw [hix] at OK1 IX
    rw [hiy] at OK1 IY
    have R : Hid (St.ok ⟨2, a, b, c, d, x, y⟩ n = (ix && iy)) := by show _ = _; rw [OK1.out]; rfl
    clear OK1 h1 hix hiy
    go_enter Tryd.func83, Tryd.ntmps83
    go_wp2_with fail
    refine (IX.out _).mono ?_
    rintro e w' ⟨rfl, rfl⟩
    cases ix
    · go_wp2
      go_ret
      exact ⟨by rw [R.out]; rfl, B.out⟩
    · go_wp2_with fail
      refine (IY.out _).mono ?_
      rintro e w' ⟨rfl, rfl⟩
      go_wp2
      go_ret
      exact ⟨by rw [R.out]; rfl, B.out⟩
  by_cases h3 : op = 3
  · subst h3
    obtain ⟨ix, hix⟩ : ∃ ix, okIdx x n = ix := ⟨_, rfl⟩
    rw [hix] at OK1 IX
    have R : Hid (St.ok ⟨3, a, b, c, d, x, y⟩ n = (ix && yz)) := by show _ = _; rw [OK1.out]; rfl
    clear OK1 h1 h2 hix
    go_enter Tryd.func83, Tryd.ntmps83
    go_wp2_with fail
    refine (IX.out _).mono ?_
    rintro e w' ⟨rfl, rfl⟩
    cases ix
    · go_wp2
      go_ret
      exact ⟨by rw [R.out]; rfl, B.out⟩
    · go_wp2
      go_ret
      exact ⟨by rw [R.out]; rfl, B.out⟩
  clear IX IY
  by_cases h4 : op = 4
  · subst h4
    have R : Hid (St.ok ⟨4, a, b, c, d, x, y⟩ n = (xz && yz)) := by show _ = _; rw [OK1.out]; rfl
    clear OK1 h1 h2 h3
    go_enter Tryd.func83, Tryd.ntmps83
    cases xz
    · go_wp2
      go_ret
      exact ⟨by rw [R.out]; rfl, B.out⟩
    · go_wp2
      go_ret
      exact ⟨by rw [R.out]; rfl, B.out⟩
  have p2 : (op == 2) = false := by simpa using h2
  have p3 : (op == 3) = false := by simpa using h3
  have p4 : (op == 4) = false := by simpa using h4
  have R : Hid (St.ok ⟨op, a, b, c, d, x, y⟩ n = false) := by show _ = _; rw [OK1.out, if_neg h2, if_neg h3, if_neg h4]; rfl
  clear OK1 h1 h2 h3 h4
  go_enter Tryd.func83, Tryd.ntmps83
  go_wp2
  go_ret
  exact ⟨by rw [R.out]; rfl, B.out⟩

set_option maxRecDepth 100000 in
set_option maxHeartbeats 4000000 in
theorem check_any (L : List St) (A : Option Addr) (N cap : Nat) (w : World) (hN : L.length = N) (hbig : N ≤ 1048576) (hcap : N ≤ cap) (h : IsSt w A L) :
    Calls Tryd.prog 63 #[.slice A N cap] w fun e w' => e = .returned (.bool (progOk L)) ∧ Below w.heap.size w w' := by
  have PO : Hid (progOk L = (decide (1 ≤ N) && decide (N ≤ 40) && L.all (fun s => s.ok N) && decide (lastOp L ≠ 1))) := by show _ = _; rw [progOk, hN]
  by_cases h0 : N < 1
  · obtain rfl : N = 0 := by omega
    have R : Hid (progOk L = false) := by show _ = _; rw [PO.out]; rfl
    clear PO h hN
    go_enter Tryd.func63, Tryd.ntmps63
    go_wp2
    go_ret
    exact ⟨by rw [R.out]; rfl, Below.refl _ _⟩
  have h0z : ¬ (N : Int) < 1 := by omega
  by_cases h40 : 40 < N
  · have h40z : (40 : Int) < (N : Int) := by omega
    have R : Hid (progOk L = false) := by show _ = _; rw [PO.out]; simp; omega
    clear PO h hN
    go_enter Tryd.func63, Tryd.ntmps63
    go_wp2
    go_ret
    exact ⟨by rw [R.out]; rfl, Below.refl _ _⟩
  have h40z : ¬ (40 : Int) < (N : Int) := by omega
  have PO1 : Hid (progOk L = (L.all (fun s => s.ok N) && decide (lastOp L ≠ 1))) := by show _ = _; rw [PO.out, decide_eq_true (show 1 ≤ N by omega), decide_eq_true (show N ≤ 40 by omega)]; rfl
  obtain ⟨blk, off, rfl, hc⟩ := h.at (by omega)
  have HC : Hid (∀ W, Below w.heap.size w W → ∀ j, j < N → (W.cell? ⟨blk, off + j * 7, none⟩ = some (.int .i64 (nthS L j).op) ∧ W.cell? ⟨blk, off + j * 7 + 1, none⟩ = some (.int .u64 ((nthS L j).a : Int)) ∧ W.cell? ⟨blk, off + j * 7 + 2, none⟩ = some (.int .u64 ((nthS L j).b : Int)) ∧ W.cell? ⟨blk, off + j * 7 + 3, none⟩ = some (.int .u64 ((nthS L j).c : Int)) ∧ W.cell? ⟨blk, off + j * 7 + 4, none⟩ = some (.int .u64 ((nthS L j).d : Int)) ∧ W.cell? ⟨blk, off + j * 7 + 5, none⟩ = some (.int .i64 (nthS L j).x) ∧ W.cell? ⟨blk, off + j * 7 + 6, none⟩ = some (.int .i64 (nthS L j).y))) := fun W hW j hj => by
    obtain ⟨c0, c1, c2, c3, c4, c5, c6⟩ := hc j (by omega)
    have hl : blk < w.heap.size := World.block_lt_of_cell? w _ c0
    exact ⟨(hW.cell (p := ⟨blk, _, none⟩) hl).trans c0, (hW.cell (p := ⟨blk, _, none⟩) hl).trans c1, (hW.cell (p := ⟨blk, _, none⟩) hl).trans c2, (hW.cell (p := ⟨blk, _, none⟩) hl).trans c3, (hW.cell (p := ⟨blk, _, none⟩) hl).trans c4, (hW.cell (p := ⟨blk, _, none⟩) hl).trans c5, (hW.cell (p := ⟨blk, _, none⟩) hl).trans c6⟩
  have DR : Hid (∀ k, k < N → (L.drop k).all (fun s => s.ok N) = ((nthS L k).ok N && (L.drop (k + 1)).all (fun s => s.ok N))) := fun k hk => all_step (by omega)
  have DE : Hid ((L.drop N).all (fun s => s.ok N) = true) := all_end (by omega)
  have LN : Hid (lastOp L = (nthS L (N - 1)).op) := by have := last_nth (L := L) (by omega); rw [hN] at this; exact this
  clear h hc PO hN
  go_enter Tryd.func63, Tryd.ntmps63
  go_wp2_with fail
  go_loopw [15] (fun i wr => ∃ k : Nat, k ≤ N ∧ i = .int .i64 (k : Int) ∧ Hid (Below w.heap.size w wr ∧ (L.drop k).all (fun s => s.ok N) = L.all (fun s => s.ok N))) (fun i _ => N - (intOf i).toNat)
  case atStart => exact ⟨0, by omega, rfl, Below.refl _ _, rfl⟩
  case round =>
    obtain ⟨k, hk, rfl, HI⟩ := hrel
    by_cases hkN : k < N
    · have hkz : (k : Int) < (N : Int) := by omega
      obtain ⟨c0, c1, c2, c3, c4, c5, c6⟩ := HC.out wr HI.out.1 k hkN
      have DK := Lib.hid (DR.out k hkN)
      obtain ⟨s, hs⟩ : ∃ s, nthS L k = s := ⟨_, rfl⟩
      rw [hs] at c0 c1 c2 c3 c4 c5 c6 DK
      clear hs HC DR LN
      obtain ⟨op, a, b, c, d, x, y⟩ := s
      dsimp only at c0 c1 c2 c3 c4 c5 c6
      have CS := Lib.hid (fun W => isStep_any op a b c d x y N W)
      have B6 : Hid (Below wr.heap.size wr (wr.alloc (.cells #[.int .i64 op, .int .u64 (a : Int), .int .u64 (b : Int), .int .u64 (c : Int), .int .u64 (d : Int), .int .i64 x, .int .i64 y] 107))) := (Below.refl _ _).alloc (Nat.le_refl _) _
      go_wp2_with fail
      refine (CS.out _).mono ?_
      rintro e w1 ⟨rfl, b1⟩
      have B1 := Lib.hid (HI.out.1.trans ((B6.out.trans (b1.mono B6.out.size)).mono HI.out.1.size))
      clear b1 B6 CS c0 c1 c2 c3 c4 c5 c6
      cases hok : St.ok ⟨op, a, b, c, d, x, y⟩ N
      · rw [hok] at DK
        have R : Hid (progOk L = false) := by show _ = _; rw [PO1.out, ← HI.out.2, DK.out]; rfl
        clear hok PO1
        go_wp2
        go_ret
        exact ⟨by rw [R.out]; rfl, B1.out⟩
      · rw [hok] at DK
        have H2 : Hid (Below w.heap.size w w1 ∧ (L.drop (k + 1)).all (fun s => s.ok N) = L.all (fun s => s.ok N)) := ⟨B1.out, by rw [← HI.out.2, DK.out]; rfl⟩
        clear hok PO1
        go_wp2
        go_roundw
        case rel => exact ⟨k + 1, by omega, by go_num, H2.out⟩
        case measure => simp [intOf]; omega
    · obtain rfl : k = N := by omega
      have hkz : ¬ (k : Int) < (k : Int) := by omega
      obtain ⟨c0, _, _, _, _, _, _⟩ := HC.out wr HI.out.1 (k - 1) (by omega)
      rw [← LN.out] at c0
      obtain ⟨m, hm⟩ : ∃ m, k = m + 1 := ⟨k - 1, by omega⟩
      subst hm
      rw [Nat.add_sub_cancel] at c0
      have R : Hid (progOk L = decide (lastOp L ≠ 1)) := by show _ = _; rw [PO1.out, ← HI.out.2, DE.out]; rfl
      clear HC DR DE LN PO1
      generalize lastOp L = lo at *
      go_wp2
      go_ret
      exact ⟨by rw [R.out]; by_cases h : lo = 1 <;> simp [h], HI.out.1⟩

end Go.Proofs.YtjmojjjgifkkiaaDoor
namespace Go.Proofs.YtjmojjjgifkkiaaDoor
open Go.RowKit
open Sc

/-- The library's table lies in its variable. -/
def DTab (w : World) : Prop := 0 < w.heap.size ∧ ∀ j, j < 64 → w.cell? ⟨0, j, none⟩ = some (.int .u8 ((Lib.deBruijn64tab.getD j 0 : Nat) : Int))
theorem DTab.below {w w' : World} (h : DTab w) (hb : Below w.heap.size w w') : DTab w' :=
  ⟨Nat.lt_of_lt_of_le h.1 hb.size, fun j hj => (hb.cell (p := ⟨_, j, none⟩) h.1).trans (h.2 j hj)⟩
theorem ctz_bit {x : Nat} (hx : x < 18446744073709551616) (h0 : x ≠ 0) : x.testBit (Lib.ctz 64 x) = true ∧ Lib.ctz 64 x < 64 := by
  obtain ⟨h1, h2⟩ := Lib.lowest_bit 64 x h0 (by simpa using hx)
  have : (2 ^ Lib.ctz 64 x).testBit (Lib.ctz 64 x) = true := bit_pow.2 rfl
  rw [← h1, Nat.testBit_and, Bool.and_eq_true] at this
  exact ⟨this.1, h2⟩
theorem tz_key (x a : Nat) (hx : x < 18446744073709551616) (hx0 : x ≠ 0) (hlow : x &&& (18446744073709551616 - x) = a) :
    IntKind.u64.wrap (bits BinOp.and IntKind.u64 (x : Int) (IntKind.u64.wrap (-(x : Int))) * 285870213051353865) / 288230376151711744 = ((a * 285870213051353865 % 18446744073709551616 / 288230376151711744 : Nat) : Int) := by
  have e1 : IntKind.u64.wrap (-(x : Int)) = ((18446744073709551616 - x : Nat) : Int) := by rw [IntKind.wrap_u64]; omega
  rw [e1, bits_and_u64_nat x _ hx (by omega), hlow, IntKind.wrap_u64]
  omega
set_option maxRecDepth 100000 in
theorem tz_core (x k idx : Nat) (w : World) (hx0 : ((x : Int) == 0) = false)
    (key : IntKind.u64.wrap (bits BinOp.and IntKind.u64 (x : Int) (IntKind.u64.wrap (-(x : Int))) * 285870213051353865) / 288230376151711744 = (idx : Int))
    (hi : idx < 64) (hk : k < 64) (hcell : w.cell? ⟨0, idx, none⟩ = some (.int .u8 (k : Int))) :
    Calls Tryd.prog 84 #[.int .u64 (x : Int)] w fun e w' => e = .returned (.int .i64 (k : Int)) ∧ w' = w := by
  go_enter Tryd.func84, Tryd.ntmps84
  go_wp2_with (simp only [key])
  go_ret
  exact ⟨rfl, rfl⟩
theorem tz_any (x : Nat) (hx : x < 18446744073709551616) (h0 : x ≠ 0) (w : World) (hT : DTab w) :
    Calls Tryd.prog 84 #[.int .u64 (x : Int)] w fun e w' => e = .returned (.int .i64 ((Lib.ctz 64 x : Nat) : Int)) ∧ w' = w := by
  obtain ⟨hlow, hk⟩ := Lib.lowest_bit 64 x h0 (by simpa using hx)
  obtain ⟨hi, htab⟩ := Lib.deBruijn64_at _ hk
  have hcell := hT.2 _ hi
  rw [htab] at hcell
  exact tz_core x _ _ w (by simp; omega) (tz_key x _ hx h0 (by simpa using hlow)) hi hk hcell

theorem and_one (q : Nat) : bits .and .u64 (q : Int) 1 = ((q % 2 : Nat) : Int) := by
  show IntKind.u64.wrap ((BitVec.ofInt 64 (q : Int) &&& BitVec.ofInt 64 1).toNat : Int) = _
  have h1 : (BitVec.ofInt 64 (q : Int)).toNat = q % 18446744073709551616 := by rw [BitVec.ofInt_natCast, BitVec.toNat_ofNat]
  have h2 : (BitVec.ofInt 64 1).toNat = 1 := by decide
  rw [BitVec.toNat_and, h1, h2, Nat.and_one_is_mod, IntKind.wrap_u64]
  omega
theorem or_two (a i : Nat) (ha : a < 18446744073709551616) (hi : i < 64) : bits .or .u64 (a : Int) (IntKind.u64.wrap (2 ^ i)) = ((a ||| 2 ^ i : Nat) : Int) := by
  have h2 : 2 ^ i < 18446744073709551616 := by have : 2 ^ i < 2 ^ 64 := Nat.pow_lt_pow_right (by omega) hi; simpa using this
  have e : ((2 : Int) ^ i) = ((2 ^ i : Nat) : Int) := by simp
  rw [e, IntKind.wrap_u64]
  generalize 2 ^ i = z at *
  have e2 : (z : Int) % 18446744073709551616 = (z : Int) := by omega
  rw [e2]
  exact bits_or_u64_nat a _ ha h2
theorem bit_is (q i : Nat) : (((q / 2 ^ i % 2 : Nat) : Int) == 1) = q.testBit i := by
  rw [Nat.testBit_eq_decide_div_mod_eq]
  generalize q / 2 ^ i % 2 = r
  rw [Bool.eq_iff_iff, beq_iff_eq, decide_eq_true_eq]
  omega
theorem bit_not (q i : Nat) : (((q / 2 ^ i % 2 : Nat) : Int) == 0) = !q.testBit i := by
  rw [Nat.testBit_eq_decide_div_mod_eq]
  have h2 := Nat.mod_lt (q / 2 ^ i) (show 0 < 2 by omega)
  generalize q / 2 ^ i % 2 = r at *
  rw [Bool.eq_iff_iff, beq_iff_eq, Bool.not_eq_true', decide_eq_false_iff_not]
  omega
theorem cell_word {W : World} {op x y : Int} {a b c d : Nat} {g j : Nat} (h : W.heap[g]? = some (.cells #[.int .i64 op, .int .u64 (a : Int), .int .u64 (b : Int), .int .u64 (c : Int), .int .u64 (d : Int), .int .i64 x, .int .i64 y] 107 (0, 0))) (hj : j < 4) : W.cell? ⟨g, 1 + j, none⟩ = some (.int .u64 ((word4 a b c d j : Nat) : Int)) := by
  rw [cell_of_row _ g _ _ _ _ h]
  match j, hj with
  | 0, _ => rfl
  | 1, _ => rfl
  | 2, _ => rfl
  | 3, _ => rfl
/-- What the loops over steps need. -/
structure IsP (w : World) (blk off N : Nat) (P : List St) : Prop where
  len : P.length = N
  at_ : ∀ W, Below w.heap.size w W → ∀ j, j < N → (W.cell? ⟨blk, off + j * 7, none⟩ = some (.int .i64 (nthS P j).op) ∧ W.cell? ⟨blk, off + j * 7 + 1, none⟩ = some (.int .u64 ((nthS P j).a : Int)) ∧ W.cell? ⟨blk, off + j * 7 + 2, none⟩ = some (.int .u64 ((nthS P j).b : Int)) ∧ W.cell? ⟨blk, off + j * 7 + 3, none⟩ = some (.int .u64 ((nthS P j).c : Int)) ∧ W.cell? ⟨blk, off + j * 7 + 4, none⟩ = some (.int .u64 ((nthS P j).d : Int)) ∧ W.cell? ⟨blk, off + j * 7 + 5, none⟩ = some (.int .i64 (nthS P j).x) ∧ W.cell? ⟨blk, off + j * 7 + 6, none⟩ = some (.int .i64 (nthS P j).y))
theorem IsSt.isP {w : World} {A : Option Addr} {P : List St} {N : Nat} (h : IsSt w A P) (hN : P.length = N) (hp : 0 < N) : ∃ blk off, A = some ⟨blk, off, none⟩ ∧ IsP w blk off N P := by
  obtain ⟨blk, off, rfl, hc⟩ := h.at (by omega)
  refine ⟨blk, off, rfl, hN, fun W hW j hj => ?_⟩
  obtain ⟨c0, c1, c2, c3, c4, c5, c6⟩ := hc j (by omega)
  have hl : blk < w.heap.size := World.block_lt_of_cell? w _ c0
  exact ⟨(hW.cell (p := ⟨blk, _, none⟩) hl).trans c0, (hW.cell (p := ⟨blk, _, none⟩) hl).trans c1, (hW.cell (p := ⟨blk, _, none⟩) hl).trans c2, (hW.cell (p := ⟨blk, _, none⟩) hl).trans c3, (hW.cell (p := ⟨blk, _, none⟩) hl).trans c4, (hW.cell (p := ⟨blk, _, none⟩) hl).trans c5, (hW.cell (p := ⟨blk, _, none⟩) hl).trans c6⟩
theorem IsP.grown {w w' : World} {blk off N : Nat} {P : List St} (h : IsP w blk off N P) (hb : Below w.heap.size w w') : IsP w' blk off N P :=
  ⟨h.len, fun W hW j hj => h.at_ W (hb.trans (hW.mono hb.size)) j hj⟩

set_option maxRecDepth 100000 in
set_option maxHeartbeats 4000000 in
theorem matches_any (P : List St) (blk off N cap : Nat) (w : World) (hbig : N ≤ 40) (h : IsP w blk off N P) :
    Calls Tryd.prog 66 #[.slice (some ⟨blk, off, none⟩) N cap] w fun e w' => e = .returned (.int .u64 ((mts P N : Nat) : Int)) ∧ Below w.heap.size w w' := by
  have HC := Lib.hid h.at_
  have ML : Hid (∀ k, k ≤ N → mts P k < 18446744073709551616) := fun k hk => lt64 (N := N) (by omega) fun j hj => by have := mts_lim P k j hj; omega
  have MS : Hid (∀ k, mts P (k + 1) = if opS P k = 4 then mts P k ||| 2 ^ k else mts P k) := fun k => rfl
  clear h
  go_enter Tryd.func66, Tryd.ntmps66
  go_wp2_with fail
  go_loopw [3, 8] (fun z i wr => ∃ k : Nat, k ≤ N ∧ i = .int .i64 (k : Int) ∧ z = .int .u64 ((mts P k : Nat) : Int) ∧ Hid (Below w.heap.size w wr)) (fun _ i _ => N - (intOf i).toNat)
  case atStart => exact ⟨0, by omega, rfl, rfl, Below.refl _ _⟩
  case round =>
    obtain ⟨k, hk, rfl, rfl, HI⟩ := hrel
    by_cases hkN : k < N
    · have hkz : (k : Int) < (N : Int) := by omega
      obtain ⟨c0, c1, c2, c3, c4, c5, c6⟩ := HC.out wr HI.out k hkN
      have MK := Lib.hid (MS.out k)
      have mlt := Lib.hid (ML.out k hk)
      have hop : Hid (opS P k = (nthS P k).op) := rfl
      obtain ⟨s, hs⟩ : ∃ s, nthS P k = s := ⟨_, rfl⟩
      rw [hs] at c0 c1 c2 c3 c4 c5 c6 hop
      clear hs HC ML MS
      obtain ⟨m, hm⟩ : ∃ m, mts P k = m := ⟨_, rfl⟩
      rw [hm] at MK mlt
      rw [hm]
      clear hm
      obtain ⟨op, a, b, c, d, x, y⟩ := s
      dsimp only at c0 c1 c2 c3 c4 c5 c6 hop
      have B6 : Hid (Below w.heap.size w (wr.alloc (.cells #[.int .i64 op, .int .u64 (a : Int), .int .u64 (b : Int), .int .u64 (c : Int), .int .u64 (d : Int), .int .i64 x, .int .i64 y] 107))) := HI.out.alloc HI.out.size _
      by_cases h4 : op = 4
      · subst h4
        have EO := Lib.hid (or_two m k mlt.out (by omega))
        have R : Hid (mts P (k + 1) = m ||| 2 ^ k) := by show _ = _; rw [MK.out, if_pos hop.out]
        obtain ⟨m', hm'⟩ : ∃ m', m ||| 2 ^ k = m' := ⟨_, rfl⟩
        rw [hm'] at EO R
        clear hm' MK mlt hop
        go_wp2
        rw [EO.out]
        go_wp2
        clear c0 c1 c2 c3 c4 c5 c6
        go_roundw
        case rel => exact ⟨k + 1, by omega, by go_num, by rw [R.out], B6.out⟩
        case measure => simp [intOf]; omega
      · have h4b : (op == 4) = false := by simpa using h4
        have R : Hid (mts P (k + 1) = m) := by show _ = _; rw [MK.out, if_neg (by rw [hop.out]; exact h4)]
        clear MK mlt hop h4
        go_wp2
        clear c0 c1 c2 c3 c4 c5 c6
        go_roundw
        case rel => exact ⟨k + 1, by omega, by go_num, by rw [R.out], B6.out⟩
        case measure => simp [intOf]; omega
    · obtain rfl : k = N := by omega
      have hkz : ¬ (k : Int) < (k : Int) := by omega
      go_wp2
      go_ret
      exact ⟨rfl, HI.out⟩

end Go.Proofs.YtjmojjjgifkkiaaDoor
