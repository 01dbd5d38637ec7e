/-
  Steps read in memory; what the program's Check does: may steps be a program? Conditions: lengths fit.
-/
import Derived.Test.YtonfmbnankihbaaDoorProg
import Derived.Test.YtonfmbnankihbaaDoorZ01
import Derived.Test.YtonfmbnankihbaaDoorZ02
import Derived.Test.YtonfmbnankihbaaDoorZ03
import Derived.Test.YtonfmbnankihbaaDoorZ06
import Derived.Test.YtonfmbnankihbaaDoorZ07
import Derived.Test.YtonfmbnankihbaaDoorZ09
import Derived.Test.YtonfmbnankihbaaDoorZ11
import Derived.Test.YtonfmbnankihbaaDoorZ12
import Derived.StillTailTactics
import Derived.WalkKit
import Derived.WalkSpells
import Derived.WalkLawsBesides
import Derived.Lib.Hide
import Derived.Below
import Derived.BigQuiet
import Derived.Lib.QuietBelow
import Derived.Laws.StructEq
import Derived.KernelRfl
import Derived.Deep.RegionHeld3
import Derived.Deep.LoopGhost
import Derived.Maps.AppendAt
import Derived.Laws.MakeOwn
import Derived.Laws.OwnMore
import Derived.OwnWalk
import Derived.Laws.AppendOwn
import Derived.Laws.CopyOwn
import Derived.Deep.QuietTactic
import Derived.Lib.Bytealg
import Derived.Laws.Externs
import Derived.Laws.ResultCell
namespace Go.Proofs.YtonfmbnankihbaaDoor
open Go.RowKit

/-- Steps lie in a row of memory. -/
def IsSt (w : World) (A : Option Addr) (L : List St) : Prop := 0 < L.length → ∃ b off, A = some ⟨b, off, none⟩ ∧ ∀ j i, j < L.length → i < 7 → w.cell? ⟨b, off + j * 7 + i, none⟩ = some (cellS (nthS L j) i)
theorem IsSt.grown {w w' : World} {A : Option Addr} {L : List St} (h : IsSt w A L) (hb : Below w.heap.size w w') : IsSt w' A L := fun hp => by
  obtain ⟨b, off, e, hc⟩ := h hp
  exact ⟨b, off, e, fun j i hj hi => (hb.cell (World.block_lt_of_cell? w _ (hc j i hj hi))).trans (hc j i hj hi)⟩
theorem IsSt.nil (w : World) (A : Option Addr) : IsSt w A [] := fun h => absurd h (by simp)
theorem Steps.is {base : Nat} {w : World} {A : Option Addr} {n cap : Nat} {L : List St} (h : Steps base w (.slice A n cap) L) : IsSt w A L := fun hp => by
  obtain ⟨g, cap', e⟩ := h.form2 hp
  injection e with e1 e2 e3
  subst e1
  exact ⟨g, 0, rfl, fun j i hj hi => by rw [Nat.zero_add]; exact h.cell hj hi⟩
/-- The seven cells of a step. -/
theorem IsSt.at {w : World} {A : Option Addr} {L : List St} (h : IsSt w A L) (hp : 0 < L.length) : ∃ b off, A = some ⟨b, off, none⟩ ∧ ∀ j, j < L.length → (w.cell? ⟨b, off + j * 7, none⟩ = some (.int .i64 (nthS L j).op) ∧ w.cell? ⟨b, off + j * 7 + 1, none⟩ = some (.int .u64 ((nthS L j).a : Int)) ∧ w.cell? ⟨b, off + j * 7 + 2, none⟩ = some (.int .u64 ((nthS L j).b : Int)) ∧ w.cell? ⟨b, off + j * 7 + 3, none⟩ = some (.int .u64 ((nthS L j).c : Int)) ∧ w.cell? ⟨b, off + j * 7 + 4, none⟩ = some (.int .u64 ((nthS L j).d : Int)) ∧ w.cell? ⟨b, off + j * 7 + 5, none⟩ = some (.int .i64 (nthS L j).x) ∧ w.cell? ⟨b, off + j * 7 + 6, none⟩ = some (.int .i64 (nthS L j).y)) := by
  obtain ⟨b, off, e, hc⟩ := h hp
  exact ⟨b, off, e, fun j hj => ⟨hc j 0 hj (by omega), hc j 1 hj (by omega), hc j 2 hj (by omega), hc j 3 hj (by omega), hc j 4 hj (by omega), hc j 5 hj (by omega), hc j 6 hj (by omega)⟩⟩
theorem all_step {L : List St} {n k : Nat} (h : k < L.length) : (L.drop k).all (fun s => s.ok n) = ((nthS L k).ok n && (L.drop (k + 1)).all (fun s => s.ok n)) := by rw [List.drop_eq_getElem_cons h, nthS_eq h]; rfl
theorem all_end {L : List St} {n k : Nat} (h : L.length ≤ k) : (L.drop k).all (fun s => s.ok n) = true := by rw [List.drop_of_length_le h]; rfl
theorem last_nth {L : List St} (h : 0 < L.length) : lastOp L = (nthS L (L.length - 1)).op := by
  unfold lastOp
  rw [nthS_eq (by omega)]
  cases L with
  | nil => simp at h
  | cons x r =>
    have : (x :: r) ≠ [] := by simp
    rw [List.getLastD_eq_getLast?, List.getLast?_eq_getElem?]
    simp
theorem set_neqA (a b c d : Nat) : ∀ W, (binOp .neq 31 (.agg #[.int .u64 (a : Int), .int .u64 (b : Int), .int .u64 (c : Int), .int .u64 (d : Int)]) (.agg #[.int .u64 0, .int .u64 0, .int .u64 0, .int .u64 0])).run Tryd.prog W = .ok (.bool (!(a == 0 && b == 0 && c == 0 && d == 0))) W := by
  intro W
  have := set_eql (a : Int) b c d 0 0 0 0 W
  rw [run_eql_struct] at this
  rw [run_neq_struct]
  generalize (Op.equalIn 10000 31 (.agg #[.int .u64 (a : Int), .int .u64 (b : Int), .int .u64 (c : Int), .int .u64 (d : Int)]) (.agg #[.int .u64 0, .int .u64 0, .int .u64 0, .int .u64 0])).run Tryd.prog W = r at *
  have e4 : (((a : Int) == 0 && (b : Int) == 0 && (c : Int) == 0 && (d : Int) == 0)) = (a == 0 && b == 0 && c == 0 && d == 0) := by rw [Bool.eq_iff_iff]; simp
  rw [e4] at this
  cases r with
  | ok q W' => simp [Result.andThen] at this ⊢; obtain ⟨h1, h2⟩ := this; exact ⟨by rw [h1], h2⟩
  | halt q W' => simp [Result.andThen] at this

set_option maxRecDepth 100000 in
theorem isIndex_any (z : Int) (n : Nat) (w : World) : Calls Tryd.prog 61 #[.int .i64 z, .int .i64 (n : Int)] w fun e w' => e = .returned (.bool (okIdx z n)) ∧ w' = w := by
  go_enter Tryd.func61, Tryd.ntmps61
  by_cases h1 : 0 ≤ z
  · have h0 : decide ((0 : Int) ≤ z) = true := decide_eq_true h1
    go_wp2
    go_ret
    exact ⟨by simp [okIdx, h1], rfl⟩
  · have h0 : decide ((0 : Int) ≤ z) = false := decide_eq_false h1
    go_wp2
    go_ret
    exact ⟨by simp only [okIdx, h0, Bool.false_and]; rfl, rfl⟩

set_option maxRecDepth 100000 in
set_option maxHeartbeats 4000000 in
theorem isStep_any (op : Int) (a b c d : Nat) (x y : Int) (n : Nat) (w : World) :
    Calls Tryd.prog 42 #[.agg #[.int .i64 op, .int .u64 (a : Int), .int .u64 (b : Int), .int .u64 (c : Int), .int .u64 (d : Int), .int .i64 x, .int .i64 y], .int .i64 (n : Int)] w fun e w' => e = .returned (.bool (St.ok ⟨op, a, b, c, d, x, y⟩ n)) ∧ Below w.heap.size w w' := by
  have B := Lib.hid (((Below.refl w.heap.size w)).alloc (Nat.le_refl _) (.cells #[.int .i64 op, .int .u64 (a : Int), .int .u64 (b : Int), .int .u64 (c : Int), .int .u64 (d : Int), .int .i64 x, .int .i64 y] 48))
  have NQ := set_neqA a b c d
  have OK0 : Hid (St.ok ⟨op, a, b, c, d, x, y⟩ n = if op = 1 then x == 0 && y == 0 else (a == 0 && b == 0 && c == 0 && d == 0) && (if op = 2 then okIdx x n && okIdx y n else if op = 3 then okIdx x n && y == 0 else if op = 4 then x == 0 && y == 0 else false)) := rfl
  obtain ⟨q, hq⟩ : ∃ q, (a == 0 && b == 0 && c == 0 && d == 0) = q := ⟨_, rfl⟩
  obtain ⟨xz, hxz⟩ : ∃ xz, (x == 0) = xz := ⟨_, rfl⟩
  obtain ⟨yz, hyz⟩ : ∃ yz, (y == 0) = yz := ⟨_, rfl⟩
  rw [hq] at NQ OK0
  rw [hxz, hyz] at OK0
  clear hq
  have IX := Lib.hid (fun W => isIndex_any x n W)
  have IY := Lib.hid (fun W => isIndex_any y n W)
  by_cases h1 : op = 1
  · subst h1
    have R : Hid (St.ok ⟨1, a, b, c, d, x, y⟩ n = (xz && yz)) := by show _ = _; rw [OK0.out]; rfl
    clear OK0 NQ IX IY
    go_enter Tryd.func42, Tryd.ntmps42
    cases xz
    · go_wp2
      go_ret
      exact ⟨by rw [R.out]; rfl, B.out⟩
    · go_wp2
      go_ret
      exact ⟨by rw [R.out]; rfl, B.out⟩
  have p1 : (op == 1) = false := by simpa using h1
  have OK1 : Hid (St.ok ⟨op, a, b, c, d, x, y⟩ n = (q && (if op = 2 then okIdx x n && okIdx y n else if op = 3 then okIdx x n && yz else if op = 4 then xz && yz else false))) := by show _ = _; rw [OK0.out, if_neg h1]
  clear OK0
  cases q
  · have R : Hid (St.ok ⟨op, a, b, c, d, x, y⟩ n = false) := by show _ = _; rw [OK1.out]; rfl
    clear OK1 h1 IX IY
    go_enter Tryd.func42, Tryd.ntmps42
    go_wp2
    go_ret
    exact ⟨by rw [R.out]; rfl, B.out⟩
  by_cases h2 : op = 2
  · subst h2
    obtain ⟨ix, hix⟩ : ∃ ix, okIdx x n = ix := ⟨_, rfl⟩
    obtain ⟨iy, hiy⟩ : ∃ iy, okIdx y n = iy := ⟨_, rfl⟩
    rw [hix] at OK1 IX
    rw [hiy] at OK1 IY
    have R : Hid (St.ok ⟨2, a, b, c, d, x, y⟩ n = (ix && iy)) := by show _ = _; rw [OK1.out]; rfl
    clear OK1 h1 hix hiy
    go_enter Tryd.func42, Tryd.ntmps42
    go_wp2_with fail
    refine (IX.out _).mono ?_
    rintro e w' ⟨rfl, rfl⟩
    cases ix
    · go_wp2
      go_ret
      exact ⟨by rw [R.out]; rfl, B.out⟩
    · go_wp2_with fail
      refine (IY.out _).mono ?_
      rintro e w' ⟨rfl, rfl⟩
      go_wp2
      go_ret
      exact ⟨by rw [R.out]; rfl, B.out⟩
  by_cases h3 : op = 3
  · subst h3
    obtain ⟨ix, hix⟩ : ∃ ix, okIdx x n = ix := ⟨_, rfl⟩
    rw [hix] at OK1 IX
    have R : Hid (St.ok ⟨3, a, b, c, d, x, y⟩ n = (ix && yz)) := by show _ = _; rw [OK1.out]; rfl
    clear OK1 h1 h2 hix
    go_enter Tryd.func42, Tryd.ntmps42
    go_wp2_with fail
    refine (IX.out _).mono ?_
    rintro e w' ⟨rfl, rfl⟩
    cases ix
    · go_wp2
      go_ret
      exact ⟨by rw [R.out]; rfl, B.out⟩
    · go_wp2
      go_ret
      exact ⟨by rw [R.out]; rfl, B.out⟩
  clear IX IY
  by_cases h4 : op = 4
  · subst h4
    have R : Hid (St.ok ⟨4, a, b, c, d, x, y⟩ n = (xz && yz)) := by show _ = _; rw [OK1.out]; rfl
    clear OK1 h1 h2 h3
    go_enter Tryd.func42, Tryd.ntmps42
    cases xz
    · go_wp2
      go_ret
      exact ⟨by rw [R.out]; rfl, B.out⟩
    · go_wp2
      go_ret
      exact ⟨by rw [R.out]; rfl, B.out⟩
  have p2 : (op == 2) = false := by simpa using h2
  have p3 : (op == 3) = false := by simpa using h3
  have p4 : (op == 4) = false := by simpa using h4
  have R : Hid (St.ok ⟨op, a, b, c, d, x, y⟩ n = false) := by show _ = _; rw [OK1.out, if_neg h2, if_neg h3, if_neg h4]; rfl
  clear OK1 h1 h2 h3 h4
  go_enter Tryd.func42, Tryd.ntmps42
  go_wp2
  go_ret
  exact ⟨by rw [R.out]; rfl, B.out⟩

set_option maxRecDepth 100000 in
set_option maxHeartbeats 4000000 in
theorem check_any (L : List St) (A : Option Addr) (N cap : Nat) (w : World) (hN : L.length = N) (hbig : N ≤ 1048576) (hcap : N ≤ cap) (h : IsSt w A L) :
    Calls Tryd.prog 25 #[.slice A N cap] w fun e w' => e = .returned (.bool (progOk L)) ∧ Below w.heap.size w w' := by
  have PO : Hid (progOk L = (decide (1 ≤ N) && decide (N ≤ 40) && L.all (fun s => s.ok N) && decide (lastOp L ≠ 1))) := by show _ = _; rw [progOk, hN]
  by_cases h0 : N < 1
  · obtain rfl : N = 0 := by omega
    have R : Hid (progOk L = false) := by show _ = _; rw [PO.out]; rfl
    clear PO h hN
    go_enter Tryd.func25, Tryd.ntmps25
    go_wp2
    go_ret
    exact ⟨by rw [R.out]; rfl, Below.refl _ _⟩
  have h0z : ¬ (N : Int) < 1 := by omega
  by_cases h40 : 40 < N
  · have h40z : (40 : Int) < (N : Int) := by omega
    have R : Hid (progOk L = false) := by show _ = _; rw [PO.out]; simp; omega
    clear PO h hN
    go_enter Tryd.func25, Tryd.ntmps25
    go_wp2
    go_ret
    exact ⟨by rw [R.out]; rfl, Below.refl _ _⟩
  have h40z : ¬ (40 : Int) < (N : Int) := by omega
  have PO1 : Hid (progOk L = (L.all (fun s => s.ok N) && decide (lastOp L ≠ 1))) := by show _ = _; rw [PO.out, decide_eq_true (show 1 ≤ N by omega), decide_eq_true (show N ≤ 40 by omega)]; rfl
  obtain ⟨blk, off, rfl, hc⟩ := h.at (by omega)
  have HC : Hid (∀ W, Below w.heap.size w W → ∀ j, j < N → (W.cell? ⟨blk, off + j * 7, none⟩ = some (.int .i64 (nthS L j).op) ∧ W.cell? ⟨blk, off + j * 7 + 1, none⟩ = some (.int .u64 ((nthS L j).a : Int)) ∧ W.cell? ⟨blk, off + j * 7 + 2, none⟩ = some (.int .u64 ((nthS L j).b : Int)) ∧ W.cell? ⟨blk, off + j * 7 + 3, none⟩ = some (.int .u64 ((nthS L j).c : Int)) ∧ W.cell? ⟨blk, off + j * 7 + 4, none⟩ = some (.int .u64 ((nthS L j).d : Int)) ∧ W.cell? ⟨blk, off + j * 7 + 5, none⟩ = some (.int .i64 (nthS L j).x) ∧ W.cell? ⟨blk, off + j * 7 + 6, none⟩ = some (.int .i64 (nthS L j).y))) := fun W hW j hj => by
    obtain ⟨c0, c1, c2, c3, c4, c5, c6⟩ := hc j (by omega)
    have hl : blk < w.heap.size := World.block_lt_of_cell? w _ c0
    exact ⟨(hW.cell (p := ⟨blk, _, none⟩) hl).trans c0, (hW.cell (p := ⟨blk, _, none⟩) hl).trans c1, (hW.cell (p := ⟨blk, _, none⟩) hl).trans c2, (hW.cell (p := ⟨blk, _, none⟩) hl).trans c3, (hW.cell (p := ⟨blk, _, none⟩) hl).trans c4, (hW.cell (p := ⟨blk, _, none⟩) hl).trans c5, (hW.cell (p := ⟨blk, _, none⟩) hl).trans c6⟩
  have DR : Hid (∀ k, k < N → (L.drop k).all (fun s => s.ok N) = ((nthS L k).ok N && (L.drop (k + 1)).all (fun s => s.ok N))) := fun k hk => all_step (by omega)
  have DE : Hid ((L.drop N).all (fun s => s.ok N) = true) := all_end (by omega)
  have LN : Hid (lastOp L = (nthS L (N - 1)).op) := by have := last_nth (L := L) (by omega); rw [hN] at this; exact this
  clear h hc PO hN
  go_enter Tryd.func25, Tryd.ntmps25
  go_wp2_with fail
  go_loopw [15] (fun i wr => ∃ k : Nat, k ≤ N ∧ i = .int .i64 (k : Int) ∧ Hid (Below w.heap.size w wr ∧ (L.drop k).all (fun s => s.ok N) = L.all (fun s => s.ok N))) (fun i _ => N - (intOf i).toNat)
  case atStart => exact ⟨0, by omega, rfl, Below.refl _ _, rfl⟩
  case round =>
    obtain ⟨k, hk, rfl, HI⟩ := hrel
    by_cases hkN : k < N
    · have hkz : (k : Int) < (N : Int) := by omega
      obtain ⟨c0, c1, c2, c3, c4, c5, c6⟩ := HC.out wr HI.out.1 k hkN
      have DK := Lib.hid (DR.out k hkN)
      obtain ⟨s, hs⟩ : ∃ s, nthS L k = s := ⟨_, rfl⟩
      rw [hs] at c0 c1 c2 c3 c4 c5 c6 DK
      clear hs HC DR LN
      obtain ⟨op, a, b, c, d, x, y⟩ := s
      dsimp only at c0 c1 c2 c3 c4 c5 c6
      have CS := Lib.hid (fun W => isStep_any op a b c d x y N W)
      have B6 : Hid (Below wr.heap.size wr (wr.alloc (.cells #[.int .i64 op, .int .u64 (a : Int), .int .u64 (b : Int), .int .u64 (c : Int), .int .u64 (d : Int), .int .i64 x, .int .i64 y] 48))) := (Below.refl _ _).alloc (Nat.le_refl _) _
      go_wp2_with fail
      refine (CS.out _).mono ?_
      rintro e w1 ⟨rfl, b1⟩
      have B1 := Lib.hid (HI.out.1.trans ((B6.out.trans (b1.mono B6.out.size)).mono HI.out.1.size))
      clear b1 B6 CS c0 c1 c2 c3 c4 c5 c6
      cases hok : St.ok ⟨op, a, b, c, d, x, y⟩ N
      · rw [hok] at DK
        have R : Hid (progOk L = false) := by show _ = _; rw [PO1.out, ← HI.out.2, DK.out]; rfl
        clear hok PO1
        go_wp2
        go_ret
        exact ⟨by rw [R.out]; rfl, B1.out⟩
      · rw [hok] at DK
        have H2 : Hid (Below w.heap.size w w1 ∧ (L.drop (k + 1)).all (fun s => s.ok N) = L.all (fun s => s.ok N)) := ⟨B1.out, by rw [← HI.out.2, DK.out]; rfl⟩
        clear hok PO1
        go_wp2
        go_roundw
        case rel => exact ⟨k + 1, by omega, by go_num, H2.out⟩
        case measure => simp [intOf]; omega
    · obtain rfl : k = N := by omega
      have hkz : ¬ (k : Int) < (k : Int) := by omega
      obtain ⟨c0, _, _, _, _, _, _⟩ := HC.out wr HI.out.1 (k - 1) (by omega)
      rw [← LN.out] at c0
      obtain ⟨m, hm⟩ : ∃ m, k = m + 1 := ⟨k - 1, by omega⟩
      subst hm
      rw [Nat.add_sub_cancel] at c0
      have R : Hid (progOk L = decide (lastOp L ≠ 1)) := by show _ = _; rw [PO1.out, ← HI.out.2, DE.out]; rfl
      clear HC DR DE LN PO1
      generalize lastOp L = lo at *
      go_wp2
      go_ret
      exact ⟨by rw [R.out]; by_cases h : lo = 1 <;> simp [h], HI.out.1⟩

end Go.Proofs.YtonfmbnankihbaaDoor
