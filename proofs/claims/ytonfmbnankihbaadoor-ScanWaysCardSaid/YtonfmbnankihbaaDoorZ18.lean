/-
  What the reference's Check does: may steps be a program? Conditions: lengths fit.
-/
import Derived.Test.YtonfmbnankihbaaDoorProg
import Derived.Test.YtonfmbnankihbaaDoorZ01
import Derived.Test.YtonfmbnankihbaaDoorZ02
import Derived.Test.YtonfmbnankihbaaDoorZ03
import Derived.Test.YtonfmbnankihbaaDoorZ04
import Derived.Test.YtonfmbnankihbaaDoorZ06
import Derived.Test.YtonfmbnankihbaaDoorZ07
import Derived.Test.YtonfmbnankihbaaDoorZ11
import Derived.Test.YtonfmbnankihbaaDoorZ12
import Derived.Test.YtonfmbnankihbaaDoorZ16
import Derived.Deep.Cut
import Derived.Deep.CutRange
import Derived.StillTailTactics
import Derived.WalkKit
import Derived.WalkSpells
import Derived.WalkLawsBesides
import Derived.Lib.Hide
import Derived.Below
import Derived.BigQuiet
import Derived.Lib.QuietBelow
import Derived.Laws.StructEq
import Derived.KernelRfl
import Derived.Deep.RegionHeld3
import Derived.Deep.LoopGhost
import Derived.Maps.AppendAt
import Derived.Laws.MakeOwn
import Derived.Laws.OwnMore
import Derived.OwnWalk
import Derived.Laws.AppendOwn
import Derived.Laws.CopyOwn
import Derived.Deep.QuietTactic
import Derived.Lib.Bytealg
import Derived.Laws.Externs
import Derived.Laws.ResultCell
namespace Go.Proofs.YtonfmbnankihbaaDoor
open Go.RowKit

/-- A step's cells in its own block. -/
theorem box7 {w : World} {v0 v1 v2 v3 v4 v5 v6 : Value} {ty : TypeId} {W : World} (h : Below (w.heap.size + 1) (w.alloc (.cells #[v0, v1, v2, v3, v4, v5, v6] ty)) W) :
    (W.cell? ⟨w.heap.size, 0, none⟩ = some v0 ∧ W.cell? ⟨w.heap.size, 1, none⟩ = some v1 ∧ W.cell? ⟨w.heap.size, 2, none⟩ = some v2 ∧ W.cell? ⟨w.heap.size, 3, none⟩ = some v3 ∧ W.cell? ⟨w.heap.size, 4, none⟩ = some v4 ∧ W.cell? ⟨w.heap.size, 5, none⟩ = some v5 ∧ W.cell? ⟨w.heap.size, 6, none⟩ = some v6) ∧ Below w.heap.size w W := by
  have e := heap_alloc_new w (.cells #[v0, v1, v2, v3, v4, v5, v6] ty)
  have e2 : W.heap[w.heap.size]? = _ := (h.block w.heap.size (by omega)).trans e
  refine ⟨⟨?_, ?_, ?_, ?_, ?_, ?_, ?_⟩, ((Below.refl _ _).alloc (Nat.le_refl _) _).trans (h.mono (by omega))⟩ <;> (rw [cell_of_row _ w.heap.size _ _ ty (0, 0) e2]; rfl)

theorem set_eqlA (a b c d : Nat) : ∀ W, (binOp .eql 31 (.agg #[.int .u64 (a : Int), .int .u64 (b : Int), .int .u64 (c : Int), .int .u64 (d : Int)]) (.agg #[.int .u64 0, .int .u64 0, .int .u64 0, .int .u64 0])).run Tryd.prog W = .ok (.bool (a == 0 && b == 0 && c == 0 && d == 0)) W := by
  intro W
  have := set_eql (a : Int) b c d 0 0 0 0 W
  have e4 : (((a : Int) == 0 && (b : Int) == 0 && (c : Int) == 0 && (d : Int) == 0)) = (a == 0 && b == 0 && c == 0 && d == 0) := by rw [Bool.eq_iff_iff]; simp
  rw [e4] at this
  exact this
set_option maxRecDepth 100000 in
set_option maxHeartbeats 8000000 in
theorem rcheck_any (L : List St) (A : Option Addr) (N cap : Nat) (w : World) (hN : L.length = N) (hbig : N ≤ 1048576) (hcap : N ≤ cap) (h : IsSt w A L) :
    Calls Tryd.prog 29 #[.slice A N cap] w fun e w' => e = .returned (.bool (progOk L)) ∧ Below w.heap.size w w' := by
  have PO : Hid (progOk L = (decide (1 ≤ N) && decide (N ≤ 40) && L.all (fun s => s.ok N) && decide (lastOp L ≠ 1))) := by show _ = _; rw [progOk, hN]
  by_cases h0 : N < 1
  · obtain rfl : N = 0 := by omega
    have R : Hid (progOk L = false) := by show _ = _; rw [PO.out]; rfl
    clear PO h hN
    go_enter Tryd.func29, Tryd.ntmps29
    go_wp2
    go_ret
    exact ⟨by rw [R.out]; rfl, Below.refl _ _⟩
  have h0z : ¬ (N : Int) < 1 := by omega
  by_cases h40 : 40 < N
  · have h40z : (40 : Int) < (N : Int) := by omega
    have R : Hid (progOk L = false) := by show _ = _; rw [PO.out]; simp; omega
    clear PO h hN
    go_enter Tryd.func29, Tryd.ntmps29
    go_wp2
    go_ret
    exact ⟨by rw [R.out]; rfl, Below.refl _ _⟩
  have h40z : ¬ (40 : Int) < (N : Int) := by omega
  have PO1 : Hid (progOk L = (L.all (fun s => s.ok N) && decide (lastOp L ≠ 1))) := by show _ = _; rw [PO.out, decide_eq_true (show 1 ≤ N by omega), decide_eq_true (show N ≤ 40 by omega)]; rfl
  obtain ⟨blk, off, rfl, hc⟩ := h.at (by omega)
  have HC : Hid (∀ W, Below w.heap.size w W → ∀ j, j < N → (W.cell? ⟨blk, off + j * 7, none⟩ = some (.int .i64 (nthS L j).op) ∧ W.cell? ⟨blk, off + j * 7 + 1, none⟩ = some (.int .u64 ((nthS L j).a : Int)) ∧ W.cell? ⟨blk, off + j * 7 + 2, none⟩ = some (.int .u64 ((nthS L j).b : Int)) ∧ W.cell? ⟨blk, off + j * 7 + 3, none⟩ = some (.int .u64 ((nthS L j).c : Int)) ∧ W.cell? ⟨blk, off + j * 7 + 4, none⟩ = some (.int .u64 ((nthS L j).d : Int)) ∧ W.cell? ⟨blk, off + j * 7 + 5, none⟩ = some (.int .i64 (nthS L j).x) ∧ W.cell? ⟨blk, off + j * 7 + 6, none⟩ = some (.int .i64 (nthS L j).y))) := fun W hW j hj => by
    obtain ⟨c0, c1, c2, c3, c4, c5, c6⟩ := hc j (by omega)
    have hl : blk < w.heap.size := World.block_lt_of_cell? w _ c0
    exact ⟨(hW.cell (p := ⟨blk, _, none⟩) hl).trans c0, (hW.cell (p := ⟨blk, _, none⟩) hl).trans c1, (hW.cell (p := ⟨blk, _, none⟩) hl).trans c2, (hW.cell (p := ⟨blk, _, none⟩) hl).trans c3, (hW.cell (p := ⟨blk, _, none⟩) hl).trans c4, (hW.cell (p := ⟨blk, _, none⟩) hl).trans c5, (hW.cell (p := ⟨blk, _, none⟩) hl).trans c6⟩
  have DR : Hid (∀ k, k < N → (L.drop k).all (fun s => s.ok N) = ((nthS L k).ok N && (L.drop (k + 1)).all (fun s => s.ok N))) := fun k hk => all_step (by omega)
  have DE : Hid ((L.drop N).all (fun s => s.ok N) = true) := all_end (by omega)
  have LN : Hid (lastOp L = (nthS L (N - 1)).op) := by have := last_nth (L := L) (by omega); rw [hN] at this; exact this
  clear h hc PO hN
  go_enter Tryd.func29, Tryd.ntmps29
  go_wp2_with fail
  go_loopw [3] (fun i wr => ∃ k : Nat, k ≤ N ∧ i = .int .i64 (k : Int) ∧ Hid (Below w.heap.size w wr ∧ (L.drop k).all (fun s => s.ok N) = L.all (fun s => s.ok N) ∧ (k = N → lastOp L ≠ 1))) (fun i _ => N - (intOf i).toNat)
  case atStart => exact ⟨0, by omega, rfl, Below.refl _ _, rfl, fun h => by omega⟩
  case round =>
    obtain ⟨k, hk, rfl, HI⟩ := hrel
    by_cases hkN : k < N
    · have hkz : (k : Int) < (N : Int) := by omega
      obtain ⟨c0, c1, c2, c3, c4, c5, c6⟩ := HC.out wr HI.out.1 k hkN
      have DK := Lib.hid (DR.out k hkN)
      have LK : Hid (k + 1 = N → lastOp L = (nthS L k).op) := fun h => by rw [LN.out, ← h]; rfl
      obtain ⟨s, hs⟩ : ∃ s, nthS L k = s := ⟨_, rfl⟩
      rw [hs] at c0 c1 c2 c3 c4 c5 c6 DK LK
      clear hs HC DR LN DE
      obtain ⟨op, a, b, c, d, x, y⟩ := s
      dsimp only at c0 c1 c2 c3 c4 c5 c6 LK
      have BX := Lib.hid (fun W => box7 (w := wr) (v0 := .int .i64 op) (v1 := .int .u64 (a : Int)) (v2 := .int .u64 (b : Int)) (v3 := .int .u64 (c : Int)) (v4 := .int .u64 (d : Int)) (v5 := .int .i64 x) (v6 := .int .i64 y) (ty := 48) (W := W))
      go_upto_region 7 with fail
      generalize wr.alloc (.cells #[.int .i64 op, .int .u64 (a : Int), .int .u64 (b : Int), .int .u64 (c : Int), .int .u64 (d : Int), .int .i64 x, .int .i64 y] 48) = w1 at *
      clear c0 c1 c2 c3 c4 c5 c6
      obtain ⟨ix, hix⟩ : ∃ ix, okIdx x N = ix := ⟨_, rfl⟩
      obtain ⟨iy, hiy⟩ : ∃ iy, okIdx y N = iy := ⟨_, rfl⟩
      have HX : Hid (ix = (decide (0 ≤ x) && decide (x < (N : Int)))) := hix.symm
      have HY : Hid (iy = (decide (0 ≤ y) && decide (y < (N : Int)))) := hiy.symm
      have OK0 : Hid (St.ok ⟨op, a, b, c, d, x, y⟩ N = if op = 1 then x == 0 && y == 0 else (a == 0 && b == 0 && c == 0 && d == 0) && (if op = 2 then ix && iy else if op = 3 then ix && y == 0 else if op = 4 then x == 0 && y == 0 else false)) := by show _ = _; rw [← hix, ← hiy]; rfl
      clear hix hiy
      go_cut [5, 6] from 16 to 107 (fun s5 s6 wx => s5 = .bool ix ∧ s6 = .bool iy ∧ Hid (Below (wr.heap.size + 1) w1 wx))
      case first =>
        obtain ⟨⟨q0, q1, q2, q3, q4, q5, q6⟩, _⟩ := BX.out w1 (Below.refl _ _)
        clear q0 q1 q2 q3 q4 PO1 DK LK HI BX OK0
        have D := fun n => drewN_below (Below.refl (wr.heap.size + 1) w1) n
        replace D := Lib.hid D
        by_cases hx : 0 ≤ x
        · have hx0 : decide ((0 : Int) ≤ x) = true := decide_eq_true hx
          have EX : Hid (decide (x < (N : Int)) = ix) := by show _ = _; rw [HX.out, hx0]; rfl
          clear HX
          by_cases hy : 0 ≤ y
          · have hy0 : decide ((0 : Int) ≤ y) = true := decide_eq_true hy
            have EY : Hid (decide (y < (N : Int)) = iy) := by show _ = _; rw [HY.out, hy0]; rfl
            clear HY
            go_quiet (fail)
            go_wp2
            go_meet
            case rel => exact ⟨by rw [← EX.out], by rw [← EY.out], D.out _⟩
          · have hy0 : decide ((0 : Int) ≤ y) = false := decide_eq_false hy
            have EY : Hid (false = iy) := by show _ = _; rw [HY.out, hy0]; rfl
            clear HY
            go_quiet (fail)
            go_wp2
            go_meet
            case rel => exact ⟨by rw [← EX.out], by rw [← EY.out], D.out _⟩
        · have hx0 : decide ((0 : Int) ≤ x) = false := decide_eq_false hx
          have EX : Hid (false = ix) := by show _ = _; rw [HX.out, hx0]; rfl
          clear HX
          by_cases hy : 0 ≤ y
          · have hy0 : decide ((0 : Int) ≤ y) = true := decide_eq_true hy
            have EY : Hid (decide (y < (N : Int)) = iy) := by show _ = _; rw [HY.out, hy0]; rfl
            clear HY
            go_quiet (fail)
            go_wp2
            go_meet
            case rel => exact ⟨by rw [← EX.out], by rw [← EY.out], D.out _⟩
          · have hy0 : decide ((0 : Int) ≤ y) = false := decide_eq_false hy
            have EY : Hid (false = iy) := by show _ = _; rw [HY.out, hy0]; rfl
            clear HY
            go_quiet (fail)
            go_wp2
            go_meet
            case rel => exact ⟨by rw [← EX.out], by rw [← EY.out], D.out _⟩
      case rest =>
        obtain ⟨rfl, rfl, HW⟩ := hcut
        obtain ⟨⟨q0, q1, q2, q3, q4, q5, q6⟩, BW⟩ := BX.out _ HW.out
        have BH := Lib.hid (HI.out.1.trans (BW.mono HI.out.1.size))
        have H2 := Lib.hid HI.out.2.1
        clear BW HX HY HW BX HI
        have EQ := set_eqlA a b c d
        obtain ⟨q, hq⟩ : ∃ q, (a == 0 && b == 0 && c == 0 && d == 0) = q := ⟨_, rfl⟩
        obtain ⟨xz, hxz⟩ : ∃ xz, (x == 0) = xz := ⟨_, rfl⟩
        obtain ⟨yz, hyz⟩ : ∃ yz, (y == 0) = yz := ⟨_, rfl⟩
        have hxn : (x != 0) = !xz := by rw [← hxz]; rfl
        have hyn : (y != 0) = !yz := by rw [← hyz]; rfl
        rw [hq] at EQ OK0
        rw [hxz, hyz] at OK0
        clear hq hxz hyz
        have NO : Hid (St.ok ⟨op, a, b, c, d, x, y⟩ N = false → progOk L = false) := fun h => by rw [PO1.out, ← H2.out, DK.out, h]; rfl
        have YES : Hid (St.ok ⟨op, a, b, c, d, x, y⟩ N = true → (L.drop (k + 1)).all (fun s => s.ok N) = L.all (fun s => s.ok N)) := fun h => by rw [← H2.out, DK.out, h]; rfl
        have LST : Hid (k + 1 = N → op = 1 → progOk L = false) := fun h1 h2 => by rw [PO1.out, LK.out h1, h2]; simp
        clear PO1 DK H2
        by_cases h1 : op = 1
        · subst h1
          by_cases efalsefalse : xz = false ∧ yz = false
          · obtain ⟨rfl, rfl⟩ := efalsefalse
            have OK : Hid (St.ok ⟨1, a, b, c, d, x, y⟩ N = false) := by show _ = _; rw [OK0.out]; rfl
            clear OK0
            have R := Lib.hid (NO.out OK.out)
            clear NO YES LST LK OK
            go_wp2
            go_ret
            exact ⟨by rw [R.out]; rfl, BH.out⟩
          by_cases efalsetrue : xz = false ∧ yz = true
          · obtain ⟨rfl, rfl⟩ := efalsetrue
            have OK : Hid (St.ok ⟨1, a, b, c, d, x, y⟩ N = false) := by show _ = _; rw [OK0.out]; rfl
            clear OK0
            have R := Lib.hid (NO.out OK.out)
            clear NO YES LST LK OK
            go_wp2
            go_ret
            exact ⟨by rw [R.out]; rfl, BH.out⟩
          by_cases etruefalse : xz = true ∧ yz = false
          · obtain ⟨rfl, rfl⟩ := etruefalse
            have OK : Hid (St.ok ⟨1, a, b, c, d, x, y⟩ N = false) := by show _ = _; rw [OK0.out]; rfl
            clear OK0
            have R := Lib.hid (NO.out OK.out)
            clear NO YES LST LK OK
            go_wp2
            go_ret
            exact ⟨by rw [R.out]; rfl, BH.out⟩
          by_cases etruetrue : xz = true ∧ yz = true
          · obtain ⟨rfl, rfl⟩ := etruetrue
            have OK : Hid (St.ok ⟨1, a, b, c, d, x, y⟩ N = true) := by show _ = _; rw [OK0.out]; rfl
            clear OK0
            by_cases hkl : k + 1 = N
            · have hkz1 : ((k : Int) == (N : Int) - 1) = true := by simp; omega
              have R := Lib.hid (LST.out hkl rfl)
              clear NO YES LST LK OK
              go_wp2
              go_ret
              exact ⟨by rw [R.out]; rfl, BH.out⟩
            · have hkz1 : ((k : Int) == (N : Int) - 1) = false := by simp; omega
              have R := Lib.hid (YES.out OK.out)
              have LQ : Hid (k + 1 = N → lastOp L ≠ 1) := fun h => absurd h hkl
              clear NO YES LST LK OK
              go_wp2
              go_roundw
              case rel => exact ⟨k + 1, by omega, by go_num, BH.out, R.out, LQ.out⟩
              case measure => simp [intOf]; omega
          cases xz <;> cases yz <;> simp_all
        have p1 : (op == 1) = false := by simpa using h1
        have LQ1 : Hid (k + 1 = N → lastOp L ≠ 1) := fun h => by rw [LK.out h]; exact h1
        have OK1 : Hid (St.ok ⟨op, a, b, c, d, x, y⟩ N = (q && (if op = 2 then ix && iy else if op = 3 then ix && yz else if op = 4 then xz && yz else false))) := by show _ = _; rw [OK0.out, if_neg h1]
        clear OK0
        by_cases h2 : op = 2
        · subst h2
          have OK2 : Hid (St.ok ⟨2, a, b, c, d, x, y⟩ N = (q && (ix && iy))) := OK1.out
          clear OK1
          cases ix
          · have OK : Hid (St.ok ⟨2, a, b, c, d, x, y⟩ N = false) := by show _ = _; rw [OK2.out]; simp
            clear OK2
            have R := Lib.hid (NO.out OK.out)
            clear NO YES LST LK OK LQ1
            go_wp2
            go_ret
            exact ⟨by rw [R.out]; rfl, BH.out⟩
          · cases iy
            · have OK : Hid (St.ok ⟨2, a, b, c, d, x, y⟩ N = false) := by show _ = _; rw [OK2.out]; simp
              clear OK2
              have R := Lib.hid (NO.out OK.out)
              clear NO YES LST LK OK LQ1
              go_wp2
              go_ret
              exact ⟨by rw [R.out]; rfl, BH.out⟩
            · cases q
              · have OK : Hid (St.ok ⟨2, a, b, c, d, x, y⟩ N = false) := by show _ = _; rw [OK2.out]; simp
                clear OK2
                have R := Lib.hid (NO.out OK.out)
                clear NO YES LST LK OK LQ1
                go_wp2
                go_ret
                exact ⟨by rw [R.out]; rfl, BH.out⟩
              · have OK : Hid (St.ok ⟨2, a, b, c, d, x, y⟩ N = true) := by show _ = _; rw [OK2.out]; rfl
                clear OK2
                have R := Lib.hid (YES.out OK.out)
                have LQ : Hid (k + 1 = N → lastOp L ≠ 1) := LQ1.out
                clear NO YES LST LK OK LQ1
                go_wp2
                go_roundw
                case rel => exact ⟨k + 1, by omega, by go_num, BH.out, R.out, LQ.out⟩
                case measure => simp [intOf]; omega
        have p2 : (op == 2) = false := by simpa using h2
        by_cases h3 : op = 3
        · subst h3
          have OK2 : Hid (St.ok ⟨3, a, b, c, d, x, y⟩ N = (q && (ix && yz))) := OK1.out
          clear OK1
          cases ix
          · have OK : Hid (St.ok ⟨3, a, b, c, d, x, y⟩ N = false) := by show _ = _; rw [OK2.out]; simp
            clear OK2
            have R := Lib.hid (NO.out OK.out)
            clear NO YES LST LK OK LQ1
            go_wp2
            go_ret
            exact ⟨by rw [R.out]; rfl, BH.out⟩
          · cases yz
            · have OK : Hid (St.ok ⟨3, a, b, c, d, x, y⟩ N = false) := by show _ = _; rw [OK2.out]; simp
              clear OK2
              have R := Lib.hid (NO.out OK.out)
              clear NO YES LST LK OK LQ1
              go_wp2
              go_ret
              exact ⟨by rw [R.out]; rfl, BH.out⟩
            · cases q
              · have OK : Hid (St.ok ⟨3, a, b, c, d, x, y⟩ N = false) := by show _ = _; rw [OK2.out]; simp
                clear OK2
                have R := Lib.hid (NO.out OK.out)
                clear NO YES LST LK OK LQ1
                go_wp2
                go_ret
                exact ⟨by rw [R.out]; rfl, BH.out⟩
              · have OK : Hid (St.ok ⟨3, a, b, c, d, x, y⟩ N = true) := by show _ = _; rw [OK2.out]; rfl
                clear OK2
                have R := Lib.hid (YES.out OK.out)
                have LQ : Hid (k + 1 = N → lastOp L ≠ 1) := LQ1.out
                clear NO YES LST LK OK LQ1
                go_wp2
                go_roundw
                case rel => exact ⟨k + 1, by omega, by go_num, BH.out, R.out, LQ.out⟩
                case measure => simp [intOf]; omega
        have p3 : (op == 3) = false := by simpa using h3
        by_cases h4 : op = 4
        · subst h4
          have OK2 : Hid (St.ok ⟨4, a, b, c, d, x, y⟩ N = (q && (xz && yz))) := OK1.out
          clear OK1
          cases xz
          · have OK : Hid (St.ok ⟨4, a, b, c, d, x, y⟩ N = false) := by show _ = _; rw [OK2.out]; simp
            clear OK2
            have R := Lib.hid (NO.out OK.out)
            clear NO YES LST LK OK LQ1
            go_wp2
            go_ret
            exact ⟨by rw [R.out]; rfl, BH.out⟩
          · cases yz
            · have OK : Hid (St.ok ⟨4, a, b, c, d, x, y⟩ N = false) := by show _ = _; rw [OK2.out]; simp
              clear OK2
              have R := Lib.hid (NO.out OK.out)
              clear NO YES LST LK OK LQ1
              go_wp2
              go_ret
              exact ⟨by rw [R.out]; rfl, BH.out⟩
            · cases q
              · have OK : Hid (St.ok ⟨4, a, b, c, d, x, y⟩ N = false) := by show _ = _; rw [OK2.out]; simp
                clear OK2
                have R := Lib.hid (NO.out OK.out)
                clear NO YES LST LK OK LQ1
                go_wp2
                go_ret
                exact ⟨by rw [R.out]; rfl, BH.out⟩
              · have OK : Hid (St.ok ⟨4, a, b, c, d, x, y⟩ N = true) := by show _ = _; rw [OK2.out]; rfl
                clear OK2
                have R := Lib.hid (YES.out OK.out)
                have LQ : Hid (k + 1 = N → lastOp L ≠ 1) := LQ1.out
                clear NO YES LST LK OK LQ1
                go_wp2
                go_roundw
                case rel => exact ⟨k + 1, by omega, by go_num, BH.out, R.out, LQ.out⟩
                case measure => simp [intOf]; omega
        have p4 : (op == 4) = false := by simpa using h4
        have OK : Hid (St.ok ⟨op, a, b, c, d, x, y⟩ N = false) := by show _ = _; rw [OK1.out, if_neg h2, if_neg h3, if_neg h4]; simp
        clear OK1 h1 h2 h3 h4
        have R := Lib.hid (NO.out OK.out)
        clear NO YES LST LK OK LQ1
        go_wp2
        go_ret
        exact ⟨by rw [R.out]; rfl, BH.out⟩
    · obtain rfl : k = N := by omega
      have hkz : ¬ (k : Int) < (k : Int) := by omega
      have R : Hid (progOk L = true) := by show _ = _; rw [PO1.out, ← HI.out.2.1, DE.out, decide_eq_true (HI.out.2.2 rfl)]; rfl
      clear HC DR DE LN PO1
      go_wp2
      go_ret
      exact ⟨by rw [R.out]; rfl, HI.out.1⟩

end Go.Proofs.YtonfmbnankihbaaDoor
