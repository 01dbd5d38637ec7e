/-
  What the reference's Parse does; RexParses, RexEnds as contracts. No conditions.
-/
import Derived.Test.YtonfmbnankihbaaDoorProg
import Derived.Test.YtonfmbnankihbaaDoorZ01
import Derived.Test.YtonfmbnankihbaaDoorZ02
import Derived.Test.YtonfmbnankihbaaDoorZ03
import Derived.Test.YtonfmbnankihbaaDoorZ05
import Derived.Test.YtonfmbnankihbaaDoorZ08
import Derived.Test.YtonfmbnankihbaaDoorZ06
import Derived.Test.YtonfmbnankihbaaDoorZ07
import Derived.Test.YtonfmbnankihbaaDoorZ09
import Derived.Test.YtonfmbnankihbaaDoorZ11
import Derived.Test.YtonfmbnankihbaaDoorZ12
import Derived.Test.YtonfmbnankihbaaDoorZ21
import Derived.Test.YtonfmbnankihbaaDoorZ35
import Derived.Test.YtonfmbnankihbaaDoorZ36
import Derived.Test.YtonfmbnankihbaaDoorZ22
import Derived.Test.YtonfmbnankihbaaDoorZ23
import Derived.Test.YtonfmbnankihbaaDoorZ13
import Derived.Test.YtonfmbnankihbaaDoorZ30
import Derived.StillTailTactics
import Derived.WalkKit
import Derived.WalkSpells
import Derived.WalkLawsBesides
import Derived.Lib.Hide
import Derived.Below
import Derived.BigQuiet
import Derived.Lib.QuietBelow
import Derived.Laws.StructEq
import Derived.KernelRfl
import Derived.Deep.RegionHeld3
import Derived.Deep.LoopGhost
import Derived.Laws.AppendOwn
import Derived.Maps.AppendAt
import Derived.Laws.ResultCell
import Derived.Deep.QuietTactic
import Derived.Deep.MidRow
import Derived.Deep.Upon
import Derived.Deep.Cut
import Derived.Deep.CutRange
import Derived.Laws.MakeOwn
import Derived.Laws.OwnMore
import Derived.OwnWalk
import Derived.Laws.CopyOwn
import Derived.Lib.Bytealg
import Derived.Laws.Externs
namespace Go.Proofs.YtonfmbnankihbaaDoor
open Go.RowKit Go.Sort
open Pz

set_option maxRecDepth 100000 in
set_option maxHeartbeats 8000000 in
theorem rparse_any (s : ByteArray) (w : World) : Calls Tryd.prog 21 #[.string s] w (ParseRes w (parse (txt8 s))) := by
  obtain ⟨L, hL⟩ : ∃ L, s.size = L := ⟨_, rfl⟩
  by_cases h40 : 40 < L
  · have hz : decide ((L : Int) > 40) = true := decide_eq_true (by omega)
    have R : Hid (parse (txt8 s) = none) := by show _ = _; unfold parse; rw [txt8_len, if_pos (by omega)]
    have B := Lib.hid ((Below.refl w.heap.size w).alloc (Nat.le_refl _) (.cells #[.int .i64 0, .int .u64 0, .int .u64 0, .int .u64 0, .int .u64 0, .slice none 0 0] 34))
    have HH := Lib.hid (heap_alloc_new w (.cells #[.int .i64 0, .int .u64 0, .int .u64 0, .int .u64 0, .int .u64 0, .slice none 0 0] 34))
    clear h40
    go_enter Tryd.func21, Tryd.ntmps21
    go_wp2
    exact bodyPost_ret (run_ct rfl _ _ _ w.heap.size #[.int .i64 0, .int .u64 0, .int .u64 0, .int .u64 0, .int .u64 0, .slice none 0 0] (.bool false) rfl rfl (run_loadVar_row _ _ _ _ _ _ _ HH.out Tryd.underlying34 rfl Tryd.size6)) rfl ⟨B.out, .inr ⟨R.out, rfl⟩⟩
  · have hz : decide ((L : Int) > 40) = false := decide_eq_false (by omega)
    have WC := Lib.hid (fun P => rways_any P 0 s _ (group_le 8) (rgroup_any P s 8 0 rfl))
    obtain ⟨e1, e2, z, B⟩ := alloc2 w (.cells #[.int .i64 0, .int .u64 0, .int .u64 0, .int .u64 0, .int .u64 0, .slice none 0 0] 34) (.cells #[.string s, .int .i64 0, .int .i64 0, .bool false] 63)
    have PA : Hid (RPar ((w.alloc (.cells #[.int .i64 0, .int .u64 0, .int .u64 0, .int .u64 0, .int .u64 0, .slice none 0 0] 34)).alloc (.cells #[.string s, .int .i64 0, .int .i64 0, .bool false] 63)) (w.heap.size + 1) s 0 0 false) := by
      generalize (w.alloc (.cells #[.int .i64 0, .int .u64 0, .int .u64 0, .int .u64 0, .int .u64 0, .slice none 0 0] 34)).alloc (.cells #[.string s, .int .i64 0, .int .i64 0, .bool false] 63) = W at *
      refine ⟨?_, ?_, ?_, ?_, fun j => by rw [World.frozen?, e2]; simp, by omega, by omega, by omega⟩ <;> (rw [cell_of_row _ _ _ _ _ _ e2]; rfl)
    have E1 := Lib.hid e1
    have ZZ := Lib.hid z
    have BB := Lib.hid B
    clear e1 e2 z B
    have e1 : Hid (parse (txt8 s) = match Pz.ways (txt8 s) 42 (group (txt8 s) 42 8) 42 [] 0 with
      | none => none
      | some (x, j) => if j < s.size then none else some x) := by
      show _ = _
      unfold parse
      rw [txt8_len, if_neg (by omega)]
      cases Pz.ways (txt8 s) 42 (group (txt8 s) 42 8) 42 [] 0 <;> rfl
    clear h40
    go_enter Tryd.func21, Tryd.ntmps21
    go_wp2_with fail
    refine (WC.out _ 0 _ trivial PA.out).mono ?_
    intro e W1 hp
    obtain ⟨op, a, b, c, d1, A, n, cap, t, rfl, RX, S1, hres⟩ := hp.form
    have r1 := (S1.block w.heap.size (by rw [ZZ.out]; omega) (by omega)).trans E1.out
    have b1 := BB.out.trans (S1.below (B := w.heap.size) (by omega) (by rw [ZZ.out]; omega))
    have B6 : Below W1.heap.size W1 (W1.alloc (.cells #[.int .i64 op, .int .u64 (a : Int), .int .u64 (b : Int), .int .u64 (c : Int), .int .u64 (d1 : Int), .slice A n cap] 34)) := (Below.refl _ _).alloc (Nat.le_refl _) _
    have X6 : Row6 (W1.alloc (.cells #[.int .i64 op, .int .u64 (a : Int), .int .u64 (b : Int), .int .u64 (c : Int), .int .u64 (d1 : Int), .slice A n cap] 34)) W1.heap.size #[.int .i64 op, .int .u64 (a : Int), .int .u64 (b : Int), .int .u64 (c : Int), .int .u64 (d1 : Int), .slice A n cap] := heap_alloc_new W1 _
    have R2 := Lib.hid ((B6.block w.heap.size (Array.getElem?_eq_some_iff.1 r1).1).trans r1)
    have RX2 := Lib.hid (RX.under B6 (B' := w.heap.size + 1) (by rw [ZZ.out]; omega))
    have b2 := Lib.hid (b1.trans (B6.mono b1.size))
    obtain ⟨x0, x1, x2, x3, x4, x5⟩ := X6.cells
    have hPl : w.heap.size + 1 < W1.heap.size := by have := S1.size; rw [ZZ.out] at this; omega
    rcases hres with ⟨j, h1, P1⟩ | ⟨h1, j, d3, P1⟩
    · have R1 : Hid (parse (txt8 s) = if j < L then none else some t) := by show _ = _; rw [e1.out, h1, ← hL]
      have c1 := (P1.grown B6).c1
      have c3 := (P1.grown B6).c3
      clear S1 P1 hp B6 r1 b1 E1 ZZ BB PA WC RX X6 h1 e1
      by_cases hjl : j < L
      · have hjz : (j : Int) < (L : Int) := by omega
        have R : Hid (parse (txt8 s) = none) := by show _ = _; rw [R1.out, if_pos hjl]
        clear R1 hjl
        go_wp2_with (refine wpList_store_row rfl 34 (.tmp 2) (.tmp 28) rfl w.heap.size #[.int .i64 0, .int .u64 0, .int .u64 0, .int .u64 0, .int .u64 0, .slice none 0 0] rfl rfl 34 _ R2.out Tryd.size6 rfl (by simp [Value.oneCell']) ?_)
        exact bodyPost_ret (run_ct rfl _ _ _ w.heap.size #[.int .i64 0, .int .u64 0, .int .u64 0, .int .u64 0, .int .u64 0, .slice none 0 0] (.bool false) rfl rfl (run_loadVar_row _ _ _ _ _ _ _ (setRow_heap _ _ _ _ _ _ R2.out) Tryd.underlying34 rfl Tryd.size6)) rfl (⟨below_row b2.out _, .inr ⟨R.out, rfl⟩⟩)
      · have hjz : ¬ (j : Int) < (L : Int) := by omega
        have R : Hid (parse (txt8 s) = some t) := by show _ = _; rw [R1.out, if_neg hjl]
        clear R1 hjl
        go_wp2_with (refine wpList_store_row rfl 34 (.tmp 2) (.tmp 29) rfl w.heap.size #[.int .i64 op, .int .u64 (a : Int), .int .u64 (b : Int), .int .u64 (c : Int), .int .u64 (d1 : Int), .slice A n cap] rfl rfl 34 _ R2.out Tryd.size6 rfl (by simp [Value.oneCell']) ?_)
        exact bodyPost_ret (run_ct rfl _ _ _ w.heap.size #[.int .i64 op, .int .u64 (a : Int), .int .u64 (b : Int), .int .u64 (c : Int), .int .u64 (d1 : Int), .slice A n cap] (.bool true) rfl rfl (run_loadVar_row _ _ _ _ _ _ _ (setRow_heap _ _ _ _ _ _ R2.out) Tryd.underlying34 rfl Tryd.size6)) rfl (⟨below_row b2.out _, .inl ⟨t, _, R.out, rfl, RX2.out.frame (fun b hb => setRow_other _ _ _ _ (by omega)) (fun b _ hb => by omega)⟩⟩)
    · have R : Hid (parse (txt8 s) = none) := by show _ = _; rw [e1.out, h1]
      have c3 := (P1.grown B6).c3
      clear S1 P1 hp B6 r1 b1 E1 ZZ BB PA WC RX X6 h1 e1
      go_wp2_with (refine wpList_store_row rfl 34 (.tmp 2) (.tmp 28) rfl w.heap.size #[.int .i64 0, .int .u64 0, .int .u64 0, .int .u64 0, .int .u64 0, .slice none 0 0] rfl rfl 34 _ R2.out Tryd.size6 rfl (by simp [Value.oneCell']) ?_)
      exact bodyPost_ret (run_ct rfl _ _ _ w.heap.size #[.int .i64 0, .int .u64 0, .int .u64 0, .int .u64 0, .int .u64 0, .slice none 0 0] (.bool false) rfl rfl (run_loadVar_row _ _ _ _ _ _ _ (setRow_heap _ _ _ _ _ _ R2.out) Tryd.underlying34 rfl Tryd.size6)) rfl (⟨below_row b2.out _, .inr ⟨R.out, rfl⟩⟩)
set_option maxRecDepth 100000 in
set_option maxHeartbeats 8000000 in
theorem parse_all (s : ByteArray) (w : World) : Calls Tryd.prog 24 #[.string s] w (ParseRes w (parse (txt8 s))) := by
  obtain ⟨L, hL⟩ : ∃ L, s.size = L := ⟨_, rfl⟩
  by_cases h40 : 40 < L
  · have hz : decide ((L : Int) > 40) = true := decide_eq_true (by omega)
    have R : Hid (parse (txt8 s) = none) := by show _ = _; unfold parse; rw [txt8_len, if_pos (by omega)]
    have B := Lib.hid ((Below.refl w.heap.size w).alloc (Nat.le_refl _) (.cells #[.int .i64 0, .int .u64 0, .int .u64 0, .int .u64 0, .int .u64 0, .slice none 0 0] 34))
    have HH := Lib.hid (heap_alloc_new w (.cells #[.int .i64 0, .int .u64 0, .int .u64 0, .int .u64 0, .int .u64 0, .slice none 0 0] 34))
    clear h40
    go_enter Tryd.func24, Tryd.ntmps24
    go_wp2
    exact bodyPost_ret (run_ct rfl _ _ _ w.heap.size #[.int .i64 0, .int .u64 0, .int .u64 0, .int .u64 0, .int .u64 0, .slice none 0 0] (.bool false) rfl rfl (run_loadVar_row _ _ _ _ _ _ _ HH.out Tryd.underlying34 rfl Tryd.size6)) rfl ⟨B.out, .inr ⟨R.out, rfl⟩⟩
  · exact parse_any s (by omega) w
/-- What Parse told, either way. -/
theorem ParseRes.both {w w' : World} {r : Option Rx} {e : Ending} (h : ParseRes w r e w') :
    ∃ op a b c d A n cap t, e = .returned (.tuple #[.agg #[.int .i64 op, .int .u64 ((a : Nat) : Int), .int .u64 ((b : Nat) : Int), .int .u64 ((c : Nat) : Int), .int .u64 ((d : Nat) : Int), .slice A n cap], .bool r.isSome]) ∧ IsRx w' (.agg (c6 op a b c d A n cap)) t ∧ t = r.getD (.mk 0 0 0 0 0 []) ∧ Below w.heap.size w w' := by
  cases r with
  | none =>
    obtain ⟨he, hb⟩ := h.no rfl
    exact ⟨0, 0, 0, 0, 0, none, 0, 0, _, he, (RxIn.leaf (fun _ => True) w' 0 0 0 0 0).is, rfl, hb⟩
  | some t =>
    obtain ⟨op, a, b, c, d, A, n, cap, he, hx, hb⟩ := h.yes rfl
    exact ⟨op, a, b, c, d, A, n, cap, t, he, hx, rfl, hb⟩
theorem both_good {s : ByteArray} {t : Rx} (h : t = (parse (txt8 s)).getD (.mk 0 0 0 0 0 [])) : Rx.count t ≤ 1000 ∧ Rx.fit t ∧ ((parse (txt8 s)).isSome = true → Rx.isRex t = true) := by
  cases hp : parse (txt8 s) with
  | none => rw [hp] at h; subst h; exact ⟨by decide, ⟨by unfold Fit4; decide, trivial⟩, fun h => by cases h⟩
  | some u => rw [hp] at h; subst h; exact ⟨(parse_good hp).count, (parse_good hp).fit, fun _ => (parse_good hp).rex⟩
end Go.Proofs.YtonfmbnankihbaaDoor
