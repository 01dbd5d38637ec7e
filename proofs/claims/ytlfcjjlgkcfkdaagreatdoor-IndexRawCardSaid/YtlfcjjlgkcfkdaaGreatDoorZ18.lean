/-
  What the reference's Parse does; RexParses, RexEnds as contracts. No conditions.
  What the program's Is, Large, program and Holds do. Conditions: names and values of at most 1000 bytes; the library's table lies in its variable (DTab).
  What the reference's Takes tells: does a tree match a text whole? Conditions: at most 1000 nodes, 100 places; words have 64 bits.
  What the reference's IsMatcher, pattern, Large and Holds do. Conditions: names and values of at most 1000 bytes; labels' values of at most 100.
-/
import Derived.Test.YtlfcjjlgkcfkdaaGreatDoorProg
import Derived.Test.YtlfcjjlgkcfkdaaGreatDoorZ01
import Derived.Test.YtlfcjjlgkcfkdaaGreatDoorZ02
import Derived.Test.YtlfcjjlgkcfkdaaGreatDoorZ04
import Derived.Test.YtlfcjjlgkcfkdaaGreatDoorZ06
import Derived.Test.YtlfcjjlgkcfkdaaGreatDoorZ05
import Derived.Test.YtlfcjjlgkcfkdaaGreatDoorZ07
import Derived.Test.YtlfcjjlgkcfkdaaGreatDoorZ08
import Derived.Test.YtlfcjjlgkcfkdaaGreatDoorZ11
import Derived.Test.YtlfcjjlgkcfkdaaGreatDoorZ12
import Derived.Test.YtlfcjjlgkcfkdaaGreatDoorZ13
import Derived.Test.YtlfcjjlgkcfkdaaGreatDoorZ17
import Derived.Test.YtlfcjjlgkcfkdaaGreatDoorZ09
import Derived.Test.YtlfcjjlgkcfkdaaGreatDoorZ10
import Derived.Test.YtlfcjjlgkcfkdaaGreatDoorZ14
import Derived.Test.YtlfcjjlgkcfkdaaGreatDoorZ15
import Derived.Test.YtlfcjjlgkcfkdaaGreatDoorZ16
import Derived.Test.YtlfcjjlgkcfkdaaGreatDoorZ03
import Derived.Deep.RegionHeld3
import Derived.WalkKit
import Derived.WalkSpells
import Derived.WalkLawsBesides
import Derived.Lib.Hide
import Derived.Below
import Derived.BigQuiet
import Derived.Lib.QuietBelow
import Derived.Laws.StructEq
import Derived.KernelRfl
import Derived.Laws.MakeOwn
import Derived.Laws.OwnMore
import Derived.OwnWalk
import Derived.Laws.CopyOwn
import Derived.Laws.AppendOwn
import Derived.Deep.QuietTactic
import Derived.Lib.Bytealg
import Derived.Laws.Externs
import Derived.Maps.AppendAt
import Derived.StillTailTactics
import Derived.Laws.ResultCell
import Derived.Deep.LoopGhost
import Derived.Deep.MidRow
import Derived.Deep.Upon
import Derived.Deep.Cut
import Derived.Deep.CutRange
import Derived.Lib.AppendStr
import Derived.Laws.BytesArg
import Derived.Laws.AppendOwnNone
import Derived.Lib.TrailingZeros
import Derived.Laws.Bits64b
namespace Go.Proofs.YtlfcjjlgkcfkdaaGreatDoor
open Go.RowKit Go.Sort
open Pz

set_option maxRecDepth 100000 in
set_option maxHeartbeats 8000000 in
theorem rparse_any (s : ByteArray) (w : World) : Calls Tryz.prog 101 #[.string s] w (ParseRes w (parse (txt8 s))) := by
  obtain ⟨L, hL⟩ : ∃ L, s.size = L := ⟨_, rfl⟩
  by_cases h40 : 40 < L
  · have hz : decide ((L : Int) > 40) = true := decide_eq_true (by omega)
    have R : Hid (parse (txt8 s) = none) := by show _ = _; unfold parse; rw [txt8_len, if_pos (by omega)]
    have B := Lib.hid ((Below.refl w.heap.size w).alloc (Nat.le_refl _) (.cells #[.int .i64 0, .int .u64 0, .int .u64 0, .int .u64 0, .int .u64 0, .slice none 0 0] 135))
    have HH := Lib.hid (heap_alloc_new w (.cells #[.int .i64 0, .int .u64 0, .int .u64 0, .int .u64 0, .int .u64 0, .slice none 0 0] 135))
    clear h40
    go_enter Tryz.func101, Tryz.ntmps101
    go_wp2
    exact bodyPost_ret (run_ct rfl _ _ _ w.heap.size #[.int .i64 0, .int .u64 0, .int .u64 0, .int .u64 0, .int .u64 0, .slice none 0 0] (.bool false) rfl rfl (run_loadVar_row _ _ _ _ _ _ _ HH.out Tryz.underlying135 rfl Tryz.size6)) rfl ⟨B.out, .inr ⟨R.out, rfl⟩⟩
  · have hz : decide ((L : Int) > 40) = false := decide_eq_false (by omega)
    have WC := Lib.hid (fun P => rways_any P 0 s _ (group_le 8) (rgroup_any P s 8 0 rfl))
    obtain ⟨e1, e2, z, B⟩ := alloc2 w (.cells #[.int .i64 0, .int .u64 0, .int .u64 0, .int .u64 0, .int .u64 0, .slice none 0 0] 135) (.cells #[.string s, .int .i64 0, .int .i64 0, .bool false] 155)
    have PA : Hid (RPar ((w.alloc (.cells #[.int .i64 0, .int .u64 0, .int .u64 0, .int .u64 0, .int .u64 0, .slice none 0 0] 135)).alloc (.cells #[.string s, .int .i64 0, .int .i64 0, .bool false] 155)) (w.heap.size + 1) s 0 0 false) := by
      generalize (w.alloc (.cells #[.int .i64 0, .int .u64 0, .int .u64 0, .int .u64 0, .int .u64 0, .slice none 0 0] 135)).alloc (.cells #[.string s, .int .i64 0, .int .i64 0, .bool false] 155) = W at *
      refine ⟨?_, ?_, ?_, ?_, fun j => by rw [World.frozen?, e2]; simp, by omega, by omega, by omega⟩ <;> (rw [cell_of_row _ _ _ _ _ _ e2]; rfl)
    have E1 := Lib.hid e1
    have ZZ := Lib.hid z
    have BB := Lib.hid B
    clear e1 e2 z B
    have e1 : Hid (parse (txt8 s) = match Pz.ways (txt8 s) 42 (group (txt8 s) 42 8) 42 [] 0 with
      | none => none
      | some (x, j) => if j < s.size then none else some x) := by
      show _ = _
      unfold parse
      rw [txt8_len, if_neg (by omega)]
      cases Pz.ways (txt8 s) 42 (group (txt8 s) 42 8) 42 [] 0 <;> rfl
    clear h40
    go_enter Tryz.func101, Tryz.ntmps101
    go_wp2_with fail
    refine (WC.out _ 0 _ trivial PA.out).mono ?_
    intro e W1 hp
    obtain ⟨op, a, b, c, d1, A, n, cap, t, rfl, RX, S1, hres⟩ := hp.form
    have r1 := (S1.block w.heap.size (by rw [ZZ.out]; omega) (by omega)).trans E1.out
    have b1 := BB.out.trans (S1.below (B := w.heap.size) (by omega) (by rw [ZZ.out]; omega))
    have B6 : Below W1.heap.size W1 (W1.alloc (.cells #[.int .i64 op, .int .u64 (a : Int), .int .u64 (b : Int), .int .u64 (c : Int), .int .u64 (d1 : Int), .slice A n cap] 135)) := (Below.refl _ _).alloc (Nat.le_refl _) _
    have X6 : Row6 (W1.alloc (.cells #[.int .i64 op, .int .u64 (a : Int), .int .u64 (b : Int), .int .u64 (c : Int), .int .u64 (d1 : Int), .slice A n cap] 135)) W1.heap.size #[.int .i64 op, .int .u64 (a : Int), .int .u64 (b : Int), .int .u64 (c : Int), .int .u64 (d1 : Int), .slice A n cap] := heap_alloc_new W1 _
    have R2 := Lib.hid ((B6.block w.heap.size (Array.getElem?_eq_some_iff.1 r1).1).trans r1)
    have RX2 := Lib.hid (RX.under B6 (B' := w.heap.size + 1) (by rw [ZZ.out]; omega))
    have b2 := Lib.hid (b1.trans (B6.mono b1.size))
    obtain ⟨x0, x1, x2, x3, x4, x5⟩ := X6.cells
    have hPl : w.heap.size + 1 < W1.heap.size := by have := S1.size; rw [ZZ.out] at this; omega
    rcases hres with ⟨j, h1, P1⟩ | ⟨h1, j, d3, P1⟩
    · have R1 : Hid (parse (txt8 s) = if j < L then none else some t) := by show _ = _; rw [e1.out, h1, ← hL]
      have c1 := (P1.grown B6).c1
      have c3 := (P1.grown B6).c3
      clear S1 P1 hp B6 r1 b1 E1 ZZ BB PA WC RX X6 h1 e1
      by_cases hjl : j < L
      · have hjz : (j : Int) < (L : Int) := by omega
        have R : Hid (parse (txt8 s) = none) := by show _ = _; rw [R1.out, if_pos hjl]
        clear R1 hjl
        go_wp2_with (refine wpList_store_row rfl 135 (.tmp 2) (.tmp 28) rfl w.heap.size #[.int .i64 0, .int .u64 0, .int .u64 0, .int .u64 0, .int .u64 0, .slice none 0 0] rfl rfl 135 _ R2.out Tryz.size6 rfl (by simp [Value.oneCell']) ?_)
        exact bodyPost_ret (run_ct rfl _ _ _ w.heap.size #[.int .i64 0, .int .u64 0, .int .u64 0, .int .u64 0, .int .u64 0, .slice none 0 0] (.bool false) rfl rfl (run_loadVar_row _ _ _ _ _ _ _ (setRow_heap _ _ _ _ _ _ R2.out) Tryz.underlying135 rfl Tryz.size6)) rfl (⟨below_row b2.out _, .inr ⟨R.out, rfl⟩⟩)
      · have hjz : ¬ (j : Int) < (L : Int) := by omega
        have R : Hid (parse (txt8 s) = some t) := by show _ = _; rw [R1.out, if_neg hjl]
        clear R1 hjl
        go_wp2_with (refine wpList_store_row rfl 135 (.tmp 2) (.tmp 29) rfl w.heap.size #[.int .i64 op, .int .u64 (a : Int), .int .u64 (b : Int), .int .u64 (c : Int), .int .u64 (d1 : Int), .slice A n cap] rfl rfl 135 _ R2.out Tryz.size6 rfl (by simp [Value.oneCell']) ?_)
        exact bodyPost_ret (run_ct rfl _ _ _ w.heap.size #[.int .i64 op, .int .u64 (a : Int), .int .u64 (b : Int), .int .u64 (c : Int), .int .u64 (d1 : Int), .slice A n cap] (.bool true) rfl rfl (run_loadVar_row _ _ _ _ _ _ _ (setRow_heap _ _ _ _ _ _ R2.out) Tryz.underlying135 rfl Tryz.size6)) rfl (⟨below_row b2.out _, .inl ⟨t, _, R.out, rfl, RX2.out.frame (fun b hb => setRow_other _ _ _ _ (by omega)) (fun b _ hb => by omega)⟩⟩)
    · have R : Hid (parse (txt8 s) = none) := by show _ = _; rw [e1.out, h1]
      have c3 := (P1.grown B6).c3
      clear S1 P1 hp B6 r1 b1 E1 ZZ BB PA WC RX X6 h1 e1
      go_wp2_with (refine wpList_store_row rfl 135 (.tmp 2) (.tmp 28) rfl w.heap.size #[.int .i64 0, .int .u64 0, .int .u64 0, .int .u64 0, .int .u64 0, .slice none 0 0] rfl rfl 135 _ R2.out Tryz.size6 rfl (by simp [Value.oneCell']) ?_)
      exact bodyPost_ret (run_ct rfl _ _ _ w.heap.size #[.int .i64 0, .int .u64 0, .int .u64 0, .int .u64 0, .int .u64 0, .slice none 0 0] (.bool false) rfl rfl (run_loadVar_row _ _ _ _ _ _ _ (setRow_heap _ _ _ _ _ _ R2.out) Tryz.underlying135 rfl Tryz.size6)) rfl (⟨below_row b2.out _, .inr ⟨R.out, rfl⟩⟩)
set_option maxRecDepth 100000 in
set_option maxHeartbeats 8000000 in
theorem parse_all (s : ByteArray) (w : World) : Calls Tryz.prog 104 #[.string s] w (ParseRes w (parse (txt8 s))) := by
  obtain ⟨L, hL⟩ : ∃ L, s.size = L := ⟨_, rfl⟩
  by_cases h40 : 40 < L
  · have hz : decide ((L : Int) > 40) = true := decide_eq_true (by omega)
    have R : Hid (parse (txt8 s) = none) := by show _ = _; unfold parse; rw [txt8_len, if_pos (by omega)]
    have B := Lib.hid ((Below.refl w.heap.size w).alloc (Nat.le_refl _) (.cells #[.int .i64 0, .int .u64 0, .int .u64 0, .int .u64 0, .int .u64 0, .slice none 0 0] 135))
    have HH := Lib.hid (heap_alloc_new w (.cells #[.int .i64 0, .int .u64 0, .int .u64 0, .int .u64 0, .int .u64 0, .slice none 0 0] 135))
    clear h40
    go_enter Tryz.func104, Tryz.ntmps104
    go_wp2
    exact bodyPost_ret (run_ct rfl _ _ _ w.heap.size #[.int .i64 0, .int .u64 0, .int .u64 0, .int .u64 0, .int .u64 0, .slice none 0 0] (.bool false) rfl rfl (run_loadVar_row _ _ _ _ _ _ _ HH.out Tryz.underlying135 rfl Tryz.size6)) rfl ⟨B.out, .inr ⟨R.out, rfl⟩⟩
  · exact parse_any s (by omega) w
end Go.Proofs.YtlfcjjlgkcfkdaaGreatDoor
namespace Go.Proofs.YtlfcjjlgkcfkdaaGreatDoor
open Go.RowKit Go.Sort

theorem madeB_of {s : ByteArray} {t : Rx} (h : Pz.parse (txt8 s) = some t) : madeB s = Rx.made t := by unfold madeB; rw [h]
theorem stepsB_of {s : ByteArray} {t : Rx} (h : Pz.parse (txt8 s) = some t) : stepsB s = Rx.progL t := by unfold stepsB; rw [h]

set_option maxRecDepth 100000 in
set_option maxHeartbeats 4000000 in
theorem mis_any (k : Int) (n v : ByteArray) (w : World) (hn : n.size ≤ 1000) (hv : v.size ≤ 1000) :
    Calls Tryz.prog 72 #[.agg #[.int .i64 k, .string n, .string v]] w fun e w' => e = .returned (.bool (Mat.ok ⟨k, n, v⟩)) ∧ Below w.heap.size w w' := by
  have B0 : Below w.heap.size w (w.alloc (.cells #[.int .i64 k, .string n, .string v] 32)) := (Below.refl _ _).alloc (Nat.le_refl _) _
  have NM := Lib.hid (fun W => name_any n W (by omega))
  have R : Hid (Mat.ok ⟨k, n, v⟩ = (La.name n && (if k = 1 ∨ k = 2 then decide (v.size ≤ 24) else if k = 3 ∨ k = 4 then (Pz.parse (txt8 v)).isSome else false))) := rfl
  cases hN : La.name n
  · rw [hN] at NM R
    clear hN
    have R0 : Hid (Mat.ok ⟨k, n, v⟩ = false) := by show _ = _; rw [R.out]; rfl
    have B := Lib.hid B0
    clear B0 R
    go_enter Tryz.func72, Tryz.ntmps72
    go_wp2_with fail
    refine (NM.out _).mono ?_
    rintro e w1 ⟨rfl, rfl⟩
    go_wp2
    go_ret
    exact ⟨by rw [R0.out]; rfl, B.out⟩
  rw [hN] at NM R
  clear hN
  obtain ⟨L, hL⟩ : ∃ L, v.size = L := ⟨_, rfl⟩
  rw [hL] at R
  by_cases h1 : k = 1 ∨ k = 2
  · have R0 : Hid (Mat.ok ⟨k, n, v⟩ = decide (L ≤ 24)) := by show _ = _; rw [R.out, if_pos h1, Bool.true_and]
    have B := Lib.hid B0
    clear B0 R
    have hz : decide ((L : Int) ≤ 24) = decide (L ≤ 24) := by rw [Bool.eq_iff_iff, decide_eq_true_eq, decide_eq_true_eq]; omega
    rcases h1 with rfl | rfl
    · go_enter Tryz.func72, Tryz.ntmps72
      go_wp2_with fail
      refine (NM.out _).mono ?_
      rintro e w1 ⟨rfl, rfl⟩
      go_wp2
      go_ret
      exact ⟨by rw [R0.out, ← hz]; rfl, B.out⟩
    · go_enter Tryz.func72, Tryz.ntmps72
      go_wp2_with fail
      refine (NM.out _).mono ?_
      rintro e w1 ⟨rfl, rfl⟩
      go_wp2
      go_ret
      exact ⟨by rw [R0.out, ← hz]; rfl, B.out⟩
  have p1 : (k == 1) = false := by simp; omega
  have p2 : (k == 2) = false := by simp; omega
  by_cases h3 : k = 3 ∨ k = 4
  · have P1 := Lib.hid (parse_all v)
    cases hr : Pz.parse (txt8 v) with
    | none =>
      have R0 : Hid (Mat.ok ⟨k, n, v⟩ = false) := by show _ = _; rw [R.out, if_neg h1, if_pos h3, hr]; rfl
      have PN := Lib.hid (fun w w' e (h : ParseRes w none e w') => h.no rfl)
      rw [hr] at P1
      have B := Lib.hid B0
      clear hr B0 R h1
      rcases h3 with rfl | rfl
      all_goals
        go_enter Tryz.func72, Tryz.ntmps72
        go_wp2_with fail
        refine (NM.out _).mono ?_
        rintro e w1 ⟨rfl, rfl⟩
        go_wp2_with fail
        generalize w.alloc (.cells #[.int .i64 _, .string n, .string v] 32) = w1 at *
        refine (P1.out _).mono ?_
        intro e w2 h2
        obtain ⟨rfl, b2⟩ := PN.out _ _ _ h2
        have B2 := Lib.hid ((B.out.trans (b2.mono B.out.size)).alloc ((B.out.trans (b2.mono B.out.size)).size) (.cells #[.int .i64 0, .int .u64 0, .int .u64 0, .int .u64 0, .int .u64 0, .slice none 0 0] 135))
        clear h2 b2 P1
        go_wp2
        go_ret
        exact ⟨by rw [R0.out]; rfl, B2.out⟩
    | some t =>
      have R0 : Hid (Mat.ok ⟨k, n, v⟩ = true) := by show _ = _; rw [R.out, if_neg h1, if_pos h3, hr]; rfl
      have PY := Lib.hid (fun w w' e (h : ParseRes w (some t) e w') => h.yes rfl)
      rw [hr] at P1
      have B := Lib.hid B0
      clear hr B0 R h1
      rcases h3 with rfl | rfl
      all_goals
        go_enter Tryz.func72, Tryz.ntmps72
        go_wp2_with fail
        refine (NM.out _).mono ?_
        rintro e w1 ⟨rfl, rfl⟩
        go_wp2_with fail
        generalize w.alloc (.cells #[.int .i64 _, .string n, .string v] 32) = w1 at *
        refine (P1.out _).mono ?_
        intro e w2 h2
        obtain ⟨op, a, b, c, d, A, m, cap, rfl, X2, b2⟩ := PY.out _ _ _ h2
        have B2 := Lib.hid ((B.out.trans (b2.mono B.out.size)).alloc ((B.out.trans (b2.mono B.out.size)).size) (.cells #[.int .i64 op, .int .u64 (a : Int), .int .u64 (b : Int), .int .u64 (c : Int), .int .u64 (d : Int), .slice A m cap] 135))
        clear h2 b2 P1 X2
        go_wp2
        go_ret
        exact ⟨by rw [R0.out]; rfl, B2.out⟩
  have p3 : (k == 3) = false := by simp; omega
  have p4 : (k == 4) = false := by simp; omega
  have R0 : Hid (Mat.ok ⟨k, n, v⟩ = false) := by show _ = _; rw [R.out, if_neg h1, if_neg h3]; rfl
  have B := Lib.hid B0
  clear B0 R h1 h3
  go_enter Tryz.func72, Tryz.ntmps72
  go_wp2_with fail
  refine (NM.out _).mono ?_
  rintro e w1 ⟨rfl, rfl⟩
  go_wp2
  go_ret
  exact ⟨by rw [R0.out]; rfl, B.out⟩

set_option maxRecDepth 100000 in
set_option maxHeartbeats 4000000 in
theorem mprogram_any (s : ByteArray) (t : Rx) (w : World) (hr : Pz.parse (txt8 s) = some t) :
    Calls Tryz.prog 74 #[.string s] w fun e w' => (∃ A n cap, e = .returned (.tuple #[.slice A n cap, .bool (madeB s)]) ∧ (stepsB s).length = n ∧ n ≤ 40 ∧ n ≤ cap ∧ IsSt w' A (stepsB s)) ∧ Below w.heap.size w w' := by
  have P1 := Lib.hid (parse_all s w)
  have e1 := Lib.hid (madeB_of hr)
  have e2 := Lib.hid (stepsB_of hr)
  have PY := Lib.hid (fun w w' e (h : ParseRes w (some t) e w') => h.yes rfl)
  have hcnt := (parse_good hr).count
  have MK := Lib.hid (fun v W (h : IsRx W v t) => make_any t v W (by omega) h)
  have MA := Lib.hid (fun w w' e (h : MakeRes w t e w') => h.all)
  rw [hr] at P1
  clear hr hcnt
  go_enter Tryz.func74, Tryz.ntmps74
  go_wp2_with fail
  refine P1.out.mono ?_
  intro e w1 h1
  obtain ⟨op, a, b, c, d, A, n, cap, rfl, X1, b1⟩ := PY.out _ _ _ h1
  have B1 : Below w1.heap.size w1 (w1.alloc (.cells #[.int .i64 op, .int .u64 (a : Int), .int .u64 (b : Int), .int .u64 (c : Int), .int .u64 (d : Int), .slice A n cap] 135)) := (Below.refl _ _).alloc (Nat.le_refl _) _
  have M1 := Lib.hid (MK.out _ _ (X1.grown B1))
  have B := Lib.hid (b1.trans (B1.mono b1.size))
  clear h1 b1 B1 P1 X1 MK
  go_wp2_with fail
  generalize hw2 : w1.alloc (.cells #[.int .i64 op, .int .u64 (a : Int), .int .u64 (b : Int), .int .u64 (c : Int), .int .u64 (d : Int), .slice A n cap] 135) = w2 at *
  clear hw2
  refine M1.out.mono ?_
  intro e w3 h3
  obtain ⟨A3, n3, cap3, rfl, l3, s3, c3, S3, b3⟩ := MA.out _ _ _ h3
  have B3 := Lib.hid (B.out.trans (b3.mono B.out.size))
  have S3 := Lib.hid S3
  have l3 := Lib.hid l3
  clear h3 b3 M1
  go_wp2
  go_ret2
  exact ⟨⟨A3, n3, cap3, by rw [e1.out]; rfl, by rw [e2.out]; exact l3.out, s3, c3, by rw [e2.out]; exact S3.out⟩, B3.out⟩

theorem ok_parse {k : Int} {n v : ByteArray} (h : Mat.ok ⟨k, n, v⟩ = true) (h1 : k ≠ 1) (h2 : k ≠ 2) : (k = 3 ∨ k = 4) ∧ ∃ t, Pz.parse (txt8 v) = some t := by
  simp only [Mat.ok, Mat.okV, Bool.and_eq_true] at h
  have h := h.2
  rw [if_neg (by omega)] at h
  by_cases h3 : k = 3 ∨ k = 4
  · rw [if_pos h3, Option.isSome_iff_exists] at h
    exact ⟨h3, h⟩
  · rw [if_neg h3] at h; cases h

set_option maxRecDepth 100000 in
set_option maxHeartbeats 4000000 in
theorem mholds_any (k : Int) (n v : ByteArray) (ls : List La.Lab) (A : Option Addr) (N cap : Nat) (w : World) (hn : n.size ≤ 1000) (hv : v.size ≤ 1000) (hN : ls.length = N) (hl : N ≤ 1000) (hls : ∀ x ∈ ls, x.2.size ≤ 1000) (ha : IsLabs w A ls) (hT : DTab w) :
    Calls Tryz.prog 53 #[.agg #[.int .i64 k, .string n, .string v], .slice A N cap] w fun e w' => e = .returned (.bool (Mat.holds ⟨k, n, v⟩ ls)) ∧ Below w.heap.size w w' := by
  subst hN
  have BX := Lib.hid (fun W => box3 (w := w) (v0 := .int .i64 k) (v1 := .string n) (v2 := .string v) (ty := 32) (W := W))
  have B0 : Below w.heap.size w (w.alloc (.cells #[.int .i64 k, .string n, .string v] 32)) := (Below.refl _ _).alloc (Nat.le_refl _) _
  have SZ0 : Hid (w.heap.size + 1 ≤ (w.alloc (.cells #[.int .i64 k, .string n, .string v] 32)).heap.size) := by show _ ≤ _; simp
  have CI := Lib.hid (mis_any k n v (w.alloc (.cells #[.int .i64 k, .string n, .string v] 32)) hn hv)
  have GL := Lib.hid (fun W (hW : Below w.heap.size w W) => get_labs ls n A cap W (by omega) (ha.below hW))
  have hxs : (La.getL ls n).size ≤ 1000 := La.getL_size hls
  have SM := Lib.hid (fun (P : List St) (B : Option Addr) (M c : Nat) W (hP : P.length = M) (h40 : M ≤ 40) (hc : M ≤ c) (h : IsSt W B P) (hW : Below w.heap.size w W) => scmatch_any P (La.getL ls n) B M c W (by omega) hP (by omega) hc h (hT.below hW))
  have R : Hid (Mat.holds ⟨k, n, v⟩ ls = (Mat.ok ⟨k, n, v⟩ && (if k = 1 then (La.getL ls n).toList == v.toList else if k = 2 then !((La.getL ls n).toList == v.toList) else madeB v && (Sc.vMatch (stepsB v) (txt8 (La.getL ls n)) == decide (k = 3))))) := rfl
  have OP := Lib.hid (fun (h : Mat.ok ⟨k, n, v⟩ = true) => ok_parse h)
  have B := Lib.hid B0
  clear B0 ha hT hls hxs
  generalize ls.length = N at *
  generalize La.getL ls n = x at *
  generalize Mat.ok ⟨k, n, v⟩ = okb at *
  go_enter Tryz.func53, Tryz.ntmps53
  go_wp2_with fail
  generalize w.alloc (.cells #[.int .i64 k, .string n, .string v] 32) = w1 at *
  refine CI.out.mono ?_
  rintro e w2 ⟨rfl, b2⟩
  cases okb
  · have R0 : Hid (Mat.holds ⟨k, n, v⟩ ls = false) := by show _ = _; rw [R.out]; rfl
    have B2 := Lib.hid (B.out.trans (b2.mono B.out.size))
    clear R b2 SM
    go_wp2
    go_ret
    exact ⟨by rw [R0.out]; rfl, B2.out⟩
  have D2 := Lib.hid (b2.mono SZ0.out)
  obtain ⟨⟨c0, c1, c2⟩, BW⟩ := BX.out w2 D2.out
  have G2 := Lib.hid (GL.out w2 BW)
  clear BW b2 CI B GL
  go_wp2_with fail
  refine G2.out.mono ?_
  rintro e w3 ⟨rfl, b3⟩
  have D3 := Lib.hid (D2.out.trans (b3.mono (by have := D2.out.size; have := SZ0.out; omega)))
  clear D2 G2 b3 c0 c1 c2
  obtain ⟨⟨c0, c1, c2⟩, BW⟩ := BX.out w3 D3.out
  have B3 := Lib.hid BW
  clear BW
  by_cases k1 : k = 1
  · subst k1
    have R0 : Hid (Mat.holds ⟨1, n, v⟩ ls = (x.toList == v.toList)) := by show _ = _; rw [R.out]; rfl
    clear R OP SM
    go_wp2
    go_ret
    exact ⟨by rw [R0.out]; rfl, B3.out⟩
  have p1 : (k == 1) = false := by simpa using k1
  by_cases k2 : k = 2
  · subst k2
    have R0 : Hid (Mat.holds ⟨2, n, v⟩ ls = !(x.toList == v.toList)) := by show _ = _; rw [R.out]; rfl
    clear R OP SM
    go_wp2
    go_ret
    exact ⟨by rw [R0.out]; rfl, B3.out⟩
  have p2 : (k == 2) = false := by simpa using k2
  obtain ⟨h3, t, ht⟩ := OP.out (by trivial) k1 k2
  have PR := Lib.hid (mprogram_any v t w3 ht)
  have R1 : Hid (Mat.holds ⟨k, n, v⟩ ls = (madeB v && (Sc.vMatch (stepsB v) (txt8 x) == decide (k = 3)))) := by
    show _ = _
    rw [R.out, if_neg k1, if_neg k2, Bool.true_and]
  clear OP R ht k1 k2
  go_wp2_with fail
  refine PR.out.mono ?_
  rintro e w4 ⟨⟨Bp, m, cp, rfl, hl4, h40, hc4, S4⟩, b4⟩
  have D4 := Lib.hid (D3.out.trans (b4.mono (by have := D3.out.size; have := SZ0.out; omega)))
  clear D3 b4 c0 c1 c2 PR B3
  obtain ⟨⟨c0, c1, c2⟩, BW⟩ := BX.out w4 D4.out
  have B4 := Lib.hid BW
  cases hm : madeB v
  · have R0 : Hid (Mat.holds ⟨k, n, v⟩ ls = false) := by show _ = _; rw [R1.out, hm]; rfl
    clear BW SM S4 hl4
    go_wp2
    go_ret
    exact ⟨by rw [R0.out]; rfl, B4.out⟩
  have CM : Hid (∀ q os, Calls Tryz.prog 75 #[.slice Bp m cp, .string x] (grow (redrawn w4 q) os) fun e w'' => e = .returned (.bool (Sc.vMatch (stepsB v) (txt8 x))) ∧ ∃ p : Regrown, w'' = grow (redrawn w4 p.d) p.os) :=
    fun q os => Calls.regrown_of (SM.out _ Bp m cp _ hl4 h40 hc4 (S4.grown (below_regrown w4 q os)) (BW.trans ((below_regrown w4 q os).mono BW.size)))
  have GB : Hid (∀ q os, Below w.heap.size w (grow (redrawn w4 q) os)) := fun q os => BW.trans ((below_regrown w4 q os).mono BW.size)
  have R0 : Hid (Mat.holds ⟨k, n, v⟩ ls = (Sc.vMatch (stepsB v) (txt8 x) == decide (k = 3))) := by show _ = _; rw [R1.out, hm]; rfl
  generalize Sc.vMatch (stepsB v) (txt8 x) = y at *
  replace c0 := cell_regrown c0
  clear BW SM S4 hl4 R1 hm c1 c2 B4
  have e3 : (k == 3) = decide (k = 3) := by rw [Bool.eq_iff_iff]; simp
  obtain ⟨z, hz⟩ : ∃ z, decide (k = 3) = z := ⟨_, rfl⟩
  rw [hz] at e3 R0
  clear hz h3 p1 p2
  go_wp2_with fail
  refine wp_region_quiet_below (by kernel_rfl) (by kernel_rfl) ?_
  repeat (quiet_step (exact CM.out _ _))
  refine wpQuiet_nil ?_
  intro _ hw'
  obtain ⟨⟨dq, osq⟩, hw''⟩ := hw'
  subst hw''
  have G := Lib.hid (GB.out dq osq)
  clear c0 CM GB
  generalize grow (redrawn w4 dq) osq = w5 at *
  go_wp2
  go_ret
  exact ⟨by rw [R0.out]; rfl, G.out⟩

end Go.Proofs.YtlfcjjlgkcfkdaaGreatDoor
namespace Go.Proofs.YtlfcjjlgkcfkdaaGreatDoor
open Go.RowKit Go.Sort
open Pz Sc

def takesB (S : List Nat) (t : Rx) : Bool := decide (0 < (ends S t 0).length ∧ (ends S t 0).getD ((ends S t 0).length - 1) 0 = S.length)
theorem takes_made {t : Rx} (hm : Rx.made t = true) (S : List Nat) : takesB S t = vMatch (Rx.progL t) S := by
  have hr := (Rx.size_yes hm).1
  rw [Bool.eq_iff_iff, takesB, decide_eq_true_eq, vMatch_made hm, ends_last hr, ends_mem hr]
set_option maxRecDepth 100000 in
set_option maxHeartbeats 4000000 in
theorem takes_any (t : Rx) (v : Value) (s : ByteArray) (w : World) (hcnt : Rx.count t ≤ 1000) (hf : Rx.fit t) (hs : s.size ≤ 100) (h : IsRx w v t) :
    Calls Tryz.prog 102 #[v, .string s] w fun e w' => e = .returned (.bool (takesB (txt8 s) t)) ∧ Below w.heap.size w w' := by
  obtain ⟨op, a, b, c, d, A, n, cap, rfl⟩ := h.six
  have B0 : Below w.heap.size w (w.alloc (.cells #[.int .i64 op, .int .u64 (a : Int), .int .u64 (b : Int), .int .u64 (c : Int), .int .u64 (d : Int), .slice A n cap] 135)) := (Below.refl _ _).alloc (Nat.le_refl _) _
  have CE := Lib.hid (rends_all hcnt hf _ 0 s _ hs (h.grown B0))
  have B := Lib.hid B0
  have TD : Hid (takesB (txt8 s) t = decide (0 < (ends (txt8 s) t 0).length ∧ (ends (txt8 s) t 0).getD ((ends (txt8 s) t 0).length - 1) 0 = s.size)) := by show _ = _; rw [takesB, txt8_len]
  generalize ends (txt8 s) t 0 = E at *
  obtain ⟨L, hL⟩ : ∃ L, s.size = L := ⟨_, rfl⟩
  rw [hL] at TD hs
  clear h B0 hcnt hf
  go_enter Tryz.func102, Tryz.ntmps102
  go_wp2_with fail
  refine CE.out.mono ?_
  rintro e w1 ⟨A1, n1, c1, rfl, l1, m1, Z1, b1⟩
  replace B := Lib.hid (B.out.trans (b1.mono B.out.size))
  have Z1 := Lib.hid Z1
  rw [l1] at TD
  clear b1 CE
  by_cases h0 : n1 = 0
  · subst h0
    have R : Hid (takesB (txt8 s) t = false) := by show _ = _; rw [TD.out]; rfl
    clear TD Z1 l1
    go_wp2
    go_ret
    exact ⟨by rw [R.out]; rfl, B.out⟩
  · have hz : decide ((n1 : Int) > 0) = true := decide_eq_true (by omega)
    have hz2 : decide (0 < n1) = true := decide_eq_true (by omega)
    obtain ⟨blk, off, rfl, hc⟩ := Z1.out (by rw [zn_len]; omega)
    obtain ⟨m, rfl⟩ : ∃ m, n1 = m + 1 := ⟨n1 - 1, by omega⟩
    have cM := hc m (by rw [zn_len]; omega)
    have eM : (zn E).getD m 0 = ((E.getD m 0 : Nat) : Int) := by
      unfold zn
      rw [List.getD, List.getD, List.getElem?_map, List.getElem?_eq_getElem (by omega)]; rfl
    rw [eM] at cM
    rw [Nat.add_sub_cancel] at TD
    have R : Hid (takesB (txt8 s) t = decide (E.getD m 0 = L)) := by show _ = _; rw [TD.out]; simp
    clear TD Z1 hc eM l1
    generalize E.getD m 0 = x at *
    have hx : (((x : Nat) : Int) == (L : Int)) = decide (x = L) := by rw [Bool.eq_iff_iff, beq_iff_eq, decide_eq_true_eq]; omega
    generalize decide (x = L) = q at *
    have hw1 : IntKind.i64.wrap (((m + 1 : Nat) : Int) - 1) = (m : Int) := by rw [IntKind.wrap_i64]; omega
    go_wp2
    go_ret
    exact ⟨by rw [R.out]; rfl, B.out⟩

end Go.Proofs.YtlfcjjlgkcfkdaaGreatDoor
namespace Go.Proofs.YtlfcjjlgkcfkdaaGreatDoor
open Go.RowKit Go.Sort

set_option maxRecDepth 100000 in
set_option maxHeartbeats 4000000 in
theorem rpat_any (k : Int) (n v : ByteArray) (w : World) :
    Calls Tryz.prog 120 #[.agg #[.int .i64 k, .string n, .string v]] w fun e w' => e = .returned (.bool (Mat.pat ⟨k, n, v⟩)) ∧ Below w.heap.size w w' := by
  have B := Lib.hid ((Below.refl w.heap.size w).alloc (Nat.le_refl _) (.cells #[.int .i64 k, .string n, .string v] 32))
  have R : Hid (Mat.pat ⟨k, n, v⟩ = (decide (k = 3) || decide (k = 4))) := rfl
  by_cases h3 : k = 3
  · subst h3
    have R0 : Hid (Mat.pat ⟨3, n, v⟩ = true) := R.out
    clear R
    go_enter Tryz.func120, Tryz.ntmps120
    go_wp2
    go_ret
    exact ⟨by rw [R0.out]; rfl, B.out⟩
  by_cases h4 : k = 4
  · subst h4
    have R0 : Hid (Mat.pat ⟨4, n, v⟩ = true) := R.out
    clear R
    go_enter Tryz.func120, Tryz.ntmps120
    go_wp2
    go_ret
    exact ⟨by rw [R0.out]; rfl, B.out⟩
  have p3 : (k == 3) = false := by simpa using h3
  have p4 : (k == 4) = false := by simpa using h4
  have R0 : Hid (Mat.pat ⟨k, n, v⟩ = false) := by show _ = _; rw [R.out, decide_eq_false h3, decide_eq_false h4]; rfl
  clear R h3 h4
  go_enter Tryz.func120, Tryz.ntmps120
  go_wp2
  go_ret
  exact ⟨by rw [R0.out]; rfl, B.out⟩

set_option maxRecDepth 100000 in
set_option maxHeartbeats 4000000 in
theorem ris_any (k : Int) (n v : ByteArray) (w : World) (hn : n.size ≤ 1000) (hv : v.size ≤ 1000) :
    Calls Tryz.prog 99 #[.agg #[.int .i64 k, .string n, .string v]] w fun e w' => e = .returned (.bool (Mat.ok ⟨k, n, v⟩)) ∧ Below w.heap.size w w' := by
  have BX := Lib.hid (fun W => box3 (w := w) (v0 := .int .i64 k) (v1 := .string n) (v2 := .string v) (ty := 32) (W := W))
  have B0 : Below w.heap.size w (w.alloc (.cells #[.int .i64 k, .string n, .string v] 32)) := (Below.refl _ _).alloc (Nat.le_refl _) _
  have SZ0 : Hid (w.heap.size + 1 ≤ (w.alloc (.cells #[.int .i64 k, .string n, .string v] 32)).heap.size) := by show _ ≤ _; simp
  have NM := Lib.hid (fun W => rname_any n W (by omega))
  have CP := Lib.hid (rpat_any k n v (w.alloc (.cells #[.int .i64 k, .string n, .string v] 32)))
  have R : Hid (Mat.ok ⟨k, n, v⟩ = (La.name n && (if k = 1 ∨ k = 2 then decide (v.size ≤ 24) else if k = 3 ∨ k = 4 then (Pz.parse (txt8 v)).isSome else false))) := rfl
  have RP : Hid (Mat.pat ⟨k, n, v⟩ = (decide (k = 3) || decide (k = 4))) := rfl
  have P1 := Lib.hid (rparse_any v)
  have B := Lib.hid B0
  clear B0
  obtain ⟨L, hL⟩ : ∃ L, v.size = L := ⟨_, rfl⟩
  rw [hL] at R
  generalize La.name n = nm at *
  go_enter Tryz.func99, Tryz.ntmps99
  go_wp2_with fail
  refine (NM.out _).mono ?_
  rintro e w1 ⟨rfl, rfl⟩
  cases nm
  · have R0 : Hid (Mat.ok ⟨k, n, v⟩ = false) := by show _ = _; rw [R.out]; rfl
    clear R
    go_wp2
    go_ret
    exact ⟨by rw [R0.out]; rfl, B.out⟩
  go_wp2_with fail
  generalize w.alloc (.cells #[.int .i64 k, .string n, .string v] 32) = w1 at *
  refine CP.out.mono ?_
  rintro e w2 ⟨rfl, b2⟩
  have D2 := Lib.hid (b2.mono SZ0.out)
  obtain ⟨⟨c0, c1, c2⟩, BW⟩ := BX.out w2 D2.out
  have B2 := Lib.hid BW
  clear BW b2 CP B NM
  by_cases h3 : k = 3 ∨ k = 4
  · have hp : Mat.pat ⟨k, n, v⟩ = true := by rw [RP.out]; rcases h3 with rfl | rfl <;> rfl
    rw [hp]
    clear hp RP
    have P2 := Lib.hid (P1.out w2)
    cases hr : Pz.parse (txt8 v) with
    | none =>
      have R0 : Hid (Mat.ok ⟨k, n, v⟩ = false) := by show _ = _; rw [R.out, if_neg (by omega), if_pos h3, hr]; rfl
      have PN := Lib.hid (fun w w' e (h : ParseRes w none e w') => h.no rfl)
      rw [hr] at P2
      clear hr R h3 P1
      go_wp2_with fail
      refine P2.out.mono ?_
      intro e w3 h3
      obtain ⟨rfl, b3⟩ := PN.out _ _ _ h3
      have B3 := Lib.hid ((B2.out.trans (b3.mono B2.out.size)).alloc ((B2.out.trans (b3.mono B2.out.size)).size) (.cells #[.int .i64 0, .int .u64 0, .int .u64 0, .int .u64 0, .int .u64 0, .slice none 0 0] 135))
      clear h3 b3 P2 c0 c1 c2
      go_wp2
      go_ret
      exact ⟨by rw [R0.out]; rfl, B3.out⟩
    | some t =>
      have R0 : Hid (Mat.ok ⟨k, n, v⟩ = true) := by show _ = _; rw [R.out, if_neg (by omega), if_pos h3, hr]; rfl
      have PY := Lib.hid (fun w w' e (h : ParseRes w (some t) e w') => h.yes rfl)
      rw [hr] at P2
      clear hr R h3 P1
      go_wp2_with fail
      refine P2.out.mono ?_
      intro e w3 h3
      obtain ⟨op, a, b, c, d, A, m, cap, rfl, X3, b3⟩ := PY.out _ _ _ h3
      have B3 := Lib.hid ((B2.out.trans (b3.mono B2.out.size)).alloc ((B2.out.trans (b3.mono B2.out.size)).size) (.cells #[.int .i64 op, .int .u64 (a : Int), .int .u64 (b : Int), .int .u64 (c : Int), .int .u64 (d : Int), .slice A m cap] 135))
      clear h3 b3 P2 c0 c1 c2 X3
      go_wp2
      go_ret
      exact ⟨by rw [R0.out]; rfl, B3.out⟩
  have hp : Mat.pat ⟨k, n, v⟩ = false := by rw [RP.out, decide_eq_false (by omega), decide_eq_false (by omega)]; rfl
  rw [hp]
  clear hp RP P1
  by_cases h1 : k = 1
  · subst h1
    have R0 : Hid (Mat.ok ⟨1, n, v⟩ = decide (L ≤ 24)) := by show _ = _; rw [R.out]; rfl
    have hz : decide ((L : Int) ≤ 24) = decide (L ≤ 24) := by rw [Bool.eq_iff_iff, decide_eq_true_eq, decide_eq_true_eq]; omega
    clear R h3
    go_wp2
    go_ret
    exact ⟨by rw [R0.out, ← hz]; rfl, B2.out⟩
  have p1 : (k == 1) = false := by simpa using h1
  by_cases h2 : k = 2
  · subst h2
    have R0 : Hid (Mat.ok ⟨2, n, v⟩ = decide (L ≤ 24)) := by show _ = _; rw [R.out]; rfl
    have hz : decide ((L : Int) ≤ 24) = decide (L ≤ 24) := by rw [Bool.eq_iff_iff, decide_eq_true_eq, decide_eq_true_eq]; omega
    clear R h3 h1
    go_wp2
    go_ret
    exact ⟨by rw [R0.out, ← hz]; rfl, B2.out⟩
  have p2 : (k == 2) = false := by simpa using h2
  have R0 : Hid (Mat.ok ⟨k, n, v⟩ = false) := by show _ = _; rw [R.out, if_neg (by omega), if_neg h3]; rfl
  clear R h3 h1 h2
  go_wp2
  go_ret
  exact ⟨by rw [R0.out]; rfl, B2.out⟩

theorem made_size40 {t : Rx} (h : Rx.isRex t = true) : (!Rx.made t) = decide ((Rx.size t : Int) > 40) := by
  have hs : 0 < Rx.size t := by rw [Rx.size, if_pos h]; omega
  rw [Rx.made, decide_eq_true hs, Bool.true_and]
  by_cases h4 : Rx.size t ≤ 40
  · rw [decide_eq_true h4, decide_eq_false (by omega)]; rfl
  · rw [decide_eq_false h4, decide_eq_true (by omega)]; rfl

set_option maxRecDepth 100000 in
set_option maxHeartbeats 4000000 in
theorem rlarge_any (k : Int) (n v : ByteArray) (w : World) (hn : n.size ≤ 1000) (hv : v.size ≤ 1000) :
    Calls Tryz.prog 100 #[.agg #[.int .i64 k, .string n, .string v]] w fun e w' => e = .returned (.bool (Mat.large ⟨k, n, v⟩)) ∧ Below w.heap.size w w' := by
  have BX := Lib.hid (fun W => box3 (w := w) (v0 := .int .i64 k) (v1 := .string n) (v2 := .string v) (ty := 32) (W := W))
  have B0 : Below w.heap.size w (w.alloc (.cells #[.int .i64 k, .string n, .string v] 32)) := (Below.refl _ _).alloc (Nat.le_refl _) _
  have SZ0 : Hid (w.heap.size + 1 ≤ (w.alloc (.cells #[.int .i64 k, .string n, .string v] 32)).heap.size) := by show _ ≤ _; simp
  have CI := Lib.hid (ris_any k n v (w.alloc (.cells #[.int .i64 k, .string n, .string v] 32)) hn hv)
  have CP := Lib.hid (fun W => rpat_any k n v W)
  have R : Hid (Mat.large ⟨k, n, v⟩ = (Mat.ok ⟨k, n, v⟩ && (Mat.pat ⟨k, n, v⟩ && !madeB v))) := rfl
  have OP := Lib.hid (fun (h : Mat.ok ⟨k, n, v⟩ = true) => ok_parse h)
  have RP : Hid (Mat.pat ⟨k, n, v⟩ = (decide (k = 3) || decide (k = 4))) := rfl
  have B := Lib.hid B0
  clear B0
  generalize Mat.ok ⟨k, n, v⟩ = okb at *
  generalize Mat.pat ⟨k, n, v⟩ = pt at *
  go_enter Tryz.func100, Tryz.ntmps100
  go_wp2_with fail
  generalize w.alloc (.cells #[.int .i64 k, .string n, .string v] 32) = w1 at *
  refine CI.out.mono ?_
  rintro e w2 ⟨rfl, b2⟩
  cases okb
  · have R0 : Hid (Mat.large ⟨k, n, v⟩ = false) := by show _ = _; rw [R.out]; rfl
    have B2 := Lib.hid (B.out.trans (b2.mono B.out.size))
    clear R b2
    go_wp2
    go_ret
    exact ⟨by rw [R0.out]; rfl, B2.out⟩
  have D2 := Lib.hid (b2.mono SZ0.out)
  obtain ⟨⟨c0, c1, c2⟩, BW⟩ := BX.out w2 D2.out
  have B2 := Lib.hid BW
  have CP2 := Lib.hid (CP.out w2)
  clear BW b2 CI B CP
  go_wp2_with fail
  refine CP2.out.mono ?_
  rintro e w3 ⟨rfl, b3⟩
  have D3 := Lib.hid (D2.out.trans (b3.mono (by have := D2.out.size; have := SZ0.out; omega)))
  clear D2 b3 c0 c1 c2 CP2 B2
  obtain ⟨⟨c0, c1, c2⟩, BW⟩ := BX.out w3 D3.out
  have B3 := Lib.hid BW
  clear BW
  cases hpt : pt
  · have R0 : Hid (Mat.large ⟨k, n, v⟩ = false) := by show _ = _; rw [R.out, hpt]; rfl
    clear R RP hpt
    go_wp2
    go_ret
    exact ⟨by rw [R0.out]; rfl, B3.out⟩
  have h34 : k = 3 ∨ k = 4 := by have := RP.out; rw [hpt] at this; simpa using this.symm
  obtain ⟨t, ht⟩ := (OP.out (by trivial) (by omega) (by omega)).2
  have P1 := Lib.hid (rparse_any v w3)
  rw [ht] at P1
  have PY := Lib.hid (fun w w' e (h : ParseRes w (some t) e w') => h.yes rfl)
  have hcnt := (parse_good ht).count
  have SZ := Lib.hid (fun v W (h : IsRx W v t) => rsizeT_any t v W (by omega) h)
  have R0 : Hid (Mat.large ⟨k, n, v⟩ = decide ((Rx.size t : Int) > 40)) := by
    show _ = _
    rw [R.out, hpt, madeB_of ht, made_size40 (parse_good ht).rex]; rfl
  clear R RP hpt OP ht hcnt h34
  go_wp2_with fail
  refine P1.out.mono ?_
  intro e w4 h4
  obtain ⟨op, a, b, c, d, A, m, cap, rfl, X4, b4⟩ := PY.out _ _ _ h4
  have B4 : Below w4.heap.size w4 (w4.alloc (.cells #[.int .i64 op, .int .u64 (a : Int), .int .u64 (b : Int), .int .u64 (c : Int), .int .u64 (d : Int), .slice A m cap] 135)) := (Below.refl _ _).alloc (Nat.le_refl _) _
  have S4 := Lib.hid (SZ.out _ _ (X4.grown B4))
  have B5 := Lib.hid (B3.out.trans ((b4.trans (B4.mono b4.size)).mono B3.out.size))
  clear h4 b4 B4 X4 SZ P1 c0 c1 c2 B3
  go_wp2_with fail
  generalize w4.alloc (.cells #[.int .i64 op, .int .u64 (a : Int), .int .u64 (b : Int), .int .u64 (c : Int), .int .u64 (d : Int), .slice A m cap] 135) = w5 at *
  refine S4.out.mono ?_
  rintro e w6 ⟨rfl, b6⟩
  have B6 := Lib.hid (B5.out.trans (b6.mono B5.out.size))
  clear b6 S4 B5
  generalize Rx.size t = z at *
  go_wp2
  go_ret
  exact ⟨by rw [R0.out]; first | rfl | simp, B6.out⟩

set_option maxRecDepth 100000 in
set_option maxHeartbeats 4000000 in
theorem rholds_any (k : Int) (n v : ByteArray) (ls : List La.Lab) (A : Option Addr) (N cap : Nat) (w : World) (hn : n.size ≤ 1000) (hv : v.size ≤ 1000) (hN : ls.length = N) (hl : N ≤ 1000) (hls : ∀ x ∈ ls, x.2.size ≤ 100) (ha : IsLabs w A ls) :
    Calls Tryz.prog 66 #[.agg #[.int .i64 k, .string n, .string v], .slice A N cap] w fun e w' => e = .returned (.bool (Mat.holds ⟨k, n, v⟩ ls)) ∧ Below w.heap.size w w' := by
  subst hN
  have BX := Lib.hid (fun W => box3 (w := w) (v0 := .int .i64 k) (v1 := .string n) (v2 := .string v) (ty := 32) (W := W))
  have B0 : Below w.heap.size w (w.alloc (.cells #[.int .i64 k, .string n, .string v] 32)) := (Below.refl _ _).alloc (Nat.le_refl _) _
  have SZ0 : Hid (w.heap.size + 1 ≤ (w.alloc (.cells #[.int .i64 k, .string n, .string v] 32)).heap.size) := by show _ ≤ _; simp
  have CI := Lib.hid (ris_any k n v (w.alloc (.cells #[.int .i64 k, .string n, .string v] 32)) hn hv)
  have CL := Lib.hid (fun W => rlarge_any k n v W hn hv)
  have GL := Lib.hid (fun W (hW : Below w.heap.size w W) => rget_labs ls n A cap W (by omega) (ha.below hW))
  have hxs : (La.getL ls n).size ≤ 100 := La.getL_size hls
  have R : Hid (Mat.holds ⟨k, n, v⟩ ls = (Mat.ok ⟨k, n, v⟩ && (if k = 1 then (La.getL ls n).toList == v.toList else if k = 2 then !((La.getL ls n).toList == v.toList) else madeB v && (Sc.vMatch (stepsB v) (txt8 (La.getL ls n)) == decide (k = 3))))) := rfl
  have RL : Hid (Mat.large ⟨k, n, v⟩ = (Mat.ok ⟨k, n, v⟩ && ((decide (k = 3) || decide (k = 4)) && !madeB v))) := rfl
  have LS := Lib.hid (fun h => Mat.large_says (m := ⟨k, n, v⟩) h (La.getL ls n))
  have OP := Lib.hid (fun (h : Mat.ok ⟨k, n, v⟩ = true) => ok_parse h)
  have HS : Hid (Mat.holds ⟨k, n, v⟩ ls = Mat.says ⟨k, n, v⟩ (La.getL ls n)) := rfl
  have B := Lib.hid B0
  clear B0 ha hls
  generalize ls.length = N at *
  generalize La.getL ls n = x at *
  generalize Mat.ok ⟨k, n, v⟩ = okb at *
  generalize Mat.large ⟨k, n, v⟩ = lg at *
  go_enter Tryz.func66, Tryz.ntmps66
  go_wp2_with fail
  generalize w.alloc (.cells #[.int .i64 k, .string n, .string v] 32) = w1 at *
  refine CI.out.mono ?_
  rintro e w2 ⟨rfl, b2⟩
  cases okb
  · have R0 : Hid (Mat.holds ⟨k, n, v⟩ ls = false) := by show _ = _; rw [R.out]; rfl
    have B2 := Lib.hid (B.out.trans (b2.mono B.out.size))
    clear R b2 RL HS LS
    go_wp2
    go_ret
    exact ⟨by rw [R0.out]; rfl, B2.out⟩
  have D2 := Lib.hid (b2.mono SZ0.out)
  obtain ⟨⟨c0, c1, c2⟩, BW⟩ := BX.out w2 D2.out
  have C2 := Lib.hid (CL.out w2)
  clear BW b2 CI B CL
  go_wp2_with fail
  refine C2.out.mono ?_
  rintro e w3 ⟨rfl, b3⟩
  have D3 := Lib.hid (D2.out.trans (b3.mono (by have := D2.out.size; have := SZ0.out; omega)))
  clear D2 C2 b3 c0 c1 c2
  obtain ⟨⟨c0, c1, c2⟩, BW⟩ := BX.out w3 D3.out
  have B3 := Lib.hid BW
  cases hlg : lg
  case true =>
    have R0 : Hid (Mat.holds ⟨k, n, v⟩ ls = false) := by show _ = _; rw [HS.out]; exact LS.out hlg
    clear BW R RL HS LS hlg
    go_wp2
    go_ret
    exact ⟨by rw [R0.out]; rfl, B3.out⟩
  rw [hlg] at RL
  have G3 := Lib.hid (GL.out w3 BW)
  clear BW GL HS LS hlg
  go_wp2_with fail
  refine G3.out.mono ?_
  rintro e w4 ⟨rfl, rfl⟩
  clear G3
  by_cases k1 : k = 1
  · subst k1
    have R0 : Hid (Mat.holds ⟨1, n, v⟩ ls = (x.toList == v.toList)) := by show _ = _; rw [R.out]; rfl
    clear R OP RL
    go_wp2
    go_ret
    exact ⟨by rw [R0.out]; rfl, B3.out⟩
  have p1 : (k == 1) = false := by simpa using k1
  by_cases k2 : k = 2
  · subst k2
    have R0 : Hid (Mat.holds ⟨2, n, v⟩ ls = !(x.toList == v.toList)) := by show _ = _; rw [R.out]; rfl
    clear R OP RL
    go_wp2
    go_ret
    exact ⟨by rw [R0.out]; rfl, B3.out⟩
  have p2 : (k == 2) = false := by simpa using k2
  obtain ⟨h3, t, ht⟩ := OP.out (by trivial) k1 k2
  have hmd : Rx.made t = true := by
    have := RL.out
    rw [madeB_of ht] at this
    cases hm : Rx.made t
    · rw [hm] at this; rcases h3 with rfl | rfl <;> simp at this
    · rfl
  have R0 : Hid (Mat.holds ⟨k, n, v⟩ ls = (takesB (txt8 x) t == decide (k = 3))) := by
    show _ = _
    rw [R.out, if_neg k1, if_neg k2, Bool.true_and, madeB_of ht, hmd, stepsB_of ht, takes_made hmd, Bool.true_and]
  have P1 := Lib.hid (rparse_any v w3)
  rw [ht] at P1
  have PY := Lib.hid (fun w w' e (h : ParseRes w (some t) e w') => h.yes rfl)
  have TK := Lib.hid (fun u W (h : IsRx W u t) => takes_any t u x W (parse_good ht).count (parse_good ht).fit hxs h)
  clear OP R ht k1 k2 RL hmd hxs
  go_wp2_with fail
  refine P1.out.mono ?_
  intro e w4 h4
  obtain ⟨op, a, b, c, d, Ak, m, cp, rfl, X4, b4⟩ := PY.out _ _ _ h4
  have B4 : Below w4.heap.size w4 (w4.alloc (.cells #[.int .i64 op, .int .u64 (a : Int), .int .u64 (b : Int), .int .u64 (c : Int), .int .u64 (d : Int), .slice Ak m cp] 135)) := (Below.refl _ _).alloc (Nat.le_refl _) _
  have B5 := B3.out.trans ((b4.trans (B4.mono b4.size)).mono B3.out.size)
  have D5 := Lib.hid (D3.out.trans ((b4.trans (B4.mono b4.size)).mono (by have := D3.out.size; have := SZ0.out; omega)))
  obtain ⟨⟨c0', c1', c2'⟩, _⟩ := BX.out _ D5.out
  have X5 := X4.grown B4
  obtain ⟨q0, q1, q2, q3, q4, q5⟩ := (box6 (W := w4.alloc (.cells #[.int .i64 op, .int .u64 (a : Int), .int .u64 (b : Int), .int .u64 (c : Int), .int .u64 (d : Int), .slice Ak m cp] 135)) (Below.refl _ _)).1
  clear h4 b4 B4 X4 P1 c0 c1 c2 B3 D3 c1' c2'
  have CM := Lib.hid (fun q os => Calls.regrown_of (TK.out _ (grow (redrawn (w4.alloc (.cells #[.int .i64 op, .int .u64 (a : Int), .int .u64 (b : Int), .int .u64 (c : Int), .int .u64 (d : Int), .slice Ak m cp] 135)) q) os) (X5.grown (below_regrown _ q os))))
  have GB : Hid (∀ q os, Below w.heap.size w (grow (redrawn (w4.alloc (.cells #[.int .i64 op, .int .u64 (a : Int), .int .u64 (b : Int), .int .u64 (c : Int), .int .u64 (d : Int), .slice Ak m cp] 135)) q) os)) := fun q os => B5.trans ((below_regrown _ q os).mono B5.size)
  generalize takesB (txt8 x) t = y at *
  replace c0' := cell_regrown c0'
  replace q0 := cell_regrown q0
  replace q1 := cell_regrown q1
  replace q2 := cell_regrown q2
  replace q3 := cell_regrown q3
  replace q4 := cell_regrown q4
  replace q5 := cell_regrown q5
  have e3 : (k == 3) = decide (k = 3) := by rw [Bool.eq_iff_iff]; simp
  obtain ⟨z, hz⟩ : ∃ z, decide (k = 3) = z := ⟨_, rfl⟩
  rw [hz] at e3 R0
  clear hz h3 p1 p2 X5 TK B5
  go_upto_region 10 with fail
  obtain ⟨P6, hP6⟩ : ∃ P6, w4.heap.size = P6 := ⟨_, rfl⟩
  rw [hP6] at q0 q1 q2 q3 q4 q5 ⊢
  clear hP6
  generalize w4.alloc (.cells #[.int .i64 op, .int .u64 (a : Int), .int .u64 (b : Int), .int .u64 (c : Int), .int .u64 (d : Int), .slice Ak m cp] 135) = w5 at *
  refine wp_region_quiet_below (by kernel_rfl) (by kernel_rfl) ?_
  repeat (quiet_step (exact CM.out _ _))
  refine wpQuiet_nil ?_
  intro _ hw'
  obtain ⟨⟨dq, osq⟩, hw''⟩ := hw'
  subst hw''
  have G := Lib.hid (GB.out dq osq)
  clear c0' q0 q1 q2 q3 q4 q5 CM GB
  generalize grow (redrawn w5 dq) osq = w6 at *
  go_wp2
  go_ret
  exact ⟨by rw [R0.out]; rfl, G.out⟩

end Go.Proofs.YtlfcjjlgkcfkdaaGreatDoor

