/-
  What the reference's Parse does; RexParses, RexEnds as contracts. No conditions.
  What the program's Is, Large, program and Holds do. Conditions: names and values of at most 1000 bytes; the library's table lies in its variable (DTab).
  What the reference's Takes tells: does a tree match a text whole? Conditions: at most 1000 nodes, 100 places; words have 64 bits.
  What the reference's IsMatcher, pattern, Large and Holds do. Conditions: names and values of at most 1000 bytes; labels' values of at most 100.
-/
import Derived.Test.YtlfcjjlgkcfkdaaGreatDoorProg
import Derived.Test.YtlfcjjlgkcfkdaaGreatDoorZ01
import Derived.Test.YtlfcjjlgkcfkdaaGreatDoorZ02
import Derived.Test.YtlfcjjlgkcfkdaaGreatDoorZ04
import Derived.Test.YtlfcjjlgkcfkdaaGreatDoorZ06
import Derived.Test.YtlfcjjlgkcfkdaaGreatDoorZ05
import Derived.Test.YtlfcjjlgkcfkdaaGreatDoorZ07
import Derived.Test.YtlfcjjlgkcfkdaaGreatDoorZ08
import Derived.Test.YtlfcjjlgkcfkdaaGreatDoorZ11
import Derived.Test.YtlfcjjlgkcfkdaaGreatDoorZ12
import Derived.Test.YtlfcjjlgkcfkdaaGreatDoorZ13
import Derived.Test.YtlfcjjlgkcfkdaaGreatDoorZ17
import Derived.Test.YtlfcjjlgkcfkdaaGreatDoorZ09
import Derived.Test.YtlfcjjlgkcfkdaaGreatDoorZ10
import Derived.Test.YtlfcjjlgkcfkdaaGreatDoorZ14
import Derived.Test.YtlfcjjlgkcfkdaaGreatDoorZ15
import Derived.Test.YtlfcjjlgkcfkdaaGreatDoorZ16
import Derived.Test.YtlfcjjlgkcfkdaaGreatDoorZ03
import Derived.Deep.RegionHeld3
import Derived.WalkKit
import Derived.WalkSpells
import Derived.WalkLawsBesides
import Derived.Lib.Hide
import Derived.Below
import Derived.BigQuiet
import Derived.Lib.QuietBelow
import Derived.Laws.StructEq
import Derived.KernelRfl
import Derived.Laws.MakeOwn
import Derived.Laws.OwnMore
import Derived.OwnWalk
import Derived.Laws.CopyOwn
import Derived.Laws.AppendOwn
import Derived.Deep.QuietTactic
import Derived.Lib.Bytealg
import Derived.Laws.Externs
import Derived.Maps.AppendAt
import Derived.StillTailTactics
import Derived.Laws.ResultCell
import Derived.Deep.LoopGhost
import Derived.Deep.MidRow
import Derived.Deep.Upon
import Derived.Deep.Cut
import Derived.Deep.CutRange
import Derived.Lib.AppendStr
import Derived.Laws.BytesArg
import Derived.Laws.AppendOwnNone
import Derived.Lib.TrailingZeros
import Derived.Laws.Bits64b
namespace Go.Proofs.YtlfcjjlgkcfkdaaGreatDoor
open Go.RowKit Go.Sort
open Pz

set_option maxRecDepth 100000 in
set_option maxHeartbeats 8000000 in
theorem parse_all (s : ByteArray) (w : World) : Calls Tryz.prog 104 #[.string s] w (ParseRes w (parse (txt8 s))) := by
  obtain ⟨L, hL⟩ : ∃ L, s.size = L := ⟨_, rfl⟩
  by_cases h40 : 40 < L
  · have hz : decide ((L : Int) > 40) = true := decide_eq_true (by omega)
    have R : Hid (parse (txt8 s) = none) := by show _ = _; unfold parse; rw [txt8_len, if_pos (by omega)]
    have B := Lib.hid ((Below.refl w.heap.size w).alloc (Nat.le_refl _) (.cells #[.int .i64 0, .int .u64 0, .int .u64 0, .int .u64 0, .int .u64 0, .slice none 0 0] 135))
    have HH := Lib.hid (heap_alloc_new w (.cells #[.int .i64 0, .int .u64 0, .int .u64 0, .int .u64 0, .int .u64 0, .slice none 0 0] 135))
    clear h40
    go_enter Tryz.func104, Tryz.ntmps104
    go_wp2
    exact bodyPost_ret (run_ct rfl _ _ _ w.heap.size #[.int .i64 0, .int .u64 0, .int .u64 0, .int .u64 0, .int .u64 0, .slice none 0 0] (.bool false) rfl rfl (run_loadVar_row _ _ _ _ _ _ _ HH.out Tryz.underlying135 rfl Tryz.size6)) rfl ⟨B.out, .inr ⟨R.out, rfl⟩⟩
  · exact parse_any s (by omega) w
end Go.Proofs.YtlfcjjlgkcfkdaaGreatDoor
namespace Go.Proofs.YtlfcjjlgkcfkdaaGreatDoor
open Go.RowKit Go.Sort

theorem madeB_of {s : ByteArray} {t : Rx} (h : Pz.parse (txt8 s) = some t) : madeB s = Rx.made t := by unfold madeB; rw [h]
theorem stepsB_of {s : ByteArray} {t : Rx} (h : Pz.parse (txt8 s) = some t) : stepsB s = Rx.progL t := by unfold stepsB; rw [h]

set_option maxRecDepth 100000 in
set_option maxHeartbeats 4000000 in
theorem mis_any (k : Int) (n v : ByteArray) (w : World) (hn : n.size ≤ 1000) (hv : v.size ≤ 1000) :
    Calls Tryz.prog 72 #[.agg #[.int .i64 k, .string n, .string v]] w fun e w' => e = .returned (.bool (Mat.ok ⟨k, n, v⟩)) ∧ Below w.heap.size w w' := by
  have B0 : Below w.heap.size w (w.alloc (.cells #[.int .i64 k, .string n, .string v] 32)) := (Below.refl _ _).alloc (Nat.le_refl _) _
  have NM := Lib.hid (fun W => name_any n W (by omega))
  have R : Hid (Mat.ok ⟨k, n, v⟩ = (La.name n && (if k = 1 ∨ k = 2 then decide (v.size ≤ 24) else if k = 3 ∨ k = 4 then (Pz.parse (txt8 v)).isSome else false))) := rfl
  cases hN : La.name n
  · rw [hN] at NM R
    clear hN
    have R0 : Hid (Mat.ok ⟨k, n, v⟩ = false) := by show _ = _; rw [R.out]; rfl
    have B := Lib.hid B0
    clear B0 R
    go_enter Tryz.func72, Tryz.ntmps72
    go_wp2_with fail
    refine (NM.out _).mono ?_
    rintro e w1 ⟨rfl, rfl⟩
    go_wp2
    go_ret
    exact ⟨by rw [R0.out]; rfl, B.out⟩
  rw [hN] at NM R
  clear hN
  obtain ⟨L, hL⟩ : ∃ L, v.size = L := ⟨_, rfl⟩
  rw [hL] at R
  by_cases h1 : k = 1 ∨ k = 2
  · have R0 : Hid (Mat.ok ⟨k, n, v⟩ = decide (L ≤ 24)) := by show _ = _; rw [R.out, if_pos h1, Bool.true_and]
    have B := Lib.hid B0
    clear B0 R
    have hz : decide ((L : Int) ≤ 24) = decide (L ≤ 24) := by rw [Bool.eq_iff_iff, decide_eq_true_eq, decide_eq_true_eq]; omega
    rcases h1 with rfl | rfl
    · go_enter Tryz.func72, Tryz.ntmps72
      go_wp2_with fail
      refine (NM.out _).mono ?_
      rintro e w1 ⟨rfl, rfl⟩
      go_wp2
      go_ret
      exact ⟨by rw [R0.out, ← hz]; rfl, B.out⟩
    · go_enter Tryz.func72, Tryz.ntmps72
      go_wp2_with fail
      refine (NM.out _).mono ?_
      rintro e w1 ⟨rfl, rfl⟩
      go_wp2
      go_ret
      exact ⟨by rw [R0.out, ← hz]; rfl, B.out⟩
  have p1 : (k == 1) = false := by simp; omega
  have p2 : (k == 2) = false := by simp; omega
  by_cases h3 : k = 3 ∨ k = 4
  · have P1 := Lib.hid (parse_all v)
    cases hr : Pz.parse (txt8 v) with
    | none =>
      have R0 : Hid (Mat.ok ⟨k, n, v⟩ = false) := by show _ = _; rw [R.out, if_neg h1, if_pos h3, hr]; rfl
      have PN := Lib.hid (fun w w' e (h : ParseRes w none e w') => h.no rfl)
      rw [hr] at P1
      have B := Lib.hid B0
      clear hr B0 R h1
      rcases h3 with rfl | rfl
      all_goals
        go_enter Tryz.func72, Tryz.ntmps72
        go_wp2_with fail
        refine (NM.out _).mono ?_
        rintro e w1 ⟨rfl, rfl⟩
        go_wp2_with fail
        generalize w.alloc (.cells #[.int .i64 _, .string n, .string v] 32) = w1 at *
        refine (P1.out _).mono ?_
        intro e w2 h2
        obtain ⟨rfl, b2⟩ := PN.out _ _ _ h2
        have B2 := Lib.hid ((B.out.trans (b2.mono B.out.size)).alloc ((B.out.trans (b2.mono B.out.size)).size) (.cells #[.int .i64 0, .int .u64 0, .int .u64 0, .int .u64 0, .int .u64 0, .slice none 0 0] 135))
        clear h2 b2 P1
        go_wp2
        go_ret
        exact ⟨by rw [R0.out]; rfl, B2.out⟩
    | some t =>
      have R0 : Hid (Mat.ok ⟨k, n, v⟩ = true) := by show _ = _; rw [R.out, if_neg h1, if_pos h3, hr]; rfl
      have PY := Lib.hid (fun w w' e (h : ParseRes w (some t) e w') => h.yes rfl)
      rw [hr] at P1
      have B := Lib.hid B0
      clear hr B0 R h1
      rcases h3 with rfl | rfl
      all_goals
        go_enter Tryz.func72, Tryz.ntmps72
        go_wp2_with fail
        refine (NM.out _).mono ?_
        rintro e w1 ⟨rfl, rfl⟩
        go_wp2_with fail
        generalize w.alloc (.cells #[.int .i64 _, .string n, .string v] 32) = w1 at *
        refine (P1.out _).mono ?_
        intro e w2 h2
        obtain ⟨op, a, b, c, d, A, m, cap, rfl, X2, b2⟩ := PY.out _ _ _ h2
        have B2 := Lib.hid ((B.out.trans (b2.mono B.out.size)).alloc ((B.out.trans (b2.mono B.out.size)).size) (.cells #[.int .i64 op, .int .u64 (a : Int), .int .u64 (b : Int), .int .u64 (c : Int), .int .u64 (d : Int), .slice A m cap] 135))
        clear h2 b2 P1 X2
        go_wp2
        go_ret
        exact ⟨by rw [R0.out]; rfl, B2.out⟩
  have p3 : (k == 3) = false := by simp; omega
  have p4 : (k == 4) = false := by simp; omega
  have R0 : Hid (Mat.ok ⟨k, n, v⟩ = false) := by show _ = _; rw [R.out, if_neg h1, if_neg h3]; rfl
  have B := Lib.hid B0
  clear B0 R h1 h3
  go_enter Tryz.func72, Tryz.ntmps72
  go_wp2_with fail
  refine (NM.out _).mono ?_
  rintro e w1 ⟨rfl, rfl⟩
  go_wp2
  go_ret
  exact ⟨by rw [R0.out]; rfl, B.out⟩

set_option maxRecDepth 100000 in
set_option maxHeartbeats 4000000 in
theorem mprogram_any (s : ByteArray) (t : Rx) (w : World) (hr : Pz.parse (txt8 s) = some t) :
    Calls Tryz.prog 74 #[.string s] w fun e w' => (∃ A n cap, e = .returned (.tuple #[.slice A n cap, .bool (madeB s)]) ∧ (stepsB s).length = n ∧ n ≤ 40 ∧ n ≤ cap ∧ IsSt w' A (stepsB s)) ∧ Below w.heap.size w w' := by
  have P1 := Lib.hid (parse_all s w)
  have e1 := Lib.hid (madeB_of hr)
  have e2 := Lib.hid (stepsB_of hr)
  have PY := Lib.hid (fun w w' e (h : ParseRes w (some t) e w') => h.yes rfl)
  have hcnt := (parse_good hr).count
  have MK := Lib.hid (fun v W (h : IsRx W v t) => make_any t v W (by omega) h)
  have MA := Lib.hid (fun w w' e (h : MakeRes w t e w') => h.all)
  rw [hr] at P1
  clear hr hcnt
  go_enter Tryz.func74, Tryz.ntmps74
  go_wp2_with fail
  refine P1.out.mono ?_
  intro e w1 h1
  obtain ⟨op, a, b, c, d, A, n, cap, rfl, X1, b1⟩ := PY.out _ _ _ h1
  have B1 : Below w1.heap.size w1 (w1.alloc (.cells #[.int .i64 op, .int .u64 (a : Int), .int .u64 (b : Int), .int .u64 (c : Int), .int .u64 (d : Int), .slice A n cap] 135)) := (Below.refl _ _).alloc (Nat.le_refl _) _
  have M1 := Lib.hid (MK.out _ _ (X1.grown B1))
  have B := Lib.hid (b1.trans (B1.mono b1.size))
  clear h1 b1 B1 P1 X1 MK
  go_wp2_with fail
  generalize hw2 : w1.alloc (.cells #[.int .i64 op, .int .u64 (a : Int), .int .u64 (b : Int), .int .u64 (c : Int), .int .u64 (d : Int), .slice A n cap] 135) = w2 at *
  clear hw2
  refine M1.out.mono ?_
  intro e w3 h3
  obtain ⟨A3, n3, cap3, rfl, l3, s3, c3, S3, b3⟩ := MA.out _ _ _ h3
  have B3 := Lib.hid (B.out.trans (b3.mono B.out.size))
  have S3 := Lib.hid S3
  have l3 := Lib.hid l3
  clear h3 b3 M1
  go_wp2
  go_ret2
  exact ⟨⟨A3, n3, cap3, by rw [e1.out]; rfl, by rw [e2.out]; exact l3.out, s3, c3, by rw [e2.out]; exact S3.out⟩, B3.out⟩

theorem ok_parse {k : Int} {n v : ByteArray} (h : Mat.ok ⟨k, n, v⟩ = true) (h1 : k ≠ 1) (h2 : k ≠ 2) : (k = 3 ∨ k = 4) ∧ ∃ t, Pz.parse (txt8 v) = some t := by
  simp only [Mat.ok, Mat.okV, Bool.and_eq_true] at h
  have h := h.2
  rw [if_neg (by omega)] at h
  by_cases h3 : k = 3 ∨ k = 4
  · rw [if_pos h3, Option.isSome_iff_exists] at h
    exact ⟨h3, h⟩
  · rw [if_neg h3] at h; cases h

set_option maxRecDepth 100000 in
set_option maxHeartbeats 4000000 in
theorem mholds_any (k : Int) (n v : ByteArray) (ls : List La.Lab) (A : Option Addr) (N cap : Nat) (w : World) (hn : n.size ≤ 1000) (hv : v.size ≤ 1000) (hN : ls.length = N) (hl : N ≤ 1000) (hls : ∀ x ∈ ls, x.2.size ≤ 1000) (ha : IsLabs w A ls) (hT : DTab w) :
    Calls Tryz.prog 53 #[.agg #[.int .i64 k, .string n, .string v], .slice A N cap] w fun e w' => e = .returned (.bool (Mat.holds ⟨k, n, v⟩ ls)) ∧ Below w.heap.size w w' := by
  subst hN
  have BX := Lib.hid (fun W => box3 (w := w) (v0 := .int .i64 k) (v1 := .string n) (v2 := .string v) (ty := 32) (W := W))
  have B0 : Below w.heap.size w (w.alloc (.cells #[.int .i64 k, .string n, .string v] 32)) := (Below.refl _ _).alloc (Nat.le_refl _) _
  have SZ0 : Hid (w.heap.size + 1 ≤ (w.alloc (.cells #[.int .i64 k, .string n, .string v] 32)).heap.size) := by show _ ≤ _; simp
  have CI := Lib.hid (mis_any k n v (w.alloc (.cells #[.int .i64 k, .string n, .string v] 32)) hn hv)
  have GL := Lib.hid (fun W (hW : Below w.heap.size w W) => get_labs ls n A cap W (by omega) (ha.below hW))
  have hxs : (La.getL ls n).size ≤ 1000 := La.getL_size hls
  have SM := Lib.hid (fun (P : List St) (B : Option Addr) (M c : Nat) W (hP : P.length = M) (h40 : M ≤ 40) (hc : M ≤ c) (h : IsSt W B P) (hW : Below w.heap.size w W) => scmatch_any P (La.getL ls n) B M c W (by omega) hP (by omega) hc h (hT.below hW))
  have R : Hid (Mat.holds ⟨k, n, v⟩ ls = (Mat.ok ⟨k, n, v⟩ && (if k = 1 then (La.getL ls n).toList == v.toList else if k = 2 then !((La.getL ls n).toList == v.toList) else madeB v && (Sc.vMatch (stepsB v) (txt8 (La.getL ls n)) == decide (k = 3))))) := rfl
  have OP := Lib.hid (fun (h : Mat.ok ⟨k, n, v⟩ = true) => ok_parse h)
  have B := Lib.hid B0
  clear B0 ha hT hls hxs
  generalize ls.length = N at *
  generalize La.getL ls n = x at *
  generalize Mat.ok ⟨k, n, v⟩ = okb at *
  go_enter Tryz.func53, Tryz.ntmps53
  go_wp2_with fail
  generalize w.alloc (.cells #[.int .i64 k, .string n, .string v] 32) = w1 at *
  refine CI.out.mono ?_
  rintro e w2 ⟨rfl, b2⟩
  cases okb
  · have R0 : Hid (Mat.holds ⟨k, n, v⟩ ls = false) := by show _ = _; rw [R.out]; rfl
    have B2 := Lib.hid (B.out.trans (b2.mono B.out.size))
    clear R b2 SM
    go_wp2
    go_ret
    exact ⟨by rw [R0.out]; rfl, B2.out⟩
  have D2 := Lib.hid (b2.mono SZ0.out)
  obtain ⟨⟨c0, c1, c2⟩, BW⟩ := BX.out w2 D2.out
  have G2 := Lib.hid (GL.out w2 BW)
  clear BW b2 CI B GL
  go_wp2_with fail
  refine G2.out.mono ?_
  rintro e w3 ⟨rfl, b3⟩
  have D3 := Lib.hid (D2.out.trans (b3.mono (by have := D2.out.size; have := SZ0.out; omega)))
  clear D2 G2 b3 c0 c1 c2
  obtain ⟨⟨c0, c1, c2⟩, BW⟩ := BX.out w3 D3.out
  have B3 := Lib.hid BW
  clear BW
  by_cases k1 : k = 1
  · subst k1
    have R0 : Hid (Mat.holds ⟨1, n, v⟩ ls = (x.toList == v.toList)) := by show _ = _; rw [R.out]; rfl
    clear R OP SM
    go_wp2
    go_ret
    exact ⟨by rw [R0.out]; rfl, B3.out⟩
  have p1 : (k == 1) = false := by simpa using k1
  by_cases k2 : k = 2
  · subst k2
    have R0 : Hid (Mat.holds ⟨2, n, v⟩ ls = !(x.toList == v.toList)) := by show _ = _; rw [R.out]; rfl
    clear R OP SM
    go_wp2
    go_ret
    exact ⟨by rw [R0.out]; rfl, B3.out⟩
  have p2 : (k == 2) = false := by simpa using k2
  obtain ⟨h3, t, ht⟩ := OP.out (by trivial) k1 k2
  have PR := Lib.hid (mprogram_any v t w3 ht)
  have R1 : Hid (Mat.holds ⟨k, n, v⟩ ls = (madeB v && (Sc.vMatch (stepsB v) (txt8 x) == decide (k = 3)))) := by
    show _ = _
    rw [R.out, if_neg k1, if_neg k2, Bool.true_and]
  clear OP R ht k1 k2
  go_wp2_with fail
  refine PR.out.mono ?_
  rintro e w4 ⟨⟨Bp, m, cp, rfl, hl4, h40, hc4, S4⟩, b4⟩
  have D4 := Lib.hid (D3.out.trans (b4.mono (by have := D3.out.size; have := SZ0.out; omega)))
  clear D3 b4 c0 c1 c2 PR B3
  obtain ⟨⟨c0, c1, c2⟩, BW⟩ := BX.out w4 D4.out
  have B4 := Lib.hid BW
  cases hm : madeB v
  · have R0 : Hid (Mat.holds ⟨k, n, v⟩ ls = false) := by show _ = _; rw [R1.out, hm]; rfl
    clear BW SM S4 hl4
    go_wp2
    go_ret
    exact ⟨by rw [R0.out]; rfl, B4.out⟩
  have CM : Hid (∀ q os, Calls Tryz.prog 75 #[.slice Bp m cp, .string x] (grow (redrawn w4 q) os) fun e w'' => e = .returned (.bool (Sc.vMatch (stepsB v) (txt8 x))) ∧ ∃ p : Regrown, w'' = grow (redrawn w4 p.d) p.os) :=
    fun q os => Calls.regrown_of (SM.out _ Bp m cp _ hl4 h40 hc4 (S4.grown (below_regrown w4 q os)) (BW.trans ((below_regrown w4 q os).mono BW.size)))
  have GB : Hid (∀ q os, Below w.heap.size w (grow (redrawn w4 q) os)) := fun q os => BW.trans ((below_regrown w4 q os).mono BW.size)
  have R0 : Hid (Mat.holds ⟨k, n, v⟩ ls = (Sc.vMatch (stepsB v) (txt8 x) == decide (k = 3))) := by show _ = _; rw [R1.out, hm]; rfl
  generalize Sc.vMatch (stepsB v) (txt8 x) = y at *
  replace c0 := cell_regrown c0
  clear BW SM S4 hl4 R1 hm c1 c2 B4
  have e3 : (k == 3) = decide (k = 3) := by rw [Bool.eq_iff_iff]; simp
  obtain ⟨z, hz⟩ : ∃ z, decide (k = 3) = z := ⟨_, rfl⟩
  rw [hz] at e3 R0
  clear hz h3 p1 p2
  go_wp2_with fail
  refine wp_region_quiet_below (by kernel_rfl) (by kernel_rfl) ?_
  repeat (quiet_step (exact CM.out _ _))
  refine wpQuiet_nil ?_
  intro _ hw'
  obtain ⟨⟨dq, osq⟩, hw''⟩ := hw'
  subst hw''
  have G := Lib.hid (GB.out dq osq)
  clear c0 CM GB
  generalize grow (redrawn w4 dq) osq = w5 at *
  go_wp2
  go_ret
  exact ⟨by rw [R0.out]; rfl, G.out⟩

end Go.Proofs.YtlfcjjlgkcfkdaaGreatDoor
