/-
  What the reference's IsMatcher, pattern, Large and Holds do. Conditions: names and values of at most 1000 bytes; labels' values of at most 100.
-/
import Derived.Test.YtjmojjjgifkkiaaDoorYc
import Derived.Test.YtjmojjjgifkkiaaDoorZ20
namespace Go.Proofs.YtjmojjjgifkkiaaDoor
open Go.RowKit Go.Sort

set_option maxRecDepth 100000 in
set_option maxHeartbeats 4000000 in
theorem rpat_any (k : Int) (n v : ByteArray) (w : World) :
    Calls Tryd.prog 40 #[.agg #[.int .i64 k, .string n, .string v]] w fun e w' => e = .returned (.bool (Mat.pat ⟨k, n, v⟩)) ∧ Below w.heap.size w w' := by
  have B := Lib.hid ((Below.refl w.heap.size w).alloc (Nat.le_refl _) (.cells #[.int .i64 k, .string n, .string v] 26))
  have R : Hid (Mat.pat ⟨k, n, v⟩ = (decide (k = 3) || decide (k = 4))) := rfl
  by_cases h3 : k = 3
  · subst h3
    have R0 : Hid (Mat.pat ⟨3, n, v⟩ = true) := R.out
    clear R
    go_enter Tryd.func40, Tryd.ntmps40
    go_wp2
    go_ret
    exact ⟨by rw [R0.out]; rfl, B.out⟩
  by_cases h4 : k = 4
  · subst h4
    have R0 : Hid (Mat.pat ⟨4, n, v⟩ = true) := R.out
    clear R
    go_enter Tryd.func40, Tryd.ntmps40
    go_wp2
    go_ret
    exact ⟨by rw [R0.out]; rfl, B.out⟩
  have p3 : (k == 3) = false := by simpa using h3
  have p4 : (k == 4) = false := by simpa using h4
  have R0 : Hid (Mat.pat ⟨k, n, v⟩ = false) := by show _ = _; rw [R.out, decide_eq_false h3, decide_eq_false h4]; rfl
  clear R h3 h4
  go_enter Tryd.func40, Tryd.ntmps40
  go_wp2
  go_ret
  exact ⟨by rw [R0.out]; rfl, B.out⟩

set_option maxRecDepth 100000 in
set_option maxHeartbeats 4000000 in
theorem ris_any (k : Int) (n v : ByteArray) (w : World) (hn : n.size ≤ 1000) (hv : v.size ≤ 1000) :
    Calls Tryd.prog 14 #[.agg #[.int .i64 k, .string n, .string v]] w fun e w' => e = .returned (.bool (Mat.ok ⟨k, n, v⟩)) ∧ Below w.heap.size w w' := by
  have BX := Lib.hid (fun W => box3 (w := w) (v0 := .int .i64 k) (v1 := .string n) (v2 := .string v) (ty := 26) (W := W))
  have B0 : Below w.heap.size w (w.alloc (.cells #[.int .i64 k, .string n, .string v] 26)) := (Below.refl _ _).alloc (Nat.le_refl _) _
  have SZ0 : Hid (w.heap.size + 1 ≤ (w.alloc (.cells #[.int .i64 k, .string n, .string v] 26)).heap.size) := by show _ ≤ _; simp
  have NM := Lib.hid (fun W => rname_any n W (by omega))
  have CP := Lib.hid (rpat_any k n v (w.alloc (.cells #[.int .i64 k, .string n, .string v] 26)))
  have R : Hid (Mat.ok ⟨k, n, v⟩ = (La.name n && (if k = 1 ∨ k = 2 then decide (v.size ≤ 24) else if k = 3 ∨ k = 4 then (Pz.parse (txt8 v)).isSome else false))) := rfl
  have RP : Hid (Mat.pat ⟨k, n, v⟩ = (decide (k = 3) || decide (k = 4))) := rfl
  have P1 := Lib.hid (rparse_any v)
  have B := Lib.hid B0
  clear B0
  obtain ⟨L, hL⟩ : ∃ L, v.size = L := ⟨_, rfl⟩
  rw [hL] at R
  generalize La.name n = nm at *
  go_enter Tryd.func14, Tryd.ntmps14
  go_wp2_with fail
  refine (NM.out _).mono ?_
  rintro e w1 ⟨rfl, rfl⟩
  cases nm
  · have R0 : Hid (Mat.ok ⟨k, n, v⟩ = false) := by show _ = _; rw [R.out]; rfl
    clear R
    go_wp2
    go_ret
    exact ⟨by rw [R0.out]; rfl, B.out⟩
  go_wp2_with fail
  generalize w.alloc (.cells #[.int .i64 k, .string n, .string v] 26) = w1 at *
  refine CP.out.mono ?_
  rintro e w2 ⟨rfl, b2⟩
  have D2 := Lib.hid (b2.mono SZ0.out)
  obtain ⟨⟨c0, c1, c2⟩, BW⟩ := BX.out w2 D2.out
  have B2 := Lib.hid BW
  clear BW b2 CP B NM
  by_cases h3 : k = 3 ∨ k = 4
  · have hp : Mat.pat ⟨k, n, v⟩ = true := by rw [RP.out]; rcases h3 with rfl | rfl <;> rfl
    rw [hp]
    clear hp RP
    have P2 := Lib.hid (P1.out w2)
    cases hr : Pz.parse (txt8 v) with
    | none =>
      have R0 : Hid (Mat.ok ⟨k, n, v⟩ = false) := by show _ = _; rw [R.out, if_neg (by omega), if_pos h3, hr]; rfl
      have PN := Lib.hid (fun w w' e (h : ParseRes w none e w') => h.no rfl)
      rw [hr] at P2
      clear hr R h3 P1
      go_wp2_with fail
      refine P2.out.mono ?_
      intro e w3 h3
      obtain ⟨rfl, b3⟩ := PN.out _ _ _ h3
      have B3 := Lib.hid ((B2.out.trans (b3.mono B2.out.size)).alloc ((B2.out.trans (b3.mono B2.out.size)).size) (.cells #[.int .i64 0, .int .u64 0, .int .u64 0, .int .u64 0, .int .u64 0, .slice none 0 0] 60))
      clear h3 b3 P2 c0 c1 c2
      go_wp2
      go_ret
      exact ⟨by rw [R0.out]; rfl, B3.out⟩
    | some t =>
      have R0 : Hid (Mat.ok ⟨k, n, v⟩ = true) := by show _ = _; rw [R.out, if_neg (by omega), if_pos h3, hr]; rfl
      have PY := Lib.hid (fun w w' e (h : ParseRes w (some t) e w') => h.yes rfl)
      rw [hr] at P2
      clear hr R h3 P1
      go_wp2_with fail
      refine P2.out.mono ?_
      intro e w3 h3
      obtain ⟨op, a, b, c, d, A, m, cap, rfl, X3, b3⟩ := PY.out _ _ _ h3
      have B3 := Lib.hid ((B2.out.trans (b3.mono B2.out.size)).alloc ((B2.out.trans (b3.mono B2.out.size)).size) (.cells #[.int .i64 op, .int .u64 (a : Int), .int .u64 (b : Int), .int .u64 (c : Int), .int .u64 (d : Int), .slice A m cap] 60))
      clear h3 b3 P2 c0 c1 c2 X3
      go_wp2
      go_ret
      exact ⟨by rw [R0.out]; rfl, B3.out⟩
  have hp : Mat.pat ⟨k, n, v⟩ = false := by rw [RP.out, decide_eq_false (by omega), decide_eq_false (by omega)]; rfl
  rw [hp]
  clear hp RP P1
  by_cases h1 : k = 1
  · subst h1
    have R0 : Hid (Mat.ok ⟨1, n, v⟩ = decide (L ≤ 24)) := by show _ = _; rw [R.out]; rfl
    have hz : decide ((L : Int) ≤ 24) = decide (L ≤ 24) := by rw [Bool.eq_iff_iff, decide_eq_true_eq, decide_eq_true_eq]; omega
    clear R h3
    go_wp2
    go_ret
    exact ⟨by rw [R0.out, ← hz]; rfl, B2.out⟩
  have p1 : (k == 1) = false := by simpa using h1
  by_cases h2 : k = 2
  · subst h2
    have R0 : Hid (Mat.ok ⟨2, n, v⟩ = decide (L ≤ 24)) := by show _ = _; rw [R.out]; rfl
    have hz : decide ((L : Int) ≤ 24) = decide (L ≤ 24) := by rw [Bool.eq_iff_iff, decide_eq_true_eq, decide_eq_true_eq]; omega
    clear R h3 h1
    go_wp2
    go_ret
    exact ⟨by rw [R0.out, ← hz]; rfl, B2.out⟩
  have p2 : (k == 2) = false := by simpa using h2
  have R0 : Hid (Mat.ok ⟨k, n, v⟩ = false) := by show _ = _; rw [R.out, if_neg (by omega), if_neg h3]; rfl
  clear R h3 h1 h2
  go_wp2
  go_ret
  exact ⟨by rw [R0.out]; rfl, B2.out⟩

theorem made_size40 {t : Rx} (h : Rx.isRex t = true) : (!Rx.made t) = decide ((Rx.size t : Int) > 40) := by
  have hs : 0 < Rx.size t := by rw [Rx.size, if_pos h]; omega
  rw [Rx.made, decide_eq_true hs, Bool.true_and]
  by_cases h4 : Rx.size t ≤ 40
  · rw [decide_eq_true h4, decide_eq_false (by omega)]; rfl
  · rw [decide_eq_false h4, decide_eq_true (by omega)]; rfl

set_option maxRecDepth 100000 in
set_option maxHeartbeats 4000000 in
theorem rlarge_any (k : Int) (n v : ByteArray) (w : World) (hn : n.size ≤ 1000) (hv : v.size ≤ 1000) :
    Calls Tryd.prog 16 #[.agg #[.int .i64 k, .string n, .string v]] w fun e w' => e = .returned (.bool (Mat.large ⟨k, n, v⟩)) ∧ Below w.heap.size w w' := by
  have BX := Lib.hid (fun W => box3 (w := w) (v0 := .int .i64 k) (v1 := .string n) (v2 := .string v) (ty := 26) (W := W))
  have B0 : Below w.heap.size w (w.alloc (.cells #[.int .i64 k, .string n, .string v] 26)) := (Below.refl _ _).alloc (Nat.le_refl _) _
  have SZ0 : Hid (w.heap.size + 1 ≤ (w.alloc (.cells #[.int .i64 k, .string n, .string v] 26)).heap.size) := by show _ ≤ _; simp
  have CI := Lib.hid (ris_any k n v (w.alloc (.cells #[.int .i64 k, .string n, .string v] 26)) hn hv)
  have CP := Lib.hid (fun W => rpat_any k n v W)
  have R : Hid (Mat.large ⟨k, n, v⟩ = (Mat.ok ⟨k, n, v⟩ && (Mat.pat ⟨k, n, v⟩ && !madeB v))) := rfl
  have OP := Lib.hid (fun (h : Mat.ok ⟨k, n, v⟩ = true) => ok_parse h)
  have RP : Hid (Mat.pat ⟨k, n, v⟩ = (decide (k = 3) || decide (k = 4))) := rfl
  have B := Lib.hid B0
  clear B0
  generalize Mat.ok ⟨k, n, v⟩ = okb at *
  generalize Mat.pat ⟨k, n, v⟩ = pt at *
  go_enter Tryd.func16, Tryd.ntmps16
  go_wp2_with fail
  generalize w.alloc (.cells #[.int .i64 k, .string n, .string v] 26) = w1 at *
  refine CI.out.mono ?_
  rintro e w2 ⟨rfl, b2⟩
  cases okb
  · have R0 : Hid (Mat.large ⟨k, n, v⟩ = false) := by show _ = _; rw [R.out]; rfl
    have B2 := Lib.hid (B.out.trans (b2.mono B.out.size))
    clear R b2
    go_wp2
    go_ret
    exact ⟨by rw [R0.out]; rfl, B2.out⟩
  have D2 := Lib.hid (b2.mono SZ0.out)
  obtain ⟨⟨c0, c1, c2⟩, BW⟩ := BX.out w2 D2.out
  have B2 := Lib.hid BW
  have CP2 := Lib.hid (CP.out w2)
  clear BW b2 CI B CP
  go_wp2_with fail
  refine CP2.out.mono ?_
  rintro e w3 ⟨rfl, b3⟩
  have D3 := Lib.hid (D2.out.trans (b3.mono (by have := D2.out.size; have := SZ0.out; omega)))
  clear D2 b3 c0 c1 c2 CP2 B2
  obtain ⟨⟨c0, c1, c2⟩, BW⟩ := BX.out w3 D3.out
  have B3 := Lib.hid BW
  clear BW
  cases hpt : pt
  · have R0 : Hid (Mat.large ⟨k, n, v⟩ = false) := by show _ = _; rw [R.out, hpt]; rfl
    clear R RP hpt
    go_wp2
    go_ret
    exact ⟨by rw [R0.out]; rfl, B3.out⟩
  have h34 : k = 3 ∨ k = 4 := by have := RP.out; rw [hpt] at this; simpa using this.symm
  obtain ⟨t, ht⟩ := (OP.out (by trivial) (by omega) (by omega)).2
  have P1 := Lib.hid (rparse_any v w3)
  rw [ht] at P1
  have PY := Lib.hid (fun w w' e (h : ParseRes w (some t) e w') => h.yes rfl)
  have hcnt := (parse_good ht).count
  have SZ := Lib.hid (fun v W (h : IsRx W v t) => rsizeT_any t v W (by omega) h)
  have R0 : Hid (Mat.large ⟨k, n, v⟩ = decide ((Rx.size t : Int) > 40)) := by
    show _ = _
    rw [R.out, hpt, madeB_of ht, made_size40 (parse_good ht).rex]; rfl
  clear R RP hpt OP ht hcnt h34
  go_wp2_with fail
  refine P1.out.mono ?_
  intro e w4 h4
  obtain ⟨op, a, b, c, d, A, m, cap, rfl, X4, b4⟩ := PY.out _ _ _ h4
  have B4 : Below w4.heap.size w4 (w4.alloc (.cells #[.int .i64 op, .int .u64 (a : Int), .int .u64 (b : Int), .int .u64 (c : Int), .int .u64 (d : Int), .slice A m cap] 60)) := (Below.refl _ _).alloc (Nat.le_refl _) _
  have S4 := Lib.hid (SZ.out _ _ (X4.grown B4))
  have B5 := Lib.hid (B3.out.trans ((b4.trans (B4.mono b4.size)).mono B3.out.size))
  clear h4 b4 B4 X4 SZ P1 c0 c1 c2 B3
  go_wp2_with fail
  generalize w4.alloc (.cells #[.int .i64 op, .int .u64 (a : Int), .int .u64 (b : Int), .int .u64 (c : Int), .int .u64 (d : Int), .slice A m cap] 60) = w5 at *
  refine S4.out.mono ?_
  rintro e w6 ⟨rfl, b6⟩
  have B6 := Lib.hid (B5.out.trans (b6.mono B5.out.size))
  clear b6 S4 B5
  generalize Rx.size t = z at *
  go_wp2
  go_ret
  exact ⟨by rw [R0.out]; first | rfl | simp, B6.out⟩

set_option maxRecDepth 100000 in
set_option maxHeartbeats 4000000 in
theorem rholds_any (k : Int) (n v : ByteArray) (ls : List La.Lab) (A : Option Addr) (N cap : Nat) (w : World) (hn : n.size ≤ 1000) (hv : v.size ≤ 1000) (hN : ls.length = N) (hl : N ≤ 1000) (hls : ∀ x ∈ ls, x.2.size ≤ 100) (ha : IsLabs w A ls) :
    Calls Tryd.prog 17 #[.agg #[.int .i64 k, .string n, .string v], .slice A N cap] w fun e w' => e = .returned (.bool (Mat.holds ⟨k, n, v⟩ ls)) ∧ Below w.heap.size w w' := by
  subst hN
  have BX := Lib.hid (fun W => box3 (w := w) (v0 := .int .i64 k) (v1 := .string n) (v2 := .string v) (ty := 26) (W := W))
  have B0 : Below w.heap.size w (w.alloc (.cells #[.int .i64 k, .string n, .string v] 26)) := (Below.refl _ _).alloc (Nat.le_refl _) _
  have SZ0 : Hid (w.heap.size + 1 ≤ (w.alloc (.cells #[.int .i64 k, .string n, .string v] 26)).heap.size) := by show _ ≤ _; simp
  have CI := Lib.hid (ris_any k n v (w.alloc (.cells #[.int .i64 k, .string n, .string v] 26)) hn hv)
  have CL := Lib.hid (fun W => rlarge_any k n v W hn hv)
  have GL := Lib.hid (fun W (hW : Below w.heap.size w W) => rget_labs ls n A cap W (by omega) (ha.below hW))
  have hxs : (La.getL ls n).size ≤ 100 := La.getL_size hls
  have R : Hid (Mat.holds ⟨k, n, v⟩ ls = (Mat.ok ⟨k, n, v⟩ && (if k = 1 then (La.getL ls n).toList == v.toList else if k = 2 then !((La.getL ls n).toList == v.toList) else madeB v && (Sc.vMatch (stepsB v) (txt8 (La.getL ls n)) == decide (k = 3))))) := rfl
  have RL : Hid (Mat.large ⟨k, n, v⟩ = (Mat.ok ⟨k, n, v⟩ && ((decide (k = 3) || decide (k = 4)) && !madeB v))) := rfl
  have LS := Lib.hid (fun h => Mat.large_says (m := ⟨k, n, v⟩) h (La.getL ls n))
  have OP := Lib.hid (fun (h : Mat.ok ⟨k, n, v⟩ = true) => ok_parse h)
  have HS : Hid (Mat.holds ⟨k, n, v⟩ ls = Mat.says ⟨k, n, v⟩ (La.getL ls n)) := rfl
  have B := Lib.hid B0
  clear B0 ha hls
  generalize ls.length = N at *
  generalize La.getL ls n = x at *
  generalize Mat.ok ⟨k, n, v⟩ = okb at *
  generalize Mat.large ⟨k, n, v⟩ = lg at *
  go_enter Tryd.func17, Tryd.ntmps17
  go_wp2_with fail
  generalize w.alloc (.cells #[.int .i64 k, .string n, .string v] 26) = w1 at *
  refine CI.out.mono ?_
  rintro e w2 ⟨rfl, b2⟩
  cases okb
  · have R0 : Hid (Mat.holds ⟨k, n, v⟩ ls = false) := by show _ = _; rw [R.out]; rfl
    have B2 := Lib.hid (B.out.trans (b2.mono B.out.size))
    clear R b2 RL HS LS
    go_wp2
    go_ret
    exact ⟨by rw [R0.out]; rfl, B2.out⟩
  have D2 := Lib.hid (b2.mono SZ0.out)
  obtain ⟨⟨c0, c1, c2⟩, BW⟩ := BX.out w2 D2.out
  have C2 := Lib.hid (CL.out w2)
  clear BW b2 CI B CL
  go_wp2_with fail
  refine C2.out.mono ?_
  rintro e w3 ⟨rfl, b3⟩
  have D3 := Lib.hid (D2.out.trans (b3.mono (by have := D2.out.size; have := SZ0.out; omega)))
  clear D2 C2 b3 c0 c1 c2
  obtain ⟨⟨c0, c1, c2⟩, BW⟩ := BX.out w3 D3.out
  have B3 := Lib.hid BW
  cases hlg : lg
  case true =>
    have R0 : Hid (Mat.holds ⟨k, n, v⟩ ls = false) := by show _ = _; rw [HS.out]; exact LS.out hlg
    clear BW R RL HS LS hlg
    go_wp2
    go_ret
    exact ⟨by rw [R0.out]; rfl, B3.out⟩
  rw [hlg] at RL
  have G3 := Lib.hid (GL.out w3 BW)
  clear BW GL HS LS hlg
  go_wp2_with fail
  refine G3.out.mono ?_
  rintro e w4 ⟨rfl, rfl⟩
  clear G3
  by_cases k1 : k = 1
  · subst k1
    have R0 : Hid (Mat.holds ⟨1, n, v⟩ ls = (x.toList == v.toList)) := by show _ = _; rw [R.out]; rfl
    clear R OP RL
    go_wp2
    go_ret
    exact ⟨by rw [R0.out]; rfl, B3.out⟩
  have p1 : (k == 1) = false := by simpa using k1
  by_cases k2 : k = 2
  · subst k2
    have R0 : Hid (Mat.holds ⟨2, n, v⟩ ls = !(x.toList == v.toList)) := by show _ = _; rw [R.out]; rfl
    clear R OP RL
    go_wp2
    go_ret
    exact ⟨by rw [R0.out]; rfl, B3.out⟩
  have p2 : (k == 2) = false := by simpa using k2
  obtain ⟨h3, t, ht⟩ := OP.out (by trivial) k1 k2
  have hmd : Rx.made t = true := by
    have := RL.out
    rw [madeB_of ht] at this
    cases hm : Rx.made t
    · rw [hm] at this; rcases h3 with rfl | rfl <;> simp at this
    · rfl
  have R0 : Hid (Mat.holds ⟨k, n, v⟩ ls = (takesB (txt8 x) t == decide (k = 3))) := by
    show _ = _
    rw [R.out, if_neg k1, if_neg k2, Bool.true_and, madeB_of ht, hmd, stepsB_of ht, takes_made hmd, Bool.true_and]
  have P1 := Lib.hid (rparse_any v w3)
  rw [ht] at P1
  have PY := Lib.hid (fun w w' e (h : ParseRes w (some t) e w') => h.yes rfl)
  have TK := Lib.hid (fun u W (h : IsRx W u t) => takes_any t u x W (parse_good ht).count (parse_good ht).fit hxs h)
  clear OP R ht k1 k2 RL hmd hxs
  go_wp2_with fail
  refine P1.out.mono ?_
  intro e w4 h4
  obtain ⟨op, a, b, c, d, Ak, m, cp, rfl, X4, b4⟩ := PY.out _ _ _ h4
  have B4 : Below w4.heap.size w4 (w4.alloc (.cells #[.int .i64 op, .int .u64 (a : Int), .int .u64 (b : Int), .int .u64 (c : Int), .int .u64 (d : Int), .slice Ak m cp] 60)) := (Below.refl _ _).alloc (Nat.le_refl _) _
  have B5 := B3.out.trans ((b4.trans (B4.mono b4.size)).mono B3.out.size)
  have D5 := Lib.hid (D3.out.trans ((b4.trans (B4.mono b4.size)).mono (by have := D3.out.size; have := SZ0.out; omega)))
  obtain ⟨⟨c0', c1', c2'⟩, _⟩ := BX.out _ D5.out
  have X5 := X4.grown B4
  obtain ⟨q0, q1, q2, q3, q4, q5⟩ := (box6 (W := w4.alloc (.cells #[.int .i64 op, .int .u64 (a : Int), .int .u64 (b : Int), .int .u64 (c : Int), .int .u64 (d : Int), .slice Ak m cp] 60)) (Below.refl _ _)).1
  clear h4 b4 B4 X4 P1 c0 c1 c2 B3 D3 c1' c2'
  have CM := Lib.hid (fun q os => Calls.regrown_of (TK.out _ (grow (redrawn (w4.alloc (.cells #[.int .i64 op, .int .u64 (a : Int), .int .u64 (b : Int), .int .u64 (c : Int), .int .u64 (d : Int), .slice Ak m cp] 60)) q) os) (X5.grown (below_regrown _ q os))))
  have GB : Hid (∀ q os, Below w.heap.size w (grow (redrawn (w4.alloc (.cells #[.int .i64 op, .int .u64 (a : Int), .int .u64 (b : Int), .int .u64 (c : Int), .int .u64 (d : Int), .slice Ak m cp] 60)) q) os)) := fun q os => B5.trans ((below_regrown _ q os).mono B5.size)
  generalize takesB (txt8 x) t = y at *
  replace c0' := cell_regrown c0'
  replace q0 := cell_regrown q0
  replace q1 := cell_regrown q1
  replace q2 := cell_regrown q2
  replace q3 := cell_regrown q3
  replace q4 := cell_regrown q4
  replace q5 := cell_regrown q5
  have e3 : (k == 3) = decide (k = 3) := by rw [Bool.eq_iff_iff]; simp
  obtain ⟨z, hz⟩ : ∃ z, decide (k = 3) = z := ⟨_, rfl⟩
  rw [hz] at e3 R0
  clear hz h3 p1 p2 X5 TK B5
  go_upto_region 10 with fail
  obtain ⟨P6, hP6⟩ : ∃ P6, w4.heap.size = P6 := ⟨_, rfl⟩
  rw [hP6] at q0 q1 q2 q3 q4 q5 ⊢
  clear hP6
  generalize w4.alloc (.cells #[.int .i64 op, .int .u64 (a : Int), .int .u64 (b : Int), .int .u64 (c : Int), .int .u64 (d : Int), .slice Ak m cp] 60) = w5 at *
  refine wp_region_quiet_below (by kernel_rfl) (by kernel_rfl) ?_
  repeat (quiet_step (exact CM.out _ _))
  refine wpQuiet_nil ?_
  intro _ hw'
  obtain ⟨⟨dq, osq⟩, hw''⟩ := hw'
  subst hw''
  have G := Lib.hid (GB.out dq osq)
  clear c0' q0 q1 q2 q3 q4 q5 CM GB
  generalize grow (redrawn w5 dq) osq = w6 at *
  go_wp2
  go_ret
  exact ⟨by rw [R0.out]; rfl, G.out⟩
end Go.Proofs.YtjmojjjgifkkiaaDoor
