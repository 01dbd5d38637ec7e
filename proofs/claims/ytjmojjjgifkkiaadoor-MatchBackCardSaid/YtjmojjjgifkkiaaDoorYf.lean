/-
  What List, AnyLarge and All do, the program's and the reference's. Conditions: names and values of at most 1000 bytes, labels' values of at most 100 (the reference's) or 1000; the library's table lies in its variable (DTab) where matchers hold.
-/
import Derived.Test.YtjmojjjgifkkiaaDoorYd
import Derived.Test.YtjmojjjgifkkiaaDoorYe
namespace Go.Proofs.YtjmojjjgifkkiaaDoor
open Go.RowKit Go.Sort

/-- Matchers of few bytes. -/
def SmallM (l : List Mat) : Prop := ∀ m ∈ l, m.n.size ≤ 1000 ∧ m.v.size ≤ 1000
theorem SmallM.at {l : List Mat} (h : SmallM l) {j : Nat} (hj : j < l.length) : (Mat.nth l j).n.size ≤ 1000 ∧ (Mat.nth l j).v.size ≤ 1000 := h _ (Mat.nth_mem hj)
theorem okAt_no {l : List Mat} {k : Nat} (h : (Mat.nth l k).ok = false) : Mat.okAt l k = false := by unfold Mat.okAt; rw [h]; rfl
theorem okAt_first {l : List Mat} (h : (Mat.nth l 0).ok = true) : Mat.okAt l 0 = true := by unfold Mat.okAt; rw [h]; rfl
theorem okAt_next {l : List Mat} {m : Nat} (h : (Mat.nth l (m + 1)).ok = true) : Mat.okAt l (m + 1) = Mat.bf (Mat.nth l m) (Mat.nth l (m + 1)) := by unfold Mat.okAt; rw [h]; simp
theorem ok_on {l : List Mat} {k : Nat} (h : ∀ j, j < k → Mat.okAt l j = true) (hk : Mat.okAt l k = true) : ∀ j, j < k + 1 → Mat.okAt l j = true := fun j hj => by
  rcases Nat.lt_or_ge j k with h1 | h1
  · exact h j h1
  · obtain rfl : j = k := by omega
    exact hk

set_option maxRecDepth 100000 in
set_option maxHeartbeats 4000000 in
theorem mlist_any (l : List Mat) (A : Option Addr) (N cap : Nat) (w : World) (hN : l.length = N) (hl : N ≤ 1099511627776) (hs : SmallM l) (ha : IsMats w A l) :
    Calls Tryd.prog 18 #[.slice A N cap] w fun e w' => e = .returned (.bool (Mat.isList l)) ∧ Below w.heap.size w w' := by
  by_cases h5 : 5 < N
  · have hz : decide ((N : Int) > 5) = true := decide_eq_true (by omega)
    have R0 : Hid (Mat.isList l = false) := Mat.isList_no fun x => by have := x.1; omega
    go_enter Tryd.func18, Tryd.ntmps18
    go_wp2
    go_ret
    exact ⟨by rw [R0.out]; rfl, Below.refl _ _⟩
  have hz : decide ((N : Int) > 5) = false := decide_eq_false (by omega)
  have HA := Lib.hid ha
  have HS := Lib.hid hs
  have HN := Lib.hid hN
  clear ha hs hN h5
  go_enter Tryd.func18, Tryd.ntmps18
  go_wp2
  go_loopw [10] (fun i wr => ∃ k : Nat, k ≤ N ∧ i = .int .i64 (k : Int) ∧ Hid (Below w.heap.size w wr ∧ ∀ j, j < k → Mat.okAt l j = true)) (fun i _ => N - (intOf i).toNat)
  case atStart => exact ⟨0, by omega, rfl, Below.refl _ _, fun j hj => by omega⟩
  case round =>
    obtain ⟨k, hk, rfl, HI⟩ := hrel
    by_cases hkn : k < N
    · have hk2 : k < l.length := by rw [HN.out]; exact hkn
      have hc' := (HA.out.below HI.out.1) (by omega)
      obtain ⟨b, off, rfl, hc⟩ := hc'
      obtain ⟨c0, c1, c2⟩ := hc k hk2
      have hkz : (k : Int) < (N : Int) := by omega
      have OKN := Lib.hid (fun h => okAt_no (l := l) (k := k) h)
      have BADK := Lib.hid (fun h => Mat.isList_bad (l := l) (k := k) hk2 h)
      have CI := Lib.hid (fun W => mis_any (Mat.nth l k).k (Mat.nth l k).n (Mat.nth l k).v W (HS.out.at hk2).1 (HS.out.at hk2).2)
      have BX := Lib.hid (fun W => box3 (w := wr) (v0 := .int .i64 (Mat.nth l k).k) (v1 := .string (Mat.nth l k).n) (v2 := .string (Mat.nth l k).v) (ty := 26) (W := W))
      have B0 : Hid (Below wr.heap.size wr (wr.alloc (.cells #[.int .i64 (Mat.nth l k).k, .string (Mat.nth l k).n, .string (Mat.nth l k).v] 26))) := (Below.refl _ _).alloc (Nat.le_refl _) _
      have SZ0 : Hid (wr.heap.size + 1 ≤ (wr.alloc (.cells #[.int .i64 (Mat.nth l k).k, .string (Mat.nth l k).n, .string (Mat.nth l k).v] 26)).heap.size) := by show _ ≤ _; simp
      have hok : Hid (Mat.ok ⟨(Mat.nth l k).k, (Mat.nth l k).n, (Mat.nth l k).v⟩ = (Mat.nth l k).ok) := rfl
      rw [hok.out] at CI
      obtain ⟨okb, hokb⟩ : ∃ q, (Mat.nth l k).ok = q := ⟨_, rfl⟩
      rw [hokb] at CI
      have HB := Lib.hid HI.out.1
      have HO := Lib.hid HI.out.2
      clear HI
      rcases k with _ | m
      · -- the first one
        have OK1 := Lib.hid (fun h => okAt_first (l := l) h)
        simp only [Nat.zero_mul, Nat.add_zero] at c0 c1 c2
        have HOK := Lib.hid hokb
        clear hokb hok hc
        generalize (Mat.nth l 0).k = x0 at *
        generalize (Mat.nth l 0).n = x1 at *
        generalize (Mat.nth l 0).v = x2 at *
        go_wp2_with fail
        generalize wr.alloc (.cells #[.int .i64 x0, .string x1, .string x2] 26) = w1 at *
        refine (CI.out _).mono ?_
        rintro e w2 ⟨rfl, b2⟩
        cases okb
        · have R0 : Hid (Mat.isList l = false) := BADK.out (OKN.out HOK.out)
          have B := Lib.hid (HB.out.trans ((B0.out.trans (b2.mono B0.out.size)).mono HB.out.size))
          clear b2 c0 c1 c2
          go_wp2
          go_ret
          exact ⟨by rw [R0.out]; rfl, B.out⟩
        have B := Lib.hid (HB.out.trans ((B0.out.trans (b2.mono B0.out.size)).mono HB.out.size))
        have ON := Lib.hid (ok_on HO.out (OK1.out HOK.out))
        clear b2 c0 c1 c2 BX CI HB B0 HO OK1 HOK
        go_wp2_with fail
        go_quiet (fail)
        have B5 := Lib.hid (below_drewN B.out nq)
        clear B
        generalize w2.drewN nq = w5 at *
        go_wp2
        go_roundw
        case rel => exact ⟨1, by omega, by go_num, B5.out, ON.out⟩
        case measure => simp [intOf]; omega
      · have hm2 : m < l.length := by omega
        obtain ⟨p0, p1, p2⟩ := hc m hm2
        have hmz : (m : Int) < (N : Int) := by omega
        have hm0 : decide ((m : Int) + 1 > 0) = true := decide_eq_true (by omega)
        have wk : IntKind.i64.wrap (m : Int) = (m : Int) := by rw [IntKind.wrap_i64]; omega
        have OKM := Lib.hid (fun h => okAt_next (l := l) (m := m) h)
        have CC := Lib.hid (fun W => mcompare_any (Mat.nth l m).k (Mat.nth l (m + 1)).k (Mat.nth l m).n (Mat.nth l m).v (Mat.nth l (m + 1)).n (Mat.nth l (m + 1)).v W)
        have CB : Hid (decide (cmpM ⟨(Mat.nth l m).k, (Mat.nth l m).n, (Mat.nth l m).v⟩ ⟨(Mat.nth l (m + 1)).k, (Mat.nth l (m + 1)).n, (Mat.nth l (m + 1)).v⟩ ≥ 0) = !Mat.bf (Mat.nth l m) (Mat.nth l (m + 1))) := cmpM_bf _ _
        obtain ⟨z, hz1⟩ : ∃ z, cmpM ⟨(Mat.nth l m).k, (Mat.nth l m).n, (Mat.nth l m).v⟩ ⟨(Mat.nth l (m + 1)).k, (Mat.nth l (m + 1)).n, (Mat.nth l (m + 1)).v⟩ = z := ⟨_, rfl⟩
        rw [hz1] at CB CC
        obtain ⟨bb, hbb⟩ : ∃ q, Mat.bf (Mat.nth l m) (Mat.nth l (m + 1)) = q := ⟨_, rfl⟩
        rw [hbb] at CB OKM
        have HOK := Lib.hid hokb
        clear hokb hok hc hz1 hbb
        generalize (Mat.nth l (m + 1)).k = x0 at *
        generalize (Mat.nth l (m + 1)).n = x1 at *
        generalize (Mat.nth l (m + 1)).v = x2 at *
        generalize (Mat.nth l m).k = y0 at *
        generalize (Mat.nth l m).n = y1 at *
        generalize (Mat.nth l m).v = y2 at *
        have KP := Lib.hid (⟨p0, p1, p2⟩ : _ ∧ _ ∧ _)
        clear p0 p1 p2
        go_wp2_with fail
        generalize wr.alloc (.cells #[.int .i64 x0, .string x1, .string x2] 26) = w1 at *
        refine (CI.out _).mono ?_
        rintro e w2 ⟨rfl, b2⟩
        have B02 := B0.out.trans (b2.mono B0.out.size)
        have B := Lib.hid (HB.out.trans (B02.mono HB.out.size))
        cases okb
        · have R0 : Hid (Mat.isList l = false) := BADK.out (OKN.out HOK.out)
          clear b2 c0 c1 c2 B02
          go_wp2
          go_ret
          exact ⟨by rw [R0.out]; rfl, B.out⟩
        obtain ⟨⟨r0, r1, r2⟩, _⟩ := BX.out w2 (b2.mono SZ0.out)
        obtain ⟨p0, p1, p2⟩ := KP.out
        have s0 := cell_grow B02 p0
        have s1 := cell_grow B02 p1
        have s2 := cell_grow B02 p2
        replace r0 := cell_regrown r0
        replace r1 := cell_regrown r1
        replace r2 := cell_regrown r2
        replace s0 := cell_regrown s0
        replace s1 := cell_regrown s1
        replace s2 := cell_regrown s2
        have CM : Hid (∀ q os, Calls Tryd.prog 45 #[.agg #[.int .i64 y0, .string y1, .string y2], .agg #[.int .i64 x0, .string x1, .string x2]] (grow (redrawn w2 q) os) fun e w'' => e = .returned (.int .i64 z) ∧ ∃ p : Regrown, w'' = grow (redrawn w2 p.d) p.os) :=
          fun q os => Calls.regrown_of (CC.out _)
        have GB : Hid (∀ q os, Below w.heap.size w (grow (redrawn w2 q) os)) := fun q os => B.out.trans ((below_regrown w2 q os).mono B.out.size)
        have OK2 := Lib.hid (OKM.out HOK.out)
        clear b2 c0 c1 c2 BX CI HB B0 B02 KP p0 p1 p2 CC B OKM HOK
        cases bb
        · have hzd : decide (z ≥ 0) = true := CB.out
          have hzp : 0 ≤ z := of_decide_eq_true hzd
          have R0 : Hid (Mat.isList l = false) := BADK.out OK2.out
          clear HO OK2 CB
          go_wp2_with fail
          refine wp_region_quiet_below (by kernel_rfl) (by kernel_rfl) ?_
          repeat (quiet_step (exact CM.out _ _))
          refine wpQuiet_nil ?_
          intro _ hw'
          obtain ⟨⟨dq, osq⟩, hw''⟩ := hw'
          subst hw''
          have G := Lib.hid (GB.out dq osq)
          clear r0 r1 r2 s0 s1 s2 CM GB
          generalize grow (redrawn w2 dq) osq = w5 at *
          go_wp2
          go_ret
          exact ⟨by rw [R0.out]; rfl, G.out⟩
        · have hzd : decide (z ≥ 0) = false := CB.out
          have hzp : ¬ 0 ≤ z := of_decide_eq_false hzd
          have ON := Lib.hid (ok_on HO.out OK2.out)
          clear HO OK2 CB
          go_wp2_with fail
          refine wp_region_quiet_below (by kernel_rfl) (by kernel_rfl) ?_
          repeat (quiet_step (exact CM.out _ _))
          refine wpQuiet_nil ?_
          intro _ hw'
          obtain ⟨⟨dq, osq⟩, hw''⟩ := hw'
          subst hw''
          have G := Lib.hid (GB.out dq osq)
          clear r0 r1 r2 s0 s1 s2 CM GB
          generalize grow (redrawn w2 dq) osq = w5 at *
          go_wp2
          go_roundw
          case rel => exact ⟨m + 2, by omega, by go_num, G.out, ON.out⟩
          case measure => simp [intOf]; omega
    · obtain rfl : k = N := by omega
      have R0 : Hid (Mat.isList l = true) := Mat.isList_iff.2 ⟨by rw [HN.out]; have := of_decide_eq_false hz; omega, fun j hj => HI.out.2 j (by rw [HN.out] at hj; exact hj)⟩
      have B := Lib.hid HI.out.1
      clear HI
      go_wp2
      go_ret
      exact ⟨by rw [R0.out]; rfl, B.out⟩

set_option maxRecDepth 100000 in
set_option maxHeartbeats 4000000 in
theorem rlist_any (l : List Mat) (A : Option Addr) (N cap : Nat) (w : World) (hN : l.length = N) (hl : N ≤ 1099511627776) (hs : SmallM l) (ha : IsMats w A l) :
    Calls Tryd.prog 19 #[.slice A N cap] w fun e w' => e = .returned (.bool (Mat.isList l)) ∧ Below w.heap.size w w' := by
  by_cases h5 : 5 < N
  · have hz : decide ((N : Int) > 5) = true := decide_eq_true (by omega)
    have R0 : Hid (Mat.isList l = false) := Mat.isList_no fun x => by have := x.1; omega
    go_enter Tryd.func19, Tryd.ntmps19
    go_wp2
    go_ret
    exact ⟨by rw [R0.out]; rfl, Below.refl _ _⟩
  have hz : decide ((N : Int) > 5) = false := decide_eq_false (by omega)
  have HA := Lib.hid ha
  have HS := Lib.hid hs
  have HN := Lib.hid hN
  clear ha hs hN h5
  go_enter Tryd.func19, Tryd.ntmps19
  go_wp2
  go_loopw [3] (fun i wr => ∃ k : Nat, k ≤ N ∧ i = .int .i64 (k : Int) ∧ Hid (Below w.heap.size w wr ∧ ∀ j, j < k → Mat.okAt l j = true)) (fun i _ => N - (intOf i).toNat)
  case atStart => exact ⟨0, by omega, rfl, Below.refl _ _, fun j hj => by omega⟩
  case round =>
    obtain ⟨k, hk, rfl, HI⟩ := hrel
    by_cases hkn : k < N
    · have hk2 : k < l.length := by rw [HN.out]; exact hkn
      have hc' := (HA.out.below HI.out.1) (by omega)
      obtain ⟨b, off, rfl, hc⟩ := hc'
      obtain ⟨c0, c1, c2⟩ := hc k hk2
      have hkz : (k : Int) < (N : Int) := by omega
      have OKN := Lib.hid (fun h => okAt_no (l := l) (k := k) h)
      have BADK := Lib.hid (fun h => Mat.isList_bad (l := l) (k := k) hk2 h)
      have CI := Lib.hid (fun W => ris_any (Mat.nth l k).k (Mat.nth l k).n (Mat.nth l k).v W (HS.out.at hk2).1 (HS.out.at hk2).2)
      have hok : Hid (Mat.ok ⟨(Mat.nth l k).k, (Mat.nth l k).n, (Mat.nth l k).v⟩ = (Mat.nth l k).ok) := rfl
      rw [hok.out] at CI
      obtain ⟨okb, hokb⟩ : ∃ q, (Mat.nth l k).ok = q := ⟨_, rfl⟩
      rw [hokb] at CI
      have HB := Lib.hid HI.out.1
      have HO := Lib.hid HI.out.2
      have GB : Hid (∀ q os, Below w.heap.size w (grow (redrawn wr q) os)) := fun q os => HB.out.trans ((below_regrown wr q os).mono HB.out.size)
      clear HI HB
      rcases k with _ | m
      · -- the first one
        have OK1 := Lib.hid (fun h => okAt_first (l := l) h)
        simp only [Nat.zero_mul, Nat.add_zero] at c0 c1 c2
        have HOK := Lib.hid hokb
        clear hokb hok hc
        generalize (Mat.nth l 0).k = x0 at *
        generalize (Mat.nth l 0).n = x1 at *
        generalize (Mat.nth l 0).v = x2 at *
        have KI : Hid (∀ q os, Calls Tryd.prog 14 #[.agg #[.int .i64 x0, .string x1, .string x2]] (grow (redrawn wr q) os) fun e w'' => e = .returned (.bool okb) ∧ ∃ p : Regrown, w'' = grow (redrawn wr p.d) p.os) :=
          fun q os => Calls.regrown_of (CI.out _)
        replace c0 := cell_regrown c0
        replace c1 := cell_regrown c1
        replace c2 := cell_regrown c2
        clear CI
        cases okb
        · have R0 : Hid (Mat.isList l = false) := BADK.out (OKN.out HOK.out)
          clear HO OK1 HOK
          go_wp2_with fail
          refine wp_region_quiet_below (by kernel_rfl) (by kernel_rfl) ?_
          repeat (go_big_quiet_step (exact KI.out _ _))
          refine wpQuiet_nil ?_
          intro _ hw'
          obtain ⟨⟨dq, osq⟩, hw''⟩ := hw'
          subst hw''
          have G := Lib.hid (GB.out dq osq)
          clear c0 c1 c2 KI GB
          generalize grow (redrawn wr dq) osq = w5 at *
          go_wp2
          go_ret
          exact ⟨by rw [R0.out]; rfl, G.out⟩
        · have ON := Lib.hid (ok_on HO.out (OK1.out HOK.out))
          clear HO OK1 HOK
          go_wp2_with fail
          refine wp_region_quiet_below (by kernel_rfl) (by kernel_rfl) ?_
          repeat (go_big_quiet_step (exact KI.out _ _))
          refine wpQuiet_nil ?_
          intro _ hw'
          obtain ⟨⟨dq, osq⟩, hw''⟩ := hw'
          subst hw''
          have G := Lib.hid (GB.out dq osq)
          clear c0 c1 c2 KI GB
          generalize grow (redrawn wr dq) osq = w5 at *
          go_wp2
          go_roundw
          case rel => exact ⟨1, by omega, by go_num, G.out, ON.out⟩
          case measure => simp [intOf]; omega
      · have hm2 : m < l.length := by omega
        obtain ⟨p0, p1, p2⟩ := hc m hm2
        have hmz : (m : Int) < (N : Int) := by omega
        have hm0 : decide ((m : Int) + 1 > 0) = true := decide_eq_true (by omega)
        have wk : IntKind.i64.wrap (m : Int) = (m : Int) := by rw [IntKind.wrap_i64]; omega
        have OKM := Lib.hid (fun h => okAt_next (l := l) (m := m) h)
        have CC : Hid (∀ W, Calls Tryd.prog 46 #[.agg #[.int .i64 (Mat.nth l m).k, .string (Mat.nth l m).n, .string (Mat.nth l m).v], .agg #[.int .i64 (Mat.nth l (m + 1)).k, .string (Mat.nth l (m + 1)).n, .string (Mat.nth l (m + 1)).v]] W fun e w' => e = .returned (.bool (Mat.bf (Mat.nth l m) (Mat.nth l (m + 1)))) ∧ Below W.heap.size W w') := fun W => rbefore_any (Mat.nth l m).k (Mat.nth l (m + 1)).k (Mat.nth l m).n (Mat.nth l m).v (Mat.nth l (m + 1)).n (Mat.nth l (m + 1)).v W
        obtain ⟨bb, hbb⟩ : ∃ q, Mat.bf (Mat.nth l m) (Mat.nth l (m + 1)) = q := ⟨_, rfl⟩
        rw [hbb] at CC OKM
        have HOK := Lib.hid hokb
        clear hokb hok hc hbb
        generalize (Mat.nth l (m + 1)).k = x0 at *
        generalize (Mat.nth l (m + 1)).n = x1 at *
        generalize (Mat.nth l (m + 1)).v = x2 at *
        generalize (Mat.nth l m).k = y0 at *
        generalize (Mat.nth l m).n = y1 at *
        generalize (Mat.nth l m).v = y2 at *
        have KI : Hid (∀ q os, Calls Tryd.prog 14 #[.agg #[.int .i64 x0, .string x1, .string x2]] (grow (redrawn wr q) os) fun e w'' => e = .returned (.bool okb) ∧ ∃ p : Regrown, w'' = grow (redrawn wr p.d) p.os) :=
          fun q os => Calls.regrown_of (CI.out _)
        have KB : Hid (∀ q os, Calls Tryd.prog 46 #[.agg #[.int .i64 y0, .string y1, .string y2], .agg #[.int .i64 x0, .string x1, .string x2]] (grow (redrawn wr q) os) fun e w'' => e = .returned (.bool bb) ∧ ∃ p : Regrown, w'' = grow (redrawn wr p.d) p.os) :=
          fun q os => Calls.regrown_of (CC.out _)
        replace c0 := cell_regrown c0
        replace c1 := cell_regrown c1
        replace c2 := cell_regrown c2
        replace p0 := cell_regrown p0
        replace p1 := cell_regrown p1
        replace p2 := cell_regrown p2
        clear CI CC
        cases okb
        · have R0 : Hid (Mat.isList l = false) := BADK.out (OKN.out HOK.out)
          clear HO OKM HOK KB
          go_wp2_with fail
          refine wp_region_quiet_below (by kernel_rfl) (by kernel_rfl) ?_
          repeat (go_big_quiet_step (exact KI.out _ _))
          refine wpQuiet_nil ?_
          intro _ hw'
          obtain ⟨⟨dq, osq⟩, hw''⟩ := hw'
          subst hw''
          have G := Lib.hid (GB.out dq osq)
          clear c0 c1 c2 KI GB
          generalize grow (redrawn wr dq) osq = w5 at *
          go_wp2
          go_ret
          exact ⟨by rw [R0.out]; rfl, G.out⟩
        have OK2 := Lib.hid (OKM.out HOK.out)
        clear OKM HOK
        cases bb
        · have R0 : Hid (Mat.isList l = false) := BADK.out OK2.out
          clear HO OK2
          go_wp2_with fail
          refine wp_region_quiet_below (by kernel_rfl) (by kernel_rfl) ?_
          repeat (go_big_quiet_step (first | (go_at_call 14; exact KI.out _ _) | (go_at_call 46; exact KB.out _ _)))
          refine wpQuiet_nil ?_
          intro _ hw'
          obtain ⟨⟨dq, osq⟩, hw''⟩ := hw'
          subst hw''
          have G := Lib.hid (GB.out dq osq)
          clear c0 c1 c2 p0 p1 p2 KI KB GB
          generalize grow (redrawn wr dq) osq = w5 at *
          go_wp2
          go_ret
          exact ⟨by rw [R0.out]; rfl, G.out⟩
        · have ON := Lib.hid (ok_on HO.out OK2.out)
          clear HO OK2
          go_wp2_with fail
          refine wp_region_quiet_below (by kernel_rfl) (by kernel_rfl) ?_
          repeat (go_big_quiet_step (first | (go_at_call 14; exact KI.out _ _) | (go_at_call 46; exact KB.out _ _)))
          refine wpQuiet_nil ?_
          intro _ hw'
          obtain ⟨⟨dq, osq⟩, hw''⟩ := hw'
          subst hw''
          have G := Lib.hid (GB.out dq osq)
          clear c0 c1 c2 p0 p1 p2 KI KB GB
          generalize grow (redrawn wr dq) osq = w5 at *
          go_wp2
          go_roundw
          case rel => exact ⟨m + 2, by omega, by go_num, G.out, ON.out⟩
          case measure => simp [intOf]; omega
    · obtain rfl : k = N := by omega
      have R0 : Hid (Mat.isList l = true) := Mat.isList_iff.2 ⟨by rw [HN.out]; have := of_decide_eq_false hz; omega, fun j hj => HI.out.2 j (by rw [HN.out] at hj; exact hj)⟩
      have B := Lib.hid HI.out.1
      clear HI
      go_wp2
      go_ret
      exact ⟨by rw [R0.out]; rfl, B.out⟩

set_option maxRecDepth 100000 in
set_option maxHeartbeats 4000000 in
theorem manylarge_any (l : List Mat) (A : Option Addr) (N cap : Nat) (w : World) (hN : l.length = N) (hl : N ≤ 1099511627776) (hs : SmallM l) (ha : IsMats w A l) :
    Calls Tryd.prog 20 #[.slice A N cap] w fun e w' => e = .returned (.bool (Mat.anyLarge l)) ∧ Below w.heap.size w w' := by
  have HA := Lib.hid ha
  have HS := Lib.hid hs
  have HN := Lib.hid hN
  clear ha hs hN
  go_enter Tryd.func20, Tryd.ntmps20
  go_wp2
  go_loopw [7] (fun i wr => ∃ k : Nat, k ≤ N ∧ i = .int .i64 (k : Int) ∧ Hid (Below w.heap.size w wr ∧ Mat.anyLarge (l.drop k) = Mat.anyLarge l)) (fun i _ => N - (intOf i).toNat)
  case atStart => exact ⟨0, by omega, rfl, Below.refl _ _, rfl⟩
  case round =>
    obtain ⟨k, hk, rfl, HI⟩ := hrel
    by_cases hkn : k < N
    · have hk2 : k < l.length := by rw [HN.out]; exact hkn
      have hc' := (HA.out.below HI.out.1) (by omega)
      obtain ⟨b, off, rfl, hc⟩ := hc'
      obtain ⟨c0, c1, c2⟩ := hc k hk2
      have hkz : (k : Int) < (N : Int) := by omega
      have B0 : Below w.heap.size w (wr.alloc (.cells #[.int .i64 (Mat.nth l k).k, .string (Mat.nth l k).n, .string (Mat.nth l k).v] 26)) := HI.out.1.alloc HI.out.1.size _
      have ST : Hid (Mat.anyLarge l = ((Mat.nth l k).large || Mat.anyLarge (l.drop (k + 1)))) := by show _ = _; rw [← HI.out.2]; exact Mat.any_step hk2
      have CI : Hid (Calls Tryd.prog 15 #[.agg #[.int .i64 (Mat.nth l k).k, .string (Mat.nth l k).n, .string (Mat.nth l k).v]] (wr.alloc (.cells #[.int .i64 (Mat.nth l k).k, .string (Mat.nth l k).n, .string (Mat.nth l k).v] 26)) fun e w' => e = .returned (.bool (Mat.nth l k).large) ∧ Below (wr.alloc (.cells #[.int .i64 (Mat.nth l k).k, .string (Mat.nth l k).n, .string (Mat.nth l k).v] 26)).heap.size (wr.alloc (.cells #[.int .i64 (Mat.nth l k).k, .string (Mat.nth l k).n, .string (Mat.nth l k).v] 26)) w') := mlarge_any _ _ _ _ (HS.out.at hk2).1 (HS.out.at hk2).2
      have HB := Lib.hid B0
      obtain ⟨q, hq⟩ : ∃ q, (Mat.nth l k).large = q := ⟨_, rfl⟩
      rw [hq] at CI ST
      clear HI B0 hc hq
      generalize (Mat.nth l k).k = x0 at *
      generalize (Mat.nth l k).n = x1 at *
      generalize (Mat.nth l k).v = x2 at *
      go_wp2_with fail
      generalize wr.alloc (.cells #[.int .i64 x0, .string x1, .string x2] 26) = w1 at *
      refine CI.out.mono ?_
      rintro e w2 ⟨rfl, b2⟩
      have B2 := Lib.hid (HB.out.trans (b2.mono HB.out.size))
      clear b2 CI HB c0 c1 c2
      cases q
      · have R : Hid (Mat.anyLarge (l.drop (k + 1)) = Mat.anyLarge l) := by show _ = _; rw [ST.out]; rfl
        clear ST
        go_wp2
        go_roundw
        case rel => exact ⟨k + 1, by omega, by go_num, B2.out, R.out⟩
        case measure => simp [intOf]; omega
      · have R0 : Hid (Mat.anyLarge l = true) := by show _ = _; rw [ST.out]; rfl
        clear ST
        go_wp2
        go_ret
        exact ⟨by rw [R0.out]; rfl, B2.out⟩
    · obtain rfl : k = N := by omega
      have R0 : Hid (Mat.anyLarge l = false) := by show _ = _; rw [← HI.out.2]; exact Mat.any_end (by rw [HN.out]; omega)
      have B := Lib.hid HI.out.1
      clear HI
      go_wp2
      go_ret
      exact ⟨by rw [R0.out]; rfl, B.out⟩

set_option maxRecDepth 100000 in
set_option maxHeartbeats 4000000 in
theorem ranylarge_any (l : List Mat) (A : Option Addr) (N cap : Nat) (w : World) (hN : l.length = N) (hl : N ≤ 1099511627776) (hs : SmallM l) (ha : IsMats w A l) :
    Calls Tryd.prog 21 #[.slice A N cap] w fun e w' => e = .returned (.bool (Mat.anyLarge l)) ∧ Below w.heap.size w w' := by
  have HA := Lib.hid ha
  have HS := Lib.hid hs
  have HN := Lib.hid hN
  clear ha hs hN
  go_enter Tryd.func21, Tryd.ntmps21
  go_wp2
  go_loopw [3] (fun i wr => ∃ k : Nat, k ≤ N ∧ i = .int .i64 (k : Int) ∧ Hid (Below w.heap.size w wr ∧ Mat.anyLarge (l.drop k) = Mat.anyLarge l)) (fun i _ => N - (intOf i).toNat)
  case atStart => exact ⟨0, by omega, rfl, Below.refl _ _, rfl⟩
  case round =>
    obtain ⟨k, hk, rfl, HI⟩ := hrel
    by_cases hkn : k < N
    · have hk2 : k < l.length := by rw [HN.out]; exact hkn
      have hc' := (HA.out.below HI.out.1) (by omega)
      obtain ⟨b, off, rfl, hc⟩ := hc'
      obtain ⟨c0, c1, c2⟩ := hc k hk2
      have hkz : (k : Int) < (N : Int) := by omega
      have B0 : Below w.heap.size w wr := HI.out.1
      have ST : Hid (Mat.anyLarge l = ((Mat.nth l k).large || Mat.anyLarge (l.drop (k + 1)))) := by show _ = _; rw [← HI.out.2]; exact Mat.any_step hk2
      have CI : Hid (Calls Tryd.prog 16 #[.agg #[.int .i64 (Mat.nth l k).k, .string (Mat.nth l k).n, .string (Mat.nth l k).v]] (wr) fun e w' => e = .returned (.bool (Mat.nth l k).large) ∧ Below (wr).heap.size (wr) w') := rlarge_any _ _ _ _ (HS.out.at hk2).1 (HS.out.at hk2).2
      have HB := Lib.hid B0
      obtain ⟨q, hq⟩ : ∃ q, (Mat.nth l k).large = q := ⟨_, rfl⟩
      rw [hq] at CI ST
      clear HI B0 hc hq
      generalize (Mat.nth l k).k = x0 at *
      generalize (Mat.nth l k).n = x1 at *
      generalize (Mat.nth l k).v = x2 at *
      go_wp2_with fail
      refine CI.out.mono ?_
      rintro e w2 ⟨rfl, b2⟩
      have B2 := Lib.hid (HB.out.trans (b2.mono HB.out.size))
      clear b2 CI HB c0 c1 c2
      cases q
      · have R : Hid (Mat.anyLarge (l.drop (k + 1)) = Mat.anyLarge l) := by show _ = _; rw [ST.out]; rfl
        clear ST
        go_wp2
        go_roundw
        case rel => exact ⟨k + 1, by omega, by go_num, B2.out, R.out⟩
        case measure => simp [intOf]; omega
      · have R0 : Hid (Mat.anyLarge l = true) := by show _ = _; rw [ST.out]; rfl
        clear ST
        go_wp2
        go_ret
        exact ⟨by rw [R0.out]; rfl, B2.out⟩
    · obtain rfl : k = N := by omega
      have R0 : Hid (Mat.anyLarge l = false) := by show _ = _; rw [← HI.out.2]; exact Mat.any_end (by rw [HN.out]; omega)
      have B := Lib.hid HI.out.1
      clear HI
      go_wp2
      go_ret
      exact ⟨by rw [R0.out]; rfl, B.out⟩

set_option maxRecDepth 100000 in
set_option maxHeartbeats 4000000 in
theorem mall_any (l : List Mat) (A : Option Addr) (N cap : Nat) (ls : List La.Lab) (B : Option Addr) (M cb : Nat) (w : World) (hN : l.length = N) (hl : N ≤ 1099511627776) (hs : SmallM l) (ha : IsMats w A l) (hM : ls.length = M) (hM1 : M ≤ 1000) (hls : ∀ x ∈ ls, x.2.size ≤ 1000) (hB : IsLabs w B ls) (hT : DTab w) :
    Calls Tryd.prog 22 #[.slice A N cap, .slice B M cb] w fun e w' => e = .returned (.bool (Mat.allHold l ls)) ∧ Below w.heap.size w w' := by
  have CH := Lib.hid (fun k n v W (h1 : n.size ≤ 1000) (h2 : v.size ≤ 1000) (hW : Below w.heap.size w W) => mholds_any k n v ls B M cb W h1 h2 hM hM1 hls (hB.below hW) (hT.below hW))
  clear hls hB hT hM hM1
  have HA := Lib.hid ha
  have HS := Lib.hid hs
  have HN := Lib.hid hN
  clear ha hs hN
  go_enter Tryd.func22, Tryd.ntmps22
  go_wp2
  go_loopw [9] (fun i wr => ∃ k : Nat, k ≤ N ∧ i = .int .i64 (k : Int) ∧ Hid (Below w.heap.size w wr ∧ Mat.allHold (l.drop k) ls = Mat.allHold l ls)) (fun i _ => N - (intOf i).toNat)
  case atStart => exact ⟨0, by omega, rfl, Below.refl _ _, rfl⟩
  case round =>
    obtain ⟨k, hk, rfl, HI⟩ := hrel
    by_cases hkn : k < N
    · have hk2 : k < l.length := by rw [HN.out]; exact hkn
      have hc' := (HA.out.below HI.out.1) (by omega)
      obtain ⟨b, off, rfl, hc⟩ := hc'
      obtain ⟨c0, c1, c2⟩ := hc k hk2
      have hkz : (k : Int) < (N : Int) := by omega
      have B0 : Below w.heap.size w (wr.alloc (.cells #[.int .i64 (Mat.nth l k).k, .string (Mat.nth l k).n, .string (Mat.nth l k).v] 26)) := HI.out.1.alloc HI.out.1.size _
      have ST : Hid (Mat.allHold l ls = ((Mat.nth l k).holds ls && Mat.allHold (l.drop (k + 1)) ls)) := by show _ = _; rw [← HI.out.2]; exact Mat.all_step (ls := ls) hk2
      have CI : Hid (Calls Tryd.prog 11 #[.agg #[.int .i64 (Mat.nth l k).k, .string (Mat.nth l k).n, .string (Mat.nth l k).v], .slice B M cb] (wr.alloc (.cells #[.int .i64 (Mat.nth l k).k, .string (Mat.nth l k).n, .string (Mat.nth l k).v] 26)) fun e w' => e = .returned (.bool ((Mat.nth l k).holds ls)) ∧ Below (wr.alloc (.cells #[.int .i64 (Mat.nth l k).k, .string (Mat.nth l k).n, .string (Mat.nth l k).v] 26)).heap.size (wr.alloc (.cells #[.int .i64 (Mat.nth l k).k, .string (Mat.nth l k).n, .string (Mat.nth l k).v] 26)) w') := CH.out _ _ _ _ (HS.out.at hk2).1 (HS.out.at hk2).2 B0
      have HB := Lib.hid B0
      obtain ⟨q, hq⟩ : ∃ q, (Mat.nth l k).holds ls = q := ⟨_, rfl⟩
      rw [hq] at CI ST
      clear HI B0 hc hq
      generalize (Mat.nth l k).k = x0 at *
      generalize (Mat.nth l k).n = x1 at *
      generalize (Mat.nth l k).v = x2 at *
      go_wp2_with fail
      generalize wr.alloc (.cells #[.int .i64 x0, .string x1, .string x2] 26) = w1 at *
      refine CI.out.mono ?_
      rintro e w2 ⟨rfl, b2⟩
      have B2 := Lib.hid (HB.out.trans (b2.mono HB.out.size))
      clear b2 CI HB c0 c1 c2
      cases q
      · have R0 : Hid (Mat.allHold l ls = false) := by show _ = _; rw [ST.out]; rfl
        clear ST
        go_wp2
        go_ret
        exact ⟨by rw [R0.out]; rfl, B2.out⟩
      · have R : Hid (Mat.allHold (l.drop (k + 1)) ls = Mat.allHold l ls) := by show _ = _; rw [ST.out]; rfl
        clear ST
        go_wp2
        go_roundw
        case rel => exact ⟨k + 1, by omega, by go_num, B2.out, R.out⟩
        case measure => simp [intOf]; omega
    · obtain rfl : k = N := by omega
      have R0 : Hid (Mat.allHold l ls = true) := by show _ = _; rw [← HI.out.2]; exact Mat.all_end (by rw [HN.out]; omega)
      have B := Lib.hid HI.out.1
      clear HI
      go_wp2
      go_ret
      exact ⟨by rw [R0.out]; rfl, B.out⟩

set_option maxRecDepth 100000 in
set_option maxHeartbeats 4000000 in
theorem rall_any (l : List Mat) (A : Option Addr) (N cap : Nat) (ls : List La.Lab) (B : Option Addr) (M cb : Nat) (w : World) (hN : l.length = N) (hl : N ≤ 1099511627776) (hs : SmallM l) (ha : IsMats w A l) (hM : ls.length = M) (hM1 : M ≤ 1000) (hls : ∀ x ∈ ls, x.2.size ≤ 100) (hB : IsLabs w B ls) :
    Calls Tryd.prog 23 #[.slice A N cap, .slice B M cb] w fun e w' => e = .returned (.bool (Mat.allHold l ls)) ∧ Below w.heap.size w w' := by
  have CH := Lib.hid (fun k n v W (h1 : n.size ≤ 1000) (h2 : v.size ≤ 1000) (hW : Below w.heap.size w W) => rholds_any k n v ls B M cb W h1 h2 hM hM1 hls (hB.below hW))
  clear hls hB hM hM1
  have HA := Lib.hid ha
  have HS := Lib.hid hs
  have HN := Lib.hid hN
  clear ha hs hN
  go_enter Tryd.func23, Tryd.ntmps23
  go_wp2
  go_loopw [5] (fun i wr => ∃ k : Nat, k ≤ N ∧ i = .int .i64 (k : Int) ∧ Hid (Below w.heap.size w wr ∧ Mat.allHold (l.drop k) ls = Mat.allHold l ls)) (fun i _ => N - (intOf i).toNat)
  case atStart => exact ⟨0, by omega, rfl, Below.refl _ _, rfl⟩
  case round =>
    obtain ⟨k, hk, rfl, HI⟩ := hrel
    by_cases hkn : k < N
    · have hk2 : k < l.length := by rw [HN.out]; exact hkn
      have hc' := (HA.out.below HI.out.1) (by omega)
      obtain ⟨b, off, rfl, hc⟩ := hc'
      obtain ⟨c0, c1, c2⟩ := hc k hk2
      have hkz : (k : Int) < (N : Int) := by omega
      have B0 : Below w.heap.size w wr := HI.out.1
      have ST : Hid (Mat.allHold l ls = ((Mat.nth l k).holds ls && Mat.allHold (l.drop (k + 1)) ls)) := by show _ = _; rw [← HI.out.2]; exact Mat.all_step (ls := ls) hk2
      have CI : Hid (Calls Tryd.prog 17 #[.agg #[.int .i64 (Mat.nth l k).k, .string (Mat.nth l k).n, .string (Mat.nth l k).v], .slice B M cb] (wr) fun e w' => e = .returned (.bool ((Mat.nth l k).holds ls)) ∧ Below (wr).heap.size (wr) w') := CH.out _ _ _ _ (HS.out.at hk2).1 (HS.out.at hk2).2 B0
      have HB := Lib.hid B0
      obtain ⟨q, hq⟩ : ∃ q, (Mat.nth l k).holds ls = q := ⟨_, rfl⟩
      rw [hq] at CI ST
      clear HI B0 hc hq
      generalize (Mat.nth l k).k = x0 at *
      generalize (Mat.nth l k).n = x1 at *
      generalize (Mat.nth l k).v = x2 at *
      go_wp2_with fail
      refine CI.out.mono ?_
      rintro e w2 ⟨rfl, b2⟩
      have B2 := Lib.hid (HB.out.trans (b2.mono HB.out.size))
      clear b2 CI HB c0 c1 c2
      cases q
      · have R0 : Hid (Mat.allHold l ls = false) := by show _ = _; rw [ST.out]; rfl
        clear ST
        go_wp2
        go_ret
        exact ⟨by rw [R0.out]; rfl, B2.out⟩
      · have R : Hid (Mat.allHold (l.drop (k + 1)) ls = Mat.allHold l ls) := by show _ = _; rw [ST.out]; rfl
        clear ST
        go_wp2
        go_roundw
        case rel => exact ⟨k + 1, by omega, by go_num, B2.out, R.out⟩
        case measure => simp [intOf]; omega
    · obtain rfl : k = N := by omega
      have R0 : Hid (Mat.allHold l ls = true) := by show _ = _; rw [← HI.out.2]; exact Mat.all_end (by rw [HN.out]; omega)
      have B := Lib.hid HI.out.1
      clear HI
      go_wp2
      go_ret
      exact ⟨by rw [R0.out]; rfl, B.out⟩
end Go.Proofs.YtjmojjjgifkkiaaDoor
