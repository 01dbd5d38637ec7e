/-
  What the program's order of rows and the library's search do. Conditions: lengths fit.
-/
import Derived.Test.YtlbhiiciajfphaaBb
import Derived.Deep.LoopGhost
import Derived.BigQuiet
import Derived.Lib.QuietBelow
import Derived.StillTailTactics
import Derived.Deep.Cut
namespace Go.Proofs.Ytlbhiiciajfphaa
open Go.RowKit Go.Sort

/-- A row's cells in the program. -/
def pc (r : Rw) : List Value := [.int .u64 r.1, .int .i64 r.2]
theorem pc2 (r : Rw) : (pc r).length = 2 := rfl
/-- A row as a value. -/
def pv (r : Rw) : Value := .agg #[.int .u64 r.1, .int .i64 r.2]
/-- The first of some numbers that is not nought. -/
def orL : List Int → Int
  | [] => 0
  | x :: r => if x = 0 then orL r else x
theorem orL_end {l : List Int} {k : Nat} (h : l.length ≤ k) : orL (l.drop k) = 0 := by rw [List.drop_of_length_le h]; rfl
theorem orL_step {l : List Int} {k : Nat} (h : k < l.length) : orL (l.drop k) = if l.getD k 0 = 0 then orL (l.drop (k + 1)) else l.getD k 0 := by
  have e : l.getD k 0 = l[k] := by simp [List.getD, List.getElem?_eq_getElem h]
  rw [List.drop_eq_getElem_cons h, e]; rfl
/-- Which of two numbers stands first. -/
def cmpI (x y : Int) : Int := if x < y then -1 else if y < x then 1 else 0
/-- Which of two rows stands first, as a number. -/
def cmpR (a b : Rw) : Int := orL [cmpI a.1 b.1, cmpI a.2 b.2]
theorem cmpR_lt (a b : Rw) : decide (cmpR a b < 0) = Qu.lt a b := by
  unfold Qu.lt
  refine decide_eq_decide.2 ?_
  unfold cmpR cmpI orL orL orL
  repeat' split
  all_goals omega

set_option maxRecDepth 100000 in
set_option maxHeartbeats 4000000 in
theorem or_any (zs : List Int) (b N cap : Nat) (w : World) (hN : zs.length = N) (hb : N ≤ 1000) (hc : ∀ j, j < N → w.cell? ⟨b, j, none⟩ = some (.int .i64 (zs.getD j 0))) :
    Calls Try.prog 27 #[.slice (some ⟨b, 0, none⟩) N cap] w fun e w' => e = .returned (.int .i64 (orL zs)) ∧ w' = w := by
  have HC := Lib.hid hc
  have OE := Lib.hid (fun k (h : N ≤ k) => orL_end (l := zs) (k := k) (by omega))
  have OS := Lib.hid (fun k (h : k < N) => orL_step (l := zs) (k := k) (by omega))
  clear hc hN
  go_enter Try.func27, Try.ntmps27
  go_wp2
  go_loop [8] (fun i => ∃ k : Nat, k ≤ N ∧ i = .int .i64 (k : Int) ∧ Hid (orL (zs.drop k) = orL zs)) (fun i => N - (intOf i).toNat)
  case atStart => exact ⟨0, by omega, rfl, rfl⟩
  case round =>
    obtain ⟨k, hk, rfl, HI⟩ := hrel
    by_cases hkn : k < N
    · have c0 := HC.out k hkn
      have hkz : (k : Int) < (N : Int) := by omega
      have OK := Lib.hid (OS.out k hkn)
      generalize zs.getD k 0 = x at *
      by_cases hx : x = 0
      · subst hx
        have R : Hid (orL (zs.drop (k + 1)) = orL zs) := by show _ = _; rw [← HI.out, OK.out, if_pos rfl]
        clear OK HI
        go_wp2
        go_round
        case rel => exact ⟨k + 1, by omega, by go_num, R.out⟩
        case measure => simp [intOf]; omega
      · have R : Hid (orL zs = x) := by show _ = _; rw [← HI.out, OK.out, if_neg hx]
        have p0 : (x != 0) = true := by simpa using hx
        clear OK HI
        go_wp2
        go_ret
        exact ⟨by rw [R.out]; rfl, rfl⟩
    · obtain rfl : k = N := by omega
      have R : Hid (orL zs = 0) := by show _ = _; rw [← HI.out]; exact OE.out k (Nat.le_refl _)
      clear HI
      go_wp2
      go_ret
      exact ⟨by rw [R.out]; rfl, rfl⟩

set_option maxRecDepth 100000 in
theorem nanu_any (x : Int) (w : World) : Calls Try.prog 34 #[.int .u64 x] w fun e w' => e = .returned (.bool false) ∧ w' = w := by
  go_enter Try.func34, Try.ntmps34
  go_wp2
  go_ret
  exact ⟨by simp, rfl⟩
set_option maxRecDepth 100000 in
set_option maxHeartbeats 4000000 in
theorem cmpu_any (x y : Int) (w : World) : Calls Try.prog 28 #[.int .u64 x, .int .u64 y] w fun e w' => e = .returned (.int .i64 (cmpI x y)) ∧ w' = w := by
  have NN := Lib.hid (fun z W => nanu_any z W)
  have R : Hid (cmpI x y = if x < y then -1 else if y < x then 1 else 0) := rfl
  go_enter Try.func28, Try.ntmps28
  go_wp2_with fail
  refine (NN.out _ _).mono ?_
  rintro e w1 ⟨rfl, rfl⟩
  go_wp2_with fail
  refine (NN.out _ _).mono ?_
  rintro e w1 ⟨rfl, rfl⟩
  by_cases h1 : x < y
  · have R0 : Hid (cmpI x y = -1) := by show _ = _; rw [R.out, if_pos h1]
    clear R
    go_wp2
    go_ret
    exact ⟨by rw [R0.out]; rfl, rfl⟩
  · by_cases h2 : y < x
    · have R0 : Hid (cmpI x y = 1) := by show _ = _; rw [R.out, if_neg h1, if_pos h2]
      have d1 : decide (x < y) = false := decide_eq_false h1
      have d2 : decide (x > y) = true := decide_eq_true h2
      clear R
      go_wp2
      go_ret
      exact ⟨by rw [R0.out]; rfl, rfl⟩
    · have R0 : Hid (cmpI x y = 0) := by show _ = _; rw [R.out, if_neg h1, if_neg h2]
      have d1 : decide (x < y) = false := decide_eq_false h1
      have d2 : decide (x > y) = false := decide_eq_false h2
      clear R
      go_wp2
      go_ret
      exact ⟨by rw [R0.out]; rfl, rfl⟩
set_option maxRecDepth 100000 in
theorem nanz_any (x : Int) (w : World) : Calls Try.prog 35 #[.int .i64 x] w fun e w' => e = .returned (.bool false) ∧ w' = w := by
  go_enter Try.func35, Try.ntmps35
  go_wp2
  go_ret
  exact ⟨by simp, rfl⟩
set_option maxRecDepth 100000 in
set_option maxHeartbeats 4000000 in
theorem cmpz_any (x y : Int) (w : World) : Calls Try.prog 29 #[.int .i64 x, .int .i64 y] w fun e w' => e = .returned (.int .i64 (cmpI x y)) ∧ w' = w := by
  have NN := Lib.hid (fun z W => nanz_any z W)
  have R : Hid (cmpI x y = if x < y then -1 else if y < x then 1 else 0) := rfl
  go_enter Try.func29, Try.ntmps29
  go_wp2_with fail
  refine (NN.out _ _).mono ?_
  rintro e w1 ⟨rfl, rfl⟩
  go_wp2_with fail
  refine (NN.out _ _).mono ?_
  rintro e w1 ⟨rfl, rfl⟩
  by_cases h1 : x < y
  · have R0 : Hid (cmpI x y = -1) := by show _ = _; rw [R.out, if_pos h1]
    clear R
    go_wp2
    go_ret
    exact ⟨by rw [R0.out]; rfl, rfl⟩
  · by_cases h2 : y < x
    · have R0 : Hid (cmpI x y = 1) := by show _ = _; rw [R.out, if_neg h1, if_pos h2]
      have d1 : decide (x < y) = false := decide_eq_false h1
      have d2 : decide (x > y) = true := decide_eq_true h2
      clear R
      go_wp2
      go_ret
      exact ⟨by rw [R0.out]; rfl, rfl⟩
    · have R0 : Hid (cmpI x y = 0) := by show _ = _; rw [R.out, if_neg h1, if_neg h2]
      have d1 : decide (x < y) = false := decide_eq_false h1
      have d2 : decide (x > y) = false := decide_eq_false h2
      clear R
      go_wp2
      go_ret
      exact ⟨by rw [R0.out]; rfl, rfl⟩
theorem two_below (w : World) (a b : Obj) : Below w.heap.size w ((w.alloc a).alloc b) := ((Below.refl _ _).alloc (Nat.le_refl _) a).alloc (by simp) b
theorem box2 {w W : World} {v0 v1 : Value} {ty : TypeId} (h : Below (w.heap.size + 1) (w.alloc (.cells #[v0, v1] ty)) W) :
    W.cell? ⟨w.heap.size, 0, none⟩ = some v0 ∧ W.cell? ⟨w.heap.size, 1, none⟩ = some v1 := by
  have e2 : W.heap[w.heap.size]? = some (.cells #[v0, v1] ty (0, 0)) := (h.block w.heap.size (by simp)).trans Array.getElem?_push_size
  constructor <;> (rw [cell_of_row _ w.heap.size _ _ ty (0, 0) e2]; rfl)
theorem box22 {w : World} {u0 u1 v0 v1 : Value} {tu tv : TypeId} :
    (((w.alloc (.cells #[u0, u1] tu)).alloc (.cells #[v0, v1] tv)).cell? ⟨w.heap.size, 0, none⟩ = some u0 ∧ ((w.alloc (.cells #[u0, u1] tu)).alloc (.cells #[v0, v1] tv)).cell? ⟨w.heap.size, 1, none⟩ = some u1)
    ∧ (((w.alloc (.cells #[u0, u1] tu)).alloc (.cells #[v0, v1] tv)).cell? ⟨w.heap.size + 1, 0, none⟩ = some v0 ∧ ((w.alloc (.cells #[u0, u1] tu)).alloc (.cells #[v0, v1] tv)).cell? ⟨w.heap.size + 1, 1, none⟩ = some v1) := by
  have b2 : Below (w.alloc (.cells #[u0, u1] tu)).heap.size (w.alloc (.cells #[u0, u1] tu)) ((w.alloc (.cells #[u0, u1] tu)).alloc (.cells #[v0, v1] tv)) := (Below.refl _ _).alloc (Nat.le_refl _) _
  have e1 := box2 (w := w) (v0 := u0) (v1 := u1) (ty := tu) (b2.mono (by simp))
  have e2 := box2 (w := w.alloc (.cells #[u0, u1] tu)) (v0 := v0) (v1 := v1) (ty := tv) (Below.refl _ _)
  have es : (w.alloc (.cells #[u0, u1] tu)).heap.size = w.heap.size + 1 := by simp
  rw [es] at e2
  exact ⟨e1, e2⟩
set_option maxRecDepth 100000 in
set_option maxHeartbeats 4000000 in
theorem order_any (r s : Rw) (w : World) : Calls Try.prog 20 #[pv r, pv s] w fun e w' => e = .returned (.int .i64 (cmpR r s)) ∧ Below w.heap.size w w' := by
  obtain ⟨r1, r2⟩ := r
  obtain ⟨s1, s2⟩ := s
  unfold pv
  have B0 : Hid (Below w.heap.size w ((w.alloc (.cells #[.int .u64 r1, .int .i64 r2] 56)).alloc (.cells #[.int .u64 s1, .int .i64 s2] 56))) := two_below w _ _
  obtain ⟨⟨c0, c1⟩, d0, d1⟩ := box22 (w := w) (u0 := .int .u64 r1) (u1 := .int .i64 r2) (v0 := .int .u64 s1) (v1 := .int .i64 s2) (tu := 56) (tv := 56)
  have C1 := Lib.hid (fun W => cmpu_any r1 s1 W)
  have C2 := Lib.hid (fun W => cmpz_any r2 s2 W)
  have R : Hid (cmpR (r1, r2) (s1, s2) = orL [cmpI r1 s1, cmpI r2 s2]) := rfl
  generalize cmpI r1 s1 = x1 at *
  generalize cmpI r2 s2 = x2 at *
  generalize cmpR (r1, r2) (s1, s2) = x3 at *
  go_enter Try.func20, Try.ntmps20
  go_upto_region 1 with fail
  generalize (w.alloc (.cells #[.int .u64 r1, .int .i64 r2] 56)).alloc (.cells #[.int .u64 s1, .int .i64 s2] 56) = w2 at *
  go_still_tail 10, (by kernel_rfl)
  still_call (C1.out _)
  repeat still_step
  still_call (C2.out _)
  repeat still_step
  refine wpStill_nil ?_
  change wpList _ _ _ _ _ (w2.drew)
  replace B0 := Lib.hid (B0.out.drew)
  clear c0 c1 d0 d1 C1 C2
  generalize w2.drew = w3 at *
  go_wp2_with fail
  have c := box2 (w := w3) (v0 := .int .i64 x1) (v1 := .int .i64 x2) (ty := 3) (Below.refl _ _)
  refine (or_any [x1, x2] w3.heap.size 2 2 _ rfl (by omega) ?_).mono ?_
  · intro j hj
    obtain ⟨c0, c1⟩ := c
    rcases (by omega : j = 0 ∨ j = 1) with rfl | rfl
    · exact c0
    · exact c1
  rintro e w4 ⟨rfl, rfl⟩
  have B := Lib.hid (B0.out.alloc B0.out.size (.cells #[.int .i64 x1, .int .i64 x2] 3))
  clear c
  go_wp2
  go_ret
  exact ⟨by rw [R.out]; rfl, B.out⟩
end Go.Proofs.Ytlbhiiciajfphaa
