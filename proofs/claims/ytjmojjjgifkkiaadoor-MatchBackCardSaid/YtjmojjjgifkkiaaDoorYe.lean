/-
  What compare, before and ahead tell of two matchers; what cmp.Or and cmp.Compare do. No conditions beside a row's length.
-/
import Derived.Test.YtjmojjjgifkkiaaDoorYb
import Derived.Test.YtjmojjjgifkkiaaDoorZ29
import Derived.Lib.QuietBelow
import Derived.StillTailTactics
namespace Go.Proofs.YtjmojjjgifkkiaaDoor
open Go.RowKit Go.Sort

theorem cb_zero : ∀ {a b : List UInt8}, Lib.compareBytes a b = 0 → a = b
  | [], [], _ => rfl
  | [], _ :: _, h => by simp [Lib.compareBytes] at h
  | _ :: _, [], h => by simp [Lib.compareBytes] at h
  | a :: x, b :: y, h => by
    rw [Lib.compareBytes] at h
    by_cases h1 : a < b
    · rw [if_pos h1] at h; cases h
    · rw [if_neg h1] at h
      by_cases h2 : b < a
      · rw [if_pos h2] at h; cases h
      · rw [if_neg h2] at h
        have e : a = b := UInt8.le_antisymm (UInt8.not_lt.1 h2) (UInt8.not_lt.1 h1)
        rw [e, cb_zero h]
theorem cb_self : ∀ a : List UInt8, Lib.compareBytes a a = 0
  | [] => rfl
  | a :: x => by rw [Lib.compareBytes, if_neg (UInt8.lt_irrefl _), if_neg (UInt8.lt_irrefl _), cb_self x]
theorem cmpS_zero {a b : ByteArray} : cmpS a b = 0 ↔ a = b := by
  constructor
  · intro h
    have := cb_zero h
    exact WideShapes.bytes_inj this
  · rintro rfl; exact cb_self _
/-- The first of some numbers that is not nought. -/
def orL : List Int → Int
  | [] => 0
  | x :: r => if x = 0 then orL r else x
theorem orL_end {l : List Int} {k : Nat} (h : l.length ≤ k) : orL (l.drop k) = 0 := by rw [List.drop_of_length_le h]; rfl
theorem orL_step {l : List Int} {k : Nat} (h : k < l.length) : orL (l.drop k) = if l.getD k 0 = 0 then orL (l.drop (k + 1)) else l.getD k 0 := by
  have e : l.getD k 0 = l[k] := by simp [List.getD, List.getElem?_eq_getElem h]
  rw [List.drop_eq_getElem_cons h, e]; rfl
/-- Which of two numbers stands first. -/
def cmpI (x y : Int) : Int := if x < y then -1 else if y < x then 1 else 0
/-- Which of two matchers stands first, as a number. -/
def cmpM (a b : Mat) : Int := orL [cmpS a.n b.n, cmpI a.k b.k, cmpS a.v b.v]
theorem cmpM_bf (a b : Mat) : decide (cmpM a b ≥ 0) = !Mat.bf a b := by
  have e0 : cmpM a b = if cmpS a.n b.n = 0 then (if cmpI a.k b.k = 0 then (if cmpS a.v b.v = 0 then 0 else cmpS a.v b.v) else cmpI a.k b.k) else cmpS a.n b.n := rfl
  rw [e0]
  unfold Mat.bf
  by_cases h1 : a.n = b.n
  · rw [if_pos (cmpS_zero.2 h1), if_pos (La.beq_iff.2 h1)]
    by_cases h2 : a.k = b.k
    · have e : cmpI a.k b.k = 0 := by unfold cmpI; rw [if_neg (by omega), if_neg (by omega)]
      rw [if_pos e, if_pos h2]
      by_cases h3 : cmpS a.v b.v = 0
      · rw [if_pos h3, cmpS_zero.1 h3, La.lt_irrefl]; rfl
      · rw [if_neg h3, ← cmpS_lt, ← decide_not]
        exact decide_eq_decide.2 (by omega)
    · have e : ¬ cmpI a.k b.k = 0 := by unfold cmpI; split <;> (try split) <;> omega
      rw [if_neg e, if_neg h2, ← decide_not]
      refine decide_eq_decide.2 ?_
      unfold cmpI; split <;> (try split) <;> omega
  · rw [if_neg (fun h => h1 (cmpS_zero.1 h)), if_neg (fun h => h1 (La.beq_iff.1 h)), ← cmpS_lt, ← decide_not]
    exact decide_eq_decide.2 (by omega)

set_option maxRecDepth 100000 in
set_option maxHeartbeats 4000000 in
theorem or_any (zs : List Int) (b N cap : Nat) (w : World) (hN : zs.length = N) (hb : N ≤ 1000) (hc : ∀ j, j < N → w.cell? ⟨b, j, none⟩ = some (.int .i64 (zs.getD j 0))) :
    Calls Tryd.prog 74 #[.slice (some ⟨b, 0, none⟩) N cap] w fun e w' => e = .returned (.int .i64 (orL zs)) ∧ w' = w := by
  have HC := Lib.hid hc
  have OE := Lib.hid (fun k (h : N ≤ k) => orL_end (l := zs) (k := k) (by omega))
  have OS := Lib.hid (fun k (h : k < N) => orL_step (l := zs) (k := k) (by omega))
  clear hc hN
  go_enter Tryd.func74, Tryd.ntmps74
  go_wp2
  go_loop [8] (fun i => ∃ k : Nat, k ≤ N ∧ i = .int .i64 (k : Int) ∧ Hid (orL (zs.drop k) = orL zs)) (fun i => N - (intOf i).toNat)
  case atStart => exact ⟨0, by omega, rfl, rfl⟩
  case round =>
    obtain ⟨k, hk, rfl, HI⟩ := hrel
    by_cases hkn : k < N
    · have c0 := HC.out k hkn
      have hkz : (k : Int) < (N : Int) := by omega
      have OK := Lib.hid (OS.out k hkn)
      generalize zs.getD k 0 = x at *
      by_cases hx : x = 0
      · subst hx
        have R : Hid (orL (zs.drop (k + 1)) = orL zs) := by show _ = _; rw [← HI.out, OK.out, if_pos rfl]
        clear OK HI
        go_wp2
        go_round
        case rel => exact ⟨k + 1, by omega, by go_num, R.out⟩
        case measure => simp [intOf]; omega
      · have R : Hid (orL zs = x) := by show _ = _; rw [← HI.out, OK.out, if_neg hx]
        have p0 : (x != 0) = true := by simpa using hx
        clear OK HI
        go_wp2
        go_ret
        exact ⟨by rw [R.out]; rfl, rfl⟩
    · obtain rfl : k = N := by omega
      have R : Hid (orL zs = 0) := by show _ = _; rw [← HI.out]; exact OE.out k (Nat.le_refl _)
      clear HI
      go_wp2
      go_ret
      exact ⟨by rw [R.out]; rfl, rfl⟩

set_option maxRecDepth 100000 in
set_option maxHeartbeats 4000000 in
theorem isnan_any (x : Int) (w : World) : Calls Tryd.prog 93 #[.int .i64 x] w fun e w' => e = .returned (.bool false) ∧ w' = w := by
  go_enter Tryd.func93, Tryd.ntmps93
  go_wp2
  go_ret
  exact ⟨by simp, rfl⟩
set_option maxRecDepth 100000 in
set_option maxHeartbeats 4000000 in
theorem cmpi_any (x y : Int) (w : World) : Calls Tryd.prog 76 #[.int .i64 x, .int .i64 y] w fun e w' => e = .returned (.int .i64 (cmpI x y)) ∧ w' = w := by
  have NN := Lib.hid (fun z W => isnan_any z W)
  have R : Hid (cmpI x y = if x < y then -1 else if y < x then 1 else 0) := rfl
  go_enter Tryd.func76, Tryd.ntmps76
  go_wp2_with fail
  refine (NN.out _ _).mono ?_
  rintro e w1 ⟨rfl, rfl⟩
  go_wp2_with fail
  refine (NN.out _ _).mono ?_
  rintro e w1 ⟨rfl, rfl⟩
  by_cases h1 : x < y
  · have R0 : Hid (cmpI x y = -1) := by show _ = _; rw [R.out, if_pos h1]
    clear R
    go_wp2
    go_ret
    exact ⟨by rw [R0.out]; rfl, rfl⟩
  · by_cases h2 : y < x
    · have R0 : Hid (cmpI x y = 1) := by show _ = _; rw [R.out, if_neg h1, if_pos h2]
      have d1 : decide (x < y) = false := decide_eq_false h1
      have d2 : decide (x > y) = true := decide_eq_true h2
      clear R
      go_wp2
      go_ret
      exact ⟨by rw [R0.out]; rfl, rfl⟩
    · have R0 : Hid (cmpI x y = 0) := by show _ = _; rw [R.out, if_neg h1, if_neg h2]
      have d1 : decide (x < y) = false := decide_eq_false h1
      have d2 : decide (x > y) = false := decide_eq_false h2
      clear R
      go_wp2
      go_ret
      exact ⟨by rw [R0.out]; rfl, rfl⟩

theorem box33 {w : World} {u0 u1 u2 v0 v1 v2 : Value} {tu tv : TypeId} :
    (((w.alloc (.cells #[u0, u1, u2] tu)).alloc (.cells #[v0, v1, v2] tv)).cell? ⟨w.heap.size, 0, none⟩ = some u0 ∧ ((w.alloc (.cells #[u0, u1, u2] tu)).alloc (.cells #[v0, v1, v2] tv)).cell? ⟨w.heap.size, 1, none⟩ = some u1 ∧ ((w.alloc (.cells #[u0, u1, u2] tu)).alloc (.cells #[v0, v1, v2] tv)).cell? ⟨w.heap.size, 2, none⟩ = some u2)
    ∧ (((w.alloc (.cells #[u0, u1, u2] tu)).alloc (.cells #[v0, v1, v2] tv)).cell? ⟨w.heap.size + 1, 0, none⟩ = some v0 ∧ ((w.alloc (.cells #[u0, u1, u2] tu)).alloc (.cells #[v0, v1, v2] tv)).cell? ⟨w.heap.size + 1, 1, none⟩ = some v1 ∧ ((w.alloc (.cells #[u0, u1, u2] tu)).alloc (.cells #[v0, v1, v2] tv)).cell? ⟨w.heap.size + 1, 2, none⟩ = some v2) := by
  have b2 : Below (w.alloc (.cells #[u0, u1, u2] tu)).heap.size (w.alloc (.cells #[u0, u1, u2] tu)) ((w.alloc (.cells #[u0, u1, u2] tu)).alloc (.cells #[v0, v1, v2] tv)) := (Below.refl _ _).alloc (Nat.le_refl _) _
  have e1 := (box3 (w := w) (v0 := u0) (v1 := u1) (v2 := u2) (ty := tu) (b2.mono (by simp))).1
  have e2 := (box3 (w := w.alloc (.cells #[u0, u1, u2] tu)) (v0 := v0) (v1 := v1) (v2 := v2) (ty := tv) (Below.refl _ _)).1
  have es : (w.alloc (.cells #[u0, u1, u2] tu)).heap.size = w.heap.size + 1 := by simp
  rw [es] at e2
  exact ⟨e1, e2⟩

set_option maxRecDepth 100000 in
set_option maxHeartbeats 4000000 in
theorem mcompare_any (k k' : Int) (n v n' v' : ByteArray) (w : World) :
    Calls Tryd.prog 45 #[.agg #[.int .i64 k, .string n, .string v], .agg #[.int .i64 k', .string n', .string v']] w fun e w' => e = .returned (.int .i64 (cmpM ⟨k, n, v⟩ ⟨k', n', v'⟩)) ∧ Below w.heap.size w w' := by
  have R : Hid (cmpM ⟨k, n, v⟩ ⟨k', n', v'⟩ = orL [cmpS n n', cmpI k k', cmpS v v']) := rfl
  have B0 : Hid (Below w.heap.size w ((w.alloc (.cells #[.int .i64 k, .string n, .string v] 26)).alloc (.cells #[.int .i64 k', .string n', .string v'] 26))) := below_two w _ _
  obtain ⟨⟨c0, c1, c2⟩, d0, d1, d2⟩ := box33 (w := w) (u0 := .int .i64 k) (u1 := .string n) (u2 := .string v) (v0 := .int .i64 k') (v1 := .string n') (v2 := .string v') (tu := 26) (tv := 26)
  have CS := Lib.hid (fun a b W => compare_any a b W)
  have CI := Lib.hid (fun W => cmpi_any k k' W)
  generalize cmpM ⟨k, n, v⟩ ⟨k', n', v'⟩ = z at *
  go_enter Tryd.func45, Tryd.ntmps45
  go_upto_region 1 with fail
  generalize (w.alloc (.cells #[.int .i64 k, .string n, .string v] 26)).alloc (.cells #[.int .i64 k', .string n', .string v'] 26) = w2 at *

  go_still_tail 15, (by kernel_rfl)
  still_call (CS.out _ _ _)
  repeat still_step
  still_call (CI.out _)
  repeat still_step
  still_call (CS.out _ _ _)
  repeat still_step
  refine wpStill_nil ?_
  change wpList _ _ _ _ _ (w2.drew)
  replace B0 := Lib.hid (B0.out.drew)
  clear c0 c1 c2 d0 d1 d2
  generalize w2.drew = w3 at *
  go_wp2_with fail
  have c := (box3 (w := w3) (v0 := .int .i64 (cmpS n n')) (v1 := .int .i64 (cmpI k k')) (v2 := .int .i64 (cmpS v v')) (ty := 3) (Below.refl _ _)).1
  refine (or_any [cmpS n n', cmpI k k', cmpS v v'] w3.heap.size 3 3 _ rfl (by omega) ?_).mono ?_
  · intro j hj
    obtain ⟨c0, c1, c2⟩ := c
    rcases (by omega : j = 0 ∨ j = 1 ∨ j = 2) with rfl | rfl | rfl
    · exact c0
    · exact c1
    · exact c2
  rintro e w4 ⟨rfl, rfl⟩
  have B := Lib.hid (B0.out.alloc B0.out.size (.cells #[.int .i64 (cmpS n n'), .int .i64 (cmpI k k'), .int .i64 (cmpS v v')] 3))
  clear c
  go_wp2
  go_ret
  exact ⟨by rw [R.out]; rfl, B.out⟩

set_option maxRecDepth 100000 in
set_option maxHeartbeats 4000000 in
theorem rbefore_any (k k' : Int) (n v n' v' : ByteArray) (w : World) :
    Calls Tryd.prog 46 #[.agg #[.int .i64 k, .string n, .string v], .agg #[.int .i64 k', .string n', .string v']] w fun e w' => e = .returned (.bool (Mat.bf ⟨k, n, v⟩ ⟨k', n', v'⟩)) ∧ Below w.heap.size w w' := by
  have R : Hid (Mat.bf ⟨k, n, v⟩ ⟨k', n', v'⟩ = if n.toList == n'.toList then (if k = k' then La.lt v v' else decide (k < k')) else La.lt n n') := rfl
  have B : Hid (Below w.heap.size w ((w.alloc (.cells #[.int .i64 k, .string n, .string v] 26)).alloc (.cells #[.int .i64 k', .string n', .string v'] 26))) := below_two w _ _
  generalize Mat.bf ⟨k, n, v⟩ ⟨k', n', v'⟩ = z at *
  cases hn : (n.toList == n'.toList)
  · have R0 : Hid (z = La.lt n n') := by show _ = _; rw [R.out, hn]; rfl
    clear R
    go_enter Tryd.func46, Tryd.ntmps46
    go_wp2
    go_ret
    exact ⟨by rw [R0.out]; rfl, B.out⟩
  by_cases hk : k = k'
  · subst hk
    have R0 : Hid (z = La.lt v v') := by show _ = _; rw [R.out, hn, if_pos rfl, if_pos rfl]
    clear R
    go_enter Tryd.func46, Tryd.ntmps46
    go_wp2
    go_ret
    exact ⟨by rw [R0.out]; rfl, B.out⟩
  have R0 : Hid (z = decide (k < k')) := by show _ = _; rw [R.out, hn, if_pos rfl, if_neg hk]
  have p0 : (k != k') = true := by simpa using hk
  clear R hk
  go_enter Tryd.func46, Tryd.ntmps46
  go_wp2
  go_ret
  exact ⟨by rw [R0.out]; rfl, B.out⟩

set_option maxRecDepth 100000 in
set_option maxHeartbeats 4000000 in
theorem kahead_any (k k' : Int) (n v n' v' : ByteArray) (w : World) :
    Calls Tryd.prog 47 #[.agg #[.int .i64 k, .string n, .string v], .agg #[.int .i64 k', .string n', .string v']] w fun e w' => e = .returned (.bool (Mat.bf ⟨k, n, v⟩ ⟨k', n', v'⟩)) ∧ Below w.heap.size w w' := by
  have R : Hid (Mat.bf ⟨k, n, v⟩ ⟨k', n', v'⟩ = if n.toList == n'.toList then (if k = k' then La.lt v v' else decide (k < k')) else La.lt n n') := rfl
  have B : Hid (Below w.heap.size w ((w.alloc (.cells #[.int .i64 k, .string n, .string v] 26)).alloc (.cells #[.int .i64 k', .string n', .string v'] 26))) := below_two w _ _
  generalize Mat.bf ⟨k, n, v⟩ ⟨k', n', v'⟩ = z at *
  cases hn : (n.toList == n'.toList)
  · have R0 : Hid (z = La.lt n n') := by show _ = _; rw [R.out, hn]; rfl
    clear R
    go_enter Tryd.func47, Tryd.ntmps47
    go_wp2
    go_ret
    exact ⟨by rw [R0.out]; rfl, B.out⟩
  by_cases hk : k = k'
  · subst hk
    have R0 : Hid (z = La.lt v v') := by show _ = _; rw [R.out, hn, if_pos rfl, if_pos rfl]
    clear R
    go_enter Tryd.func47, Tryd.ntmps47
    go_wp2
    go_ret
    exact ⟨by rw [R0.out]; rfl, B.out⟩
  have R0 : Hid (z = decide (k < k')) := by show _ = _; rw [R.out, hn, if_pos rfl, if_neg hk]
  have p0 : (k != k') = true := by simpa using hk
  clear R hk
  go_enter Tryd.func47, Tryd.ntmps47
  go_wp2
  go_ret
  exact ⟨by rw [R0.out]; rfl, B.out⟩
end Go.Proofs.YtjmojjjgifkkiaaDoor
