/-
  What the reference's Parse does; RexParses, RexEnds as contracts. No conditions.
-/
import Derived.Test.YteifjiadgbgkbaaGy
import Derived.Test.YteifjiadgbgkbaaKc
import Derived.Test.YteifjiadgbgkbaaEc
namespace Go.Proofs.Yteifjiadgbgkbaa
open Go.RowKit Go.Sort
open Pz

set_option maxRecDepth 100000 in
set_option maxHeartbeats 8000000 in
theorem rparse_any (s : ByteArray) (w : World) : Calls Try.prog 14 #[.string s] w (ParseRes w (parse (txt8 s))) := by
  obtain ⟨L, hL⟩ : ∃ L, s.size = L := ⟨_, rfl⟩
  by_cases h40 : 40 < L
  · have hz : decide ((L : Int) > 40) = true := decide_eq_true (by omega)
    have R : Hid (parse (txt8 s) = none) := by show _ = _; unfold parse; rw [txt8_len, if_pos (by omega)]
    have B := Lib.hid ((Below.refl w.heap.size w).alloc (Nat.le_refl _) (.cells #[.int .i64 0, .int .u64 0, .int .u64 0, .int .u64 0, .int .u64 0, .slice none 0 0] 26))
    have HH := Lib.hid (heap_alloc_new w (.cells #[.int .i64 0, .int .u64 0, .int .u64 0, .int .u64 0, .int .u64 0, .slice none 0 0] 26))
    clear h40
    go_enter Try.func14, Try.ntmps14
    go_wp2
    exact bodyPost_ret (run_ct rfl _ _ _ w.heap.size #[.int .i64 0, .int .u64 0, .int .u64 0, .int .u64 0, .int .u64 0, .slice none 0 0] (.bool false) rfl rfl (run_loadVar_row _ _ _ _ _ _ _ HH.out Try.underlying26 rfl Try.size6)) rfl ⟨B.out, .inr ⟨R.out, rfl⟩⟩
  · have hz : decide ((L : Int) > 40) = false := decide_eq_false (by omega)
    have WC := Lib.hid (fun P => rways_any P 0 s _ (group_le 8) (rgroup_any P s 8 0 rfl))
    obtain ⟨e1, e2, z, B⟩ := alloc2 w (.cells #[.int .i64 0, .int .u64 0, .int .u64 0, .int .u64 0, .int .u64 0, .slice none 0 0] 26) (.cells #[.string s, .int .i64 0, .int .i64 0, .bool false] 56)
    have PA : Hid (RPar ((w.alloc (.cells #[.int .i64 0, .int .u64 0, .int .u64 0, .int .u64 0, .int .u64 0, .slice none 0 0] 26)).alloc (.cells #[.string s, .int .i64 0, .int .i64 0, .bool false] 56)) (w.heap.size + 1) s 0 0 false) := by
      generalize (w.alloc (.cells #[.int .i64 0, .int .u64 0, .int .u64 0, .int .u64 0, .int .u64 0, .slice none 0 0] 26)).alloc (.cells #[.string s, .int .i64 0, .int .i64 0, .bool false] 56) = W at *
      refine ⟨?_, ?_, ?_, ?_, fun j => by rw [World.frozen?, e2]; simp, by omega, by omega, by omega⟩ <;> (rw [cell_of_row _ _ _ _ _ _ e2]; rfl)
    have E1 := Lib.hid e1
    have ZZ := Lib.hid z
    have BB := Lib.hid B
    clear e1 e2 z B
    have e1 : Hid (parse (txt8 s) = match Pz.ways (txt8 s) 42 (group (txt8 s) 42 8) 42 [] 0 with
      | none => none
      | some (x, j) => if j < s.size then none else some x) := by
      show _ = _
      unfold parse
      rw [txt8_len, if_neg (by omega)]
      cases Pz.ways (txt8 s) 42 (group (txt8 s) 42 8) 42 [] 0 <;> rfl
    clear h40
    go_enter Try.func14, Try.ntmps14
    go_wp2_with fail
    refine (WC.out _ 0 _ trivial PA.out).mono ?_
    intro e W1 hp
    obtain ⟨op, a, b, c, d1, A, n, cap, t, rfl, RX, S1, hres⟩ := hp.form
    have r1 := (S1.block w.heap.size (by rw [ZZ.out]; omega) (by omega)).trans E1.out
    have b1 := BB.out.trans (S1.below (B := w.heap.size) (by omega) (by rw [ZZ.out]; omega))
    have B6 : Below W1.heap.size W1 (W1.alloc (.cells #[.int .i64 op, .int .u64 (a : Int), .int .u64 (b : Int), .int .u64 (c : Int), .int .u64 (d1 : Int), .slice A n cap] 26)) := (Below.refl _ _).alloc (Nat.le_refl _) _
    have X6 : Row6 (W1.alloc (.cells #[.int .i64 op, .int .u64 (a : Int), .int .u64 (b : Int), .int .u64 (c : Int), .int .u64 (d1 : Int), .slice A n cap] 26)) W1.heap.size #[.int .i64 op, .int .u64 (a : Int), .int .u64 (b : Int), .int .u64 (c : Int), .int .u64 (d1 : Int), .slice A n cap] := heap_alloc_new W1 _
    have R2 := Lib.hid ((B6.block w.heap.size (Array.getElem?_eq_some_iff.1 r1).1).trans r1)
    have RX2 := Lib.hid (RX.under B6 (B' := w.heap.size + 1) (by rw [ZZ.out]; omega))
    have b2 := Lib.hid (b1.trans (B6.mono b1.size))
    obtain ⟨x0, x1, x2, x3, x4, x5⟩ := X6.cells
    have hPl : w.heap.size + 1 < W1.heap.size := by have := S1.size; rw [ZZ.out] at this; omega
    rcases hres with ⟨j, h1, P1⟩ | ⟨h1, j, d3, P1⟩
    · have R1 : Hid (parse (txt8 s) = if j < L then none else some t) := by show _ = _; rw [e1.out, h1, ← hL]
      have c1 := (P1.grown B6).c1
      have c3 := (P1.grown B6).c3
      clear S1 P1 hp B6 r1 b1 E1 ZZ BB PA WC RX X6 h1 e1
      by_cases hjl : j < L
      · have hjz : (j : Int) < (L : Int) := by omega
        have R : Hid (parse (txt8 s) = none) := by show _ = _; rw [R1.out, if_pos hjl]
        clear R1 hjl
        go_wp2_with (refine wpList_store_row rfl 26 (.tmp 2) (.tmp 28) rfl w.heap.size #[.int .i64 0, .int .u64 0, .int .u64 0, .int .u64 0, .int .u64 0, .slice none 0 0] rfl rfl 26 _ R2.out Try.size6 rfl (by simp [Value.oneCell']) ?_)
        exact bodyPost_ret (run_ct rfl _ _ _ w.heap.size #[.int .i64 0, .int .u64 0, .int .u64 0, .int .u64 0, .int .u64 0, .slice none 0 0] (.bool false) rfl rfl (run_loadVar_row _ _ _ _ _ _ _ (setRow_heap _ _ _ _ _ _ R2.out) Try.underlying26 rfl Try.size6)) rfl (⟨below_row b2.out _, .inr ⟨R.out, rfl⟩⟩)
      · have hjz : ¬ (j : Int) < (L : Int) := by omega
        have R : Hid (parse (txt8 s) = some t) := by show _ = _; rw [R1.out, if_neg hjl]
        clear R1 hjl
        go_wp2_with (refine wpList_store_row rfl 26 (.tmp 2) (.tmp 29) rfl w.heap.size #[.int .i64 op, .int .u64 (a : Int), .int .u64 (b : Int), .int .u64 (c : Int), .int .u64 (d1 : Int), .slice A n cap] rfl rfl 26 _ R2.out Try.size6 rfl (by simp [Value.oneCell']) ?_)
        exact bodyPost_ret (run_ct rfl _ _ _ w.heap.size #[.int .i64 op, .int .u64 (a : Int), .int .u64 (b : Int), .int .u64 (c : Int), .int .u64 (d1 : Int), .slice A n cap] (.bool true) rfl rfl (run_loadVar_row _ _ _ _ _ _ _ (setRow_heap _ _ _ _ _ _ R2.out) Try.underlying26 rfl Try.size6)) rfl (⟨below_row b2.out _, .inl ⟨t, _, R.out, rfl, RX2.out.frame (fun b hb => setRow_other _ _ _ _ (by omega)) (fun b _ hb => by omega)⟩⟩)
    · have R : Hid (parse (txt8 s) = none) := by show _ = _; rw [e1.out, h1]
      have c3 := (P1.grown B6).c3
      clear S1 P1 hp B6 r1 b1 E1 ZZ BB PA WC RX X6 h1 e1
      go_wp2_with (refine wpList_store_row rfl 26 (.tmp 2) (.tmp 28) rfl w.heap.size #[.int .i64 0, .int .u64 0, .int .u64 0, .int .u64 0, .int .u64 0, .slice none 0 0] rfl rfl 26 _ R2.out Try.size6 rfl (by simp [Value.oneCell']) ?_)
      exact bodyPost_ret (run_ct rfl _ _ _ w.heap.size #[.int .i64 0, .int .u64 0, .int .u64 0, .int .u64 0, .int .u64 0, .slice none 0 0] (.bool false) rfl rfl (run_loadVar_row _ _ _ _ _ _ _ (setRow_heap _ _ _ _ _ _ R2.out) Try.underlying26 rfl Try.size6)) rfl (⟨below_row b2.out _, .inr ⟨R.out, rfl⟩⟩)
set_option maxRecDepth 100000 in
set_option maxHeartbeats 8000000 in
theorem parse_all (s : ByteArray) (w : World) : Calls Try.prog 11 #[.string s] w (ParseRes w (parse (txt8 s))) := by
  obtain ⟨L, hL⟩ : ∃ L, s.size = L := ⟨_, rfl⟩
  by_cases h40 : 40 < L
  · have hz : decide ((L : Int) > 40) = true := decide_eq_true (by omega)
    have R : Hid (parse (txt8 s) = none) := by show _ = _; unfold parse; rw [txt8_len, if_pos (by omega)]
    have B := Lib.hid ((Below.refl w.heap.size w).alloc (Nat.le_refl _) (.cells #[.int .i64 0, .int .u64 0, .int .u64 0, .int .u64 0, .int .u64 0, .slice none 0 0] 26))
    have HH := Lib.hid (heap_alloc_new w (.cells #[.int .i64 0, .int .u64 0, .int .u64 0, .int .u64 0, .int .u64 0, .slice none 0 0] 26))
    clear h40
    go_enter Try.func11, Try.ntmps11
    go_wp2
    exact bodyPost_ret (run_ct rfl _ _ _ w.heap.size #[.int .i64 0, .int .u64 0, .int .u64 0, .int .u64 0, .int .u64 0, .slice none 0 0] (.bool false) rfl rfl (run_loadVar_row _ _ _ _ _ _ _ HH.out Try.underlying26 rfl Try.size6)) rfl ⟨B.out, .inr ⟨R.out, rfl⟩⟩
  · exact parse_any s (by omega) w
/-- What Parse told, either way. -/
theorem ParseRes.both {w w' : World} {r : Option Rx} {e : Ending} (h : ParseRes w r e w') :
    ∃ op a b c d A n cap t, e = .returned (.tuple #[.agg #[.int .i64 op, .int .u64 ((a : Nat) : Int), .int .u64 ((b : Nat) : Int), .int .u64 ((c : Nat) : Int), .int .u64 ((d : Nat) : Int), .slice A n cap], .bool r.isSome]) ∧ IsRx w' (.agg (c6 op a b c d A n cap)) t ∧ t = r.getD (.mk 0 0 0 0 0 []) ∧ Below w.heap.size w w' := by
  cases r with
  | none =>
    obtain ⟨he, hb⟩ := h.no rfl
    exact ⟨0, 0, 0, 0, 0, none, 0, 0, _, he, (RxIn.leaf (fun _ => True) w' 0 0 0 0 0).is, rfl, hb⟩
  | some t =>
    obtain ⟨op, a, b, c, d, A, n, cap, he, hx, hb⟩ := h.yes rfl
    exact ⟨op, a, b, c, d, A, n, cap, t, he, hx, rfl, hb⟩
theorem both_good {s : ByteArray} {t : Rx} (h : t = (parse (txt8 s)).getD (.mk 0 0 0 0 0 [])) : Rx.count t ≤ 1000 ∧ Rx.fit t ∧ ((parse (txt8 s)).isSome = true → Rx.isRex t = true) := by
  cases hp : parse (txt8 s) with
  | none => rw [hp] at h; subst h; exact ⟨by decide, ⟨by unfold Fit4; decide, trivial⟩, fun h => by cases h⟩
  | some u => rw [hp] at h; subst h; exact ⟨(parse_good hp).count, (parse_good hp).fit, fun _ => (parse_good hp).rex⟩
set_option maxRecDepth 100000 in
set_option maxHeartbeats 4000000 in
theorem parses_law (s : ByteArray) (w : World) (hs : s.size ≤ maxLen) :
    Calls Try.prog 4 #[.string s] w fun e w' => e = .returned (.bool true) ∧ Below w.heap.size w w' := by
  unfold maxLen at hs
  have RN := Lib.hid runs_any
  obtain ⟨L, hL⟩ : ∃ L, s.size = L := ⟨_, rfl⟩
  rw [hL] at hs
  by_cases h100 : 100 < L
  · have hz : decide ((L : Int) > 100) = true := decide_eq_true (by omega)
    clear h100
    go_enter Try.func4, Try.ntmps4
    go_wp2_with fail
    refine (RN.out _).mono ?_
    rintro e w1 ⟨rfl, b1⟩
    have B := Lib.hid b1
    clear b1
    go_wp2
    go_ret
    exact ⟨rfl, B.out⟩
  have hz : decide ((L : Int) > 100) = false := decide_eq_false (by omega)
  have P1 := Lib.hid (fun W => parse_all s W)
  have P2 := Lib.hid (fun W => rparse_any s W)
  have BG := Lib.hid (fun t => both_good (s := s) (t := t))
  clear h100
  generalize parse (txt8 s) = r at *
  go_enter Try.func4, Try.ntmps4
  go_wp2_with fail
  refine (P1.out _).mono ?_
  intro e w1 hp
  obtain ⟨op, a, b, c, d, A, n, cap, t, rfl, X1, ht, b1⟩ := hp.both
  obtain ⟨hcnt, hfit, hrex⟩ := BG.out t ht
  have HT := Lib.hid (And.intro ht hrex)
  have A1 : Below w1.heap.size w1 (w1.alloc (.cells #[.int .i64 op, .int .u64 (a : Int), .int .u64 (b : Int), .int .u64 (c : Int), .int .u64 (d : Int), .slice A n cap] 26)) := (Below.refl _ _).alloc (Nat.le_refl _) _
  have R1 : Hid (Row6 (w1.alloc (.cells #[.int .i64 op, .int .u64 (a : Int), .int .u64 (b : Int), .int .u64 (c : Int), .int .u64 (d : Int), .slice A n cap] 26)) w1.heap.size #[.int .i64 op, .int .u64 (a : Int), .int .u64 (b : Int), .int .u64 (c : Int), .int .u64 (d : Int), .slice A n cap]) := heap_alloc_new w1 _
  have B := Lib.hid (b1.trans (A1.mono b1.size))
  replace X1 := Lib.hid (X1.grown A1)
  clear hp b1 A1 P1 ht hrex BG
  go_wp2_with fail
  generalize w1.alloc (.cells #[.int .i64 op, .int .u64 (a : Int), .int .u64 (b : Int), .int .u64 (c : Int), .int .u64 (d : Int), .slice A n cap] 26) = W1 at *
  generalize w1.heap.size = g1 at *
  refine (P2.out _).mono ?_
  intro e w2 hp
  obtain ⟨op', a', b', c', d', A', n', cap', t', rfl, X2, ht', b2⟩ := hp.both
  obtain rfl : t' = t := by rw [ht', HT.out.1]
  have A1 : Below w2.heap.size w2 (w2.alloc (.cells #[.int .i64 op', .int .u64 (a' : Int), .int .u64 (b' : Int), .int .u64 (c' : Int), .int .u64 (d' : Int), .slice A' n' cap'] 26)) := (Below.refl _ _).alloc (Nat.le_refl _) _
  have R2 : Hid (Row6 (w2.alloc (.cells #[.int .i64 op', .int .u64 (a' : Int), .int .u64 (b' : Int), .int .u64 (c' : Int), .int .u64 (d' : Int), .slice A' n' cap'] 26)) w2.heap.size #[.int .i64 op', .int .u64 (a' : Int), .int .u64 (b' : Int), .int .u64 (c' : Int), .int .u64 (d' : Int), .slice A' n' cap']) := heap_alloc_new w2 _
  have b3 := b2.trans (A1.mono b2.size)
  replace X2 := Lib.hid (X2.grown A1)
  replace X1 := Lib.hid (X1.out.grown b3)
  replace R1 := Lib.hid (R1.out.grow b3)
  replace B := Lib.hid (B.out.trans (b3.mono B.out.size))
  clear hp b2 A1 P2 ht' b3
  generalize r.isSome = ok at *
  obtain ⟨x0, x1, x2, x3, x4, x5⟩ := R1.out.cells
  obtain ⟨y0, y1, y2, y3, y4, y5⟩ := R2.out.cells
  go_wp2_with fail
  generalize w2.alloc (.cells #[.int .i64 op', .int .u64 (a' : Int), .int .u64 (b' : Int), .int .u64 (c' : Int), .int .u64 (d' : Int), .slice A' n' cap'] 26) = W2 at *
  generalize w2.heap.size = g2 at *
  refine (samerex_any 1000 t' _ _ _ (Nat.le_refl _) hcnt X1.out X2.out).mono ?_
  rintro e w3 ⟨rfl, b3⟩
  replace X1 := Lib.hid (X1.out.grown b3)
  replace R1 := Lib.hid (R1.out.grow b3)
  replace B := Lib.hid (B.out.trans (b3.mono B.out.size))
  clear b3 x0 x1 x2 x3 x4 x5 y0 y1 y2 y3 y4 y5 R2 X2
  obtain ⟨x0, x1, x2, x3, x4, x5⟩ := R1.out.cells
  cases ok
  · clear HT
    go_wp2_with fail
    refine (RN.out _).mono ?_
    rintro e w4 ⟨rfl, b4⟩
    replace B := Lib.hid (B.out.trans (b4.mono B.out.size))
    clear b4
    go_wp2
    go_ret
    exact ⟨rfl, B.out⟩
  · have IC := Lib.hid (is_any 1000 t' _ _ (Nat.le_refl _) hcnt X1.out)
    rw [HT.out.2 rfl] at IC
    clear HT
    go_wp2_with fail
    refine IC.out.mono ?_
    rintro e w4 ⟨rfl, b4⟩
    replace B := Lib.hid (B.out.trans (b4.mono B.out.size))
    clear b4 IC
    go_wp2_with fail
    refine (RN.out _).mono ?_
    rintro e w5 ⟨rfl, b4⟩
    replace B := Lib.hid (B.out.trans (b4.mono B.out.size))
    clear b4
    go_wp2
    go_ret
    exact ⟨rfl, B.out⟩
set_option maxRecDepth 100000 in
set_option maxHeartbeats 4000000 in
theorem ends_law (p s : ByteArray) (w : World) (hs : s.size ≤ maxLen) :
    Calls Try.prog 6 #[.string p, .string s] w fun e w' => e = .returned (.bool true) ∧ Below w.heap.size w w' := by
  unfold maxLen at hs
  have RN := Lib.hid runs_any
  obtain ⟨L, hL⟩ : ∃ L, s.size = L := ⟨_, rfl⟩
  rw [hL] at hs
  by_cases h20 : 20 < L
  · have hz : decide ((L : Int) > 20) = true := decide_eq_true (by omega)
    clear h20
    go_enter Try.func6, Try.ntmps6
    go_wp2_with fail
    refine (RN.out _).mono ?_
    rintro e w1 ⟨rfl, b1⟩
    have B := Lib.hid b1
    clear b1
    go_wp2
    go_ret
    exact ⟨rfl, B.out⟩
  have hz : decide ((L : Int) > 20) = false := decide_eq_false (by omega)
  have P1 := Lib.hid (fun W => parse_all p W)
  have P2 := Lib.hid (fun W => rparse_any p W)
  have BG := Lib.hid (fun t => both_good (s := p) (t := t))
  generalize parse (txt8 p) = r at *
  go_enter Try.func6, Try.ntmps6
  go_wp2_with fail
  refine (P1.out _).mono ?_
  intro e w1 hp
  obtain ⟨op, a, b, c, d, A, n, cap, t, rfl, X1, ht, b1⟩ := hp.both
  obtain ⟨hcnt, hfit, hrex⟩ := BG.out t ht
  have HT := Lib.hid ht
  have A1 : Below w1.heap.size w1 (w1.alloc (.cells #[.int .i64 op, .int .u64 (a : Int), .int .u64 (b : Int), .int .u64 (c : Int), .int .u64 (d : Int), .slice A n cap] 26)) := (Below.refl _ _).alloc (Nat.le_refl _) _
  have R1 : Hid (Row6 (w1.alloc (.cells #[.int .i64 op, .int .u64 (a : Int), .int .u64 (b : Int), .int .u64 (c : Int), .int .u64 (d : Int), .slice A n cap] 26)) w1.heap.size #[.int .i64 op, .int .u64 (a : Int), .int .u64 (b : Int), .int .u64 (c : Int), .int .u64 (d : Int), .slice A n cap]) := heap_alloc_new w1 _
  have B := Lib.hid (b1.trans (A1.mono b1.size))
  replace X1 := Lib.hid (X1.grown A1)
  clear hp b1 A1 P1 ht hrex BG
  go_wp2_with fail
  generalize w1.alloc (.cells #[.int .i64 op, .int .u64 (a : Int), .int .u64 (b : Int), .int .u64 (c : Int), .int .u64 (d : Int), .slice A n cap] 26) = W1 at *
  generalize w1.heap.size = g1 at *
  refine (P2.out _).mono ?_
  intro e w2 hp
  obtain ⟨op', a', b', c', d', A', n', cap', t', rfl, X2, ht', b2⟩ := hp.both
  obtain rfl : t' = t := by rw [ht', HT.out]
  have A1 : Below w2.heap.size w2 (w2.alloc (.cells #[.int .i64 op', .int .u64 (a' : Int), .int .u64 (b' : Int), .int .u64 (c' : Int), .int .u64 (d' : Int), .slice A' n' cap'] 26)) := (Below.refl _ _).alloc (Nat.le_refl _) _
  have R2 : Hid (Row6 (w2.alloc (.cells #[.int .i64 op', .int .u64 (a' : Int), .int .u64 (b' : Int), .int .u64 (c' : Int), .int .u64 (d' : Int), .slice A' n' cap'] 26)) w2.heap.size #[.int .i64 op', .int .u64 (a' : Int), .int .u64 (b' : Int), .int .u64 (c' : Int), .int .u64 (d' : Int), .slice A' n' cap']) := heap_alloc_new w2 _
  have b3 := b2.trans (A1.mono b2.size)
  replace X2 := Lib.hid (X2.grown A1)
  replace X1 := Lib.hid (X1.out.grown b3)
  replace R1 := Lib.hid (R1.out.grow b3)
  replace B := Lib.hid (B.out.trans (b3.mono B.out.size))
  clear hp b2 A1 P2 ht' b3 HT
  generalize r.isSome = ok at *
  go_upto_region 5 with fail
  generalize w2.alloc (.cells #[.int .i64 op', .int .u64 (a' : Int), .int .u64 (b' : Int), .int .u64 (c' : Int), .int .u64 (d' : Int), .slice A' n' cap'] 26) = W2 at *
  generalize w2.heap.size = g2 at *
  cases ok
  · go_wp2
    go_loop [9] (fun i => i = .int .i64 0) (fun _ => 0)
    case atStart => rfl
    case round =>
      subst hrel
      go_wp2_with fail
      refine (RN.out _).mono ?_
      rintro e w4 ⟨rfl, b4⟩
      replace B := Lib.hid (B.out.trans (b4.mono B.out.size))
      clear b4
      go_wp2
      go_ret
      exact ⟨rfl, B.out⟩
  · go_wp2
    go_loopw [9] (fun i wr => ∃ k : Nat, k ≤ L + 1 ∧ i = .int .i64 (k : Int) ∧ Hid (Row6 wr g1 #[.int .i64 op, .int .u64 (a : Int), .int .u64 (b : Int), .int .u64 (c : Int), .int .u64 (d : Int), .slice A n cap] ∧ Row6 wr g2 #[.int .i64 op', .int .u64 (a' : Int), .int .u64 (b' : Int), .int .u64 (c' : Int), .int .u64 (d' : Int), .slice A' n' cap'] ∧ IsRx wr (.agg (c6 op a b c d A n cap)) t' ∧ IsRx wr (.agg (c6 op' a' b' c' d' A' n' cap')) t' ∧ Below w.heap.size w wr)) (fun i _ => L + 1 - (intOf i).toNat)
    case atStart => exact ⟨0, by omega, rfl, R1.out, R2.out, X1.out, X2.out, B.out⟩
    case round =>
      clear R1 R2 X1 X2 B
      obtain ⟨k, hk, rfl, HI⟩ := hrel
      by_cases hkl : k ≤ L
      · have hkz : (k : Int) ≤ (L : Int) := by omega
        have CE := Lib.hid (fun W (hW : Below wr.heap.size wr W) => ends_all hcnt hfit _ (k : Int) s W (by omega) (HI.out.2.2.1.grown hW))
        have CF := Lib.hid (fun W (hW : Below wr.heap.size wr W) => rends_all hcnt hfit _ (k : Int) s W (by omega) (HI.out.2.2.2.1.grown hW))
        generalize ends (txt8 s) t' (k : Int) = E at *
        go_wp2_with fail
        refine wp_region_held_drew (S := fun W => Below wr.heap.size wr W) (by kernel_rfl) ((Below.refl _ _).drew) (fun hHeld => ?_)
        refine held_take 0 36 (v := (.agg #[.int .i64 op, .int .u64 (a : Int), .int .u64 (b : Int), .int .u64 (c : Int), .int .u64 (d : Int), .slice A n cap])) rfl rfl (by kernel_rfl) (by kernel_rfl) (by kernel_rfl) (by rfl) (fun _ _ _ h => h) (by assumption) ?_ ?_
        · intro W hW
          obtain ⟨e0, e1, e2, e3, e4, e5⟩ := (HI.out.1.grow hW).cells
          go_simp
        simp only [List.setIfInBounds_toArray, List.set_cons_zero, List.set_cons_succ]
        refine held_take 1 37 (v := (.string s)) rfl rfl (by kernel_rfl) (by kernel_rfl) (by kernel_rfl) (by rfl) (fun _ _ _ h => h) (by assumption) ?_ ?_
        · intro W hW
          go_simp
        simp only [List.setIfInBounds_toArray, List.set_cons_zero, List.set_cons_succ]
        refine held_take 2 38 (v := (.int .i64 (k : Int))) rfl rfl (by kernel_rfl) (by kernel_rfl) (by kernel_rfl) (by rfl) (fun _ _ _ h => h) (by assumption) ?_ ?_
        · intro W hW
          go_simp
        simp only [List.setIfInBounds_toArray, List.set_cons_zero, List.set_cons_succ]
        refine held_take 4 40 (v := (.agg #[.int .i64 op', .int .u64 (a' : Int), .int .u64 (b' : Int), .int .u64 (c' : Int), .int .u64 (d' : Int), .slice A' n' cap'])) rfl rfl (by kernel_rfl) (by kernel_rfl) (by kernel_rfl) (by rfl) (fun _ _ _ h => h) (by assumption) ?_ ?_
        · intro W hW
          obtain ⟨e0, e1, e2, e3, e4, e5⟩ := (HI.out.2.1.grow hW).cells
          go_simp
        simp only [List.setIfInBounds_toArray, List.set_cons_zero, List.set_cons_succ]
        refine held_take 5 41 (v := (.string s)) rfl rfl (by kernel_rfl) (by kernel_rfl) (by kernel_rfl) (by rfl) (fun _ _ _ h => h) (by assumption) ?_ ?_
        · intro W hW
          go_simp
        simp only [List.setIfInBounds_toArray, List.set_cons_zero, List.set_cons_succ]
        refine held_take 6 42 (v := (.int .i64 (k : Int))) rfl rfl (by kernel_rfl) (by kernel_rfl) (by kernel_rfl) (by rfl) (fun _ _ _ h => h) (by assumption) ?_ ?_
        · intro W hW
          go_simp
        simp only [List.setIfInBounds_toArray, List.set_cons_zero, List.set_cons_succ]
        refine held_call 3 39 (f := 13) (args := #[(.agg #[.int .i64 op, .int .u64 (a : Int), .int .u64 (b : Int), .int .u64 (c : Int), .int .u64 (d : Int), .slice A n cap]), .string s, .int .i64 (k : Int)]) rfl rfl (by kernel_rfl) (by rfl) (by go_simp) ?_
        refine (CE.out _ ((Below.refl wr.heap.size wr).drew)).mono ?_
        rintro e v1 ⟨A1, n1, c1, rfl, l1, m1, Z1, d1⟩
        have r1 : Below wr.heap.size wr v1 := (Below.refl _ _).drew.trans d1
        refine ⟨_, rfl, r1, ?_⟩
        have held1 := Below.refl v1.heap.size v1
        refine held_more (S' := fun W => Below v1.heap.size v1 W) (fun W h => r1.trans (h.mono r1.size)) _ _ _ _ ?_
        simp only [List.setIfInBounds_toArray, List.set_cons_zero, List.set_cons_succ]
        refine held_call 7 43 (f := 19) (args := #[(.agg #[.int .i64 op', .int .u64 (a' : Int), .int .u64 (b' : Int), .int .u64 (c' : Int), .int .u64 (d' : Int), .slice A' n' cap']), .string s, .int .i64 (k : Int)]) rfl rfl (by kernel_rfl) (by rfl) (by go_simp) ?_
        refine (CF.out _ r1).mono ?_
        rintro e v2 ⟨A2, n2, c2, rfl, l2, m2, Z2, d2⟩
        have r2 := r1.trans (d2.mono r1.size)
        refine ⟨_, rfl, d2, ?_⟩
        have held2 := Below.refl v2.heap.size v2
        refine held_more (S' := fun W => Below v2.heap.size v2 W) (fun W h => d2.trans (h.mono d2.size)) _ _ _ _ ?_
        simp only [List.setIfInBounds_toArray, List.set_cons_zero, List.set_cons_succ]
        have CS := same_b (zn E) (zn E) A1 A2 n1 n2 c1 c2 _ (by rw [zn_len]; exact l1) (by rw [zn_len]; exact l2) (by omega) (by omega) (Z1.below d2) Z2
        rw [decide_eq_true rfl] at CS
        refine held_call 8 44 (f := 12) (args := #[.slice A1 n1 c1, .slice A2 n2 c2]) rfl rfl (by kernel_rfl) (by rfl) (by go_simp) ?_
        refine (CS).mono ?_
        rintro e v3 ⟨rfl, d3⟩
        have r3 := r2.trans (d3.mono r2.size)
        refine ⟨_, rfl, d3, ?_⟩
        have held3 := Below.refl v3.heap.size v3
        refine held_more (S' := fun W => Below v3.heap.size v3 W) (fun W h => d3.trans (h.mono d3.size)) _ _ _ _ ?_
        simp only [List.setIfInBounds_toArray, List.set_cons_zero, List.set_cons_succ]
        refine held_take 9 45 (v := (.bool false)) rfl rfl (by kernel_rfl) (by kernel_rfl) (by kernel_rfl) (by rfl) (fun _ _ _ h => h) (by assumption) ?_ ?_
        · intro W hW
          go_simp
        simp only [List.setIfInBounds_toArray, List.set_cons_zero, List.set_cons_succ]
        refine wpAnyH_done (by kernel_rfl) ?_ _
        have BF := Lib.hid r3
        clear CE CF l1 l2 Z1 Z2 m1 m2 d1 d2 r1 r2 d3 r3
        go_wp2
        go_roundw
        case rel => exact ⟨k + 1, by omega, by go_num, HI.out.1.grow BF.out, HI.out.2.1.grow BF.out, HI.out.2.2.1.grown BF.out, HI.out.2.2.2.1.grown BF.out, HI.out.2.2.2.2.trans (BF.out.mono HI.out.2.2.2.2.size)⟩
        case measure => simp [intOf]; omega
      · obtain rfl : k = L + 1 := by omega
        have hkz : ¬ ((L + 1 : Nat) : Int) ≤ (L : Int) := by omega
        have B := Lib.hid HI.out.2.2.2.2
        go_wp2_with fail
        refine (RN.out _).mono ?_
        rintro e w4 ⟨rfl, b4⟩
        replace B := Lib.hid (B.out.trans (b4.mono B.out.size))
        clear b4
        go_wp2
        go_ret
        exact ⟨rfl, B.out⟩
end Go.Proofs.Yteifjiadgbgkbaa
