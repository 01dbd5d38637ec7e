/-
  ReapMoves as a contract. Conditions: c is a word of 64 bits.
-/
import Derived.Test.YtlbhiiciajfphaaBq
import Derived.WalkKit
import Derived.ProofKit
import Derived.OpenShut
import Derived.ChangeOld
import Derived.ChangeSame
namespace Go.Proofs.Ytlbhiiciajfphaa
open Go.RowKit Go.Sort

namespace Qu
theorem cut_one {id other : Int} (h : id ≠ other) (x : Int) : cut other [(x, id)] = [(x, id)] := by
  refine cut_no (decide_eq_false ?_)
  rw [fx_miss fun j hj => ?_]
  · exact Nat.lt_irrefl _
  · have : j = 0 := by simpa using hj
    subst this
    exact h
theorem ins_one (x r : Rw) : ins [x] r = if lt x r then [x, r] else [r, x] := by
  cases h : lt x r with
  | true => rw [ins_cons_lt h]; rfl
  | false => rw [ins_cons_no ⟨List.pairwise_singleton _ _, List.pairwise_singleton _ _⟩ h]; rfl
theorem cut_two {id other : Int} (h : id ≠ other) (x y : Int) : cut id [(x, id), (y, other)] = [(y, other)] ∧ cut id [(y, other), (x, id)] = [(y, other)] := by
  have e1 : fx id [(x, id), (y, other)] = 0 := by simp [fx, List.findIdx_cons]
  have hb : (other == id) = false := by simpa using h.symm
  have e2 : fx id [(y, other), (x, id)] = 1 := by simp [fx, List.findIdx_cons, hb]
  refine ⟨?_, ?_⟩
  · unfold cut; rw [e1]; rfl
  · unfold cut; rw [e2]; rfl
theorem moves {id other : Int} (h : id ≠ other) (a b c : Int) : put id b (put other c [(a, id)]) = if lt (c, other) (b, id) then [(c, other), (b, id)] else [(b, id), (c, other)] := by
  have e : cut id (put other c [(a, id)]) = [(c, other)] := by
    unfold put
    rw [cut_one h, ins_one]
    split
    · exact (cut_two h _ _).1
    · exact (cut_two h _ _).2
  show ins (cut id (put other c [(a, id)])) (b, id) = _
  rw [e, ins_one]
end Qu
/-- What is known of the two rows. -/
structure Two (id other b c : Int) (l : List Rw) (fi wh : Int) : Prop where
  len : l.length = 2
  d1 : Qu.dueAt id l = b ∧ Qu.has id l = true
  d2 : Qu.dueAt other l = c ∧ Qu.has other l = true
  first : Qu.first l = .tuple #[.int .i64 fi, .int .u64 wh, .bool true]
  cut : Qu.cut id l = [(c, other)]
theorem two_yes {id other : Int} (h : id ≠ other) (b c : Int) : Two id other b c [(c, other), (b, id)] other c :=
  have hb : (other == id) = false := by simpa using h.symm
  ⟨rfl, by simp [Qu.dueAt, Qu.has, Qu.fx, List.findIdx_cons, hb, Qu.nr], by simp [Qu.dueAt, Qu.has, Qu.fx, List.findIdx_cons, Qu.nr], rfl, (Qu.cut_two h _ _).2⟩
theorem two_no {id other : Int} (h : id ≠ other) (b c : Int) : Two id other b c [(b, id), (c, other)] id b :=
  have hb : (id == other) = false := by simpa using h
  ⟨rfl, by simp [Qu.dueAt, Qu.has, Qu.fx, List.findIdx_cons, Qu.nr], by simp [Qu.dueAt, Qu.has, Qu.fx, List.findIdx_cons, hb, Qu.nr], rfl, (Qu.cut_two h _ _).1⟩
set_option maxRecDepth 100000 in
set_option maxHeartbeats 4000000 in
theorem moves13_law (W : World) (id other a b c : Int) (hc : c < 18446744073709551616) :
    Calls Try.prog 6 #[.int .i64 id, .int .i64 other, .int .u64 a, .int .u64 b, .int .u64 c] W fun e W' => e = .returned (.bool true) ∧ Below W.heap.size W W' := by
  by_cases hne : id = other
  · have C := Lib.hid (runs13_any W)
    subst hne
    go_enter Try.func6, Try.ntmps6
    go_wp2_with fail
    refine C.out.mono ?_
    rintro e w1 ⟨rfl, b1⟩
    have B := Lib.hid b1
    clear C b1
    go_wp2
    go_ret
    exact ⟨rfl, B.out⟩
  have hz : (id == other) = false := by simpa using hne
  have C0 := Lib.hid (qnew_any W)
  have L2 : Hid ((Qu.put other c [(a, id)]).length + 1 ≤ 1048576) := by have := Qu.put_le other c [(a, id)]; show _ ≤ _; simp at this; omega
  have CU : Hid (Qu.cut id [(c, other)] = [(c, other)] ∧ Qu.has id [(c, other)] = false) := by
    refine ⟨Qu.cut_one (Ne.symm hne) c, decide_eq_false ?_⟩
    have hb : (other == id) = false := by simpa using Ne.symm hne
    simp [Qu.fx, List.findIdx_cons, hb]
  have RI : Hid (Qu.ids (Qu.ripe 18446744073709551615 [(c, other)]) = [other] ∧ Qu.late 18446744073709551615 [(c, other)] = []) := by
    have h1 : c ≤ 18446744073709551615 := by omega
    refine ⟨?_, ?_⟩ <;> simp [Qu.ripe, Qu.late, Qu.ids, h1]
  have key : ∃ l3 fi wh, Hid (Qu.put id b (Qu.put other c [(a, id)]) = l3) ∧ Hid (Two id other b c l3 fi wh) ∧ ((c < b ∧ other = fi ∧ c = wh) ∨ (c = b ∧ other < id ∧ other = fi ∧ c = wh) ∨ (c = b ∧ ¬ other < id ∧ id = fi ∧ b = wh) ∨ (b < c ∧ id = fi ∧ b = wh)) := by
    cases hlt : Qu.lt (c, other) (b, id) with
    | true =>
      refine ⟨_, other, c, (by show _ = _; rw [Qu.moves hne, if_pos hlt]), two_yes hne b c, ?_⟩
      have := Qu.lt_iff.1 hlt
      rcases this with h | ⟨h1, h2⟩
      · exact .inl ⟨h, rfl, rfl⟩
      · exact .inr (.inl ⟨h1, h2, rfl, rfl⟩)
    | false =>
      refine ⟨_, id, b, (by show _ = _; rw [Qu.moves hne, if_neg (by rw [hlt]; exact Bool.false_ne_true)]), two_no hne b c, ?_⟩
      have := Qu.lt_no.1 hlt
      by_cases h : c = b
      · exact .inr (.inr (.inl ⟨h, fun h2 => this (.inr ⟨h, h2⟩), rfl, rfl⟩))
      · exact .inr (.inr (.inr ⟨by simp at this; omega, rfl, rfl⟩))
  obtain ⟨l3, fi, wh, E3, T3, key⟩ := key
  clear hne
  rcases key with ⟨hq, rfl, rfl⟩ | ⟨rfl, hq, rfl, rfl⟩ | ⟨rfl, hq, rfl, rfl⟩ | ⟨hq, rfl, rfl⟩
  all_goals
    try (have hq3 : ¬ c < b := by omega)
    try (have hq4 : (c == b) = false := by simp; omega)
    go_enter Try.func6, Try.ntmps6
    go_wp2_with fail
    refine C0.out.mono ?_
    rintro e w1 ⟨bq, rfl, h1⟩
    have C1 := Lib.hid (qput_s h1 id a (l' := [(a, id)]) rfl (by simp))
    clear h1 C0
    go_wp2_with fail
    refine C1.out.mono ?_
    rintro e w2 ⟨rfl, v2, h2, -, -⟩
    have C2 := Lib.hid (qput_s h2 other c rfl (by simp))
    clear h2 C1
    go_wp2_with fail
    refine C2.out.mono ?_
    rintro e w3 ⟨rfl, v3, h3, -, -⟩
    have C3 := Lib.hid (qput_s h3 _ _ E3.out L2.out)
    clear h3 C2 L2 E3
    go_wp2_with fail
    refine C3.out.mono ?_
    rintro e w4 ⟨rfl, v4, h4, -, -⟩
    have C4 := Lib.hid (qat_s h4 _ T3.out.d1.1 T3.out.d1.2)
    have H4 := Lib.hid h4
    clear h4 C3
    go_wp2_with fail
    refine C4.out.mono ?_
    rintro e w5 ⟨rfl, b5⟩
    have h5 := H4.out.below b5
    have C5 := Lib.hid (qat_s h5 _ T3.out.d2.1 T3.out.d2.2)
    have H5 := Lib.hid h5
    clear h5 C4 H4 b5
    go_wp2_with fail
    refine C5.out.mono ?_
    rintro e w6 ⟨rfl, b6⟩
    have h6 := H5.out.below b6
    have C6 := Lib.hid (qlen_s h6 T3.out.len)
    have C7 := Lib.hid (qfirst_s h6 T3.out.first)
    have H6 := Lib.hid h6
    clear h6 C5 H5 b6
    go_wp2_with fail
    refine C6.out.mono ?_
    rintro e w7 ⟨rfl, rfl⟩
    clear C6
    go_wp2_with fail
    refine C7.out.mono ?_
    rintro e w8 ⟨rfl, b8⟩
    have h8 := H6.out.below b8
    have C8 := Lib.hid (qdrop_s h8 _ T3.out.d1.2 T3.out.cut)
    clear h8 C7 H6 b8 T3
    go_wp2_with fail
    refine C8.out.mono ?_
    rintro e w9 ⟨rfl, v9, h9, -, -⟩
    have C9 := Lib.hid (qdrop_s h9 _ CU.out.2 CU.out.1)
    clear h9 C8 CU
    go_wp2_with fail
    refine C9.out.mono ?_
    rintro e w10 ⟨rfl, v10, h10, -, -⟩
    have C10 := Lib.hid (qdue_s h10 18446744073709551615 RI.out.1 RI.out.2)
    clear h10 C9 RI
    go_wp2_with fail
    refine C10.out.mono ?_
    rintro e w11 ⟨A, cc, v11, rfl, iz, h11⟩
    have C11 := Lib.hid (And.intro (iz.below ((Below.refl _ _).alloc (Nat.le_refl _) (.cells (zs [other]).toArray 3))) (h11.below ((Below.refl _ _).alloc (Nat.le_refl _) (.cells (zs [other]).toArray 3))))
    clear h11 iz C10
    go_wp2_with fail
    refine (same_s [other] [other] A (some ⟨w11.heap.size, 0, none⟩) 1 1 cc 1 (w11.alloc (.cells (zs [other]).toArray 3)) rfl rfl (by omega) (by omega) C11.out.1 (lits_z w11 [other]) (d := true) (by simp)).mono ?_
    rintro e w12 ⟨rfl, b12⟩
    have h12 := C11.out.2.below b12
    have C12 := Lib.hid (qlen_s h12 (n := 0) rfl)
    have BE := Lib.hid h12.bel
    clear C11 h12 b12
    go_wp2_with fail
    refine C12.out.mono ?_
    rintro e w13 ⟨rfl, rfl⟩
    have C13 := Lib.hid (runs13_any w13)
    clear C12
    go_wp2_with fail
    refine C13.out.mono ?_
    rintro e w14 ⟨rfl, b14⟩
    have R := Lib.hid (BE.out.trans (b14.mono BE.out.size))
    clear C13 b14
    go_wp2
    go_ret
    exact ⟨rfl, R.out⟩
section
open Go.ChangeShapes Go.WideShapes Go.ChangeAt Go.WideMaps Go.WideElems
theorem u64_lt {z : Int} (h : (Lit.int .u64 z).wf = true) : z < 18446744073709551616 := by
  have := bounds_u64 h
  omega
end
end Go.Proofs.Ytlbhiiciajfphaa
