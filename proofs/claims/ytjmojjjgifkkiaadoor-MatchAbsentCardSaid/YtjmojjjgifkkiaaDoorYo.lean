/-
  MatchAbsent as a contract: a label that isn't there is as one with the empty value; only the one that a matcher names counts. Conditions: the slice is as a machine has it; the library's table lies in its variable (DTab).
-/
import Derived.Test.YtjmojjjgifkkiaaDoorYn
namespace Go.Proofs.YtjmojjjgifkkiaaDoor
open Go.RowKit Go.Sort

theorem zz_size : (⟨#[122, 122]⟩ : ByteArray).size = 2 := rfl
/-- The labels of another name; those of the name. -/
def lessOf (n : ByteArray) (ls : List La.Lab) : List La.Lab := ls.filter fun x => !(x.1.toList == n.toList)
def ownOf (n : ByteArray) (ls : List La.Lab) : List La.Lab := ls.filter fun x => x.1.toList == n.toList
theorem getL_less (n : ByteArray) (ls : List La.Lab) : La.getL (lessOf n ls) n = ⟨#[]⟩ := by
  induction ls with
  | nil => rfl
  | cons x r ih =>
    unfold lessOf at ih ⊢
    cases h : (x.1.toList == n.toList)
    · rw [List.filter_cons_of_pos (by simp only [h]; rfl), La.getL, h]; exact ih
    · rw [List.filter_cons_of_neg (by simp only [h]; decide)]; exact ih
theorem getL_empty8 (n : ByteArray) (ls : List La.Lab) : La.getL (lessOf n ls ++ [(n, ⟨#[]⟩)]) n = ⟨#[]⟩ := by
  induction ls with
  | nil => show La.getL [(n, ⟨#[]⟩)] n = _; simp [La.getL]
  | cons x r ih =>
    unfold lessOf at ih ⊢
    cases h : (x.1.toList == n.toList)
    · rw [List.filter_cons_of_pos (by simp only [h]; rfl), List.cons_append, La.getL, h]; exact ih
    · rw [List.filter_cons_of_neg (by simp only [h]; decide)]; exact ih
theorem getL_own (n : ByteArray) (ls : List La.Lab) : La.getL (ownOf n ls) n = La.getL ls n := by
  induction ls with
  | nil => rfl
  | cons x r ih =>
    unfold ownOf at ih ⊢
    cases h : (x.1.toList == n.toList)
    · rw [List.filter_cons_of_neg (by simp only [h]; decide), La.getL, h]; exact ih
    · rw [List.filter_cons_of_pos (by simp only [h]), La.getL, La.getL, h, if_pos rfl, if_pos rfl]
theorem getL_more {n u : ByteArray} {ls : List La.Lab} (h0 : (ownOf n ls).length ≠ 0) : La.getL (ownOf n ls ++ [(n, u)]) n = La.getL ls n := by
  induction ls with
  | nil => exact absurd rfl h0
  | cons x r ih =>
    unfold ownOf at ih h0 ⊢
    cases h : (x.1.toList == n.toList)
    · rw [List.filter_cons_of_neg (by simp only [h]; decide)] at h0 ⊢
      rw [La.getL, h]; exact ih h0
    · rw [List.filter_cons_of_pos (by simp only [h]), List.cons_append, La.getL, La.getL, h, if_pos rfl, if_pos rfl]
theorem less_step {n : ByteArray} {ls : List La.Lab} {k : Nat} (hk : k < ls.length) : lessOf n (ls.take (k + 1)) = lessOf n (ls.take k) ++ (if (La.nth ls k).1.toList == n.toList then [] else [La.nth ls k]) := by
  unfold lessOf
  rw [List.take_succ_eq_append_getElem hk, ← La.nth_eq hk, List.filter_append]
  cases h : ((La.nth ls k).1.toList == n.toList) <;> simp [List.filter, h]
theorem own_step {n : ByteArray} {ls : List La.Lab} {k : Nat} (hk : k < ls.length) : ownOf n (ls.take (k + 1)) = ownOf n (ls.take k) ++ (if (La.nth ls k).1.toList == n.toList then [La.nth ls k] else []) := by
  unfold ownOf
  rw [List.take_succ_eq_append_getElem hk, ← La.nth_eq hk, List.filter_append]
  cases h : ((La.nth ls k).1.toList == n.toList) <;> simp [List.filter, h]
/-- A row of labels that one owns. -/
def Ls (base : Nat) (w : World) (v : Value) (l : List La.Lab) : Prop := w.ownsRow base 23 2 v l.length (lc l)
/-- Two rows that lie apart. -/
def Apt8 (v u : Value) : Prop := ∀ g, v.ownBlock = some g → u.ownBlock ≠ some g
/-- A row has grown: old blocks but its own are as they were; it lies where it lay, or in a new block. -/
structure Mvd (w : World) (v : Value) (w' : World) (v' : Value) : Prop where
  gr : w.grownBy w' v.ownBlock
  own : v'.ownBlock = v.ownBlock ∨ v'.ownBlock = some w.heap.size
theorem Ls.kept {base : Nat} {w w' : World} {j v v' : Value} {l : List La.Lab} (h : Ls base w j l) (hm : Mvd w v w' v') (ha : Apt8 j v) : Ls base w' j l ∧ Apt8 j v' := by
  have hlt := World.ownsRow.lt h
  refine ⟨⟨h.1, ?_⟩, fun g hg e => ?_⟩
  · rcases h.2 with hn | ⟨g, cap, cur, e, hbg, hg, rest⟩
    · exact .inl hn
    · exact .inr ⟨g, cap, cur, e, hbg, (hm.gr.block g (Array.getElem?_eq_some_iff.1 hg).1 (fun e2 => ha g (by rw [e]; rfl) e2.symm)).trans hg, rest⟩
  · rcases hm.own with e2 | e2
    · rw [e2] at e; exact ha g hg e
    · rw [e2] at e; injection e with e; have := (hlt g hg).2; omega
theorem wpList_appLt {ops : Array Oper} {rest : List Oper} {o : Oper} {a : Act} {w : World} {Q : Exit → Act → World → Prop} (hgd : o.guard = none) (sl x : Operand) (ho : o.op = .call { callee := .builtin .append, args := #[sl, x], argTypes := #[24, 24] })
    (base : Nat) (v : Value) (l : List La.Lab) (g : Nat) (lab : La.Lab) (hs : a.eval sl = v) (hx : a.eval x = .slice (some ⟨g, 0, none⟩) 1 1) (hr : IsLabs w (some ⟨g, 0, none⟩) [lab]) (h : Ls base w v l) (hn : l.length ≤ 100000) (hbase : base ≤ w.heap.size)
    (hk : ∀ v' w', Ls base w' v' (l ++ [lab]) → Mvd w v w' v' → wpList Tryd.prog ops Q rest (a.put o.dst v') w') : wpList Tryd.prog ops Q (o :: rest) a w := by
  obtain ⟨i0, hi, hz0, hz1, hz2⟩ := info_parts Tryd.infoL
  refine wpList_append_own_at (P := Tryd.prog) w hgd sl x 24 ho base 23 i0 _ 2 32 Tryd.underlying24 hi hz0 hz1 hz2 rfl (by decide) v l.length (lc l) hs h ⟨g, 0, none⟩ 1 1 (lc [lab]) hx rfl (labs_cells hr) (lc_one [lab]) (by unfold maxLen; omega) (by omega) hbase ?_
  intro v' w' h2 h3 h4 h5
  have hS : Ls base w' v' (l ++ [lab]) := by unfold Ls; rw [List.length_append, lc_app]; exact h2
  exact hk v' w' hS ⟨h3, h5⟩
/-- What the loop keeps. -/
structure AbI (w : World) (n : ByteArray) (ls : List La.Lab) (k : Nat) (vL vO : Value) (wr : World) : Prop where
  l : Ls w.heap.size wr vL (lessOf n (ls.take k))
  o : Ls w.heap.size wr vO (ownOf n (ls.take k))
  ap : Apt8 vL vO
  bel : Below w.heap.size w wr
  sm : ∀ j, j < k → (La.nth ls j).2.size ≤ 30

set_option maxRecDepth 100000 in
set_option maxHeartbeats 4000000 in
theorem absent8_law (m : Mat) (ls : List La.Lab) (B : Option Addr) (M cb : Nat) (w : World) (hM : ls.length = M) (hb : IsLabs w B ls) (hT : DTab w) :
    Calls Tryd.prog 10 #[.agg #[.int .i64 m.k, .string m.n, .string m.v], .slice B M cb] w fun e w' => e = .returned (.bool true) ∧ Below w.heap.size w w' := by
  obtain ⟨k0, n, v⟩ := m
  obtain ⟨w0, hw0⟩ : ∃ w0, w.alloc (.cells #[.int .i64 k0, .string n, .string v] 26) = w0 := ⟨_, rfl⟩
  obtain ⟨w1, hw1⟩ : ∃ w1, w0.alloc (.cells #[.int .i64 k0, .string n, .string v] 26) = w1 := ⟨_, rfl⟩
  have s0 : w0.heap.size = w.heap.size + 1 := by rw [← hw0]; simp
  have b00 : Below w.heap.size w w0 := by rw [← hw0]; exact (Below.refl _ _).alloc (Nat.le_refl _) _
  have b01 : Below w0.heap.size w0 w1 := by rw [← hw1]; exact (Below.refl _ _).alloc (Nat.le_refl _) _
  have B01 := Lib.hid (b00.trans (b01.mono b00.size))
  have i1 : IsMats w1 (some ⟨w.heap.size + 1, 0, none⟩) [⟨k0, n, v⟩] := by rw [← hw1, ← s0]; exact lit_mat w0 ⟨k0, n, v⟩
  have CELLS0 : Hid (∀ W, Below w1.heap.size w1 W → (W.cell? ⟨w.heap.size, 0, none⟩ = some (.int .i64 k0) ∧ W.cell? ⟨w.heap.size, 1, none⟩ = some (.string n) ∧ W.cell? ⟨w.heap.size, 2, none⟩ = some (.string v))) := fun W hW =>
    (box3 (w := w) (v0 := .int .i64 k0) (v1 := .string n) (v2 := .string v) (ty := 26) (W := W) (by rw [hw0]; exact (b01.trans (hW.mono b01.size)).mono (by omega))).1
  have CS := Lib.hid (small_any [⟨k0, n, v⟩] ls (some ⟨w.heap.size + 1, 0, none⟩) B 1 1 M cb w1 rfl hM i1 (hb.below B01.out))
  have FS : Hid (FewM [⟨k0, n, v⟩] → n.size ≤ 300 ∧ v.size ≤ 300) := fun h => h.2 ⟨k0, n, v⟩ (by simp)
  have RN0 := Lib.hid (fun W (hW : Below w.heap.size w W) => runs8_any W (hT.below hW))
  have DT0 := Lib.hid (fun W (hW : Below w.heap.size w W) => hT.below hW)
  have LB0 := Lib.hid (fun W (hW : Below w.heap.size w W) => hb.below hW)
  have HM := Lib.hid hM
  have HW1 := Lib.hid (show (w.alloc (.cells #[.int .i64 k0, .string n, .string v] 26)).alloc (.cells #[.int .i64 k0, .string n, .string v] 26) = w1 by rw [hw0, hw1])
  clear hw0 hw1 s0 b00 b01 i1 hT hb hM
  go_enter Tryd.func10, Tryd.ntmps10
  go_wp2_with fail
  simp only [HW1.out]
  clear HW1
  refine CS.out.mono ?_
  rintro e w2 ⟨⟨q, rfl, hq⟩, b2⟩
  have B2 := Lib.hid (B01.out.trans (b2.mono B01.out.size))
  have CELLS2 := Lib.hid (fun W (hW : Below w2.heap.size w2 W) => CELLS0.out W (b2.trans (hW.mono b2.size)))
  have RUN := Lib.hid (RN0.out w2 B2.out)
  have HQ := Lib.hid hq
  clear CS CELLS0 hq b2
  cases q
  · clear RN0
    go_wp2_with fail
    refine RUN.out.mono ?_
    rintro e w9 ⟨rfl, b9⟩
    have B9 := Lib.hid (B2.out.trans (b9.mono B2.out.size))
    clear b9
    go_wp2
    go_ret
    exact ⟨rfl, B9.out⟩
  obtain ⟨hfm, hfl⟩ := HQ.out rfl
  have hsz := FS.out hfm
  obtain ⟨hsn, hsv⟩ := hsz
  have hMM : M ≤ 300 := by have := hfl.1; rw [HM.out] at this; exact this
  clear HQ hfm hfl FS RUN
  -- from here on all is told of w2
  have RN := Lib.hid (fun W (hW : Below w2.heap.size w2 W) => RN0.out W (B2.out.trans (hW.mono B2.out.size)))
  have DT2 := Lib.hid (fun W (hW : Below w2.heap.size w2 W) => DT0.out W (B2.out.trans (hW.mono B2.out.size)))
  have LB2 := Lib.hid (fun W (hW : Below w2.heap.size w2 W) => LB0.out W (B2.out.trans (hW.mono B2.out.size)))
  clear RN0 DT0 LB0
  go_wp2
  go_loopw [5, 6, 7] (fun vL vO i wr => ∃ k : Nat, k ≤ M ∧ i = .int .i64 (k : Int) ∧ Hid (AbI w2 n ls k vL vO wr)) (fun _ _ i _ => M - (intOf i).toNat)
  case atStart => exact ⟨0, by omega, rfl, World.ownsRow_nil _ _ _ _, World.ownsRow_nil _ _ _ _, (fun g h => by cases h), Below.refl _ _, fun j hj => by omega⟩
  case round =>
    obtain ⟨k, hk, rfl, HI⟩ := hrel
    by_cases hkn : k < M
    · have hk2 : k < ls.length := by rw [HM.out]; exact hkn
      have hc' := (LB2.out wr HI.out.bel) (by omega)
      obtain ⟨b, off, rfl, hc⟩ := hc'
      obtain ⟨c0, c1⟩ := hc k hk2
      have hkz : (k : Int) < (M : Int) := by omega
      have LST := Lib.hid (less_step (n := n) hk2)
      have OST := Lib.hid (own_step (n := n) hk2)
      have CEL := Lib.hid (CELLS2.out wr HI.out.bel)
      have RUN := Lib.hid (RN.out wr HI.out.bel)
      have BW := Lib.hid HI.out.bel
      obtain ⟨x, hx⟩ : ∃ x, (La.nth ls k).1 = x := ⟨_, rfl⟩
      obtain ⟨y, hy⟩ : ∃ y, (La.nth ls k).2 = y := ⟨_, rfl⟩
      have HXY : Hid (La.nth ls k = (x, y)) := by show _ = _; rw [← hx, ← hy]
      rw [hx] at c0 LST OST
      rw [hy] at c1
      rw [HXY.out] at LST OST
      have SMN : Hid (y.size ≤ 30 → ∀ j, j < k + 1 → (La.nth ls j).2.size ≤ 30) := fun h j hj => by
        rcases Nat.lt_or_ge j k with h1 | h1
        · exact HI.out.sm j h1
        · obtain rfl : j = k := by omega
          rw [HXY.out]; exact h
      clear hc hx hy HXY
      by_cases h30 : 30 < y.size
      · have hyd : decide ((y.size : Int) > 30) = true := decide_eq_true (by omega)
        clear HI LST OST CEL
        go_wp2_with fail
        refine RUN.out.mono ?_
        rintro e w9 ⟨rfl, b9⟩
        have B9 := Lib.hid (B2.out.trans ((BW.out.trans (b9.mono BW.out.size)).mono B2.out.size))
        clear b9
        go_wp2
        go_ret
        exact ⟨rfl, B9.out⟩
      have hyd : decide ((y.size : Int) > 30) = false := decide_eq_false (by omega)
      have hy30 : y.size ≤ 30 := by omega
      have CE := Lib.hid (⟨c0, c1⟩ : _ ∧ _)
      obtain ⟨m0, m1, m2⟩ := CEL.out
      have LL : (lessOf n (ls.take k)).length ≤ 100000 := by have := List.length_filter_le (fun x : La.Lab => !(x.1.toList == n.toList)) (ls.take k); have h2 := List.length_take_le k ls; unfold lessOf; omega
      have OO : (ownOf n (ls.take k)).length ≤ 100000 := by have := List.length_filter_le (fun x : La.Lab => x.1.toList == n.toList) (ls.take k); have h2 := List.length_take_le k ls; unfold ownOf; omega
      cases he : (x.toList == n.toList)
      · rw [he] at LST OST
        go_wp2_with fail
        go_quiet (fail)
        have BN := Lib.hid (below_drewN (Below.refl wr.heap.size wr) nq)
        clear c0 c1 m0 m1 m2 CEL RUN
        obtain ⟨c0', c1'⟩ := CE.out
        have c0 := cell_grow BN.out c0'
        have c1 := cell_grow BN.out c1'
        have RL := Lib.hid (own_keepL HI.out.l BN.out)
        have RO := Lib.hid (own_keepL HI.out.o BN.out)
        have AP := Lib.hid HI.out.ap
        have BW2 := Lib.hid (BW.out.trans (BN.out.mono BW.out.size))
        clear CE c0' c1' HI BW BN he
        generalize wr.drewN nq = wq at *
        have RL2 := Lib.hid (World.ownsRow.alloc RL.out (.cells #[.string x, .string y] 23))
        have RO2 := Lib.hid (World.ownsRow.alloc RO.out (.cells #[.string x, .string y] 23))
        have BW3 := Lib.hid (BW2.out.alloc BW2.out.size (.cells #[.string x, .string y] 23))
        have LIT := Lib.hid (lit_lab wq (x, y))
        clear RL RO
        go_wp2_with (at_builtin; refine wpList_appLt rfl _ _ rfl w2.heap.size _ (lessOf n (ls.take k)) wq.heap.size (x, y) rfl rfl LIT.out RL2.out LL BW3.out.size ?_)
        intro v' w6 l6 m6
        have KE := Ls.kept RO2.out m6 (fun g h1 h2 => AP.out g h2 h1)
        have R : Hid (AbI w2 n ls (k + 1) v' u6 w6) := ⟨by rw [LST.out]; exact l6, by rw [OST.out]; simpa using KE.1, fun g h1 h2 => KE.2 g h2 h1, BW3.out.grown m6.gr BW3.out.size (fun g hg => (World.ownsRow.lt RL2.out g hg).1), SMN.out hy30⟩
        clear l6 m6 KE LIT BW3 RL2 RO2 c0 c1
        go_wp2
        go_roundw
        case rel => exact ⟨k + 1, by omega, by go_num, R⟩
        case measure => simp [intOf]; omega
      · rw [he] at LST OST
        go_wp2_with fail
        go_quiet (fail)
        have BN := Lib.hid (below_drewN (Below.refl wr.heap.size wr) nq)
        clear c0 c1 m0 m1 m2 CEL RUN
        obtain ⟨c0', c1'⟩ := CE.out
        have c0 := cell_grow BN.out c0'
        have c1 := cell_grow BN.out c1'
        have RL := Lib.hid (own_keepL HI.out.l BN.out)
        have RO := Lib.hid (own_keepL HI.out.o BN.out)
        have AP := Lib.hid HI.out.ap
        have BW2 := Lib.hid (BW.out.trans (BN.out.mono BW.out.size))
        clear CE c0' c1' HI BW BN he
        generalize wr.drewN nq = wq at *
        have RL2 := Lib.hid (World.ownsRow.alloc RL.out (.cells #[.string x, .string y] 23))
        have RO2 := Lib.hid (World.ownsRow.alloc RO.out (.cells #[.string x, .string y] 23))
        have BW3 := Lib.hid (BW2.out.alloc BW2.out.size (.cells #[.string x, .string y] 23))
        have LIT := Lib.hid (lit_lab wq (x, y))
        clear RL RO
        go_wp2_with (at_builtin; refine wpList_appLt rfl _ _ rfl w2.heap.size _ (ownOf n (ls.take k)) wq.heap.size (x, y) rfl rfl LIT.out RO2.out OO BW3.out.size ?_)
        intro v' w6 l6 m6
        have KE := Ls.kept RL2.out m6 AP.out
        have R : Hid (AbI w2 n ls (k + 1) u5 v' w6) := ⟨by rw [LST.out]; simpa using KE.1, by rw [OST.out]; exact l6, KE.2, BW3.out.grown m6.gr BW3.out.size (fun g hg => (World.ownsRow.lt RO2.out g hg).1), SMN.out hy30⟩
        clear l6 m6 KE LIT BW3 RL2 RO2 c0 c1
        go_wp2
        go_roundw
        case rel => exact ⟨k + 1, by omega, by go_num, R⟩
        case measure => simp [intOf]; omega
    · obtain rfl : k = M := by omega
      have htk : ls.take k = ls := List.take_of_length_le (by rw [HM.out]; omega)
      have rl := HI.out.l
      have ro := HI.out.o
      rw [htk] at rl ro
      obtain ⟨n5, hn5⟩ : ∃ n5, (lessOf n ls).length = n5 := ⟨_, rfl⟩
      obtain ⟨n6, hn6⟩ : ∃ n6, (ownOf n ls).length = n6 := ⟨_, rfl⟩
      unfold Ls at rl ro
      rw [hn5] at rl
      rw [hn6] at ro
      have h5 : n5 ≤ 300 := by have := List.length_filter_le (fun x : La.Lab => !(x.1.toList == n.toList)) ls; unfold lessOf at hn5; have := HM.out; omega
      have h6 : n6 ≤ 300 := by have := List.length_filter_le (fun x : La.Lab => x.1.toList == n.toList) ls; unfold ownOf at hn6; have := HM.out; omega
      have VL : Hid (∀ x ∈ ls, x.2.size ≤ 1000) := fun x hx => by
        obtain ⟨j, hj, rfl⟩ := List.getElem_of_mem hx
        have := HI.out.sm j (by rw [HM.out] at hj; exact hj)
        rw [La.nth_eq hj] at this; omega
      have VE : Hid (∀ x ∈ lessOf n ls ++ [(n, (⟨#[]⟩ : ByteArray))], x.2.size ≤ 1000) := fun x hx => by
        rcases List.mem_append.1 hx with hx | hx
        · exact VL.out x ((List.mem_filter.1 hx).1)
        · rw [List.mem_singleton] at hx; subst hx; show (⟨#[]⟩ : ByteArray).size ≤ 1000; rw [none_size]; omega
      have VM : Hid (∀ x ∈ ownOf n ls ++ [(n, (⟨#[122, 122]⟩ : ByteArray))], x.2.size ≤ 1000) := fun x hx => by
        rcases List.mem_append.1 hx with hx | hx
        · exact VL.out x ((List.mem_filter.1 hx).1)
        · rw [List.mem_singleton] at hx; subst hx; show (⟨#[122, 122]⟩ : ByteArray).size ≤ 1000; rw [zz_size]; omega
      obtain ⟨A5, c5, rfl, _, hA5, i5, _⟩ := own_formL rl
      obtain ⟨A6, c6, rfl, _, hA6, i6, _⟩ := own_formL ro
      have BQ := Lib.hid HI.out.bel
      have ROWL := Lib.hid (fun W (hW : Below wr.heap.size wr W) => i5.below hW)
      have ROWO := Lib.hid (fun W (hW : Below wr.heap.size wr W) => i6.below hW)
      have ROW := ROWL
      have NIL := Lib.hid hA5
      have NILO := Lib.hid hA6
      have LEN := Lib.hid hn5
      have LEN5 := Lib.hid hn5
      have LEN6 := Lib.hid hn6
      have CELLS := CELLS2
      have NC := Lib.hid (fun W (hW : Below w2.heap.size w2 W) => (CELLS2.out W hW).2.1)
      have hkz : ¬ (k : Int) < (k : Int) := by omega
      have LBW := LB2
      have DT := DT2
      clear HI rl ro hA5 hA6 i5 i6 hn5 hn6 CELLS2 LB2 DT2 htk
      rename World => wr0
      go_wp2_with fail
      go_cut [8] from 52 (fun s8 wx => ∃ (A7 : Option Addr) (c7 : Nat), s8 = .slice A7 (n5 + 1) c7 ∧ Hid (Below wr0.heap.size wr0 wx ∧ IsLabs wx A7 (lessOf n ls ++ [(n, ⟨#[]⟩)]) ∧ (lessOf n ls ++ [(n, (⟨#[]⟩ : ByteArray))]).length = n5 + 1))
      case first =>
        refine wp_region_held_drew (S := fun W => Below wr0.heap.size wr0 W) (by kernel_rfl) ((Below.refl _ _).drew) (fun hHeld => ?_)
        refine held_take 0 52 (v := (.slice A5 n5 c5)) rfl rfl (by kernel_rfl) (by kernel_rfl) (by kernel_rfl) (by rfl) (fun _ _ _ h => h) (by assumption) ?_ ?_
        · intro W hW
          go_simp
        simp only [List.setIfInBounds_toArray, List.set_cons_zero, List.set_cons_succ]
        refine held_take 2 54 (v := (.pointer (some ⟨w.heap.size, 1, none⟩))) rfl rfl (by kernel_rfl) (by kernel_rfl) (by kernel_rfl) (by rfl) (fun _ _ _ h => h) (by assumption) ?_ ?_
        · intro W hW
          go_simp
        simp only [List.setIfInBounds_toArray, List.set_cons_zero, List.set_cons_succ]
        refine held_take 3 55 (v := (.string n)) rfl rfl (by kernel_rfl) (by kernel_rfl) (by kernel_rfl) (by rfl) (fun _ _ _ h => h) (by assumption) ?_ ?_
        · intro W hW
          have z1 := NC.out W (BQ.out.trans (hW.mono BQ.out.size))
          go_simp
        simp only [List.setIfInBounds_toArray, List.set_cons_zero, List.set_cons_succ]
        refine held_take 4 56 (v := (.agg #[.string n, .string ⟨#[]⟩])) rfl rfl (by kernel_rfl) (by kernel_rfl) (by kernel_rfl) (by rfl) (fun _ _ _ h => h) (by assumption) ?_ ?_
        · intro W hW
          go_simp
        simp only [List.setIfInBounds_toArray, List.set_cons_zero, List.set_cons_succ]
        have dG : ∀ {x y : World} {q : Option Nat}, x.grownBy y q → x.heap.size ≤ y.heap.size := fun h => h.size
        refine held_two 1 5 rfl rfl (by kernel_rfl) (by rfl) (by rfl) ?_ ?_
        · refine wp_appL (.const (.slice none 0 0)) (.tmp 52) rfl wr0.heap.size (.slice none 0 0) 0 [] rfl (World.ownsRow_nil _ _ _ _) A5 n5 c5 (lessOf n ls) rfl LEN.out NIL.out (ROW.out wr0.drew ((Below.refl _ _).drew)) (by omega) (Nat.le_refl _) ?_
          intro v1 w4 o1 g1
          have o1' : w4.ownsRow wr0.heap.size 23 2 v1 n5 (lc (lessOf n ls)) := by simpa using o1
          have d1 : Below wr0.heap.size wr0 w4 := ((Below.refl _ _).drew).grown g1 (Nat.le_refl _) (fun _ h => by cases h)
          refine ⟨d1, ?_⟩
          show wpAnyH _ _ _ _ _ _ _ ⟨Array.setIfInBounds _ 53 v1, _⟩ _
          simp only [List.setIfInBounds_toArray, List.set_cons_zero, List.set_cons_succ]
          have dZ : Below wr0.heap.size wr0 (w4.alloc (.cells #[.string n, .string ⟨#[]⟩] 23)) := d1.alloc d1.size _
          refine held_op 5 rfl (by kernel_rfl) (by rfl) ?_
          refine wp_run (v := .slice (some ⟨w4.heap.size, 0, none⟩) 1 1) (w' := w4.alloc (.cells #[.string n, .string ⟨#[]⟩] 23)) rfl (by go_simp) ⟨dZ, ?_⟩
          simp only [List.setIfInBounds_toArray, List.set_cons_zero, List.set_cons_succ]
          have oZ : (w4.alloc (.cells #[.string n, .string ⟨#[]⟩] 23)).ownsRow wr0.heap.size 23 2 v1 n5 (lc (lessOf n ls)) := o1'.alloc _
          have hsZ : wr0.heap.size ≤ (w4.alloc (.cells #[.string n, .string ⟨#[]⟩] 23)).heap.size := dZ.size
          refine held_op 6 rfl (by kernel_rfl) (by rfl) ?_
          refine wp_appL (.tmp 53) (.tmp 57) rfl wr0.heap.size v1 n5 (lessOf n ls) rfl oZ (some ⟨w4.heap.size, 0, none⟩) 1 1 [(n, ⟨#[]⟩)] rfl rfl (fun e => by cases e) (lit_lab w4 (n, ⟨#[]⟩)) (by omega) hsZ ?_
          clear o1 g1 o1' d1
          intro v3 w6 o3 g3
          have d3 : Below wr0.heap.size wr0 w6 := dZ.grown g3 dZ.size (fun g hg => by have := own_geL oZ g hg; omega)
          refine ⟨d3, ?_⟩
          show wpAnyH _ _ _ _ _ _ _ ⟨Array.setIfInBounds _ 58 v3, _⟩ _
          simp only [List.setIfInBounds_toArray, List.set_cons_zero, List.set_cons_succ]
          obtain ⟨A7, c7, rfl, _, _, i9, l9⟩ := own_formL o3
          refine held_take 7 8 (v := .slice A7 (n5 + 1) c7) rfl rfl (by kernel_rfl) (by kernel_rfl) (by kernel_rfl) (by rfl) (fun _ _ _ h => h) (by assumption) ?_ ?_
          · intro W hW
            go_simp
          simp only [List.setIfInBounds_toArray, List.set_cons_zero, List.set_cons_succ]
          refine wpAnyH_done (by kernel_rfl) ?_ _
          have IN := Lib.hid i9
          have DN := Lib.hid d3
          have LN := Lib.hid l9
          clear o3 g3 dZ oZ hsZ dG hHeld d3 i9 l9
          go_wp2
          go_meet
          case rel => exact ⟨A7, c7, rfl, DN.out, IN.out, LN.out⟩
        · have dA : Below wr0.heap.size wr0 (wr0.drew.alloc (.cells #[.string n, .string ⟨#[]⟩] 23)) := ((Below.refl _ _).drew).alloc (Nat.le_refl _) _
          refine wp_run (v := .slice (some ⟨wr0.heap.size, 0, none⟩) 1 1) (w' := wr0.drew.alloc (.cells #[.string n, .string ⟨#[]⟩] 23)) rfl (by go_simp) ⟨dA, ?_⟩
          simp only [List.setIfInBounds_toArray, List.set_cons_zero, List.set_cons_succ]
          have hsA : wr0.heap.size + 1 ≤ (wr0.drew.alloc (.cells #[.string n, .string ⟨#[]⟩] 23)).heap.size := by simp
          refine held_op 1 rfl (by kernel_rfl) (by rfl) ?_
          refine wp_appL (.const (.slice none 0 0)) (.tmp 52) rfl (wr0.heap.size + 1) (.slice none 0 0) 0 [] rfl (World.ownsRow_nil _ _ _ _) A5 n5 c5 (lessOf n ls) rfl LEN.out NIL.out (ROW.out (wr0.drew.alloc (.cells #[.string n, .string ⟨#[]⟩] 23)) dA) (by omega) hsA ?_
          intro v1 w4 o1 g1
          have oZ : w4.ownsRow (wr0.heap.size + 1) 23 2 v1 n5 (lc (lessOf n ls)) := by simpa using o1
          have dZ : Below wr0.heap.size wr0 w4 := dA.grown g1 dA.size (fun _ h => by cases h)
          have dB : Below (wr0.drew.alloc (.cells #[.string n, .string ⟨#[]⟩] 23)).heap.size (wr0.drew.alloc (.cells #[.string n, .string ⟨#[]⟩] 23)) w4 := (Below.refl _ _).grown g1 (Nat.le_refl _) (fun _ h => by cases h)
          have lr : IsLabs w4 (some ⟨wr0.heap.size, 0, none⟩) [(n, ⟨#[]⟩)] := (lit_lab wr0.drew (n, ⟨#[]⟩)).below dB
          have hsZ : wr0.heap.size + 1 ≤ w4.heap.size := Nat.le_trans hsA dB.size
          refine ⟨dZ, ?_⟩
          show wpAnyH _ _ _ _ _ _ _ ⟨Array.setIfInBounds _ 53 v1, _⟩ _
          simp only [List.setIfInBounds_toArray, List.set_cons_zero, List.set_cons_succ]
          refine held_op 6 rfl (by kernel_rfl) (by rfl) ?_
          refine wp_appL (.tmp 53) (.tmp 57) rfl (wr0.heap.size + 1) v1 n5 (lessOf n ls) rfl oZ (some ⟨wr0.heap.size, 0, none⟩) 1 1 [(n, ⟨#[]⟩)] rfl rfl (fun e => by cases e) lr (by omega) hsZ ?_
          clear o1 g1 dA dB lr
          intro v3 w6 o3 g3
          have d3 : Below wr0.heap.size wr0 w6 := dZ.grown g3 dZ.size (fun g hg => by have := own_geL oZ g hg; omega)
          refine ⟨d3, ?_⟩
          show wpAnyH _ _ _ _ _ _ _ ⟨Array.setIfInBounds _ 58 v3, _⟩ _
          simp only [List.setIfInBounds_toArray, List.set_cons_zero, List.set_cons_succ]
          obtain ⟨A7, c7, rfl, _, _, i9, l9⟩ := own_formL o3
          refine held_take 7 8 (v := .slice A7 (n5 + 1) c7) rfl rfl (by kernel_rfl) (by kernel_rfl) (by kernel_rfl) (by rfl) (fun _ _ _ h => h) (by assumption) ?_ ?_
          · intro W hW
            go_simp
          simp only [List.setIfInBounds_toArray, List.set_cons_zero, List.set_cons_succ]
          refine wpAnyH_done (by kernel_rfl) ?_ _
          have IN := Lib.hid i9
          have DN := Lib.hid d3
          have LN := Lib.hid l9
          clear o3 g3 dZ oZ hsZ dG hHeld d3 i9 l9
          go_wp2
          go_meet
          case rel => exact ⟨A7, c7, rfl, DN.out, IN.out, LN.out⟩
      obtain ⟨A7, c7, rfl, hC⟩ := hcut
      obtain ⟨w7, hw7⟩ : ∃ w7, wc = w7 := ⟨_, rfl⟩
      subst wc
      have DN := Lib.hid hC.out.1
      have IN := Lib.hid hC.out.2.1
      have LE := Lib.hid hC.out.2.2
      have BQ2 := Lib.hid (BQ.out.trans (DN.out.mono BQ.out.size))
      have ROW1 := Lib.hid (fun W (hW : Below w7.heap.size w7 W) => ROWL.out W (DN.out.trans (hW.mono DN.out.size)))
      have ROW2 := Lib.hid (fun W (hW : Below w7.heap.size w7 W) => ROWO.out W (DN.out.trans (hW.mono DN.out.size)))
      have IE := Lib.hid (fun W (hW : Below w7.heap.size w7 W) => IN.out.below hW)
      clear ROW ROWL ROWO IN DN BQ NIL LEN hC
      have BQ := BQ2
      have ROW := ROW2
      have NIL := NILO
      have LEN := LEN6
      clear BQ2 ROW2
      go_wp2_with fail
      go_cut [9] from 59 (fun s9 wx => ∃ (A9 : Option Addr) (c9 : Nat), s9 = .slice A9 (n6 + 1) c9 ∧ Hid (Below w7.heap.size w7 wx ∧ IsLabs wx A9 (ownOf n ls ++ [(n, ⟨#[122, 122]⟩)]) ∧ (ownOf n ls ++ [(n, (⟨#[122, 122]⟩ : ByteArray))]).length = n6 + 1))
      case first =>
        refine wp_region_held_drew (S := fun W => Below w7.heap.size w7 W) (by kernel_rfl) ((Below.refl _ _).drew) (fun hHeld => ?_)
        refine held_take 0 59 (v := (.slice A6 n6 c6)) rfl rfl (by kernel_rfl) (by kernel_rfl) (by kernel_rfl) (by rfl) (fun _ _ _ h => h) (by assumption) ?_ ?_
        · intro W hW
          go_simp
        simp only [List.setIfInBounds_toArray, List.set_cons_zero, List.set_cons_succ]
        refine held_take 2 61 (v := (.pointer (some ⟨w.heap.size, 1, none⟩))) rfl rfl (by kernel_rfl) (by kernel_rfl) (by kernel_rfl) (by rfl) (fun _ _ _ h => h) (by assumption) ?_ ?_
        · intro W hW
          go_simp
        simp only [List.setIfInBounds_toArray, List.set_cons_zero, List.set_cons_succ]
        refine held_take 3 62 (v := (.string n)) rfl rfl (by kernel_rfl) (by kernel_rfl) (by kernel_rfl) (by rfl) (fun _ _ _ h => h) (by assumption) ?_ ?_
        · intro W hW
          have z1 := NC.out W (BQ.out.trans (hW.mono BQ.out.size))
          go_simp
        simp only [List.setIfInBounds_toArray, List.set_cons_zero, List.set_cons_succ]
        refine held_take 4 63 (v := (.agg #[.string n, .string ⟨#[122, 122]⟩])) rfl rfl (by kernel_rfl) (by kernel_rfl) (by kernel_rfl) (by rfl) (fun _ _ _ h => h) (by assumption) ?_ ?_
        · intro W hW
          go_simp
        simp only [List.setIfInBounds_toArray, List.set_cons_zero, List.set_cons_succ]
        have dG : ∀ {x y : World} {q : Option Nat}, x.grownBy y q → x.heap.size ≤ y.heap.size := fun h => h.size
        refine held_two 1 5 rfl rfl (by kernel_rfl) (by rfl) (by rfl) ?_ ?_
        · refine wp_appL (.const (.slice none 0 0)) (.tmp 59) rfl w7.heap.size (.slice none 0 0) 0 [] rfl (World.ownsRow_nil _ _ _ _) A6 n6 c6 (ownOf n ls) rfl LEN.out NIL.out (ROW.out w7.drew ((Below.refl _ _).drew)) (by omega) (Nat.le_refl _) ?_
          intro v1 w4 o1 g1
          have o1' : w4.ownsRow w7.heap.size 23 2 v1 n6 (lc (ownOf n ls)) := by simpa using o1
          have d1 : Below w7.heap.size w7 w4 := ((Below.refl _ _).drew).grown g1 (Nat.le_refl _) (fun _ h => by cases h)
          refine ⟨d1, ?_⟩
          show wpAnyH _ _ _ _ _ _ _ ⟨Array.setIfInBounds _ 60 v1, _⟩ _
          simp only [List.setIfInBounds_toArray, List.set_cons_zero, List.set_cons_succ]
          have dZ : Below w7.heap.size w7 (w4.alloc (.cells #[.string n, .string ⟨#[122, 122]⟩] 23)) := d1.alloc d1.size _
          refine held_op 5 rfl (by kernel_rfl) (by rfl) ?_
          refine wp_run (v := .slice (some ⟨w4.heap.size, 0, none⟩) 1 1) (w' := w4.alloc (.cells #[.string n, .string ⟨#[122, 122]⟩] 23)) rfl (by go_simp) ⟨dZ, ?_⟩
          simp only [List.setIfInBounds_toArray, List.set_cons_zero, List.set_cons_succ]
          have oZ : (w4.alloc (.cells #[.string n, .string ⟨#[122, 122]⟩] 23)).ownsRow w7.heap.size 23 2 v1 n6 (lc (ownOf n ls)) := o1'.alloc _
          have hsZ : w7.heap.size ≤ (w4.alloc (.cells #[.string n, .string ⟨#[122, 122]⟩] 23)).heap.size := dZ.size
          refine held_op 6 rfl (by kernel_rfl) (by rfl) ?_
          refine wp_appL (.tmp 60) (.tmp 64) rfl w7.heap.size v1 n6 (ownOf n ls) rfl oZ (some ⟨w4.heap.size, 0, none⟩) 1 1 [(n, ⟨#[122, 122]⟩)] rfl rfl (fun e => by cases e) (lit_lab w4 (n, ⟨#[122, 122]⟩)) (by omega) hsZ ?_
          clear o1 g1 o1' d1
          intro v3 w6 o3 g3
          have d3 : Below w7.heap.size w7 w6 := dZ.grown g3 dZ.size (fun g hg => by have := own_geL oZ g hg; omega)
          refine ⟨d3, ?_⟩
          show wpAnyH _ _ _ _ _ _ _ ⟨Array.setIfInBounds _ 65 v3, _⟩ _
          simp only [List.setIfInBounds_toArray, List.set_cons_zero, List.set_cons_succ]
          obtain ⟨A9, c9, rfl, _, _, i9, l9⟩ := own_formL o3
          refine held_take 7 9 (v := .slice A9 (n6 + 1) c9) rfl rfl (by kernel_rfl) (by kernel_rfl) (by kernel_rfl) (by rfl) (fun _ _ _ h => h) (by assumption) ?_ ?_
          · intro W hW
            go_simp
          simp only [List.setIfInBounds_toArray, List.set_cons_zero, List.set_cons_succ]
          refine wpAnyH_done (by kernel_rfl) ?_ _
          have IN := Lib.hid i9
          have DN := Lib.hid d3
          have LN := Lib.hid l9
          clear o3 g3 dZ oZ hsZ dG hHeld d3 i9 l9
          go_wp2
          go_meet
          case rel => exact ⟨A9, c9, rfl, DN.out, IN.out, LN.out⟩
        · have dA : Below w7.heap.size w7 (w7.drew.alloc (.cells #[.string n, .string ⟨#[122, 122]⟩] 23)) := ((Below.refl _ _).drew).alloc (Nat.le_refl _) _
          refine wp_run (v := .slice (some ⟨w7.heap.size, 0, none⟩) 1 1) (w' := w7.drew.alloc (.cells #[.string n, .string ⟨#[122, 122]⟩] 23)) rfl (by go_simp) ⟨dA, ?_⟩
          simp only [List.setIfInBounds_toArray, List.set_cons_zero, List.set_cons_succ]
          have hsA : w7.heap.size + 1 ≤ (w7.drew.alloc (.cells #[.string n, .string ⟨#[122, 122]⟩] 23)).heap.size := by simp
          refine held_op 1 rfl (by kernel_rfl) (by rfl) ?_
          refine wp_appL (.const (.slice none 0 0)) (.tmp 59) rfl (w7.heap.size + 1) (.slice none 0 0) 0 [] rfl (World.ownsRow_nil _ _ _ _) A6 n6 c6 (ownOf n ls) rfl LEN.out NIL.out (ROW.out (w7.drew.alloc (.cells #[.string n, .string ⟨#[122, 122]⟩] 23)) dA) (by omega) hsA ?_
          intro v1 w4 o1 g1
          have oZ : w4.ownsRow (w7.heap.size + 1) 23 2 v1 n6 (lc (ownOf n ls)) := by simpa using o1
          have dZ : Below w7.heap.size w7 w4 := dA.grown g1 dA.size (fun _ h => by cases h)
          have dB : Below (w7.drew.alloc (.cells #[.string n, .string ⟨#[122, 122]⟩] 23)).heap.size (w7.drew.alloc (.cells #[.string n, .string ⟨#[122, 122]⟩] 23)) w4 := (Below.refl _ _).grown g1 (Nat.le_refl _) (fun _ h => by cases h)
          have lr : IsLabs w4 (some ⟨w7.heap.size, 0, none⟩) [(n, ⟨#[122, 122]⟩)] := (lit_lab w7.drew (n, ⟨#[122, 122]⟩)).below dB
          have hsZ : w7.heap.size + 1 ≤ w4.heap.size := Nat.le_trans hsA dB.size
          refine ⟨dZ, ?_⟩
          show wpAnyH _ _ _ _ _ _ _ ⟨Array.setIfInBounds _ 60 v1, _⟩ _
          simp only [List.setIfInBounds_toArray, List.set_cons_zero, List.set_cons_succ]
          refine held_op 6 rfl (by kernel_rfl) (by rfl) ?_
          refine wp_appL (.tmp 60) (.tmp 64) rfl (w7.heap.size + 1) v1 n6 (ownOf n ls) rfl oZ (some ⟨w7.heap.size, 0, none⟩) 1 1 [(n, ⟨#[122, 122]⟩)] rfl rfl (fun e => by cases e) lr (by omega) hsZ ?_
          clear o1 g1 dA dB lr
          intro v3 w6 o3 g3
          have d3 : Below w7.heap.size w7 w6 := dZ.grown g3 dZ.size (fun g hg => by have := own_geL oZ g hg; omega)
          refine ⟨d3, ?_⟩
          show wpAnyH _ _ _ _ _ _ _ ⟨Array.setIfInBounds _ 65 v3, _⟩ _
          simp only [List.setIfInBounds_toArray, List.set_cons_zero, List.set_cons_succ]
          obtain ⟨A9, c9, rfl, _, _, i9, l9⟩ := own_formL o3
          refine held_take 7 9 (v := .slice A9 (n6 + 1) c9) rfl rfl (by kernel_rfl) (by kernel_rfl) (by kernel_rfl) (by rfl) (fun _ _ _ h => h) (by assumption) ?_ ?_
          · intro W hW
            go_simp
          simp only [List.setIfInBounds_toArray, List.set_cons_zero, List.set_cons_succ]
          refine wpAnyH_done (by kernel_rfl) ?_ _
          have IN := Lib.hid i9
          have DN := Lib.hid d3
          have LN := Lib.hid l9
          clear o3 g3 dZ oZ hsZ dG hHeld d3 i9 l9
          go_wp2
          go_meet
          case rel => exact ⟨A9, c9, rfl, DN.out, IN.out, LN.out⟩
      obtain ⟨A9, c9, rfl, hC⟩ := hcut
      obtain ⟨w8, hw8⟩ : ∃ w8, wc = w8 := ⟨_, rfl⟩
      subst wc
      have DN := Lib.hid hC.out.1
      have IN := Lib.hid hC.out.2.1
      have LN := Lib.hid hC.out.2.2
      clear hC
      have B8 := Lib.hid (BQ.out.trans (DN.out.mono BQ.out.size))
      have I1 := Lib.hid (fun W (hW : Below w8.heap.size w8 W) => ROW1.out W (DN.out.trans (hW.mono DN.out.size)))
      have I2 := Lib.hid (fun W (hW : Below w8.heap.size w8 W) => IE.out W (DN.out.trans (hW.mono DN.out.size)))
      have I3 := Lib.hid (fun W (hW : Below w8.heap.size w8 W) => ROW.out W (DN.out.trans (hW.mono DN.out.size)))
      have I4 := Lib.hid (fun W (hW : Below w8.heap.size w8 W) => LBW.out W (B8.out.trans (hW.mono B8.out.size)))
      have I5 := Lib.hid (fun W (hW : Below w8.heap.size w8 W) => IN.out.below hW)
      have CL8 := CELLS.out w8 B8.out
      obtain ⟨c0, c1, c2⟩ := CL8
      have GB : Hid (∀ q os, Below w2.heap.size w2 (grow (redrawn w8 q) os)) := fun q os => B8.out.trans ((below_regrown w8 q os).mono B8.out.size)
      have E1 : Hid (Mat.holds ⟨k0, n, v⟩ (lessOf n ls) = Mat.says ⟨k0, n, v⟩ ⟨#[]⟩) := by show Mat.says _ _ = _; rw [getL_less]
      have E2 : Hid (Mat.holds ⟨k0, n, v⟩ (lessOf n ls ++ [(n, ⟨#[]⟩)]) = Mat.says ⟨k0, n, v⟩ ⟨#[]⟩) := by show Mat.says _ _ = _; rw [getL_empty8]
      have E3 : Hid (Mat.holds ⟨k0, n, v⟩ (ownOf n ls) = Mat.holds ⟨k0, n, v⟩ ls) := by show Mat.says _ _ = Mat.says _ _; rw [getL_own]
      have K1 : Hid (∀ q os, Calls Tryd.prog 11 #[.agg #[.int .i64 k0, .string n, .string v], .slice A5 n5 c5] (grow (redrawn w8 q) os) fun e w'' => e = .returned (.bool (Mat.says ⟨k0, n, v⟩ ⟨#[]⟩)) ∧ ∃ p : Regrown, w'' = grow (redrawn w8 p.d) p.os) := fun q os => Calls.regrown_of (by rw [← E1.out]; exact mholds_any k0 n v (lessOf n ls) A5 n5 c5 _ (by omega) (by omega) LEN5.out (by omega) (fun x hx => VL.out x ((List.mem_filter.1 hx).1)) (I1.out _ (below_regrown w8 q os)) (DT.out _ (GB.out q os)))
      have K2 : Hid (∀ q os, Calls Tryd.prog 11 #[.agg #[.int .i64 k0, .string n, .string v], .slice A7 (n5 + 1) c7] (grow (redrawn w8 q) os) fun e w'' => e = .returned (.bool (Mat.says ⟨k0, n, v⟩ ⟨#[]⟩)) ∧ ∃ p : Regrown, w'' = grow (redrawn w8 p.d) p.os) := fun q os => Calls.regrown_of (by rw [← E2.out]; exact mholds_any k0 n v (lessOf n ls ++ [(n, ⟨#[]⟩)]) A7 (n5 + 1) c7 _ (by omega) (by omega) LE.out (by omega) (fun x hx => VE.out x hx) (I2.out _ (below_regrown w8 q os)) (DT.out _ (GB.out q os)))
      have K3 : Hid (∀ q os, Calls Tryd.prog 11 #[.agg #[.int .i64 k0, .string n, .string v], .slice A6 n6 c6] (grow (redrawn w8 q) os) fun e w'' => e = .returned (.bool (Mat.holds ⟨k0, n, v⟩ ls)) ∧ ∃ p : Regrown, w'' = grow (redrawn w8 p.d) p.os) := fun q os => Calls.regrown_of (by rw [← E3.out]; exact mholds_any k0 n v (ownOf n ls) A6 n6 c6 _ (by omega) (by omega) LEN.out (by omega) (fun x hx => VL.out x ((List.mem_filter.1 hx).1)) (I3.out _ (below_regrown w8 q os)) (DT.out _ (GB.out q os)))
      have K4 : Hid (∀ q os, Calls Tryd.prog 11 #[.agg #[.int .i64 k0, .string n, .string v], .slice B k cb] (grow (redrawn w8 q) os) fun e w'' => e = .returned (.bool (Mat.holds ⟨k0, n, v⟩ ls)) ∧ ∃ p : Regrown, w'' = grow (redrawn w8 p.d) p.os) := fun q os => Calls.regrown_of (mholds_any k0 n v ls B k cb _ (by omega) (by omega) HM.out (by omega) VL.out (I4.out _ (below_regrown w8 q os)) (DT.out _ (GB.out q os)))
      have K6 : Hid (∀ q os, Calls Tryd.prog 3 #[] (grow (redrawn w8 q) os) fun e w'' => e = .returned (.bool true) ∧ ∃ p : Regrown, w'' = grow (redrawn w8 p.d) p.os) := fun q os => Calls.regrown_of (RN.out _ (GB.out q os))
      have g1 : (Mat.says ⟨k0, n, v⟩ ⟨#[]⟩ == Mat.says ⟨k0, n, v⟩ ⟨#[]⟩) = true := by simp
      have g2 : (Mat.holds ⟨k0, n, v⟩ ls == Mat.holds ⟨k0, n, v⟩ ls) = true := by simp
      by_cases h6 : n6 = 0
      · have K5 := K6
        subst h6
        generalize Mat.says ⟨k0, n, v⟩ ⟨#[]⟩ = z1 at *
        generalize Mat.holds ⟨k0, n, v⟩ ls = z2 at *
        replace c0 := cell_regrown c0
        replace c1 := cell_regrown c1
        replace c2 := cell_regrown c2
        clear E1 E2 E3 I1 I2 I3 I4 I5 ROW ROW1 IE IN CELLS LBW DT RN VL VE NC LEN5 LE LN LEN NIL DN BQ
        go_wp2_with fail
        refine wp_region_quiet_below (by kernel_rfl) (by kernel_rfl) ?_
        iterate 3 (go_big_quiet_step (exact K1.out _ _))
        iterate 3 (go_big_quiet_step (exact K2.out _ _))
        iterate 5 (go_big_quiet_step (exact K3.out _ _))
        iterate 3 (go_big_quiet_step (exact K4.out _ _))
        repeat (go_big_quiet_step (exact K6.out _ _))
        refine wpQuiet_nil ?_
        intro _ hw'
        obtain ⟨⟨dq, osq⟩, hw''⟩ := hw'
        subst hw''
        have G := Lib.hid (GB.out dq osq)
        clear c0 c1 c2 K1 K2 K3 K4 K5 K6 GB
        generalize grow (redrawn w8 dq) osq = w9 at *
        go_wp2
        go_ret
        exact ⟨rfl, B2.out.trans (G.out.mono B2.out.size)⟩
      have E5 : Hid (Mat.holds ⟨k0, n, v⟩ (ownOf n ls ++ [(n, (⟨#[122, 122]⟩ : ByteArray))]) = Mat.holds ⟨k0, n, v⟩ ls) := by show Mat.says _ _ = Mat.says _ _; rw [getL_more (by rw [LEN.out]; omega)]
      have K5 : Hid (∀ q os, Calls Tryd.prog 11 #[.agg #[.int .i64 k0, .string n, .string v], .slice A9 (n6 + 1) c9] (grow (redrawn w8 q) os) fun e w'' => e = .returned (.bool (Mat.holds ⟨k0, n, v⟩ ls)) ∧ ∃ p : Regrown, w'' = grow (redrawn w8 p.d) p.os) := fun q os => Calls.regrown_of (by rw [← E5.out]; exact mholds_any k0 n v (ownOf n ls ++ [(n, (⟨#[122, 122]⟩ : ByteArray))]) A9 (n6 + 1) c9 _ (by omega) (by omega) LN.out (by omega) (fun x hx => VM.out x hx) (I5.out _ (below_regrown w8 q os)) (DT.out _ (GB.out q os)))
      have p6 : ((n6 : Int) == 0) = false := by simp; omega
      generalize Mat.says ⟨k0, n, v⟩ ⟨#[]⟩ = z1 at *
      generalize Mat.holds ⟨k0, n, v⟩ ls = z2 at *
      replace c0 := cell_regrown c0
      replace c1 := cell_regrown c1
      replace c2 := cell_regrown c2
      clear E1 E2 E3 E5 I1 I2 I3 I4 I5 ROW ROW1 IE IN CELLS LBW DT RN VL VE VM NC LEN5 LE LN LEN NIL DN BQ h6
      go_wp2_with fail
      refine wp_region_quiet_below (by kernel_rfl) (by kernel_rfl) ?_
      iterate 3 (go_big_quiet_step (exact K1.out _ _))
      iterate 3 (go_big_quiet_step (exact K2.out _ _))
      iterate 5 (go_big_quiet_step (exact K3.out _ _))
      iterate 3 (go_big_quiet_step (exact K4.out _ _))
      iterate 7 (go_big_quiet_step (fail))
      iterate 3 (go_big_quiet_step (exact K5.out _ _))
      iterate 3 (go_big_quiet_step (exact K4.out _ _))
      repeat (go_big_quiet_step (exact K6.out _ _))
      refine wpQuiet_nil ?_
      intro _ hw'
      obtain ⟨⟨dq, osq⟩, hw''⟩ := hw'
      subst hw''
      have G := Lib.hid (GB.out dq osq)
      clear c0 c1 c2 K1 K2 K3 K4 K5 K6 GB
      generalize grow (redrawn w8 dq) osq = w9 at *
      go_wp2
      go_ret
      exact ⟨rfl, B2.out.trans (G.out.mono B2.out.size)⟩
end Go.Proofs.YtjmojjjgifkkiaaDoor
