/-
  What the law's step does: an id with drawn labels added, or one dropped; the list beside the index. Conditions: room.
-/
import Derived.Test.YtlfcjjlgkcfkdaaGreatDoorY03
import Derived.Test.YtlfcjjlgkcfkdaaGreatDoorDy
import Derived.Laws.Tables
namespace Go.Proofs.YtlfcjjlgkcfkdaaGreatDoor
open Go.RowKit Go.Maps Go.Sort La

/-! ### rows of alerts that one owns -/
/-- Alerts that one owns, their labels owned too. -/
structure AltsO (w : World) (base : Nat) (v : Value) (L : List AltC) : Prop where
  own : w.ownsRow base 44 3 v L.length (alc L)
  good : ∀ p ∈ L, ∃ A c b', p.2.1 = .slice A p.2.2.length c ∧ w.ownsRow b' 26 2 (.slice A p.2.2.length c) p.2.2.length (lc p.2.2)
  okl : ∀ p ∈ L, ∀ y ∈ p.2.2, okL y
theorem AltsO.read {w : World} {base : Nat} {v : Value} {L : List AltC} (h : AltsO w base v L) : ∃ A c, v = .slice A L.length c ∧ L.length ≤ c ∧ AltsR w A L.length c L := by
  obtain ⟨A, c, e, h1, h2, h3⟩ := own_row h.own
  refine ⟨A, c, e, h2, rfl, h1, h3, fun p hp => ?_⟩
  obtain ⟨A', c', b', e1, e2⟩ := h.good p hp
  obtain ⟨A2, c2, ea, _, e3, e4, _⟩ := own_formL e2
  injection ea with ea1 ea2 ea3
  subst ea1 ea3
  exact ⟨A', c', e1, e3, e4⟩
theorem AltsO.below {w w' : World} {base : Nat} {v : Value} {L : List AltC} (h : AltsO w base v L) (hb : Below w.heap.size w w') : AltsO w' base v L :=
  ⟨own_keepL h.own hb, fun p hp => by obtain ⟨A, c, b', e1, e2⟩ := h.good p hp; exact ⟨A, c, b', e1, own_keepL e2 hb⟩, h.okl⟩
theorem AltsO.turns {S : Nat → Prop} {w w' : World} {base : Nat} {v : Value} {L : List AltC} (h : AltsO w base v L) (t : Turns S w w') (hm : AreMaps S w) : AltsO w' base v L :=
  ⟨own_turns h.own t (fun k cur fr hk e => by obtain ⟨es, c, e2⟩ := hm k hk; rw [e2] at e; cases e), fun p hp => by obtain ⟨A, c, b', e1, e2⟩ := h.good p hp; exact ⟨A, c, b', e1, own_turns e2 t hm.far.lab⟩, h.okl⟩
theorem Turns.ofGrown {w w' : World} {row : Option Nat} (g : w.grownBy w' row) : Turns (fun k => some k = row) w w' := ⟨g.os, g.tape, g.output, g.size, fun k hk hn => g.block k hk hn⟩
/-- A row of alerts is none of an index's rows. -/
theorem far_row {w : World} {base n : Nat} {v : Value} {xs : List Value} (h : w.ownsRow base 44 3 v n xs) : Far (fun k => some k = v.ownBlock) w := fun k hk => by
  rcases h.2 with ⟨rfl, _⟩ | ⟨g, cap, cur, rfl, _, hg, _⟩
  · simp [Value.ownBlock] at hk
  · obtain rfl : k = g := by simpa [Value.ownBlock] using hk
    exact ⟨_, hg, fun cur' fr => ⟨(fun e => by injection e with _ e _; exact absurd e (by decide)), (fun e => by injection e with _ e _; exact absurd e (by decide)), (fun e => by injection e with _ e _; exact absurd e (by decide))⟩⟩
theorem IdxAt.grownRow {w w' : World} {x b1 b2 N base n : Nat} {T : List Ent} {v : Value} {xs : List Value} (h : IdxAt w x b1 b2 N T) (ho : w.ownsRow base 44 3 v n xs) (g : w.grownBy w' v.ownBlock) : IdxAt w' x b1 b2 N T := by
  have m1 := h.maps b1 (.inl rfl)
  have m2 := h.maps b2 (.inr rfl)
  obtain ⟨es1, c1, e1⟩ := m1
  obtain ⟨es2, c2, e2⟩ := m2
  exact h.turns (Turns.ofGrown g) (far_row ho) (own_ne_obj ho e1 fun _ _ _ e => by cases e) (own_ne_obj ho e2 fun _ _ _ e => by cases e)
theorem Tryz.infoA8 : (Tryz.prog.info? 44).map (fun i => (i.zero, i.size, i.bytes)) = some (some (.agg #[.int .i64 0, .slice none 0 0, .float .f64 0]), 3, 40) := by kernel_rfl
theorem Tryz.sizeA8 : (Tryz.prog.info? 44).map (·.size) = some 3 := by kernel_rfl
set_option maxRecDepth 100000 in
/-- append(v, l...) of alerts. -/
theorem run_appA {w : World} (base : Nat) (v : Value) (n : Nat) (xs : List Value) (hown : w.ownsRow base 44 3 v n xs) (A : Option Addr) (M c : Nat) (ys : List Value) (hl : ys.length = M * 3) (hA : A = none → c = 0) (hr : RowIs w A ys) (h1 : ∀ u ∈ ys, u.oneCell' = true) (hlen : n + M ≤ 1000000) (hbase : base ≤ w.heap.size) :
    ∃ v' w', (Builtin.append_ #[37, 37] 37 #[v, .slice A M c]).run Tryz.prog w = .ok v' w' ∧ w'.ownsRow base 44 3 v' (n + M) (xs ++ ys) ∧ w.grownBy w' v.ownBlock := by
  obtain ⟨i0, hi, hz0, hz1, hz2⟩ := info_parts Tryz.infoA8
  rcases A with _ | ad
  · obtain rfl := hA rfl
    have hl0 : ys = [] := by
      rcases Nat.eq_zero_or_pos ys.length with h0 | h0
      · exact List.eq_nil_of_length_eq_zero h0
      · obtain ⟨_, _, e, _⟩ := hr h0; cases e
    subst hl0
    obtain rfl : M = 0 := by simp at hl; omega
    exact ⟨v, w, run_append_owned_none (P := Tryz.prog) (w := w) base 37 37 44 i0 3 Tryz.underlying37 hi v n _ hown, by simpa using hown, World.grownBy.refl w _⟩
  · obtain ⟨v', w', h2, h3, h4, _⟩ := run_append_own (P := Tryz.prog) w base 37 37 44 i0 (.agg #[.int .i64 0, .slice none 0 0, .float .f64 0]) 3 40 Tryz.underlying37 hi hz0 hz1 hz2 rfl (by decide) v n xs hown ad M c ys hl (fun j u hu => by
        have hj : j < ys.length := by
          rcases Nat.lt_or_ge j ys.length with h1 | h1
          · exact h1
          · rw [List.getElem?_eq_none h1] at hu; cases hu
        obtain ⟨b, off, e, hc⟩ := hr (by omega)
        injection e with e
        subst e
        rw [addr_addNZ]
        exact hc j u hu) h1 (by unfold maxLen; omega) (by omega) hbase
    exact ⟨v', w', h2, h3, h4⟩
/-- append, where what it makes is known. -/
theorem wp_appRun {o : Oper} {ts : Array Value} {ds : List Deferred} {w w' : World} {v v' : Value} {A : Option Addr} {L c d : Nat} {t : TypeId} {K : Act → World → Prop} {Q : Exit → Act → World → Prop} (s x : Operand) (ho : o.op = .call { callee := .builtin .append, args := #[s, x], argTypes := #[t, t] }) (hty : o.type = t) (hd : o.dst = some d)
    (hs : (Act.mk ts ds).eval s = v) (hx : (Act.mk ts ds).eval x = .slice A L c) (hrun : (Builtin.append_ #[t, t] t #[v, .slice A L c]).run Tryz.prog w = .ok v' w') (h : K ⟨ts.setIfInBounds d v', ds⟩ w') : o.wp Tryz.prog ⟨ts, ds⟩ w K Q := by
  unfold Oper.wp
  simp [execOp, ho, resolve, invoke, builtin, hs, hx, hty, hrun, Result.andThen]
  show K _ _
  rw [hd]
  exact h
theorem wpList_appRun {ops : Array Oper} {rest : List Oper} {o : Oper} {ts : Array Value} {ds : List Deferred} {w w' : World} {v v' : Value} {A : Option Addr} {L c d : Nat} {t : TypeId} {Q : Exit → Act → World → Prop} (hgd : o.guard = none) (s x : Operand) (ho : o.op = .call { callee := .builtin .append, args := #[s, x], argTypes := #[t, t] }) (hty : o.type = t) (hd : o.dst = some d)
    (hs : (Act.mk ts ds).eval s = v) (hx : (Act.mk ts ds).eval x = .slice A L c) (hrun : (Builtin.append_ #[t, t] t #[v, .slice A L c]).run Tryz.prog w = .ok v' w') (h : wpList Tryz.prog ops Q rest ⟨ts.setIfInBounds d v', ds⟩ w') : wpList Tryz.prog ops Q (o :: rest) ⟨ts, ds⟩ w :=
  wpList_plain hgd fun _ hK => wp_appRun s x ho hty hd hs hx hrun (hK _ _ h)
theorem acut_lo (W : World) (g k c m : Nat) (hm : m ≤ c) : (Instr.slice 37 (.slice (some ⟨g, 0, none⟩) k c) none (some (.int .i64 (m : Int))) none).run Tryz.prog W = .ok (.slice (some ⟨g, 0, none⟩) m c) W := by
  obtain ⟨i0, hi, hz0, hz1, hz2⟩ := info_parts Tryz.infoA8
  simp [Instr.slice, Instr.sliceBounds, Instr.sliceBound, run_underlying Tryz.underlying37, asIntOf, sizeOf, typeInfo, hi, go_sem]
  intro h; omega
theorem acut_hi (W : World) (g k c m : Nat) (hm : m ≤ k) : (Instr.slice 37 (.slice (some ⟨g, 0, none⟩) k c) (some (.int .i64 (m : Int))) none none).run Tryz.prog W = .ok (.slice (some (if c = m then ⟨g, 0, none⟩ else ⟨g, m * 3, none⟩)) (k - m) (c - m)) W := by
  obtain ⟨i0, hi, hz0, hz1, hz2⟩ := info_parts Tryz.infoA8
  simp [Instr.slice, Instr.sliceBounds, Instr.sliceBound, run_underlying Tryz.underlying37, asIntOf, sizeOf, typeInfo, hi, hz1, go_sem]
  by_cases hc : c = m
  · simp [hc]; intro h; omega
  · simp [hc]; intro h; omega
theorem alc_take (L : List AltC) (m : Nat) : (alc L).take (m * 3) = alc (L.take m) := by
  induction L generalizing m with
  | nil => simp [alc]
  | cons x r ih =>
    cases m with
    | zero => simp [alc]
    | succ m =>
      have e : alc (x :: r) = .int .i64 x.1 :: x.2.1 :: .float .f64 0 :: alc r := rfl
      have e1 : (m + 1) * 3 = m * 3 + 1 + 1 + 1 := by omega
      rw [e, e1]
      simp only [List.take_succ_cons]
      rw [ih]
      rfl
theorem alc_drop (L : List AltC) (m : Nat) : (alc L).drop (m * 3) = alc (L.drop m) := by
  induction L generalizing m with
  | nil => simp [alc]
  | cons x r ih =>
    cases m with
    | zero => simp
    | succ m =>
      have e : alc (x :: r) = .int .i64 x.1 :: x.2.1 :: .float .f64 0 :: alc r := rfl
      have e1 : (m + 1) * 3 = m * 3 + 1 + 1 + 1 := by omega
      rw [e, e1]
      simp only [List.drop_succ_cons]
      exact ih m
theorem AltsO.one {w : World} {base : Nat} {v : Value} {L : List AltC} (h : AltsO w base v L) : ∀ u ∈ alc L, u.oneCell' = true := by
  intro u hu
  simp only [alc, List.mem_flatMap] at hu
  obtain ⟨p, hp, hu⟩ := hu
  obtain ⟨A, c, b', e1, _⟩ := h.good p hp
  rw [e1] at hu
  simp at hu
  rcases hu with rfl | rfl | rfl <;> rfl
/-- Where an id stands. -/
def AtI (L : List AltC) (id : Int) (k : Nat) (a : Int) : Prop := (a = -1 ∧ ∀ j, j < k → (anth L j).1 ≠ id) ∨ ∃ j, j < k ∧ a = (j : Int) ∧ (anth L j).1 = id
theorem less_at {L : List AltC} {id : Int} {j : Nat} (hnd : ((L.map ent).map Prod.fst).Nodup) (hj : j < L.length) (he : (anth L j).1 = id) : less (L.map ent) id = (L.take j ++ L.drop (j + 1)).map ent := by
  have e : L = L.take j ++ anth L j :: L.drop (j + 1) := by
    rw [anth_eq hj, ← List.drop_eq_getElem_cons hj, List.take_append_drop]
  have hnd2 := hnd
  rw [e, List.map_append, List.map_append, List.map_cons, List.map_cons, List.nodup_append, List.nodup_cons] at hnd2
  obtain ⟨h1, ⟨h2, h3⟩, h4⟩ := hnd2
  have he2 : (ent (anth L j)).1 = id := he
  rw [he2] at h2 h4
  conv => lhs; rw [e]
  unfold less
  rw [List.map_append, List.map_cons, List.filter_append, List.filter_cons, List.map_append]
  rw [if_neg (by simp [he2])]
  congr 1
  · refine List.filter_eq_self.2 fun p hp => ?_
    have : p.1 ≠ id := h4 p.1 (List.mem_map.2 ⟨p, hp, rfl⟩) id (by simp)
    simpa using this
  · refine List.filter_eq_self.2 fun p hp => ?_
    have : p.1 ≠ id := fun e2 => h2 (List.mem_map.2 ⟨p, hp, e2⟩)
    simpa using this
theorem at_out {L : List AltC} {id : Int} (h : ∀ j, j < L.length → (anth L j).1 ≠ id) : id ∉ (L.map ent).map Prod.fst := fun hi => by
  rw [List.map_map] at hi
  obtain ⟨p, hp, e⟩ := List.mem_map.1 hi
  obtain ⟨j, hj, ej⟩ := List.getElem_of_mem hp
  exact h j hj (by rw [anth_eq hj, ej]; exact e)
theorem at_in {L : List AltC} {id : Int} {j : Nat} (hj : j < L.length) (he : (anth L j).1 = id) : id ∈ (L.map ent).map Prod.fst := by
  rw [List.map_map]
  exact List.mem_map.2 ⟨anth L j, anth_mem hj, he⟩
/-- What step hands back. -/
def StepRes (w : World) (base x b1 b2 N : Nat) (n : Nat) (e : Ending) (w' : World) : Prop :=
  ∃ (L' : List AltC) (v' : Value), e = .returned (.tuple #[v', .bool true]) ∧ IdxAt w' x b1 b2 (N + 7) (L'.map ent) ∧ AltsO w' base v' L' ∧ L'.length ≤ n + 1 ∧ Below base w w'

theorem wrap_at {z : Int} (h1 : 0 ≤ z) (h2 : z ≤ 1000000) : IntKind.i64.wrap (z + 1) = z + 1 := by rw [IntKind.wrap_i64]; omega
set_option maxRecDepth 100000 in
set_option maxHeartbeats 8000000 in
theorem step_any {w : World} {x b1 b2 N base : Nat} {L : List AltC} {v : Value} (h : IdxAt w x b1 b2 N (L.map ent)) (ho : AltsO w base v L) (hbase : base ≤ w.heap.size) (hb1 : base ≤ b1) (hb2 : base ≤ b2) (d : Bool) (id : Int) (hid : (Lit.int .i64 id).wf = true) (zs : List Int) (zA : Option Addr) (zn zc : Nat) (hzn : zs.length = zn) (hz : IsInts w zA zs) (hL : L.length < 800) (hN : N + 7 ≤ 1000) :
    Calls Tryz.prog 34 #[.pointer (some ⟨x, 0, none⟩), v, .agg #[.bool d, .int .i64 id, .slice zA zn zc]] w (StepRes w base x b1 b2 N L.length) := by
  obtain ⟨A, c, rfl, hnc, hr⟩ := ho.read
  obtain ⟨n, hn⟩ : ∃ n, L.length = n := ⟨_, rfl⟩
  rw [hn] at hr hnc hL ho ⊢
  have QB : Below w.heap.size w (w.alloc (.cells #[.bool d, .int .i64 id, .slice zA zn zc] 74)) := (Below.refl _ _).alloc (Nat.le_refl _) _
  have hb : (w.alloc (.cells #[.bool d, .int .i64 id, .slice zA zn zc] 74)).heap[w.heap.size]? = some (.cells #[.bool d, .int .i64 id, .slice zA zn zc] 74 (0, 0)) := World.alloc_heap_new w _
  have SZ : (w.alloc (.cells #[.bool d, .int .i64 id, .slice zA zn zc] 74)).heap.size = w.heap.size + 1 := by simp
  have BOX : Hid (∀ W, Below (w.alloc (.cells #[.bool d, .int .i64 id, .slice zA zn zc] 74)).heap.size (w.alloc (.cells #[.bool d, .int .i64 id, .slice zA zn zc] 74)) W → W.cell? ⟨w.heap.size, 0, none⟩ = some (.bool d) ∧ W.cell? ⟨w.heap.size, 1, none⟩ = some (.int .i64 id) ∧ W.cell? ⟨w.heap.size, 2, none⟩ = some (.slice zA zn zc)) := fun W hW =>
    ⟨(hW.cell (p := ⟨_, 0, none⟩) (by rw [SZ]; exact Nat.lt_succ_self _)).trans (row_cell hb rfl), (hW.cell (p := ⟨_, 1, none⟩) (by rw [SZ]; exact Nat.lt_succ_self _)).trans (row_cell hb rfl), (hW.cell (p := ⟨_, 2, none⟩) (by rw [SZ]; exact Nat.lt_succ_self _)).trans (row_cell hb rfl)⟩
  have H0 := Lib.hid (h.below QB)
  have O0 := Lib.hid (ho.below QB)
  have R0 := Lib.hid (hr.below QB)
  have Z0 := Lib.hid (hz.below QB)
  have BQ := Lib.hid QB
  have HN := Lib.hid hn
  have ZN := Lib.hid hzn
  have SZh := Lib.hid SZ
  obtain ⟨w0, hw0⟩ : ∃ w0, w.alloc (.cells #[.bool d, .int .i64 id, .slice zA zn zc] 74) = w0 := ⟨_, rfl⟩
  rw [hw0] at BOX H0 O0 R0 Z0 BQ SZh
  clear h ho hr hz QB hb hn hzn SZ
  go_enter Tryz.func34, Tryz.ntmps34
  go_wp2
  clear hw0
  go_loopw [8, 9] (fun a i wr => ∃ (z : Int) (k : Nat), k ≤ n ∧ a = .int .i64 z ∧ i = .int .i64 (k : Int) ∧ Hid (AtI L id k z ∧ Below w0.heap.size w0 wr)) (fun _ i _ => n - (intOf i).toNat)
  case atStart => exact ⟨-1, 0, by omega, rfl, rfl, .inl ⟨rfl, fun j hj => by omega⟩, Below.refl _ _⟩
  case round =>
    obtain ⟨z, k, hk, rfl, rfl, HI⟩ := hrel
    by_cases hkn : k < n
    · have hkz : (k : Int) < (n : Int) := by omega
      obtain ⟨b, off, rfl, d0, _, _⟩ := (R0.out.below HI.out.2).at hkn
      obtain ⟨q0, q1, q2⟩ := BOX.out wr HI.out.2
      have WL : Hid (IntKind.i64.wrap ((k : Int) + 1) = (k : Int) + 1) := by show _ = _; rw [IntKind.wrap_i64]; omega
      obtain ⟨y, hy⟩ : ∃ y, (anth L k).1 = y := ⟨_, rfl⟩
      rw [hy] at d0
      have B1 := Lib.hid HI.out.2
      cases he : (y == id)
      · have I2 : Hid (AtI L id (k + 1) z) := by
          have hne : (anth L k).1 ≠ id := by rw [hy]; simpa using he
          rcases HI.out.1 with ⟨e, h⟩ | ⟨j, h1, h2, h3⟩
          · refine .inl ⟨e, fun j hj => ?_⟩
            by_cases ej : j = k
            · rw [ej]; exact hne
            · exact h j (by omega)
          · exact .inr ⟨j, by omega, h2, h3⟩
        clear HI hy
        go_wp2_with fail
        go_quiet (fail)
        have I3 : Hid (AtI L id (k + 1) z ∧ Below w0.heap.size w0 (wr.drewN nq)) := ⟨I2.out, below_drewN B1.out nq⟩
        clear I2 d0 q0 q1 q2 B1
        go_wp2_with (rw [WL.out])
        go_roundw
        case rel => exact ⟨z, k + 1, by omega, rfl, by go_num, I3⟩
        case measure => simp [intOf]; omega
      · have I2 : Hid (AtI L id (k + 1) (k : Int)) := .inr ⟨k, by omega, rfl, by rw [hy]; simpa using he⟩
        clear HI hy
        go_wp2_with fail
        go_quiet (fail)
        have I3 : Hid (AtI L id (k + 1) (k : Int) ∧ Below w0.heap.size w0 (wr.drewN nq)) := ⟨I2.out, below_drewN B1.out nq⟩
        clear I2 d0 q0 q1 q2 B1
        go_wp2_with (rw [WL.out])
        go_roundw
        case rel => exact ⟨(k : Int), k + 1, by omega, rfl, by go_num, I3⟩
        case measure => simp [intOf]; omega
    · obtain rfl : k = n := by omega
      have hkz : ¬ (k : Int) < (k : Int) := by omega
      have BB := Lib.hid HI.out.2
      have H1 := Lib.hid (H0.out.below HI.out.2)
      have O1 := Lib.hid (O0.out.below HI.out.2)
      have Z1 := Lib.hid (Z0.out.below HI.out.2)
      have BX1 : Hid (∀ W, Below wr.heap.size wr W → W.cell? ⟨w.heap.size, 0, none⟩ = some (.bool d) ∧ W.cell? ⟨w.heap.size, 1, none⟩ = some (.int .i64 id) ∧ W.cell? ⟨w.heap.size, 2, none⟩ = some (.slice zA zn zc)) := fun W hW => BOX.out W (BB.out.trans (hW.mono BB.out.size))
      have BW : Hid (Below w.heap.size w wr) := BQ.out.trans (BB.out.mono BQ.out.size)
      have BS : Hid (w.heap.size < wr.heap.size) := by have := BB.out.size; have := SZh.out; show _ < _; omega
      have SB := fun (W W' : World) (t : Turns (S2 b1 b2) W W') (hs : base ≤ W.heap.size) => t.below (base := base) (fun q hq => by rcases hq with rfl | rfl <;> assumption) hs
      have SBh := Lib.hid SB
      have AT := Lib.hid HI.out.1
      obtain ⟨q0, q1, q2⟩ := BX1.out wr (Below.refl _ _)
      clear HI SB H0 O0 R0 Z0 BOX BQ SZh
      cases d
      · go_wp2_with fail
        clear q0 q1 q2
        have K1 := Lib.hid (keep2_any zs zA zc wr.drew (Z1.out.below ((Below.refl _ _).drew)))
        have bZ : Below wr.heap.size wr (wr.drew.alloc (.cells #[.int .i64 0, .slice none 0 0, .float .f64 0] 44)) := ((Below.refl _ _).drew).alloc (Nat.le_refl _) _
        have K2 := Lib.hid (keep2_any zs zA zc (wr.drew.alloc (.cells #[.int .i64 0, .slice none 0 0, .float .f64 0] 44)) (Z1.out.below bZ))
        rw [ZN.out] at K1 K2
        refine wp_region_held_drew (S := fun W => Below wr.heap.size wr W) (by kernel_rfl) ((Below.refl _ _).drew) (fun hHeld => ?_)
        refine held_take 0 48 (v := (.pointer (some ⟨w.heap.size, 1, none⟩))) rfl rfl (by kernel_rfl) (by kernel_rfl) (by kernel_rfl) (by rfl) (fun _ _ _ h => h) (by assumption) ?_ ?_
        · intro W hW
          go_simp
        simp only [List.setIfInBounds_toArray, List.set_cons_zero, List.set_cons_succ]
        refine held_take 1 49 (v := (.int .i64 id)) rfl rfl (by kernel_rfl) (by kernel_rfl) (by kernel_rfl) (by rfl) (fun _ _ _ h => h) (by assumption) ?_ ?_
        · intro W hW
          obtain ⟨q0, q1, q2⟩ := BX1.out W hW
          go_simp
        simp only [List.setIfInBounds_toArray, List.set_cons_zero, List.set_cons_succ]
        refine held_take 2 50 (v := (.pointer (some ⟨w.heap.size, 2, none⟩))) rfl rfl (by kernel_rfl) (by kernel_rfl) (by kernel_rfl) (by rfl) (fun _ _ _ h => h) (by assumption) ?_ ?_
        · intro W hW
          go_simp
        simp only [List.setIfInBounds_toArray, List.set_cons_zero, List.set_cons_succ]
        refine held_take 3 51 (v := (.slice zA zn zc)) rfl rfl (by kernel_rfl) (by kernel_rfl) (by kernel_rfl) (by rfl) (fun _ _ _ h => h) (by assumption) ?_ ?_
        · intro W hW
          obtain ⟨q0, q1, q2⟩ := BX1.out W hW
          go_simp
        simp only [List.setIfInBounds_toArray, List.set_cons_zero, List.set_cons_succ]
        refine held_two 4 6 rfl rfl (by kernel_rfl) (by rfl) (by rfl) ?_ ?_
        · refine wp_call (f := 55) (args := #[.slice zA zn zc]) rfl (by go_simp) ?_
          refine K1.out.mono ?_
          rintro e w2 ⟨⟨l, v2, ⟨sl, okl⟩, rfl, ow⟩, bb⟩
          have d2 : Below wr.heap.size wr w2 := (Below.refl _ _).drew.trans bb
          have h2 := Below.refl w2.heap.size w2
          refine ⟨_, rfl, d2, ?_⟩
          obtain ⟨B, lc2, rfl, _, _, _, _⟩ := own_formL ow
          simp only [List.setIfInBounds_toArray, List.set_cons_zero, List.set_cons_succ]
          refine held_take 5 53 (v := (.agg #[.int .i64 id, .slice B l.length lc2, .float .f64 0])) rfl rfl (by kernel_rfl) (by kernel_rfl) (by kernel_rfl) (by rfl) (fun _ _ _ h => h) (by assumption) ?_ ?_
          · intro W hW
            go_simp
          simp only [List.setIfInBounds_toArray, List.set_cons_zero, List.set_cons_succ]
          have dA : Below wr.heap.size wr (w2.alloc (.cells #[.int .i64 0, .slice none 0 0, .float .f64 0] 44)) := d2.alloc d2.size _
          have hz2 : (w2.alloc (.cells #[.int .i64 0, .slice none 0 0, .float .f64 0] 44)).heap[w2.heap.size]? = some (.cells #[.int .i64 0, .slice none 0 0, .float .f64 0] 44 (0, 0)) := World.alloc_heap_new w2 _
          have dB : Below wr.heap.size wr ((w2.alloc (.cells #[.int .i64 0, .slice none 0 0, .float .f64 0] 44)).setRow w2.heap.size #[.int .i64 id, .slice B l.length lc2, .float .f64 0]) := below_setRow dA d2.size _
          have oB : World.ownsRow ((w2.alloc (.cells #[.int .i64 0, .slice none 0 0, .float .f64 0] 44)).setRow w2.heap.size #[.int .i64 id, .slice B l.length lc2, .float .f64 0]) wr.heap.size 26 2 (.slice B l.length lc2) l.length (lc l) := by
            refine own_turns (S := fun q => q = w2.heap.size) (ow.alloc _) ⟨rfl, rfl, rfl, by simp, fun q hq hs => setRow_other _ w2.heap.size q _ hs⟩ (fun q cur fr hq e => ?_)
            rw [hq, hz2] at e
            injection e with e
            injection e with _ e _
            exact absurd e (by decide)
          refine held_op 6 rfl (by kernel_rfl) (by rfl) ?_
          refine wp_run (v := .pointer (some ⟨w2.heap.size, 0, none⟩)) (w' := w2.alloc (.cells #[.int .i64 0, .slice none 0 0, .float .f64 0] 44)) rfl (by go_simp) ⟨dA, ?_⟩
          simp only [List.setIfInBounds_toArray, List.set_cons_zero, List.set_cons_succ]
          refine held_op 7 rfl (by kernel_rfl) (by rfl) ?_
          refine wp_store_row 44 (.tmp 10) (.tmp 53) rfl w2.heap.size #[.int .i64 id, .slice B l.length lc2, .float .f64 0] rfl rfl 44 _ hz2 Tryz.sizeA8 rfl (by simp [Value.oneCell']) ⟨dB, ?_⟩
          refine wpAnyH_done (by kernel_rfl) ?_ _
          have E : Hid (((w2.alloc (.cells #[.int .i64 0, .slice none 0 0, .float .f64 0] 44)).setRow w2.heap.size #[.int .i64 id, .slice B l.length lc2, .float .f64 0]).heap[w2.heap.size]? = some (.cells #[.int .i64 id, .slice B l.length lc2, .float .f64 0] 44 (0, 0)) ∧ Below wr.heap.size wr ((w2.alloc (.cells #[.int .i64 0, .slice none 0 0, .float .f64 0] 44)).setRow w2.heap.size #[.int .i64 id, .slice B l.length lc2, .float .f64 0]) ∧ World.ownsRow ((w2.alloc (.cells #[.int .i64 0, .slice none 0 0, .float .f64 0] 44)).setRow w2.heap.size #[.int .i64 id, .slice B l.length lc2, .float .f64 0]) wr.heap.size 26 2 (.slice B l.length lc2) l.length (lc l)) := ⟨setRow_heap _ _ _ _ _ _ hz2, dB, oB⟩
          have SL := Lib.hid sl
          have OKL := Lib.hid okl
          clear okl
          obtain ⟨w3, hw3⟩ : ∃ w3, (w2.alloc (.cells #[.int .i64 0, .slice none 0 0, .float .f64 0] 44)).setRow w2.heap.size #[.int .i64 id, .slice B l.length lc2, .float .f64 0] = w3 := ⟨_, rfl⟩
          obtain ⟨p, hp⟩ : ∃ p, w2.heap.size = p := ⟨_, rfl⟩
          rw [hw3] at E
          have E0 := E.out.1
          rw [hp] at E0
          replace E : Hid (w3.heap[p]? = some (.cells #[.int .i64 id, .slice B l.length lc2, .float .f64 0] 44 (0, 0)) ∧ Below wr.heap.size wr w3 ∧ World.ownsRow w3 wr.heap.size 26 2 (.slice B l.length lc2) l.length (lc l)) := ⟨E0, E.out.2⟩
          clear E0
          rw [hw3]
          clear hw3 ow bb d2 h2 dA dB sl K1 K2 bZ hHeld hz2 oB
          rw [hp]
          clear hp
          have H3 := Lib.hid (H1.out.below E.out.2.1)
          have O3 := Lib.hid (O1.out.below E.out.2.1)
          obtain ⟨q0, q1, q2⟩ := BX1.out w3 E.out.2.1
          have p0 := row_cell (j := 0) E.out.1 rfl
          have p1 := row_cell (j := 1) E.out.1 rfl
          have p2 := row_cell (j := 2) E.out.1 rfl
          obtain ⟨A2, c2, ea, _, hA2, hI2, _⟩ := own_formL E.out.2.2
          injection ea with ea1 ea2 ea3
          subst ea1 ea3
          obtain ⟨nl, hnl⟩ : ∃ nl, l.length = nl := ⟨_, rfl⟩
          have NL := Lib.hid hnl
          have CADD := Lib.hid (iadd_any H3.out id l B nl lc2 hid hnl (by have := (isSet_iff.1 SL.out).2.1; omega) (fun y hy => by have h1 := (set_small SL.out y hy).1; have h2 := (set_small SL.out y hy).2; omega) hA2 hI2 (by rw [List.length_map, HN.out]; omega) hN)
          rw [hnl] at p1
          clear hI2 hA2 hnl
          go_wp2_with fail
          refine CADD.out.mono ?_
          rintro e w4 ⟨ok, rfl, hok, h4, t4⟩
          have MM := H3.out.maps
          have O4 := Lib.hid (O3.out.turns t4 MM)
          have B4 : Hid (Below base w w4) := ((BW.out.mono hbase).trans (E.out.2.1.mono (Nat.le_trans hbase BW.out.size))).trans (SBh.out _ _ t4 (Nat.le_trans hbase (Nat.le_trans BW.out.size E.out.2.1.size)))
          have OL4 := Lib.hid (own_turns E.out.2.2 t4 MM.far.lab)
          have r0 := t4.cell MM p0
          have r1 := t4.cell MM p1
          have r2 := t4.cell MM p2
          clear p0 p1 p2 q0 q1 q2 MM CADD H3 O3
          rcases AT.out with ⟨rfl, hno⟩ | ⟨j, hj, rfl, hje⟩
          · have NI : Hid (id ∉ (L.map ent).map Prod.fst) := at_out (by rw [HN.out]; exact hno)
            obtain rfl : ok = true := hok.2 ⟨SL.out, NI.out⟩
            have H4 : Hid (IdxAt w4 x b1 b2 (N + 7) (L.map ent ++ [(id, l)])) := h4
            have PLT : p < w4.heap.size := World.block_lt_of_cell? w4 _ r0
            have LITB : Below w4.heap.size w4 (w4.alloc (.cells #[.int .i64 id, .slice B nl lc2, .float .f64 0] 44)) := (Below.refl _ _).alloc (Nat.le_refl _) _
            have O5 := (O4.out.below LITB)
            have RL : RowIs (w4.alloc (.cells #[.int .i64 id, .slice B nl lc2, .float .f64 0] 44)) (some ⟨w4.heap.size, 0, none⟩) (alc [(id, Value.slice B nl lc2, l)]) := fun _ => by
              have hb : (w4.alloc (.cells #[.int .i64 id, .slice B nl lc2, .float .f64 0] 44)).heap[w4.heap.size]? = some (.cells #[.int .i64 id, .slice B nl lc2, .float .f64 0] 44 (0, 0)) := World.alloc_heap_new w4 _
              refine ⟨w4.heap.size, 0, rfl, fun j u hu => ?_⟩
              rw [Nat.zero_add]
              refine row_cell hb ?_
              simpa [alc] using hu
            have OWN5 := O5.own
            rw [HN.out] at OWN5
            obtain ⟨v6, w6, run6, o6, g6⟩ := run_appA (w := w4.alloc (.cells #[.int .i64 id, .slice B nl lc2, .float .f64 0] 44)) base (.slice A k c) k (alc L) OWN5 (some ⟨w4.heap.size, 0, none⟩) 1 1 (alc [(id, Value.slice B nl lc2, l)]) (by simp [alc]) (fun e => by cases e) RL (fun u hu => by
              simp [alc] at hu
              rcases hu with rfl | rfl | rfl <;> rfl) (by omega) (Nat.le_trans (Nat.le_trans hbase B4.out.size) LITB.size)
            have Q : Hid (IdxAt w6 x b1 b2 (N + 7) ((L ++ [(id, Value.slice B nl lc2, l)]).map ent) ∧ AltsO w6 base v6 (L ++ [(id, Value.slice B nl lc2, l)]) ∧ Below base w w6 ∧ (L ++ [(id, Value.slice B nl lc2, l)]).length ≤ k + 1) := by
              have ll : (L ++ [(id, Value.slice B nl lc2, l)]).length = k + 1 := by rw [List.length_append, HN.out]; rfl
              have em : (L ++ [(id, Value.slice B nl lc2, l)]).map ent = L.map ent ++ [(id, l)] := by rw [List.map_append]; rfl
              refine ⟨by rw [em]; exact (H4.out.below LITB).grownRow OWN5 g6, ⟨?_, fun q hq => ?_, fun q hq => by
                rw [List.mem_append] at hq
                rcases hq with hq | hq
                · exact O5.okl q hq
                · obtain rfl : q = (id, Value.slice B nl lc2, l) := by simpa using hq
                  exact OKL.out⟩, (B4.out.trans (LITB.mono (Nat.le_trans hbase B4.out.size))).grown g6 (Nat.le_trans (Nat.le_trans hbase B4.out.size) LITB.size) (fun q hq => own_geL OWN5 q hq), Nat.le_of_eq ll⟩
              · rw [ll, alc_app]; exact o6
              · rw [List.mem_append] at hq
                rcases hq with hq | hq
                · obtain ⟨A', c', b', e1, e2⟩ := O5.good q hq
                  exact ⟨A', c', b', e1, own_turns e2 (Turns.ofGrown g6) (far_row OWN5).lab⟩
                · obtain rfl : q = (id, Value.slice B nl lc2, l) := by simpa using hq
                  have o7 := OL4.out
                  rw [NL.out] at o7
                  refine ⟨B, lc2, wr.heap.size, by show Value.slice B nl lc2 = .slice B l.length lc2; rw [NL.out], ?_⟩
                  show World.ownsRow w6 wr.heap.size 26 2 (.slice B l.length lc2) l.length (lc l)
                  rw [NL.out]
                  exact own_turns (own_keepL o7 LITB) (Turns.ofGrown g6) (far_row OWN5).lab
            clear hok h4 t4 O5 RL OWN5 o6 g6 LITB O4 B4 OL4
            go_wp2_with (at_builtin; refine wpList_appRun rfl _ _ rfl rfl rfl rfl rfl run6 ?_)
            clear run6
            go_wp2
            go_ret2
            exact ⟨_, v6, rfl, Q.out.1, Q.out.2.1, Q.out.2.2.2, Q.out.2.2.1⟩
          · have NI : Hid (id ∈ (L.map ent).map Prod.fst) := at_in (by rw [HN.out]; exact hj) hje
            obtain rfl : ok = false := by
              cases ok
              · rfl
              · exact absurd NI.out (hok.1 rfl).2
            have H4 : Hid (IdxAt w4 x b1 b2 (N + 7) (L.map ent)) := h4
            have hjd : decide ((j : Int) < 0) = false := decide_eq_false (by omega)
            clear hok h4 t4 r0 r1 r2
            go_wp2
            go_ret2
            exact ⟨L, _, rfl, H4.out, by have := O4.out; exact this, by rw [HN.out]; exact Nat.le_succ _, B4.out⟩
        · refine wp_run (v := .pointer (some ⟨wr.heap.size, 0, none⟩)) (w' := wr.drew.alloc (.cells #[.int .i64 0, .slice none 0 0, .float .f64 0] 44)) rfl (by go_simp) ⟨bZ, ?_⟩
          simp only [List.setIfInBounds_toArray, List.set_cons_zero, List.set_cons_succ]
          refine held_op 4 rfl (by kernel_rfl) (by rfl) ?_
          refine wp_call (f := 55) (args := #[.slice zA zn zc]) rfl (by go_simp) ?_
          refine K2.out.mono ?_
          rintro e w2 ⟨⟨l, v2, ⟨sl, okl⟩, rfl, ow⟩, bb⟩
          have d2 : Below wr.heap.size wr w2 := bZ.trans (bb.mono bZ.size)
          refine ⟨_, rfl, d2, ?_⟩
          obtain ⟨B, lc2, rfl, _, _, _, _⟩ := own_formL ow
          simp only [List.setIfInBounds_toArray, List.set_cons_zero, List.set_cons_succ]
          refine held_take 5 53 (v := (.agg #[.int .i64 id, .slice B l.length lc2, .float .f64 0])) rfl rfl (by kernel_rfl) (by kernel_rfl) (by kernel_rfl) (by rfl) (fun _ _ _ h => h) (by assumption) ?_ ?_
          · intro W hW
            go_simp
          simp only [List.setIfInBounds_toArray, List.set_cons_zero, List.set_cons_succ]
          have hz0 : (wr.drew.alloc (.cells #[.int .i64 0, .slice none 0 0, .float .f64 0] 44)).heap[wr.heap.size]? = some (.cells #[.int .i64 0, .slice none 0 0, .float .f64 0] 44 (0, 0)) := World.alloc_heap_new wr.drew _
          have hz2 : w2.heap[wr.heap.size]? = some (.cells #[.int .i64 0, .slice none 0 0, .float .f64 0] 44 (0, 0)) := (bb.block _ (by simp)).trans hz0
          have dB : Below wr.heap.size wr (w2.setRow wr.heap.size #[.int .i64 id, .slice B l.length lc2, .float .f64 0]) := below_setRow d2 (Nat.le_refl _) _
          have oB : World.ownsRow (w2.setRow wr.heap.size #[.int .i64 id, .slice B l.length lc2, .float .f64 0]) wr.heap.size 26 2 (.slice B l.length lc2) l.length (lc l) := by
            refine own_turns (S := fun q => q = wr.heap.size) (own_baseL ow bZ.size) ⟨rfl, rfl, rfl, by simp, fun q hq hs => setRow_other w2 wr.heap.size q _ hs⟩ (fun q cur fr hq e => ?_)
            rw [hq, hz2] at e
            injection e with e
            injection e with _ e _
            exact absurd e (by decide)
          refine held_op 7 rfl (by kernel_rfl) (by rfl) ?_
          refine wp_store_row 44 (.tmp 10) (.tmp 53) rfl wr.heap.size #[.int .i64 id, .slice B l.length lc2, .float .f64 0] rfl rfl 44 _ hz2 Tryz.sizeA8 rfl (by simp [Value.oneCell']) ⟨dB, ?_⟩
          refine wpAnyH_done (by kernel_rfl) ?_ _
          have E : Hid ((w2.setRow wr.heap.size #[.int .i64 id, .slice B l.length lc2, .float .f64 0]).heap[wr.heap.size]? = some (.cells #[.int .i64 id, .slice B l.length lc2, .float .f64 0] 44 (0, 0)) ∧ Below wr.heap.size wr (w2.setRow wr.heap.size #[.int .i64 id, .slice B l.length lc2, .float .f64 0]) ∧ World.ownsRow (w2.setRow wr.heap.size #[.int .i64 id, .slice B l.length lc2, .float .f64 0]) wr.heap.size 26 2 (.slice B l.length lc2) l.length (lc l)) := ⟨setRow_heap w2 _ _ _ _ _ hz2, dB, oB⟩
          have SL := Lib.hid sl
          have OKL := Lib.hid okl
          clear okl
          obtain ⟨w3, hw3⟩ : ∃ w3, w2.setRow wr.heap.size #[.int .i64 id, .slice B l.length lc2, .float .f64 0] = w3 := ⟨_, rfl⟩
          obtain ⟨p, hp⟩ : ∃ p, wr.heap.size = p := ⟨_, rfl⟩
          rw [hw3] at E
          have E0 := E.out.1
          rw [hp] at E0
          replace E : Hid (w3.heap[p]? = some (.cells #[.int .i64 id, .slice B l.length lc2, .float .f64 0] 44 (0, 0)) ∧ Below wr.heap.size wr w3 ∧ World.ownsRow w3 wr.heap.size 26 2 (.slice B l.length lc2) l.length (lc l)) := ⟨E0, E.out.2⟩
          rw [hw3, hp]
          clear hw3 hp ow bb d2 dB sl K1 K2 bZ hHeld hz0 hz2 oB E0
          have H3 := Lib.hid (H1.out.below E.out.2.1)
          have O3 := Lib.hid (O1.out.below E.out.2.1)
          obtain ⟨q0, q1, q2⟩ := BX1.out w3 E.out.2.1
          have p0 := row_cell (j := 0) E.out.1 rfl
          have p1 := row_cell (j := 1) E.out.1 rfl
          have p2 := row_cell (j := 2) E.out.1 rfl
          obtain ⟨A2, c2, ea, _, hA2, hI2, _⟩ := own_formL E.out.2.2
          injection ea with ea1 ea2 ea3
          subst ea1 ea3
          obtain ⟨nl, hnl⟩ : ∃ nl, l.length = nl := ⟨_, rfl⟩
          have NL := Lib.hid hnl
          have CADD := Lib.hid (iadd_any H3.out id l B nl lc2 hid hnl (by have := (isSet_iff.1 SL.out).2.1; omega) (fun y hy => by have h1 := (set_small SL.out y hy).1; have h2 := (set_small SL.out y hy).2; omega) hA2 hI2 (by rw [List.length_map, HN.out]; omega) hN)
          rw [hnl] at p1
          clear hI2 hA2 hnl
          go_wp2_with fail
          refine CADD.out.mono ?_
          rintro e w4 ⟨ok, rfl, hok, h4, t4⟩
          have MM := H3.out.maps
          have O4 := Lib.hid (O3.out.turns t4 MM)
          have B4 : Hid (Below base w w4) := ((BW.out.mono hbase).trans (E.out.2.1.mono (Nat.le_trans hbase BW.out.size))).trans (SBh.out _ _ t4 (Nat.le_trans hbase (Nat.le_trans BW.out.size E.out.2.1.size)))
          have OL4 := Lib.hid (own_turns E.out.2.2 t4 MM.far.lab)
          have r0 := t4.cell MM p0
          have r1 := t4.cell MM p1
          have r2 := t4.cell MM p2
          clear p0 p1 p2 q0 q1 q2 MM CADD H3 O3
          rcases AT.out with ⟨rfl, hno⟩ | ⟨j, hj, rfl, hje⟩
          · have NI : Hid (id ∉ (L.map ent).map Prod.fst) := at_out (by rw [HN.out]; exact hno)
            obtain rfl : ok = true := hok.2 ⟨SL.out, NI.out⟩
            have H4 : Hid (IdxAt w4 x b1 b2 (N + 7) (L.map ent ++ [(id, l)])) := h4
            have PLT : p < w4.heap.size := World.block_lt_of_cell? w4 _ r0
            have LITB : Below w4.heap.size w4 (w4.alloc (.cells #[.int .i64 id, .slice B nl lc2, .float .f64 0] 44)) := (Below.refl _ _).alloc (Nat.le_refl _) _
            have O5 := (O4.out.below LITB)
            have RL : RowIs (w4.alloc (.cells #[.int .i64 id, .slice B nl lc2, .float .f64 0] 44)) (some ⟨w4.heap.size, 0, none⟩) (alc [(id, Value.slice B nl lc2, l)]) := fun _ => by
              have hb : (w4.alloc (.cells #[.int .i64 id, .slice B nl lc2, .float .f64 0] 44)).heap[w4.heap.size]? = some (.cells #[.int .i64 id, .slice B nl lc2, .float .f64 0] 44 (0, 0)) := World.alloc_heap_new w4 _
              refine ⟨w4.heap.size, 0, rfl, fun j u hu => ?_⟩
              rw [Nat.zero_add]
              refine row_cell hb ?_
              simpa [alc] using hu
            have OWN5 := O5.own
            rw [HN.out] at OWN5
            obtain ⟨v6, w6, run6, o6, g6⟩ := run_appA (w := w4.alloc (.cells #[.int .i64 id, .slice B nl lc2, .float .f64 0] 44)) base (.slice A k c) k (alc L) OWN5 (some ⟨w4.heap.size, 0, none⟩) 1 1 (alc [(id, Value.slice B nl lc2, l)]) (by simp [alc]) (fun e => by cases e) RL (fun u hu => by
              simp [alc] at hu
              rcases hu with rfl | rfl | rfl <;> rfl) (by omega) (Nat.le_trans (Nat.le_trans hbase B4.out.size) LITB.size)
            have Q : Hid (IdxAt w6 x b1 b2 (N + 7) ((L ++ [(id, Value.slice B nl lc2, l)]).map ent) ∧ AltsO w6 base v6 (L ++ [(id, Value.slice B nl lc2, l)]) ∧ Below base w w6 ∧ (L ++ [(id, Value.slice B nl lc2, l)]).length ≤ k + 1) := by
              have ll : (L ++ [(id, Value.slice B nl lc2, l)]).length = k + 1 := by rw [List.length_append, HN.out]; rfl
              have em : (L ++ [(id, Value.slice B nl lc2, l)]).map ent = L.map ent ++ [(id, l)] := by rw [List.map_append]; rfl
              refine ⟨by rw [em]; exact (H4.out.below LITB).grownRow OWN5 g6, ⟨?_, fun q hq => ?_, fun q hq => by
                rw [List.mem_append] at hq
                rcases hq with hq | hq
                · exact O5.okl q hq
                · obtain rfl : q = (id, Value.slice B nl lc2, l) := by simpa using hq
                  exact OKL.out⟩, (B4.out.trans (LITB.mono (Nat.le_trans hbase B4.out.size))).grown g6 (Nat.le_trans (Nat.le_trans hbase B4.out.size) LITB.size) (fun q hq => own_geL OWN5 q hq), Nat.le_of_eq ll⟩
              · rw [ll, alc_app]; exact o6
              · rw [List.mem_append] at hq
                rcases hq with hq | hq
                · obtain ⟨A', c', b', e1, e2⟩ := O5.good q hq
                  exact ⟨A', c', b', e1, own_turns e2 (Turns.ofGrown g6) (far_row OWN5).lab⟩
                · obtain rfl : q = (id, Value.slice B nl lc2, l) := by simpa using hq
                  have o7 := OL4.out
                  rw [NL.out] at o7
                  refine ⟨B, lc2, wr.heap.size, by show Value.slice B nl lc2 = .slice B l.length lc2; rw [NL.out], ?_⟩
                  show World.ownsRow w6 wr.heap.size 26 2 (.slice B l.length lc2) l.length (lc l)
                  rw [NL.out]
                  exact own_turns (own_keepL o7 LITB) (Turns.ofGrown g6) (far_row OWN5).lab
            clear hok h4 t4 O5 RL OWN5 o6 g6 LITB O4 B4 OL4
            go_wp2_with (at_builtin; refine wpList_appRun rfl _ _ rfl rfl rfl rfl rfl run6 ?_)
            clear run6
            go_wp2
            go_ret2
            exact ⟨_, v6, rfl, Q.out.1, Q.out.2.1, Q.out.2.2.2, Q.out.2.2.1⟩
          · have NI : Hid (id ∈ (L.map ent).map Prod.fst) := at_in (by rw [HN.out]; exact hj) hje
            obtain rfl : ok = false := by
              cases ok
              · rfl
              · exact absurd NI.out (hok.1 rfl).2
            have H4 : Hid (IdxAt w4 x b1 b2 (N + 7) (L.map ent)) := h4
            have hjd : decide ((j : Int) < 0) = false := decide_eq_false (by omega)
            clear hok h4 t4 r0 r1 r2
            go_wp2
            go_ret2
            exact ⟨L, _, rfl, H4.out, by have := O4.out; exact this, by rw [HN.out]; exact Nat.le_succ _, B4.out⟩
      · have CD := Lib.hid (idrop_any H1.out id hid hN)
        rcases AT.out with ⟨rfl, hno⟩ | ⟨j, hj, rfl, hje⟩
        · have NI : Hid (id ∉ (L.map ent).map Prod.fst) := at_out (by rw [HN.out]; exact hno)
          clear AT hno
          go_wp2_with fail
          refine CD.out.mono ?_
          rintro e w4 ⟨ok, rfl, hok, h4, t4⟩
          obtain rfl : ok = false := by cases ok; rfl; exact absurd (hok.1 rfl) NI.out
          have EL : less (L.map ent) id = L.map ent := List.filter_eq_self.2 fun p hp => by
            have : p.1 ≠ id := fun e => NI.out (List.mem_map.2 ⟨p, hp, e⟩)
            simpa using this
          rw [EL] at h4
          have R : Hid (IdxAt w4 x b1 b2 (N + 7) (L.map ent) ∧ AltsO w4 base (.slice A k c) L ∧ Below base w w4) := ⟨h4, O1.out.turns t4 H1.out.maps, (BW.out.mono hbase).trans (SBh.out _ _ t4 (Nat.le_trans hbase BW.out.size))⟩
          clear hok h4 t4 CD EL q0 q1 q2
          go_wp2
          go_ret2
          exact ⟨L, _, rfl, R.out.1, R.out.2.1, by rw [HN.out]; exact Nat.le_succ _, R.out.2.2⟩
        · have NI : Hid (id ∈ (L.map ent).map Prod.fst) := at_in (by rw [HN.out]; exact hj) hje
          have LE : Hid (less (L.map ent) id = (L.take j ++ L.drop (j + 1)).map ent) := less_at H1.out.nd (by rw [HN.out]; exact hj) hje
          have hjz : ((j : Int) ≥ 0) := by omega
          have hjd : decide ((j : Int) ≥ 0) = true := decide_eq_true hjz
          obtain ⟨g, rfl⟩ : ∃ g, A = some ⟨g, 0, none⟩ := by
            rcases O1.out.own.2 with ⟨_, e⟩ | ⟨g, cap, cur, e, _⟩
            · rw [HN.out] at e; omega
            · injection e with e; exact ⟨g, e⟩
          clear AT hje
          go_wp2_with fail
          refine CD.out.mono ?_
          rintro e w4 ⟨ok, rfl, hok, h4, t4⟩
          obtain rfl : ok = true := hok.2 NI.out
          rw [LE.out] at h4
          have H4 := Lib.hid h4
          have O4 := Lib.hid (O1.out.turns t4 H1.out.maps)
          have B4 : Hid (Below base w w4) := (BW.out.mono hbase).trans (SBh.out _ _ t4 (Nat.le_trans hbase BW.out.size))
          clear hok h4 t4 CD q0 q1 q2
          go_wp2_with fail
          have WJ : IntKind.i64.wrap ((j : Int) + 1) = (j : Int) + 1 := wrap_at (by omega) (by omega)
          obtain ⟨CA, hCA⟩ : ∃ CA : Addr, (if c = j + 1 then (⟨g, 0, none⟩ : Addr) else ⟨g, (j + 1) * 3, none⟩) = CA := ⟨_, rfl⟩
          have LLO : ∀ W : World, (Instr.slice 37 (.slice (some ⟨g, 0, none⟩) k c) none (some (.int .i64 (j : Int))) none).run Tryz.prog W = .ok (.slice (some ⟨g, 0, none⟩) j c) W := fun W => acut_lo W g k c j (by omega)
          have LHI : ∀ W : World, (Instr.slice 37 (.slice (some ⟨g, 0, none⟩) k c) (some (.int .i64 ((j : Int) + 1))) none none).run Tryz.prog W = .ok (.slice (some CA) (k - (j + 1)) (c - (j + 1))) W := fun W => by
            have := acut_hi W g k c (j + 1) (by omega)
            have e : ((j + 1 : Nat) : Int) = (j : Int) + 1 := by simp
            rw [e, hCA] at this
            exact this
          have RD : RowIs w4 (some ⟨g, 0, none⟩) (alc L) := by
            obtain ⟨A', c', e, _, hr⟩ := O4.out.read
            injection e with e1 e2 e3
            rw [e1]
            exact hr.row
          have R1 : RowIs w4.drew (some ⟨g, 0, none⟩) (alc (L.take j)) := by
            have := (RD.below ((Below.refl _ _).drew)).take (j * 3)
            rwa [alc_take] at this
          have R2 : RowIs w4 (some CA) (alc (L.drop (j + 1))) := by
            by_cases hc : c = j + 1
            · have : L.drop (j + 1) = [] := List.drop_eq_nil_of_le (by rw [HN.out]; omega)
              rw [this]
              exact RowIs.nil _ _
            · rw [← hCA, if_neg hc, ← alc_drop]
              have := RD.drop ((j + 1) * 3)
              rwa [Nat.zero_add] at this
          have ON := O4.out.one
          have N1 : World.ownsRow w4.drew w4.heap.size 44 3 (.slice none 0 0) 0 [] := World.ownsRow_nil _ _ _ _
          have l1 : (alc (L.take j)).length = j * 3 := by rw [alc_len, List.length_take, HN.out]; congr 1; omega
          have l2 : (alc (L.drop (j + 1))).length = (k - (j + 1)) * 3 := by rw [alc_len, List.length_drop, HN.out]
          obtain ⟨v1, w5, run1, o5, g5⟩ := run_appA (w := w4.drew) w4.heap.size (.slice none 0 0) 0 [] N1 (some ⟨g, 0, none⟩) j c (alc (L.take j)) l1 (fun e => by cases e) R1 (fun u hu => by
            rw [← alc_take] at hu
            exact ON u (List.mem_of_mem_take hu)) (by omega) (Nat.le_refl _)
          have b5 : Below w4.heap.size w4 w5 := ((Below.refl _ _).drew).grown g5 (Nat.le_refl _) (fun q hq => by cases hq)
          obtain ⟨v2, w6, run2, o6, g6⟩ := run_appA (w := w5) w4.heap.size v1 (0 + j) _ o5 (some CA) (k - (j + 1)) (c - (j + 1)) (alc (L.drop (j + 1))) l2 (fun e => by cases e) (R2.below b5) (fun u hu => by
            rw [← alc_drop] at hu
            exact ON u (List.mem_of_mem_drop hu)) (by omega) b5.size
          have b6 : Below w4.heap.size w4 w6 := b5.grown g6 b5.size (fun q hq => own_geL o5 q hq)
          have Q : Hid (IdxAt w6 x b1 b2 (N + 7) ((L.take j ++ L.drop (j + 1)).map ent) ∧ AltsO w6 base v2 (L.take j ++ L.drop (j + 1)) ∧ Below base w w6 ∧ (L.take j ++ L.drop (j + 1)).length ≤ k + 1) := by
            have ll : (L.take j ++ L.drop (j + 1)).length = 0 + j + (k - (j + 1)) := by rw [List.length_append, List.length_take, List.length_drop, HN.out]; omega
            refine ⟨(H4.out.below b5).grownRow o5 g6, ⟨?_, fun p hp => ?_, fun p hp => O4.out.okl p (by
              rw [List.mem_append] at hp
              exact hp.elim List.mem_of_mem_take List.mem_of_mem_drop)⟩, B4.out.trans (b6.mono (Nat.le_trans hbase B4.out.size)), ?_⟩
            · rw [ll]
              have := own_baseL o6 (show base ≤ w4.heap.size from Nat.le_trans hbase B4.out.size)
              rw [List.nil_append, ← alc_app] at this
              exact this
            · obtain ⟨A', c', b', e1, e2⟩ := O4.out.good p (by
                rw [List.mem_append] at hp
                exact hp.elim List.mem_of_mem_take List.mem_of_mem_drop)
              exact ⟨A', c', b', e1, own_turns (own_keepL e2 b5) (Turns.ofGrown g6) (far_row o5).lab⟩
            · rw [ll]; omega
          have C4 := Lib.hid b6
          refine wp_region_held_drew (S := fun W => Below w4.heap.size w4 W) (by kernel_rfl) ((Below.refl _ _).drew) (fun hHeld => ?_)
          refine held_take 0 38 (v := (.slice (some ⟨g, 0, none⟩) k c)) rfl rfl (by kernel_rfl) (by kernel_rfl) (by kernel_rfl) (by rfl) (fun _ _ _ h => h) (by assumption) ?_ ?_
          · intro W hW
            go_simp
          simp only [List.setIfInBounds_toArray, List.set_cons_zero, List.set_cons_succ]
          refine held_take 1 39 (v := (.int .i64 (j : Int))) rfl rfl (by kernel_rfl) (by kernel_rfl) (by kernel_rfl) (by rfl) (fun _ _ _ h => h) (by assumption) ?_ ?_
          · intro W hW
            go_simp
          simp only [List.setIfInBounds_toArray, List.set_cons_zero, List.set_cons_succ]
          refine held_take 2 40 (v := (.slice (some ⟨g, 0, none⟩) j c)) rfl rfl (by kernel_rfl) (by kernel_rfl) (by kernel_rfl) (by rfl) (fun _ _ _ h => h) (by assumption) ?_ ?_
          · intro W hW
            have q := LLO W
            go_simp
          simp only [List.setIfInBounds_toArray, List.set_cons_zero, List.set_cons_succ]
          refine held_take 4 42 (v := (.slice (some ⟨g, 0, none⟩) k c)) rfl rfl (by kernel_rfl) (by kernel_rfl) (by kernel_rfl) (by rfl) (fun _ _ _ h => h) (by assumption) ?_ ?_
          · intro W hW
            go_simp
          simp only [List.setIfInBounds_toArray, List.set_cons_zero, List.set_cons_succ]
          refine held_take 5 43 (v := (.int .i64 (j : Int))) rfl rfl (by kernel_rfl) (by kernel_rfl) (by kernel_rfl) (by rfl) (fun _ _ _ h => h) (by assumption) ?_ ?_
          · intro W hW
            go_simp
          simp only [List.setIfInBounds_toArray, List.set_cons_zero, List.set_cons_succ]
          refine held_take 6 44 (v := (.int .i64 ((j : Int) + 1))) rfl rfl (by kernel_rfl) (by kernel_rfl) (by kernel_rfl) (by rfl) (fun _ _ _ h => h) (by assumption) ?_ ?_
          · intro W hW
            go_simp
          simp only [List.setIfInBounds_toArray, List.set_cons_zero, List.set_cons_succ]
          refine held_take 7 45 (v := (.slice (some CA) (k - (j + 1)) (c - (j + 1)))) rfl rfl (by kernel_rfl) (by kernel_rfl) (by kernel_rfl) (by rfl) (fun _ _ _ h => h) (by assumption) ?_ ?_
          · intro W hW
            have q := LHI W
            go_simp
          simp only [List.setIfInBounds_toArray, List.set_cons_zero, List.set_cons_succ]
          refine held_op 3 rfl (by kernel_rfl) (by rfl) ?_
          refine wp_appRun (.const (.slice none 0 0)) (.tmp 40) rfl rfl rfl rfl rfl run1 ⟨b5, ?_⟩
          simp only [List.setIfInBounds_toArray, List.set_cons_zero, List.set_cons_succ]
          refine held_op 8 rfl (by kernel_rfl) (by rfl) ?_
          refine wp_appRun (.tmp 41) (.tmp 45) rfl rfl rfl rfl rfl run2 ⟨b6, ?_⟩
          simp only [List.setIfInBounds_toArray, List.set_cons_zero, List.set_cons_succ]
          refine held_take 9 1 (v := v2) rfl rfl (by kernel_rfl) (by kernel_rfl) (by kernel_rfl) (by rfl) (fun _ _ _ h => h) (by assumption) ?_ ?_
          · intro W hW
            go_simp
          simp only [List.setIfInBounds_toArray, List.set_cons_zero, List.set_cons_succ]
          refine wpAnyH_done (by kernel_rfl) ?_ _
          clear run1 run2 o5 o6 g5 g6 b5 b6 R1 R2 RD ON N1 l1 l2 LLO LHI hCA WJ
          go_wp2
          go_ret2
          exact ⟨_, v2, rfl, Q.out.1, Q.out.2.1, Q.out.2.2.2, Q.out.2.2.1⟩
end Go.Proofs.YtlfcjjlgkcfkdaaGreatDoor
