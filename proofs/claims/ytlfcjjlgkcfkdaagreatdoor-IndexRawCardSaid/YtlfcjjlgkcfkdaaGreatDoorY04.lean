/-
  What the law's step does: an id with drawn labels added, or one dropped; the list beside the index. Conditions: room.
  What the law's built does: an index and a list beside it, by steps. Conditions: at most 60 steps.
  IndexRuns as a contract. Conditions: the library's table lies in its variable.
  IndexFinds as a contract. Conditions: the library's table lies in its variable.
  An argument of the law's steps opened. No conditions.
-/
import Derived.Test.YtlfcjjlgkcfkdaaGreatDoorY03
import Derived.Test.YtlfcjjlgkcfkdaaGreatDoorZ26
import Derived.Test.YtlfcjjlgkcfkdaaGreatDoorZ27
import Derived.Test.YtlfcjjlgkcfkdaaGreatDoorZ28
import Derived.Laws.Tables
import Derived.Deep.Slices
namespace Go.Proofs.YtlfcjjlgkcfkdaaGreatDoor
open Go.RowKit Go.Maps Go.Sort La

/-- Alerts that one owns, their labels owned too. -/
structure AltsO (w : World) (base : Nat) (v : Value) (L : List AltC) : Prop where
  own : w.ownsRow base 44 3 v L.length (alc L)
  good : ∀ p ∈ L, ∃ A c b', p.2.1 = .slice A p.2.2.length c ∧ w.ownsRow b' 26 2 (.slice A p.2.2.length c) p.2.2.length (lc p.2.2)
theorem AltsO.below {w w' : World} {base : Nat} {v : Value} {L : List AltC} (h : AltsO w base v L) (hb : Below w.heap.size w w') : AltsO w' base v L :=
  ⟨own_keepL h.own hb, fun p hp => by obtain ⟨A, c, b', e1, e2⟩ := h.good p hp; exact ⟨A, c, b', e1, own_keepL e2 hb⟩⟩
theorem AltsO.turns {S : Nat → Prop} {w w' : World} {base : Nat} {v : Value} {L : List AltC} (h : AltsO w base v L) (t : Turns S w w') (hm : AreMaps S w) : AltsO w' base v L :=
  ⟨own_turns h.own t (fun k cur fr hk e => by obtain ⟨es, c, e2⟩ := hm k hk; rw [e2] at e; cases e), fun p hp => by obtain ⟨A, c, b', e1, e2⟩ := h.good p hp; exact ⟨A, c, b', e1, own_turns e2 t hm.far.lab⟩⟩
theorem Tryz.infoA8 : (Tryz.prog.info? 44).map (fun i => (i.zero, i.size, i.bytes)) = some (some (.agg #[.int .i64 0, .slice none 0 0, .float .f64 0]), 3, 40) := by kernel_rfl
set_option maxRecDepth 100000 in
/-- append(v, l...) of alerts. -/
theorem run_appA {w : World} (base : Nat) (v : Value) (n : Nat) (xs : List Value) (hown : w.ownsRow base 44 3 v n xs) (A : Option Addr) (M c : Nat) (ys : List Value) (hl : ys.length = M * 3) (hA : A = none → c = 0) (hr : RowIs w A ys) (h1 : ∀ u ∈ ys, u.oneCell' = true) (hlen : n + M ≤ 1000000) (hbase : base ≤ w.heap.size) :
    ∃ v' w', (Builtin.append_ #[37, 37] 37 #[v, .slice A M c]).run Tryz.prog w = .ok v' w' ∧ w'.ownsRow base 44 3 v' (n + M) (xs ++ ys) ∧ w.grownBy w' v.ownBlock := by
  obtain ⟨i0, hi, hz0, hz1, hz2⟩ := info_parts Tryz.infoA8
  rcases A with _ | ad
  · obtain rfl := hA rfl
    have hl0 : ys = [] := by
      rcases Nat.eq_zero_or_pos ys.length with h0 | h0
      · exact List.eq_nil_of_length_eq_zero h0
      · obtain ⟨_, _, e, _⟩ := hr h0; cases e
    subst hl0
    obtain rfl : M = 0 := by simp at hl; omega
    exact ⟨v, w, run_append_owned_none (P := Tryz.prog) (w := w) base 37 37 44 i0 3 Tryz.underlying37 hi v n _ hown, by simpa using hown, World.grownBy.refl w _⟩
  · obtain ⟨v', w', h2, h3, h4, _⟩ := run_append_own (P := Tryz.prog) w base 37 37 44 i0 (.agg #[.int .i64 0, .slice none 0 0, .float .f64 0]) 3 40 Tryz.underlying37 hi hz0 hz1 hz2 rfl (by decide) v n xs hown ad M c ys hl (fun j u hu => by
        have hj : j < ys.length := by
          rcases Nat.lt_or_ge j ys.length with h1 | h1
          · exact h1
          · rw [List.getElem?_eq_none h1] at hu; cases hu
        obtain ⟨b, off, e, hc⟩ := hr (by omega)
        injection e with e
        subst e
        rw [addr_addNZ]
        exact hc j u hu) h1 (by unfold maxLen; omega) (by omega) hbase
    exact ⟨v', w', h2, h3, h4⟩
/-- append, where what it makes is known. -/
theorem wp_appRun {o : Oper} {ts : Array Value} {ds : List Deferred} {w w' : World} {v v' : Value} {A : Option Addr} {L c d : Nat} {t : TypeId} {K : Act → World → Prop} {Q : Exit → Act → World → Prop} (s x : Operand) (ho : o.op = .call { callee := .builtin .append, args := #[s, x], argTypes := #[t, t] }) (hty : o.type = t) (hd : o.dst = some d)
    (hs : (Act.mk ts ds).eval s = v) (hx : (Act.mk ts ds).eval x = .slice A L c) (hrun : (Builtin.append_ #[t, t] t #[v, .slice A L c]).run Tryz.prog w = .ok v' w') (h : K ⟨ts.setIfInBounds d v', ds⟩ w') : o.wp Tryz.prog ⟨ts, ds⟩ w K Q := by
  unfold Oper.wp
  simp [execOp, ho, resolve, invoke, builtin, hs, hx, hty, hrun, Result.andThen]
  show K _ _
  rw [hd]
  exact h
theorem wpList_appRun {ops : Array Oper} {rest : List Oper} {o : Oper} {ts : Array Value} {ds : List Deferred} {w w' : World} {v v' : Value} {A : Option Addr} {L c d : Nat} {t : TypeId} {Q : Exit → Act → World → Prop} (hgd : o.guard = none) (s x : Operand) (ho : o.op = .call { callee := .builtin .append, args := #[s, x], argTypes := #[t, t] }) (hty : o.type = t) (hd : o.dst = some d)
    (hs : (Act.mk ts ds).eval s = v) (hx : (Act.mk ts ds).eval x = .slice A L c) (hrun : (Builtin.append_ #[t, t] t #[v, .slice A L c]).run Tryz.prog w = .ok v' w') (h : wpList Tryz.prog ops Q rest ⟨ts.setIfInBounds d v', ds⟩ w') : wpList Tryz.prog ops Q (o :: rest) ⟨ts, ds⟩ w :=
  wpList_plain hgd fun _ hK => wp_appRun s x ho hty hd hs hx hrun (hK _ _ h)
theorem AltsO.one {w : World} {base : Nat} {v : Value} {L : List AltC} (h : AltsO w base v L) : ∀ u ∈ alc L, u.oneCell' = true := by
  intro u hu
  simp only [alc, List.mem_flatMap] at hu
  obtain ⟨p, hp, hu⟩ := hu
  obtain ⟨A, c, b', e1, _⟩ := h.good p hp
  rw [e1] at hu
  simp at hu
  rcases hu with rfl | rfl | rfl <;> rfl
end Go.Proofs.YtlfcjjlgkcfkdaaGreatDoor
namespace Go.Proofs.YtlfcjjlgkcfkdaaGreatDoor
open Go.RowKit Go.Maps Go.Sort La

/-- A step in memory: drop or add, an id, the value of the drawn labels' slice. -/
abbrev StpC := Bool × Int × Value
def stn (S : List StpC) (j : Nat) : StpC := S.getD j (false, 0, .slice none 0 0)
/-- A step's id is a number; its labels can be read. -/
def GoodT (w : World) (p : StpC) : Prop := (Lit.int .i64 p.2.1).wf = true ∧ ∃ A zs c, p.2.2 = .slice A zs.length c ∧ IsInts w A zs
/-- Steps that may be read. -/
structure StepsR (w : World) (A : Option Addr) (S : List StpC) : Prop where
  cell : 0 < S.length → ∃ b off, A = some ⟨b, off, none⟩ ∧ ∀ j, j < S.length → w.cell? ⟨b, off + j * 3, none⟩ = some (.bool (stn S j).1) ∧ w.cell? ⟨b, off + j * 3 + 1, none⟩ = some (.int .i64 (stn S j).2.1) ∧ w.cell? ⟨b, off + j * 3 + 2, none⟩ = some (stn S j).2.2
  good : ∀ p ∈ S, GoodT w p
theorem StepsR.below {w w' : World} {A : Option Addr} {S : List StpC} (h : StepsR w A S) (hb : Below w.heap.size w w') : StepsR w' A S := by
  refine ⟨fun hp => ?_, fun p hp => ?_⟩
  · obtain ⟨b, off, e, hc⟩ := h.cell hp
    refine ⟨b, off, e, fun j hj => ?_⟩
    obtain ⟨h1, h2, h3⟩ := hc j hj
    exact ⟨(hb.cell (World.block_lt_of_cell? w _ h1)).trans h1, (hb.cell (World.block_lt_of_cell? w _ h2)).trans h2, (hb.cell (World.block_lt_of_cell? w _ h3)).trans h3⟩
  · obtain ⟨h1, A', zs, c, h2, h3⟩ := h.good p hp
    exact ⟨h1, A', zs, c, h2, h3.below hb⟩
end Go.Proofs.YtlfcjjlgkcfkdaaGreatDoor
namespace Go.Proofs.YtlfcjjlgkcfkdaaGreatDoor
open Go.RowKit Go.Maps Go.Sort La

def rA : Lab := (⟨#[97]⟩, ⟨#[120]⟩)
def rB : Lab := (⟨#[98]⟩, ⟨#[121]⟩)
def rC : Lab := (⟨#[98]⟩, ⟨#[122]⟩)
def rM1 : Mat := ⟨2, ⟨#[97]⟩, ⟨#[120]⟩⟩
def rM2 : Mat := ⟨1, ⟨#[97]⟩, ⟨#[]⟩⟩
def T10 : List Ent := [(1, [rA]), (2, [rB])]
theorem r10a : isSet [rA] = true := by decide +kernel
theorem r10b : isSet [rB] = true := by decide +kernel
theorem r10f1 : found T10 [rM1] = [2] := by decide +kernel
theorem r10f2 : found T10 [rM2] = [2] := by decide +kernel
theorem wf1 : (Lit.int .i64 1).wf = true := by decide +kernel
theorem wf2 : (Lit.int .i64 2).wf = true := by decide +kernel
theorem r10ne : rA ≠ rB := fun e => by
  have := congrArg (fun y : Lab => y.1.data) e
  exact absurd this (by decide)
theorem r10len (y : Lab) : y ∈ [rA, rB] ↔ who T10 y ≠ [] := by
  rw [who_ne]
  constructor
  · intro h
    rcases List.mem_cons.1 h with rfl | h
    · exact ⟨(1, [rA]), by simp [T10], by simp⟩
    · obtain rfl : y = rB := by simpa using h
      exact ⟨(2, [rB]), by simp [T10], by simp⟩
  · rintro ⟨p, hp, hy⟩
    simp only [T10, List.mem_cons, List.not_mem_nil, or_false] at hp
    rcases hp with rfl | rfl
    · have : y = rA := by simpa using hy
      simp [this]
    · have : y = rB := by simpa using hy
      simp [this]
theorem small_one {y : Lab} (h : y.1.size ≤ 1000 ∧ y.2.size ≤ 1000) : Small [y] := fun z hz => by
  obtain rfl : z = y := by simpa using hz
  have h1 := h.1
  have h2 := h.2
  omega
theorem smallM_one {y : Mat} (h : y.n.size ≤ 1000 ∧ y.v.size ≤ 1000) : SmallM [y] := fun z hz => by
  obtain rfl : z = y := by simpa using hz
  exact h
/-- An index is one's own: its maps lie above. -/
theorem idx_below {W W' : World} {b1 b2 base : Nat} (t : Turns (S2 b1 b2) W W') (h : base ≤ b1 ∧ base ≤ b2) (hb : base ≤ W.heap.size) : Below base W W' := t.below (fun q hq => by rcases hq with rfl | rfl; exact h.1; exact h.2) hb

set_option maxRecDepth 100000 in
set_option maxHeartbeats 4000000 in
theorem runs10_any {w : World} (hT : DTab w) : Calls Tryz.prog 3 #[] w fun e w' => e = .returned (.bool true) ∧ Below w.heap.size w w' := by
  have C1 := Lib.hid (inew_any w)
  have HT := Lib.hid hT
  clear hT
  go_enter Tryz.func3, Tryz.ntmps3
  go_wp2_with fail
  refine C1.out.mono ?_
  rintro e w1 ⟨x, b1, b2, rfl, i1, bs, bb⟩
  have I := Lib.hid i1
  have BS := Lib.hid bs
  have BW := Lib.hid bb
  clear i1 bs bb C1
  have bl : Below (World.heap w1).size w1 (World.alloc w1 (.cells #[.string ⟨#[97]⟩, .string ⟨#[120]⟩] 26)) := (Below.refl _ _).alloc (Nat.le_refl _) _
  have LI : IsLabs (World.alloc w1 (.cells #[.string ⟨#[97]⟩, .string ⟨#[120]⟩] 26)) (some ⟨(World.heap w1).size, 0, none⟩) [rA] := lit_lab w1 rA
  have AD := Lib.hid (iadd_any (I.out.below bl) 1 [rA] (some ⟨(World.heap w1).size, 0, none⟩) 1 1 wf1 rfl (by omega) (small_one (by decide)) (fun e => by cases e) LI (by decide) (by omega))
  replace BW := Lib.hid (BW.out.trans (bl.mono BW.out.size))
  clear bl LI
  go_wp2_with fail
  refine AD.out.mono ?_
  rintro e w2 ⟨ok, rfl, hok, i2, t2⟩
  obtain rfl : ok = true := hok.2 ⟨r10a, by simp⟩
  replace I : Hid (IdxAt w2 x b1 b2 7 [(1, [rA])]) := i2
  replace BW : Hid (Below w.heap.size w w2) := BW.out.trans (idx_below t2 BS.out.2 BW.out.size)
  clear hok i2 t2 AD
  have bl : Below (World.heap w2).size w2 (World.alloc w2 (.cells #[.string ⟨#[98]⟩, .string ⟨#[121]⟩] 26)) := (Below.refl _ _).alloc (Nat.le_refl _) _
  have LI : IsLabs (World.alloc w2 (.cells #[.string ⟨#[98]⟩, .string ⟨#[121]⟩] 26)) (some ⟨(World.heap w2).size, 0, none⟩) [rB] := lit_lab w2 rB
  have AD := Lib.hid (iadd_any (I.out.below bl) 2 [rB] (some ⟨(World.heap w2).size, 0, none⟩) 1 1 wf2 rfl (by omega) (small_one (by decide)) (fun e => by cases e) LI (by decide) (by omega))
  replace BW := Lib.hid (BW.out.trans (bl.mono BW.out.size))
  clear bl LI
  go_wp2_with fail
  refine AD.out.mono ?_
  rintro e w3 ⟨ok, rfl, hok, i2, t2⟩
  obtain rfl : ok = true := hok.2 ⟨r10b, by simp⟩
  replace I : Hid (IdxAt w3 x b1 b2 14 T10) := i2
  replace BW : Hid (Below w.heap.size w w3) := BW.out.trans (idx_below t2 BS.out.2 BW.out.size)
  clear hok i2 t2 AD
  have bl : Below (World.heap w3).size w3 (World.alloc w3 (.cells #[.string ⟨#[98]⟩, .string ⟨#[122]⟩] 26)) := (Below.refl _ _).alloc (Nat.le_refl _) _
  have LI : IsLabs (World.alloc w3 (.cells #[.string ⟨#[98]⟩, .string ⟨#[122]⟩] 26)) (some ⟨(World.heap w3).size, 0, none⟩) [rC] := lit_lab w3 rC
  have AD := Lib.hid (iadd_any (I.out.below bl) 2 [rC] (some ⟨(World.heap w3).size, 0, none⟩) 1 1 wf2 rfl (by omega) (small_one (by decide)) (fun e => by cases e) LI (by decide) (by omega))
  replace BW := Lib.hid (BW.out.trans (bl.mono BW.out.size))
  clear bl LI
  go_wp2_with fail
  refine AD.out.mono ?_
  rintro e w4 ⟨ok, rfl, hok, i2, t2⟩
  obtain rfl : ok = false := by
    cases ok
    · rfl
    · exact absurd (hok.1 rfl).2 (by simp [T10])
  replace I : Hid (IdxAt w4 x b1 b2 21 T10) := i2
  replace BW : Hid (Below w.heap.size w w4) := BW.out.trans (idx_below t2 BS.out.2 BW.out.size)
  clear hok i2 t2 AD
  have bl : Below (World.heap w4).size w4 (World.alloc w4 (.cells #[.int .i64 2, .string ⟨#[97]⟩, .string ⟨#[120]⟩] 32)) := (Below.refl _ _).alloc (Nat.le_refl _) _
  have LM : IsMats (World.alloc w4 (.cells #[.int .i64 2, .string ⟨#[97]⟩, .string ⟨#[120]⟩] 32)) (some ⟨(World.heap w4).size, 0, none⟩) [rM1] := lit_mat w4 rM1
  have FD := Lib.hid (ifind_any (I.out.below bl) [rM1] (some ⟨(World.heap w4).size, 0, none⟩) 1 1 rfl (by omega) (smallM_one (by decide)) LM (HT.out.below (BW.out.trans (bl.mono BW.out.size))))
  replace I := Lib.hid (I.out.below bl)
  replace BW := Lib.hid (BW.out.trans (bl.mono BW.out.size))
  clear bl LM
  go_wp2_with fail
  refine FD.out.mono ?_
  rintro e u1 ⟨o1, A1, n1, c1, rfl, r1, s1, bb⟩
  have bl : Below (World.heap u1).size u1 (World.alloc u1 (.cells #[.int .i64 2] 3)) := (Below.refl _ _).alloc (Nat.le_refl _) _
  have S2 := SlZ.lit u1 [2] 1 (World.heap u1).size #[.int .i64 2] rfl rfl rfl (by omega)
  have SM := Lib.hid (same_s true (s1.below bl) S2 (decide_eq_true (r1.eq (IsRise.self (List.pairwise_singleton _ _)) (fun y => by rw [r10f1]))))
  replace I := Lib.hid ((I.out.below bb).below bl)
  replace BW := Lib.hid ((BW.out.trans (bb.mono BW.out.size)).trans (bl.mono (BW.out.trans (bb.mono BW.out.size)).size))
  clear r1 s1 bb bl S2 FD
  go_wp2_with fail
  refine SM.out.mono ?_
  rintro e v1 ⟨rfl, bb⟩
  replace I := Lib.hid (I.out.below bb)
  replace BW := Lib.hid (BW.out.trans (bb.mono BW.out.size))
  clear bb SM
  have bl : Below (World.heap v1).size v1 (World.alloc v1 (.cells #[.int .i64 1, .string ⟨#[97]⟩, .string ⟨#[]⟩] 32)) := (Below.refl _ _).alloc (Nat.le_refl _) _
  have LM : IsMats (World.alloc v1 (.cells #[.int .i64 1, .string ⟨#[97]⟩, .string ⟨#[]⟩] 32)) (some ⟨(World.heap v1).size, 0, none⟩) [rM2] := lit_mat v1 rM2
  have FD := Lib.hid (ifind_any (I.out.below bl) [rM2] (some ⟨(World.heap v1).size, 0, none⟩) 1 1 rfl (by omega) (smallM_one (by decide)) LM (HT.out.below (BW.out.trans (bl.mono BW.out.size))))
  replace I := Lib.hid (I.out.below bl)
  replace BW := Lib.hid (BW.out.trans (bl.mono BW.out.size))
  clear bl LM
  go_wp2_with fail
  refine FD.out.mono ?_
  rintro e u2 ⟨o1, A1, n1, c1, rfl, r1, s1, bb⟩
  have bl : Below (World.heap u2).size u2 (World.alloc u2 (.cells #[.int .i64 2] 3)) := (Below.refl _ _).alloc (Nat.le_refl _) _
  have S2 := SlZ.lit u2 [2] 1 (World.heap u2).size #[.int .i64 2] rfl rfl rfl (by omega)
  have SM := Lib.hid (same_s true (s1.below bl) S2 (decide_eq_true (r1.eq (IsRise.self (List.pairwise_singleton _ _)) (fun y => by rw [r10f2]))))
  replace I := Lib.hid ((I.out.below bb).below bl)
  replace BW := Lib.hid ((BW.out.trans (bb.mono BW.out.size)).trans (bl.mono (BW.out.trans (bb.mono BW.out.size)).size))
  clear r1 s1 bb bl S2 FD
  go_wp2_with fail
  refine SM.out.mono ?_
  rintro e v2 ⟨rfl, bb⟩
  replace I := Lib.hid (I.out.below bb)
  replace BW := Lib.hid (BW.out.trans (bb.mono BW.out.size))
  clear bb SM
  have LE := Lib.hid (ilen_any I.out [rA, rB] (by simp [r10ne]) r10len)
  go_wp2_with fail
  refine LE.out.mono ?_
  rintro e w9 ⟨rfl, rfl⟩
  clear LE I HT
  go_wp2
  go_ret
  exact ⟨rfl, BW.out⟩
end Go.Proofs.YtlfcjjlgkcfkdaaGreatDoor
namespace Go.Proofs.YtlfcjjlgkcfkdaaGreatDoor
open Go.RowKit Go.Maps Go.Sort La

theorem alts_sizes {w : World} {x b1 b2 N : Nat} {L : List AltC} (h : IdxAt w x b1 b2 N (L.map ent)) : ∀ p ∈ L, p.2.2.length ≤ 1000 ∧ ∀ y ∈ p.2.2, y.2.size ≤ 100 := fun p hp => by
  have hs := h.set (ent p) (List.mem_map.2 ⟨p, hp, rfl⟩)
  have h6 : p.2.2.length ≤ 6 := (isSet_iff.1 hs).2.1
  exact ⟨by omega, fun y hy => by have h2 : y.2.size ≤ 24 := (set_small hs y hy).2; omega⟩
end Go.Proofs.YtlfcjjlgkcfkdaaGreatDoor
namespace Go.Proofs.YtlfcjjlgkcfkdaaGreatDoor
open Go.ChangeShapes Go.WideShapes Go.ChangeAt Go.WideMaps Go.WideElems Go.RowKit

section
variable {H : Type} {enc : TypeId × Value → H} {W : World}
instance : Inhabited StpC := ⟨(false, 0, .slice none 0 0)⟩
end
end Go.Proofs.YtlfcjjlgkcfkdaaGreatDoor

