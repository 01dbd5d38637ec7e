/-
  What a pool's New, Has, Last, All, Give, Take do; PoolRuns as a contract. Conditions: lengths fit.
-/
import Derived.Test.YtaklabggojfijaaOa
import Derived.Test.YtaklabggojfijaaZg
namespace Go.Proofs.Ytaklabggojfijaa
open Go.RowKit Go.Sort

section
variable {w w' : World} {b : Nat} {m x : Int} {l : List Int} {v : Value}
theorem PoolAt.row (h : PoolAt w b m x l v) : ∃ A c, v = .slice A l.length c ∧ SlZ w l A l.length c 1048576 := by
  obtain ⟨A, c, e, _, hn, hz, _⟩ := own_z h.own
  exact ⟨A, c, e, rfl, hn, hz, h.sm, Nat.le_refl _⟩
/-- The number that was given out last, written. -/
theorem PoolAt.put1 (h : PoolAt w b m x l v) (x' : Int) (h1 : x ≤ x') (h2 : x' ≤ 2147483647) : PoolAt (w.setCell ⟨b, 1, none⟩ (.int .i64 x')) b m x' l v :=
  ⟨(World.cell?_setCell_other _ _ _ _ (by simp)).trans h.c0, World.cell?_setCell_same _ _ _ h.c1, (World.cell?_setCell_other _ _ _ _ (by simp)).trans h.c2, fun k => by rw [World.frozen?_setCell]; exact h.fr k,
   own_only h.own (Only.ofSet (S := fun k => k = b) rfl _) (fun k hk e => by have := h.own.lt k hk; omega), h.up, fun y hy => Int.le_trans (h.top y hy) h1, Int.le_trans h.ge h1, h2, h.sm⟩
/-- The row, written. -/
theorem PoolAt.put2 {l' : List Int} {v' : Value} (h : PoolAt w b m x l v) (t : Only (fun k => v.ownBlock = some k) w w') (o : w'.ownsRow (b + 1) 3 1 v' l'.length (zs l')) (up : l'.Pairwise (· < ·)) (top : ∀ y ∈ l', y ≤ x) (sm : l'.length ≤ 1048576) :
    PoolAt (w'.setCell ⟨b, 2, none⟩ v') b m x l' v' := by
  have ne : ¬ v.ownBlock = some b := fun e => by have := h.own.lt b e; omega
  have hb := t.block b h.lt ne
  have e0 := (World.cell?_of_block (a := ⟨b, 0, none⟩) hb).trans h.c0
  have e1 := (World.cell?_of_block (a := ⟨b, 1, none⟩) hb).trans h.c1
  have e2 := (World.cell?_of_block (a := ⟨b, 2, none⟩) hb).trans h.c2
  exact ⟨(World.cell?_setCell_other _ _ _ _ (by simp)).trans e0, (World.cell?_setCell_other _ _ _ _ (by simp)).trans e1, World.cell?_setCell_same _ _ _ e2, fun k => by rw [World.frozen?_setCell, World.frozen?_of_block (a := ⟨b, k, none⟩) hb]; exact h.fr k,
    own_only o (Only.ofSet (S := fun k => k = b) rfl _) (fun k hk e => by have := o.lt k hk; omega), up, top, h.ge, h.le, sm⟩
end
/-- A pool in a world that has come from w0: it was made since. -/
structure Ps (w0 w : World) (b : Nat) (m x : Int) (l : List Int) (v : Value) : Prop where
  at_ : PoolAt w b m x l v
  bel : Below w0.heap.size w0 w
  hb : w0.heap.size ≤ b
/-- What a call that turns a pool leaves. -/
def PsTo (w0 w : World) (b : Nat) (m : Int) (v : Value) (x' : Int) (l' : List Int) (w' : World) : Prop := ∃ v', Ps w0 w' b m x' l' v' ∧ Only (Pb b v) w w' ∧ Near w v v'
section
variable {w0 w w' : World} {b : Nat} {m x : Int} {l : List Int} {v : Value}
theorem Ps.below (h : Ps w0 w b m x l v) (hb : Below w.heap.size w w') : Ps w0 w' b m x l v := ⟨h.at_.below hb, h.bel.trans (hb.mono h.bel.size), h.hb⟩
theorem Ps.to (h : Ps w0 w b m x l v) {x' : Int} {l' : List Int} {v' : Value} (hp : PoolAt w' b m x' l' v') (t : Only (Pb b v) w w') (n : Near w v v') : PsTo w0 w b m v x' l' w' :=
  ⟨v', ⟨hp, h.bel.trans (t.below (fun k hk => Nat.le_trans h.hb (h.at_.blocks k hk).1) h.bel.size), h.hb⟩, t, n⟩
/-- A row of the caller's, beside the pool. -/
def Beside (b : Nat) (v u : Value) : Prop := ∀ k, u.ownBlock = some k → ¬ Pb b v k
theorem Beside.none (b : Nat) (v : Value) : Beside b v (.slice none 0 0) := fun _ h => by cases h
/-- It stays beside it when the pool turns. -/
theorem Beside.turned {v' u : Value} {base e s n : Nat} {xs : List Value} (h : Beside b v u) (n2 : Near w v v') (o : w.ownsRow base e s u n xs) : Beside b v' u := fun k hk hp => by
  rcases hp with rfl | hp
  · exact h k hk (.inl rfl)
  · rcases n2 k hp with h1 | h1
    · exact h k hk (.inr h1)
    · have := (o.lt k hk).2; omega
/-- And when it turns itself. -/
theorem Beside.moved {u u' : Value} (h : Beside b v u) (hp : PoolAt w b m x l v) (n2 : Near w u u') : Beside b v u' := fun k hk hq => by
  rcases n2 k hk with h1 | h1
  · exact h k h1 hq
  · have := (hp.blocks k hq).2; omega
end

set_option maxRecDepth 100000 in
theorem pnew_any (z : Int) (w : World) :
    Calls Try.prog 7 #[.int .i64 z] w fun e w' => ∃ b, e = .returned (.pointer (some ⟨b, 0, none⟩)) ∧ Ps w w' b (max z 0) 0 [] (.slice none 0 0) := by
  have PS : Hid (Ps w (w.alloc (.cells #[.int .i64 (max z 0), .int .i64 0, .slice none 0 0] 42)) w.heap.size (max z 0) 0 [] (.slice none 0 0)) := by
    have hh : (w.alloc (.cells #[.int .i64 (max z 0), .int .i64 0, .slice none 0 0] 42)).heap[w.heap.size]? = some (.cells #[.int .i64 (max z 0), .int .i64 0, .slice none 0 0] 42 (0, 0)) := Array.getElem?_push_size
    refine ⟨⟨?_, ?_, ?_, fun j => by rw [World.frozen?, hh]; simp, World.ownsRow_nil _ _ _ _, List.Pairwise.nil, (fun y hy => by cases hy), by omega, by omega, by simp⟩, (Below.refl _ _).alloc (Nat.le_refl _) _, Nat.le_refl _⟩ <;> (rw [cell_of_row _ _ _ _ _ _ hh]; rfl)
  go_enter Try.func7, Try.ntmps7
  go_wp2
  go_ret
  exact ⟨_, rfl, PS.out⟩
set_option maxRecDepth 100000 in
theorem phas_any {w : World} {b : Nat} {m x : Int} {l : List Int} {v : Value} (h : PoolAt w b m x l v) (id : Int) (d : Bool) (hd : decide (id ∈ l) = d) :
    Calls Try.prog 15 #[.pointer (some ⟨b, 0, none⟩), .int .i64 id] w fun e w' => e = .returned (.bool d) ∧ w' = w := by
  obtain ⟨A, c, rfl, sl⟩ := h.row
  have C := has_any l id A l.length c w rfl (by have := h.sm; omega) sl.is
  rw [hd] at C
  have K := Lib.hid C
  have c2 := h.c2
  clear h hd sl C
  generalize l.length = n at *
  go_enter Try.func15, Try.ntmps15
  go_wp2_with fail
  refine K.out.mono ?_
  rintro e w1 ⟨rfl, rfl⟩
  clear K
  go_wp2
  go_ret
  exact ⟨rfl, rfl⟩
set_option maxRecDepth 100000 in
theorem plast_any {w : World} {b : Nat} {m x : Int} {l : List Int} {v : Value} (h : PoolAt w b m x l v) :
    Calls Try.prog 10 #[.pointer (some ⟨b, 0, none⟩)] w fun e w' => e = .returned (.int .i64 x) ∧ w' = w := by
  have c1 := h.c1
  clear h
  go_enter Try.func10, Try.ntmps10
  go_wp2
  go_ret
  exact ⟨rfl, rfl⟩
set_option maxRecDepth 100000 in
theorem pall_any {w : World} {b : Nat} {m x : Int} {l : List Int} {v : Value} (h : PoolAt w b m x l v) :
    Calls Try.prog 14 #[.pointer (some ⟨b, 0, none⟩)] w fun e w' => GaveZ w (fun o => o = l) 1048576 e w' := by
  obtain ⟨A, c, rfl, sl⟩ := h.row
  have K := Lib.hid (make_s sl)
  have UP := Lib.hid h.up
  have c2 := h.c2
  clear h sl
  generalize l.length = n at *
  go_enter Try.func14, Try.ntmps14
  go_wp2_with fail
  refine K.out.mono ?_
  rintro e w1 ⟨o, A1, n1, c1, rfl, r1, s1, b1⟩
  have E := Lib.hid (And.intro ((IsRise.self UP.out).eq r1 (fun _ => Iff.rfl)).symm (And.intro s1 b1))
  clear K r1 s1 b1
  go_wp2
  go_ret
  exact ⟨o, A1, n1, c1, rfl, E.out.1, E.out.2.1, E.out.2.2⟩
theorem cut_none {l : List Int} {id : Int} (h : ¬ id ∈ l) : pickZ [id] false l = l := by
  unfold pickZ
  rw [List.filter_eq_self]
  intro y hy
  have : y ≠ id := fun e => h (e ▸ hy)
  simp [this]
set_option maxRecDepth 100000 in
theorem pgive_any {w0 w : World} {b : Nat} {m x : Int} {l : List Int} {v : Value} (h : Ps w0 w b m x l v) (id : Int) (d : Bool) (hd : decide (id ∈ l) = d) :
    Calls Try.prog 9 #[.pointer (some ⟨b, 0, none⟩), .int .i64 id] w fun e w' => e = .returned (.bool d) ∧ PsTo w0 w b m v x (pickZ [id] false l) w' := by
  have K := Lib.hid (phas_any h.at_ id d hd)
  have HH := Lib.hid h
  cases d with
  | false =>
    have N : Hid (pickZ [id] false l = l) := cut_none (of_decide_eq_false hd)
    clear hd h
    go_enter Try.func9, Try.ntmps9
    go_wp2_with fail
    refine K.out.mono ?_
    rintro e w1 ⟨rfl, rfl⟩
    clear K
    go_wp2
    go_ret
    exact ⟨rfl, by rw [N.out]; exact ⟨v, HH.out, Only.refl _ _, Near.same _ _⟩⟩
  | true =>
    clear hd
    obtain ⟨A, c, rfl, sl⟩ := h.at_.row
    have C := Lib.hid (cut_s id sl)
    have c2 := h.at_.c2
    have f2 := h.at_.fr 2
    have MV : Hid (∀ (w1 : World) (o : List Int) (A1 : Option Addr) (n1 c1 : Nat), IsRise (pickZ [id] false l) o → w1.ownsRow w.heap.size 3 1 (.slice A1 n1 c1) n1 (zs o) → o.length = n1 → Below w.heap.size w w1 →
        PsTo w0 w b m (.slice A l.length c) x (pickZ [id] false l) (w1.setCell ⟨b, 2, none⟩ (.slice A1 n1 c1))) := fun w1 o A1 n1 c1 hr ho hn hb => by
      obtain rfl : o = pickZ [id] false l := ((IsRise.self (asc_filter _ h.at_.up)).eq hr (fun _ => Iff.rfl)).symm
      have hlt := h.at_.lt
      have t1 : Only (fun k => (Value.slice A l.length c).ownBlock = some k) w w1 := Only.ofBelow hb
      have t2 : Only (Pb b (.slice A l.length c)) w1 (w1.setCell ⟨b, 2, none⟩ (.slice A1 n1 c1)) := Only.ofSet (.inl rfl) _
      have ho2 : w1.ownsRow (b + 1) 3 1 (.slice A1 n1 c1) (pickZ [id] false l).length (zs (pickZ [id] false l)) := by rw [hn]; exact own_baseZ ho hlt
      exact h.to (h.at_.put2 t1 ho2 (asc_filter _ h.at_.up) (fun y hy => h.at_.top y (pick_mem.1 hy).1) (Nat.le_trans (pick_le _ _ _) h.at_.sm)) ((Only.ofBelow hb).trans t2) (Near.new ho (Nat.le_refl _))
    have CR := cut_any l id A l.length c w rfl (by have := sl.small; omega) sl.nil sl.is
    have CC := Lib.hid CR
    have LT := Lib.hid h.at_.lt
    clear h sl C CR
    generalize l.length = n at *
    go_enter Try.func9, Try.ntmps9
    go_wp2_with fail
    refine K.out.mono ?_
    rintro e w1 ⟨rfl, rfl⟩
    clear K
    go_wp2_with fail
    refine CC.out.mono ?_
    rintro e w2 ⟨o, r2, v2, rfl, o2, b2⟩
    obtain ⟨A2, cc2, rfl, _, _, _, hl2⟩ := own_z o2
    have g2 : w2.cell? ⟨b, 2, none⟩ = some (.slice A n c) := (b2.cell (p := ⟨b, 2, none⟩) LT.out).trans c2
    have gf : w2.frozen? ⟨b, 2, none⟩ = false := (b2.frozen (p := ⟨b, 2, none⟩) LT.out).trans f2
    have R := Lib.hid (MV.out w2 o A2 o.length cc2 r2 o2 rfl b2)
    clear CC MV r2 o2 b2 hl2 c2 f2
    go_wp2
    go_ret
    exact ⟨rfl, R.out⟩
set_option maxRecDepth 100000 in
theorem ptake_no {w0 w : World} {b : Nat} {m x : Int} {l : List Int} {v : Value} (h : Ps w0 w b m x l v) (hn : ¬ ((l.length : Int) < m ∧ x < 2147483647)) :
    Calls Try.prog 8 #[.pointer (some ⟨b, 0, none⟩)] w fun e w' => e = .returned (.tuple #[.int .i64 0, .bool false]) ∧ PsTo w0 w b m v x l w' := by
  have R : Hid (∀ q, PsTo w0 w b m v x l (w.drewN q)) := fun q => ⟨v, h.below (below_drewN (Below.refl _ _) q), Only.ofBelow (below_drewN (Below.refl _ _) q), Near.same _ _⟩
  obtain ⟨A, c, rfl, sl⟩ := h.at_.row
  have c0 := h.at_.c0
  have c1 := h.at_.c1
  have c2 := h.at_.c2
  clear h sl
  by_cases hm : m ≤ (l.length : Int)
  · have hz : decide ((l.length : Int) ≥ m) = true := decide_eq_true hm
    clear hn hm
    generalize l.length = n at *
    go_enter Try.func8, Try.ntmps8
    go_wp2_with fail
    go_quiet (fail)
    go_wp2
    go_ret2
    exact ⟨rfl, R.out _⟩
  · have hz : decide ((l.length : Int) ≥ m) = false := decide_eq_false (by omega)
    have hy : decide (x ≥ 2147483647) = true := decide_eq_true (by omega)
    clear hn hm
    generalize l.length = n at *
    go_enter Try.func8, Try.ntmps8
    go_wp2_with fail
    go_quiet (fail)
    go_wp2
    go_ret2
    exact ⟨rfl, R.out _⟩
set_option maxRecDepth 100000 in
set_option maxHeartbeats 1000000 in
theorem ptake_yes {w0 w : World} {b : Nat} {m x : Int} {l : List Int} {v : Value} (h : Ps w0 w b m x l v) (hm : (l.length : Int) < m) (hx : x < 2147483647) (hs : l.length + 1 ≤ 1048576) :
    Calls Try.prog 8 #[.pointer (some ⟨b, 0, none⟩)] w fun e w' => e = .returned (.tuple #[.int .i64 (x + 1), .bool true]) ∧ PsTo w0 w b m v (x + 1) (l ++ [x + 1]) w' := by
  have HH := Lib.hid h
  obtain ⟨A, c, rfl, sl⟩ := h.at_.row
  have hz : decide ((l.length : Int) ≥ m) = false := decide_eq_false (by omega)
  have hy : decide (x ≥ 2147483647) = false := decide_eq_false (by omega)
  have hw : wrap64 (x + 1) = x + 1 := by have := h.at_.ge; unfold wrap64; omega
  have c0 := h.at_.c0
  have c1 := h.at_.c1
  have c2 := h.at_.c2
  have f1 := h.at_.fr 1
  have GO : Hid (∀ q, PoolAt ((w.drewN q).setCell ⟨b, 1, none⟩ (.int .i64 (x + 1))) b m (x + 1) l (.slice A l.length c) ∧ Only (Pb b (.slice A l.length c)) w ((w.drewN q).setCell ⟨b, 1, none⟩ (.int .i64 (x + 1)))) := fun q =>
    ⟨(h.at_.drewN q).put1 (x + 1) (by omega) (by omega), (Only.ofBelow (below_drewN (Below.refl _ _) q)).trans (Only.ofSet (.inl rfl) _)⟩
  have UP : Hid ((l ++ [x + 1]).Pairwise (· < ·) ∧ ∀ y ∈ l ++ [x + 1], y ≤ x + 1) := by
    have TOP := h.at_.top
    refine ⟨List.pairwise_append.2 ⟨h.at_.up, List.pairwise_singleton _ _, fun y hy z hz => ?_⟩, fun y hy => ?_⟩
    · rw [List.mem_singleton] at hz
      have := TOP y hy
      omega
    · rw [List.mem_append, List.mem_singleton] at hy
      rcases hy with hy | rfl
      · have := TOP y hy
        omega
      · exact Int.le_refl _
  have HS := Lib.hid hs
  have NL : Hid (l.length = l.length) := rfl
  clear h sl hm hx hs
  revert NL
  generalize hn : l.length = n at *
  intro NL
  have EN := Lib.hid hn
  clear hn NL
  go_enter Try.func8, Try.ntmps8
  go_wp2_with fail
  go_quiet (fail)
  go_wp2_with fail
  have PA := Lib.hid (GO.out nq).1
  have T1 := Lib.hid (GO.out nq).2
  clear GO c0 c1 c2 f1
  generalize ((w.drewN nq).setCell ⟨b, 1, none⟩ (.int .i64 (x + 1))) = w1 at *
  refine wp_region_held_drew (S := fun W => W.cell? ⟨b, 1, none⟩ = some (.int .i64 (x + 1))) (by kernel_rfl) (show w1.drew.cell? _ = _ from PA.out.c1) (fun hHeld => ?_)
  replace T1 := Lib.hid (T1.out.trans (Only.ofBelow (S := Pb b (.slice A n c)) ((Below.refl w1.heap.size w1).drew)))
  replace PA : Hid (PoolAt w1.drew b m (x + 1) l (.slice A n c)) := PA.out.below ((Below.refl _ _).drew)
  generalize w1.drew = w1 at *
  have p2 := PA.out.c2
  have p1 := PA.out.c1
  refine held_take 0 28 (v := (.pointer (some ⟨b, 0, none⟩))) rfl rfl (by kernel_rfl) (by kernel_rfl) (by kernel_rfl) (by rfl) (fun _ _ _ h => h) (by assumption) ?_ ?_
  · intro W hW
    go_simp
  simp only [List.setIfInBounds_toArray, List.set_cons_zero, List.set_cons_succ]
  refine held_take 1 29 (v := (.pointer (some ⟨b, 0, none⟩))) rfl rfl (by kernel_rfl) (by kernel_rfl) (by kernel_rfl) (by rfl) (fun _ _ _ h => h) (by assumption) ?_ ?_
  · intro W hW
    go_simp
  simp only [List.setIfInBounds_toArray, List.set_cons_zero, List.set_cons_succ]
  refine held_take 2 30 (v := (.pointer (some ⟨b, 0, none⟩))) rfl rfl (by kernel_rfl) (by kernel_rfl) (by kernel_rfl) (by rfl) (fun _ _ _ h => h) (by assumption) ?_ ?_
  · intro W hW
    go_simp
  simp only [List.setIfInBounds_toArray, List.set_cons_zero, List.set_cons_succ]
  refine held_take 3 31 (v := (.pointer (some ⟨b, 2, none⟩))) rfl rfl (by kernel_rfl) (by kernel_rfl) (by kernel_rfl) (by rfl) (fun _ _ _ h => h) (by assumption) ?_ ?_
  · intro W hW
    go_simp
  simp only [List.setIfInBounds_toArray, List.set_cons_zero, List.set_cons_succ]
  refine held_take 5 33 (v := (.pointer (some ⟨b, 0, none⟩))) rfl rfl (by kernel_rfl) (by kernel_rfl) (by kernel_rfl) (by rfl) (fun _ _ _ h => h) (by assumption) ?_ ?_
  · intro W hW
    go_simp
  simp only [List.setIfInBounds_toArray, List.set_cons_zero, List.set_cons_succ]
  refine held_take 6 34 (v := (.pointer (some ⟨b, 0, none⟩))) rfl rfl (by kernel_rfl) (by kernel_rfl) (by kernel_rfl) (by rfl) (fun _ _ _ h => h) (by assumption) ?_ ?_
  · intro W hW
    go_simp
  simp only [List.setIfInBounds_toArray, List.set_cons_zero, List.set_cons_succ]
  refine held_take 7 35 (v := (.pointer (some ⟨b, 1, none⟩))) rfl rfl (by kernel_rfl) (by kernel_rfl) (by kernel_rfl) (by rfl) (fun _ _ _ h => h) (by assumption) ?_ ?_
  · intro W hW
    go_simp
  simp only [List.setIfInBounds_toArray, List.set_cons_zero, List.set_cons_succ]
  refine held_take 8 36 (v := (.int .i64 (x + 1))) rfl rfl (by kernel_rfl) (by kernel_rfl) (by kernel_rfl) (by rfl) (fun _ _ _ h => h) (by assumption) ?_ ?_
  · intro W hW
    have hc : W.cell? ⟨b, 1, none⟩ = some (.int .i64 (x + 1)) := hW
    go_simp
  simp only [List.setIfInBounds_toArray, List.set_cons_zero, List.set_cons_succ]
  have bA : Below w1.heap.size w1 (w1.alloc (.cells #[.int .i64 (x + 1)] 3)) := (Below.refl _ _).alloc (Nat.le_refl _) _
  have PB := Lib.hid (PA.out.below bA)
  have LZ := Lib.hid (SlZ.lit w1 [x + 1] 1 w1.heap.size #[.int .i64 (x + 1)] rfl rfl rfl (by omega))
  have LB := Lib.hid bA
  have a1 : (w1.alloc (.cells #[.int .i64 (x + 1)] 3)).cell? ⟨b, 1, none⟩ = some (.int .i64 (x + 1)) := PB.out.c1
  have a2 : (w1.alloc (.cells #[.int .i64 (x + 1)] 3)).cell? ⟨b, 2, none⟩ = some (.slice A n c) := PB.out.c2
  refine held_two 4 9 rfl rfl (by kernel_rfl) (by rfl) (by rfl) ?_ ?_
  · refine wp_run (v := (.slice A n c)) (w' := w1) rfl (by go_simp) ⟨p1, ?_⟩
    simp only [List.setIfInBounds_toArray, List.set_cons_zero, List.set_cons_succ]
    refine held_op 9 rfl (by kernel_rfl) (by rfl) ?_
    refine wp_run (v := .slice (some ⟨w1.heap.size, 0, none⟩) 1 1) (w' := w1.alloc (.cells #[.int .i64 (x + 1)] 3)) rfl (by go_simp) ⟨a1, ?_⟩
    simp only [List.setIfInBounds_toArray, List.set_cons_zero, List.set_cons_succ]
    refine held_op 10 rfl (by kernel_rfl) (by rfl) ?_
    refine wp_appO (.tmp 32) (.tmp 37) rfl (b + 1) (.slice A n c) n l rfl (by have h := PB.out.own; rwa [EN.out] at h) ⟨w1.heap.size, 0, none⟩ 1 1 [x + 1] rfl rfl (by omega) LZ.out.is (by have := HS.out; omega) (by have := PB.out.lt; omega) ?_
    intro v2 w2 o2 g2 n2
    have s2 : w2.cell? ⟨b, 1, none⟩ = some (.int .i64 (x + 1)) := g2.cell a1 (fun e => by have := PB.out.own.lt b e.symm; omega)
    refine ⟨s2, ?_⟩
    refine held_op 11 rfl (by kernel_rfl) (by rfl) ?_
    refine wp_run (v := (.pointer (some ⟨b, 0, none⟩))) (w' := w2) rfl (by go_simp) ⟨s2, ?_⟩
    simp only [List.setIfInBounds_toArray, List.set_cons_zero, List.set_cons_succ]
    refine held_op 12 rfl (by kernel_rfl) (by rfl) ?_
    refine wp_run (v := (.pointer (some ⟨b, 2, none⟩))) (w' := w2) rfl (by go_simp) ⟨s2, ?_⟩
    simp only [List.setIfInBounds_toArray, List.set_cons_zero, List.set_cons_succ]
    have s3 : w2.cell? ⟨b, 2, none⟩ = some (.slice A n c) := g2.cell a2 (fun e => by have := PB.out.own.lt b e.symm; omega)
    have s4 : w2.frozen? ⟨b, 2, none⟩ = false := (World.frozen?_of_block (a := ⟨b, 2, none⟩) (g2.block b PB.out.lt (fun e => by have := PB.out.own.lt b e.symm; omega))).trans (PB.out.fr 2)
    have t2 : Only (fun k => (Value.slice A n c).ownBlock = some k) (w1.alloc (.cells #[.int .i64 (x + 1)] 3)) w2 := Only.ofGrown g2 (fun k hk => hk)
    have PN := PB.out.put2 (l' := l ++ [x + 1]) t2 (by rw [List.length_append, EN.out]; exact o2) UP.out.1 UP.out.2 (by rw [List.length_append, EN.out]; exact HS.out)
    have R : Hid (PsTo w0 w b m (.slice A n c) (x + 1) (l ++ [x + 1]) (w2.setCell ⟨b, 2, none⟩ v2)) := HH.out.to PN
      (T1.out.trans (((Only.ofBelow LB.out).trans ((t2.mono fun k _ hk => .inr hk))).trans (Only.ofSet (.inl rfl) _)))
      (fun k hk => (n2 k hk).imp id fun h => Nat.le_trans T1.out.size (Nat.le_trans LB.out.size h))
    have s5 : (w2.setCell ⟨b, 2, none⟩ v2).cell? ⟨b, 1, none⟩ = some (.int .i64 (x + 1)) := PN.c1
    obtain ⟨A2, cc2, rfl, _, _, _, _⟩ := own_z o2
    clear PN
    refine held_op 13 rfl (by kernel_rfl) (by rfl) ?_
    refine wp_skip (w' := w2.setCell ⟨b, 2, none⟩ (.slice A2 (n + 1) cc2)) rfl (by go_simp) ⟨s5, ?_⟩
    refine wpAnyH_done (by kernel_rfl) ?_ _
    clear s3 s4 s2 g2 o2 n2 t2 LB PB LZ a1 a2 bA hHeld p1 p2 PA T1 UP HS EN HH
    generalize (w2.setCell ⟨b, 2, none⟩ (.slice A2 (n + 1) cc2)) = w3 at *
    go_wp2
    go_ret2
    exact ⟨rfl, R.out⟩
  · refine wp_run (v := .slice (some ⟨w1.heap.size, 0, none⟩) 1 1) (w' := w1.alloc (.cells #[.int .i64 (x + 1)] 3)) rfl (by go_simp) ⟨a1, ?_⟩
    simp only [List.setIfInBounds_toArray, List.set_cons_zero, List.set_cons_succ]
    refine held_op 4 rfl (by kernel_rfl) (by rfl) ?_
    refine wp_run (v := (.slice A n c)) (w' := w1.alloc (.cells #[.int .i64 (x + 1)] 3)) rfl (by go_simp) ⟨a1, ?_⟩
    simp only [List.setIfInBounds_toArray, List.set_cons_zero, List.set_cons_succ]
    refine held_op 10 rfl (by kernel_rfl) (by rfl) ?_
    refine wp_appO (.tmp 32) (.tmp 37) rfl (b + 1) (.slice A n c) n l rfl (by have h := PB.out.own; rwa [EN.out] at h) ⟨w1.heap.size, 0, none⟩ 1 1 [x + 1] rfl rfl (by omega) LZ.out.is (by have := HS.out; omega) (by have := PB.out.lt; omega) ?_
    intro v2 w2 o2 g2 n2
    have s2 : w2.cell? ⟨b, 1, none⟩ = some (.int .i64 (x + 1)) := g2.cell a1 (fun e => by have := PB.out.own.lt b e.symm; omega)
    refine ⟨s2, ?_⟩
    refine held_op 11 rfl (by kernel_rfl) (by rfl) ?_
    refine wp_run (v := (.pointer (some ⟨b, 0, none⟩))) (w' := w2) rfl (by go_simp) ⟨s2, ?_⟩
    simp only [List.setIfInBounds_toArray, List.set_cons_zero, List.set_cons_succ]
    refine held_op 12 rfl (by kernel_rfl) (by rfl) ?_
    refine wp_run (v := (.pointer (some ⟨b, 2, none⟩))) (w' := w2) rfl (by go_simp) ⟨s2, ?_⟩
    simp only [List.setIfInBounds_toArray, List.set_cons_zero, List.set_cons_succ]
    have s3 : w2.cell? ⟨b, 2, none⟩ = some (.slice A n c) := g2.cell a2 (fun e => by have := PB.out.own.lt b e.symm; omega)
    have s4 : w2.frozen? ⟨b, 2, none⟩ = false := (World.frozen?_of_block (a := ⟨b, 2, none⟩) (g2.block b PB.out.lt (fun e => by have := PB.out.own.lt b e.symm; omega))).trans (PB.out.fr 2)
    have t2 : Only (fun k => (Value.slice A n c).ownBlock = some k) (w1.alloc (.cells #[.int .i64 (x + 1)] 3)) w2 := Only.ofGrown g2 (fun k hk => hk)
    have PN := PB.out.put2 (l' := l ++ [x + 1]) t2 (by rw [List.length_append, EN.out]; exact o2) UP.out.1 UP.out.2 (by rw [List.length_append, EN.out]; exact HS.out)
    have R : Hid (PsTo w0 w b m (.slice A n c) (x + 1) (l ++ [x + 1]) (w2.setCell ⟨b, 2, none⟩ v2)) := HH.out.to PN
      (T1.out.trans (((Only.ofBelow LB.out).trans ((t2.mono fun k _ hk => .inr hk))).trans (Only.ofSet (.inl rfl) _)))
      (fun k hk => (n2 k hk).imp id fun h => Nat.le_trans T1.out.size (Nat.le_trans LB.out.size h))
    have s5 : (w2.setCell ⟨b, 2, none⟩ v2).cell? ⟨b, 1, none⟩ = some (.int .i64 (x + 1)) := PN.c1
    obtain ⟨A2, cc2, rfl, _, _, _, _⟩ := own_z o2
    clear PN
    refine held_op 13 rfl (by kernel_rfl) (by rfl) ?_
    refine wp_skip (w' := w2.setCell ⟨b, 2, none⟩ (.slice A2 (n + 1) cc2)) rfl (by go_simp) ⟨s5, ?_⟩
    refine wpAnyH_done (by kernel_rfl) ?_ _
    clear s3 s4 s2 g2 o2 n2 t2 LB PB LZ a1 a2 bA hHeld p1 p2 PA T1 UP HS EN HH
    generalize (w2.setCell ⟨b, 2, none⟩ (.slice A2 (n + 1) cc2)) = w3 at *
    go_wp2
    go_ret2
    exact ⟨rfl, R.out⟩

/-! ### the same, with names for what comes out -/
section
variable {w0 w : World} {b : Nat} {m x : Int} {l : List Int} {v : Value}
theorem take_s (h : Ps w0 w b m x l v) {y : Int} {l' : List Int} (hy : x + 1 = y) (hl : l ++ [y] = l') (hm : (l.length : Int) < m) (hx : x < 2147483647) (hs : l.length + 1 ≤ 1048576) :
    Calls Try.prog 8 #[.pointer (some ⟨b, 0, none⟩)] w fun e w' => e = .returned (.tuple #[.int .i64 y, .bool true]) ∧ PsTo w0 w b m v y l' w' := by
  subst hy hl
  exact ptake_yes h hm hx hs
theorem give_s (h : Ps w0 w b m x l v) (id : Int) {d : Bool} {l' : List Int} (hd : decide (id ∈ l) = d) (hl : pickZ [id] false l = l') :
    Calls Try.prog 9 #[.pointer (some ⟨b, 0, none⟩), .int .i64 id] w fun e w' => e = .returned (.bool d) ∧ PsTo w0 w b m v x l' w' := by
  subst hl
  exact pgive_any h id d hd
end
set_option maxRecDepth 100000 in
set_option maxHeartbeats 1000000 in
theorem runs12_any (w : World) : Calls Try.prog 3 #[] w fun e w' => e = .returned (.bool true) ∧ Below w.heap.size w w' := by
  have C0 := Lib.hid (pnew_any 1 w)
  go_enter Try.func3, Try.ntmps3
  go_wp2_with fail
  refine C0.out.mono ?_
  rintro e w1 ⟨b, rfl, h1⟩
  have C1 := Lib.hid (take_s (show Ps w w1 b 1 0 [] (.slice none 0 0) from h1) (y := 1) (l' := [1]) rfl rfl (by decide) (by omega) (by decide))
  clear h1 C0
  go_wp2_with fail
  refine C1.out.mono ?_
  rintro e w2 ⟨rfl, v2, h2, -, -⟩
  have C2 := Lib.hid (ptake_no h2 (by decide))
  clear h2 C1
  go_wp2_with fail
  refine C2.out.mono ?_
  rintro e w3 ⟨rfl, v3, h3, -, -⟩
  have C3 := Lib.hid (give_s h3 1 (d := true) (l' := []) (by decide) (by decide))
  clear h3 C2
  go_wp2_with fail
  refine C3.out.mono ?_
  rintro e w4 ⟨rfl, v4, h4, -, -⟩
  have C4 := Lib.hid (take_s h4 (y := 2) (l' := [2]) rfl rfl (by decide) (by omega) (by decide))
  clear h4 C3
  go_wp2_with fail
  refine C4.out.mono ?_
  rintro e w5 ⟨rfl, v5, h5, -, -⟩
  have C5 := Lib.hid (plast_any h5.at_)
  have BW := Lib.hid h5.bel
  clear h5 C4
  go_wp2_with fail
  refine C5.out.mono ?_
  rintro e w6 ⟨rfl, rfl⟩
  clear C5
  go_wp2
  go_ret
  exact ⟨rfl, BW.out⟩
end Go.Proofs.Ytaklabggojfijaa
