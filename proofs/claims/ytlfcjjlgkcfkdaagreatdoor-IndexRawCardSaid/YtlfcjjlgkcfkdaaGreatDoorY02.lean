/-
  What the index's Add, cut, Drop do. Conditions: room.
  What the index's cut and Drop do. Conditions: room.
  What the index's Drop does. Conditions: room.
  What the index's Values does: the values of a name, in order, each once. Conditions: none beside the index's own.
-/
import Derived.Test.YtlfcjjlgkcfkdaaGreatDoorY01
import Derived.Test.YtlfcjjlgkcfkdaaGreatDoorZ28
import Derived.Test.YtlfcjjlgkcfkdaaGreatDoorZ19
import Derived.Test.YtlfcjjlgkcfkdaaGreatDoorZ04
import Derived.Test.YtlfcjjlgkcfkdaaGreatDoorZ23
import Derived.Sort.OwnSorted
import Derived.Sort.Walk0
namespace Go.Proofs.YtlfcjjlgkcfkdaaGreatDoor
open Go.RowKit Go.Maps Go.Sort La

/-- An operation without a slot that yields a value and another world. -/
theorem wp_run0 {P : Program} {o : Oper} {a : Act} {w w' : World} {v : Value} {K : Act → World → Prop} {Q : Exit → Act → World → Prop} (hd : o.dst = none)
    (hx : (execOp a.eval o).run P w = .ok (.value v) w') (h : K a w') : o.wp P a w K Q := by
  unfold Oper.wp
  rw [hx]
  show K (a.put o.dst v) _
  rw [hd]; exact h
theorem nth_take_mem {ls : List Lab} {k : Nat} (hk : k < ls.length) {x : Lab} : x ∈ ls.take (k + 1) ↔ (x ∈ ls.take k ∨ x = nth ls k) := by
  rw [List.take_succ_eq_append_getElem hk, List.mem_append, nth_eq hk]
  simp
open Classical in
/-- The id, where the label is among these. -/
noncomputable def one (id : Int) (L : List Lab) (y : Lab) : List Int := if y ∈ L then [id] else []
theorem one_yes {id : Int} {L : List Lab} {y : Lab} (h : y ∈ L) : one id L y = [id] := by simp [one, h]
theorem one_no {id : Int} {L : List Lab} {y : Lab} (h : y ∉ L) : one id L y = [] := by simp [one, h]
theorem mem_one {id z : Int} {L : List Lab} {y : Lab} : z ∈ one id L y ↔ (y ∈ L ∧ z = id) := by
  by_cases h : y ∈ L
  · simp [one_yes h, h]
  · simp [one_no h, h]
/-- On the way through Add. -/
structure AddI (w0 : World) (x b1 b2 N : Nat) (T : List Ent) (id : Int) (ls : List Lab) (A : Option Addr) (k : Nat) (wr : World) : Prop where
  hx : wr.heap[x]? = some (.cells #[.map (some b1), .map (some b2)] 66 (0, 0))
  sets : SetsAt wr b1 (N + 1) (T ++ [(id, ls)])
  posts : PostAt wr b2 (N + k) (fun y => who T y ++ one id (ls.take k) y)
  labs : IsLabs wr A ls
  turns : Turns (S2 b1 b2) w0 wr
theorem AddI.maps {w0 : World} {x b1 b2 N : Nat} {T : List Ent} {id : Int} {ls : List Lab} {A : Option Addr} {k : Nat} {wr : World} (h : AddI w0 x b1 b2 N T id ls A k wr) : AreMaps (S2 b1 b2) wr := fun q hq => by
  obtain ⟨f, t1, _⟩ := h.sets
  obtain ⟨g, t2, _⟩ := h.posts
  rcases hq with rfl | rfl
  · exact t1.isMap
  · exact t2.isMap
theorem AddI.c1 {w0 : World} {x b1 b2 N : Nat} {T : List Ent} {id : Int} {ls : List Lab} {A : Option Addr} {k : Nat} {wr : World} (h : AddI w0 x b1 b2 N T id ls A k wr) : wr.cell? ⟨x, 1, none⟩ = some (.map (some b2)) := row_cell h.hx rfl
theorem AddI.below {w0 : World} {x b1 b2 N : Nat} {T : List Ent} {id : Int} {ls : List Lab} {A : Option Addr} {k : Nat} {wr w' : World} (h : AddI w0 x b1 b2 N T id ls A k wr) (hb : Below wr.heap.size wr w') : AddI w0 x b1 b2 N T id ls A k w' := by
  have t : Turns (fun _ => False) wr w' := Turns.ofBelow hb
  exact ⟨Far.none.idx t h.hx, h.sets.turns t Far.none (fun e => e), h.posts.turns t Far.none (fun e => e), h.labs.below hb, h.turns.trans (Turns.ofBelow hb)⟩
/-- One label more. -/
theorem AddI.step {w0 : World} {x b1 b2 N : Nat} {T : List Ent} {id : Int} {ls : List Lab} {A : Option Addr} {k : Nat} {wr : World} (h : AddI w0 x b1 b2 N T id ls A k wr) (hne : b1 ≠ b2) (hk : k < ls.length) (hs : isSet ls = true) (hT : T.length < 900) (hn : N + k < 1000000)
    {A' : Option Addr} {m c K : Nat} {out out' : List Int} (hr : IsRise (who T (nth ls k) ++ one id (ls.take k) (nth ls k)) out) (hr' : IsRise (out ++ [id]) out') (hz : wr.ownsRow K 3 1 (.slice A' m c) m (zs out')) {t : TypeId} (ht : Tryz.prog.underlying t = some (.map 26 29)) :
    ∃ w', (Instr.mapUpdate t (.map (some b2)) (.agg #[.string (nth ls k).1, .string (nth ls k).2]) (.slice A' m c)).run Tryz.prog wr = .ok () w' ∧ AddI w0 x b1 b2 N T id ls A (k + 1) w' ∧ Turns (S2 b1 b2) wr w' := by
  have hmem : nth ls k ∈ ls.take (k + 1) := (nth_take_mem hk).2 (.inr rfl)
  have hlen : (who T (nth ls k) ++ [id]).length ≤ 1000 := by
    have := who_len T (nth ls k)
    simp
    omega
  have hrise : IsRise (who T (nth ls k) ++ one id (ls.take (k + 1)) (nth ls k)) out' := hr'.congr fun z => by
    rw [one_yes hmem, List.mem_append, hr.2 z, List.mem_append, List.mem_append, mem_one, List.mem_singleton]
    exact ⟨fun h => h.elim (fun h => h.imp (fun h => h) (fun h => h.2)) .inr, fun h => h.imp .inl (fun h => h)⟩
  have hm : m ≤ 1000 := by
    have h1 := hrise.len
    rw [one_yes hmem] at h1
    have := hz.1
    rw [zs_len, Nat.mul_one] at this
    omega
  have hg : ∀ y, y ≠ nth ls k → (who T y ++ one id (ls.take (k + 1)) y) = (who T y ++ one id (ls.take k) y) := fun y hy => by
    have : (y ∈ ls.take (k + 1)) ↔ y ∈ ls.take k := (nth_take_mem hk).trans ⟨fun h => h.resolve_right hy, .inl⟩
    by_cases e : y ∈ ls.take k
    · rw [one_yes e, one_yes (this.2 e)]
    · rw [one_no e, one_no fun e' => e (this.1 e')]
  obtain ⟨w', hrun, p', tm⟩ := h.posts.put (g' := fun y => who T y ++ one id (ls.take (k + 1)) y) (y := nth ls k) (A := A') (m := m) (c := c) (out := out') (set_small hs _ (nth_mem hk)) (by unfold maxLen; omega) ht hrise hz hm (by rw [one_yes hmem]; simp) hg
  have tt : Turns (S2 b1 b2) wr w' := Turns.ofMap tm (.inr rfl)
  have t2 : Turns (fun q => q = b2) wr w' := Turns.ofMap tm rfl
  have m2 : AreMaps (fun q => q = b2) wr := fun q e => h.maps q (.inr e)
  exact ⟨w', hrun, ⟨m2.far.idx t2 h.hx, h.sets.turns t2 m2.far hne, p', h.labs.turns t2 m2, h.turns.trans tt⟩, tt⟩
theorem AddI.start {w0 w : World} {x b1 b2 N : Nat} {T : List Ent} {id : Int} {ls : List Lab} {A B : Option Addr} {c base : Nat} (h : IdxAt w x b1 b2 N T) (hid : (Lit.int .i64 id).wf = true) (hnew : id ∉ T.map Prod.fst) (hl : w.ownsRow base 26 2 (.slice B ls.length c) ls.length (lc ls)) (ha : IsLabs w A ls) (ht0 : Turns (S2 b1 b2) w0 w)
    {t : TypeId} (ht : Tryz.prog.underlying t = some (.map 3 27)) :
    ∃ w', (Instr.mapUpdate t (.map (some b1)) (.int .i64 id) (.slice B ls.length c)).run Tryz.prog w = .ok () w' ∧ AddI w0 x b1 b2 N T id ls A 0 w' ∧ Turns (S2 b1 b2) w w' := by
  obtain ⟨w', hrun, s', tm⟩ := h.sets.put hid hnew (by have := h.room; unfold maxLen; omega) ht hl
  have tt : Turns (S2 b1 b2) w w' := Turns.ofMap tm (.inl rfl)
  have t1 : Turns (fun q => q = b1) w w' := Turns.ofMap tm rfl
  have m1 : AreMaps (fun q => q = b1) w := fun q e => h.maps q (.inl e)
  exact ⟨w', hrun, ⟨m1.far.idx t1 h.hx, s', (h.posts.turns t1 m1.far (fun e => h.ne e.symm)).congr fun y z => by rw [List.take_zero, one_no (by simp), List.append_nil], ha.turns t1 m1, ht0.trans tt⟩, tt⟩
theorem AddI.done {w0 wr : World} {x b1 b2 N N' : Nat} {T : List Ent} {id : Int} {ls : List Lab} {A : Option Addr} (h : AddI w0 x b1 b2 N T id ls A ls.length wr) (h0 : IdxAt w0 x b1 b2 N T) (hid : (Lit.int .i64 id).wf = true) (hnew : id ∉ T.map Prod.fst) (hs : isSet ls = true) (hT : T.length < 900) (hN : N' = N + 7) (hr : N' ≤ 1000) : IdxAt wr x b1 b2 N' (T ++ [(id, ls)]) := by
  subst hN
  have h6 := (isSet_iff.1 hs).2.1
  refine ⟨h.hx, h0.ne, ?_, fun p hp => ?_, fun p hp => ?_, by simp; omega, hr, ?_, ?_⟩
  · rw [List.map_append]
    refine List.nodup_append.2 ⟨h0.nd, by simp, fun a ha b hb e => ?_⟩
    obtain rfl : b = id := by simpa using hb
    exact hnew (e ▸ ha)
  · rw [List.mem_append] at hp
    rcases hp with hp | hp
    · exact h0.set p hp
    · obtain rfl : p = (id, ls) := by simpa using hp
      exact hs
  · rw [List.mem_append] at hp
    rcases hp with hp | hp
    · exact h0.wf p hp
    · obtain rfl : p = (id, ls) := by simpa using hp
      exact hid
  · obtain ⟨f, t1, r⟩ := h.sets
    exact ⟨f, t1.mono (by omega), r⟩
  · have := h.posts.congr (g' := who (T ++ [(id, ls)])) fun y z => by
      rw [List.take_of_length_le (Nat.le_refl _)]
      rw [List.mem_append, mem_one, mem_who, mem_who]
      constructor
      · rintro (⟨l', h1, h2⟩ | ⟨h1, rfl⟩)
        · exact ⟨l', by simp [h1], h2⟩
        · exact ⟨ls, by simp, h1⟩
      · rintro ⟨l', h1, h2⟩
        rw [List.mem_append] at h1
        rcases h1 with h1 | h1
        · exact .inl ⟨l', h1, h2⟩
        · obtain ⟨rfl, rfl⟩ : z = id ∧ l' = ls := by simpa using h1
          exact .inr ⟨h2, rfl⟩
    obtain ⟨f, t1, r⟩ := this
    exact ⟨f, t1.mono (by omega), r⟩

/-- What Add hands back. -/
def AddRes (w : World) (x b1 b2 N : Nat) (T : List Ent) (id : Int) (ls : List Lab) (e : Ending) (w' : World) : Prop :=
  ∃ ok : Bool, e = .returned (.bool ok) ∧ (ok = true ↔ (isSet ls = true ∧ id ∉ T.map Prod.fst)) ∧ IdxAt w' x b1 b2 (N + 7) (if ok then T ++ [(id, ls)] else T) ∧ Turns (S2 b1 b2) w w'
set_option maxRecDepth 100000 in
set_option maxHeartbeats 4000000 in
theorem iadd_any {w : World} {x b1 b2 N : Nat} {T : List Ent} (h : IdxAt w x b1 b2 N T) (id : Int) (ls : List Lab) (A : Option Addr) (M cap : Nat) (hid : (Lit.int .i64 id).wf = true) (hM : ls.length = M) (hM1 : M ≤ 1048576) (hsm : Small ls) (hA : A = none → cap = 0) (ha : IsLabs w A ls) (hT : T.length < 900) (hN : N + 7 ≤ 1000) :
    Calls Tryz.prog 10 #[.pointer (some ⟨x, 0, none⟩), .int .i64 id, .slice A M cap] w (AddRes w x b1 b2 N T id ls) := by
  have H := Lib.hid h
  have AL := Lib.hid ha
  have grow : Hid (∀ w', IdxAt w' x b1 b2 N T → IdxAt w' x b1 b2 (N + 7) T) := fun w' q => ⟨q.hx, q.ne, q.nd, q.set, q.wf, q.len, hN, by obtain ⟨f, t, r⟩ := q.sets; exact ⟨f, t.mono (by omega), r⟩, by obtain ⟨f, t, r⟩ := q.posts; exact ⟨f, t.mono (by omega), r⟩⟩
  have c0 := h.c0
  have hM2 := Lib.hid hM
  rcases h.sets.look id hid Tryz.underlying63 with ⟨hnew, L1⟩ | ⟨ls', A', c', hin, _, _, L1⟩
  · have CI := Lib.hid (lis_any ls A cap w (by omega) hsm ha)
    rw [hM] at CI
    have HNEW := Lib.hid hnew
    cases hset : isSet ls
    · rw [hset] at CI
      have HSF := Lib.hid hset
      have R : Hid (∀ w1, Below w.heap.size w w1 → IdxAt w1 x b1 b2 (N + 7) T ∧ Turns (S2 b1 b2) w w1) := fun w1 hb => ⟨grow.out _ (H.out.below hb), Turns.ofBelow hb⟩
      clear h ha hnew hsm hM hM2 AL H HNEW grow hset hA
      go_enter Tryz.func10, Tryz.ntmps10
      go_wp2_with fail
      refine CI.out.mono ?_
      rintro e w1 ⟨rfl, bb⟩
      have Q := Lib.hid (R.out w1 bb)
      clear bb CI R
      go_wp2
      go_ret
      exact ⟨false, rfl, by simp [HSF.out], Q.out.1, Q.out.2⟩
    · rw [hset] at CI
      have HSET := Lib.hid hset
      have h6 := (isSet_iff.1 hset).2.1
      obtain ⟨ad, rfl⟩ : ∃ ad, A = some ad := by
        cases A with
        | none =>
          obtain ⟨_, _, e, _⟩ := ha (isSet_iff.1 hset).1
          cases e
        | some ad => exact ⟨ad, rfl⟩
      rw [hM] at h6
      clear h ha hnew hsm hM hset hA
      go_enter Tryz.func10, Tryz.ntmps10
      go_wp2_with fail
      refine CI.out.mono ?_
      rintro e w1 ⟨rfl, bb⟩
      have H1 : Hid (IdxAt w1 x b1 b2 N T) := H.out.below bb
      have A1 : Hid (IsLabs w1 (some ad) ls) := AL.out.below bb
      have T1 : Hid (Turns (S2 b1 b2) w w1) := Turns.ofBelow bb
      clear bb CI c0 L1
      go_wp2_with fail
      have MP := H1.out.maps
      have CL := clone_any ls ad cap w1.drew (by rw [hM2.out]; omega) A1.out
      rw [hM2.out] at CL
      refine wp_region_held_drew (S := fun W => Turns (S2 b1 b2) w1 W) (by kernel_rfl) (Turns.ofBelow (Below.refl _ _).drew) (fun hHeld => ?_)
      refine held_take 0 26 (v := (.pointer (some ⟨x, 0, none⟩))) rfl rfl (by kernel_rfl) (by kernel_rfl) (by kernel_rfl) (by rfl) (fun _ _ _ h => h) (by assumption) ?_ ?_
      · intro W hW
        go_simp
      simp only [List.setIfInBounds_toArray, List.set_cons_zero, List.set_cons_succ]
      refine held_take 1 27 (v := (.pointer (some ⟨x, 0, none⟩))) rfl rfl (by kernel_rfl) (by kernel_rfl) (by kernel_rfl) (by rfl) (fun _ _ _ h => h) (by assumption) ?_ ?_
      · intro W hW
        go_simp
      simp only [List.setIfInBounds_toArray, List.set_cons_zero, List.set_cons_succ]
      refine held_take 2 28 (v := (.pointer (some ⟨x, 0, none⟩))) rfl rfl (by kernel_rfl) (by kernel_rfl) (by kernel_rfl) (by rfl) (fun _ _ _ h => h) (by assumption) ?_ ?_
      · intro W hW
        go_simp
      simp only [List.setIfInBounds_toArray, List.set_cons_zero, List.set_cons_succ]
      refine held_take 3 29 (v := (.map (some b1))) rfl rfl (by kernel_rfl) (by kernel_rfl) (by kernel_rfl) (by rfl) (fun _ _ _ h => h) (by assumption) ?_ ?_
      · intro W hW
        have q := hW.cell MP H1.out.c0
        go_simp
      simp only [List.setIfInBounds_toArray, List.set_cons_zero, List.set_cons_succ]
      refine held_take 4 30 (v := (.int .i64 id)) rfl rfl (by kernel_rfl) (by kernel_rfl) (by kernel_rfl) (by rfl) (fun _ _ _ h => h) (by assumption) ?_ ?_
      · intro W hW
        go_simp
      simp only [List.setIfInBounds_toArray, List.set_cons_zero, List.set_cons_succ]
      refine held_take 5 31 (v := (.slice (some ad) M cap)) rfl rfl (by kernel_rfl) (by kernel_rfl) (by kernel_rfl) (by rfl) (fun _ _ _ h => h) (by assumption) ?_ ?_
      · intro W hW
        go_simp
      simp only [List.setIfInBounds_toArray, List.set_cons_zero, List.set_cons_succ]
      refine held_call 6 32 (f := 31) (args := #[.slice (some ad) M cap]) rfl rfl (by kernel_rfl) (by rfl) (by go_simp) ?_
      refine CL.mono ?_
      rintro e w2 ⟨⟨B, c, rfl, ow⟩, bb⟩
      have t2 : Turns (S2 b1 b2) w1 w2 := Turns.ofBelow ((Below.refl _ _).drew.trans bb)
      refine ⟨_, rfl, t2, ?_⟩
      have il := ow
      rw [← hM2.out] at il
      have h2 : IdxAt w2 x b1 b2 N T := H1.out.below ((Below.refl _ _).drew.trans bb)
      have a2 : IsLabs w2 (some ad) ls := A1.out.below ((Below.refl _ _).drew.trans bb)
      obtain ⟨w3, hrun, i3, t3⟩ := AddI.start (w0 := w) (A := some ad) (c := c) h2 hid HNEW.out il a2 (T1.out.trans t2) Tryz.underlying63
      rw [hM2.out] at hrun
      simp only [List.setIfInBounds_toArray, List.set_cons_zero, List.set_cons_succ]
      refine held_op 7 rfl (by kernel_rfl) (by rfl) ?_
      refine wp_skip (w' := w3) rfl (by go_simp) ⟨t2.trans t3, ?_⟩
      refine wpAnyH_done (by kernel_rfl) ?_ _
      have I3 := Lib.hid i3
      clear i3 hrun h2 a2 il t2 t3 ow bb CL MP H1 A1 T1
      go_wp2
      go_loopw [35] (fun i wr => ∃ k : Nat, k ≤ M ∧ i = .int .i64 (k : Int) ∧ Hid (AddI w x b1 b2 N T id ls (some ad) k wr)) (fun i _ => M - (intOf i).toNat)
      case atStart => exact ⟨0, by omega, rfl, I3.out⟩
      case round =>
        clear I3 hHeld
        obtain ⟨k, hk, rfl, HI⟩ := hrel
        by_cases hkn : k < M
        · have hkz : (k : Int) < (M : Int) := by omega
          obtain ⟨b, off, e, hc⟩ := HI.out.labs (by rw [hM2.out]; omega)
          injection e with e
          subst e
          obtain ⟨d1, d2⟩ := hc k (by rw [hM2.out]; exact hkn)
          clear hc
          have WL : Hid (IntKind.i64.wrap ((k : Int) + 1) = (k : Int) + 1) := by show _ = _; rw [IntKind.wrap_i64]; omega
          obtain ⟨y1, e1⟩ : ∃ y, (nth ls k).1 = y := ⟨_, rfl⟩
          obtain ⟨y2, e2⟩ : ∃ y, (nth ls k).2 = y := ⟨_, rfl⟩
          have EY : Hid (nth ls k = (y1, y2)) := Prod.ext e1 e2
          rw [e1] at d1
          rw [e2] at d2
          clear e1 e2
          go_wp2_with fail
          have QB : Below wr.heap.size wr (wr.alloc (.cells #[.string y1, .string y2] 26)) := (Below.refl _ _).alloc (Nat.le_refl _) _
          obtain ⟨ca, cb⟩ : (wr.alloc (.cells #[.string y1, .string y2] 26)).cell? ⟨wr.heap.size, 0, none⟩ = some (.string y1) ∧ (wr.alloc (.cells #[.string y1, .string y2] 26)).cell? ⟨wr.heap.size, 1, none⟩ = some (.string y2) := by
            have hb : (wr.alloc (.cells #[.string y1, .string y2] 26)).heap[wr.heap.size]? = some (.cells #[.string y1, .string y2] 26 (0, 0)) := World.alloc_heap_new wr _
            exact ⟨row_cell hb rfl, row_cell hb rfl⟩
          have I4 := HI.out.below QB
          obtain ⟨wq, hwq⟩ : ∃ wq, wr.alloc (.cells #[.string y1, .string y2] 26) = wq := ⟨_, rfl⟩
          rw [hwq] at I4 ca cb ⊢
          have MQ := I4.maps
          obtain ⟨A5, m5, c5, o5, r5, s5, l5⟩ := I4.posts.look (nth ls k) (set_small HSET.out _ (nth_mem (by rw [hM2.out]; exact hkn)))
          have L6 := l5 wq.drew 64 rfl Tryz.underlying64
          rw [EY.out] at L6
          have CP := put_any o5 id A5 m5 c5 wq.drew s5.len (by have := s5.small; omega) s5.nil (s5.is.drewN 1)
          refine wp_region_held_drew (S := fun W => Turns (S2 b1 b2) wq W) (by kernel_rfl) (Turns.ofBelow (Below.refl _ _).drew) (fun hHeld => ?_)
          refine held_take 0 39 (v := (.pointer (some ⟨x, 0, none⟩))) rfl rfl (by kernel_rfl) (by kernel_rfl) (by kernel_rfl) (by rfl) (fun _ _ _ h => h) (by assumption) ?_ ?_
          · intro W hW
            go_simp
          simp only [List.setIfInBounds_toArray, List.set_cons_zero, List.set_cons_succ]
          refine held_take 1 40 (v := (.pointer (some ⟨x, 0, none⟩))) rfl rfl (by kernel_rfl) (by kernel_rfl) (by kernel_rfl) (by rfl) (fun _ _ _ h => h) (by assumption) ?_ ?_
          · intro W hW
            go_simp
          simp only [List.setIfInBounds_toArray, List.set_cons_zero, List.set_cons_succ]
          refine held_take 2 41 (v := (.pointer (some ⟨x, 1, none⟩))) rfl rfl (by kernel_rfl) (by kernel_rfl) (by kernel_rfl) (by rfl) (fun _ _ _ h => h) (by assumption) ?_ ?_
          · intro W hW
            go_simp
          simp only [List.setIfInBounds_toArray, List.set_cons_zero, List.set_cons_succ]
          refine held_take 3 42 (v := (.map (some b2))) rfl rfl (by kernel_rfl) (by kernel_rfl) (by kernel_rfl) (by rfl) (fun _ _ _ h => h) (by assumption) ?_ ?_
          · intro W hW
            have q := hW.cell MQ I4.c1
            go_simp
          simp only [List.setIfInBounds_toArray, List.set_cons_zero, List.set_cons_succ]
          refine held_take 4 43 (v := (.agg #[.string y1, .string y2])) rfl rfl (by kernel_rfl) (by kernel_rfl) (by kernel_rfl) (by rfl) (fun _ _ _ h => h) (by assumption) ?_ ?_
          · intro W hW
            have q1 := hW.cell MQ ca
            have q2 := hW.cell MQ cb
            go_simp
          simp only [List.setIfInBounds_toArray, List.set_cons_zero, List.set_cons_succ]
          refine held_take 5 44 (v := (.pointer (some ⟨x, 0, none⟩))) rfl rfl (by kernel_rfl) (by kernel_rfl) (by kernel_rfl) (by rfl) (fun _ _ _ h => h) (by assumption) ?_ ?_
          · intro W hW
            go_simp
          simp only [List.setIfInBounds_toArray, List.set_cons_zero, List.set_cons_succ]
          refine held_take 6 45 (v := (.pointer (some ⟨x, 0, none⟩))) rfl rfl (by kernel_rfl) (by kernel_rfl) (by kernel_rfl) (by rfl) (fun _ _ _ h => h) (by assumption) ?_ ?_
          · intro W hW
            go_simp
          simp only [List.setIfInBounds_toArray, List.set_cons_zero, List.set_cons_succ]
          refine held_take 7 46 (v := (.pointer (some ⟨x, 1, none⟩))) rfl rfl (by kernel_rfl) (by kernel_rfl) (by kernel_rfl) (by rfl) (fun _ _ _ h => h) (by assumption) ?_ ?_
          · intro W hW
            go_simp
          simp only [List.setIfInBounds_toArray, List.set_cons_zero, List.set_cons_succ]
          refine held_take 8 47 (v := (.map (some b2))) rfl rfl (by kernel_rfl) (by kernel_rfl) (by kernel_rfl) (by rfl) (fun _ _ _ h => h) (by assumption) ?_ ?_
          · intro W hW
            have q := hW.cell MQ I4.c1
            go_simp
          simp only [List.setIfInBounds_toArray, List.set_cons_zero, List.set_cons_succ]
          refine held_take 9 48 (v := (.agg #[.string y1, .string y2])) rfl rfl (by kernel_rfl) (by kernel_rfl) (by kernel_rfl) (by rfl) (fun _ _ _ h => h) (by assumption) ?_ ?_
          · intro W hW
            have q1 := hW.cell MQ ca
            have q2 := hW.cell MQ cb
            go_simp
          simp only [List.setIfInBounds_toArray, List.set_cons_zero, List.set_cons_succ]
          refine held_take 11 50 (v := (.int .i64 id)) rfl rfl (by kernel_rfl) (by kernel_rfl) (by kernel_rfl) (by rfl) (fun _ _ _ h => h) (by assumption) ?_ ?_
          · intro W hW
            go_simp
          simp only [List.setIfInBounds_toArray, List.set_cons_zero, List.set_cons_succ]
          refine held_op 10 rfl (by kernel_rfl) (by rfl) ?_
          refine wp_run (v := .slice A5 m5 c5) (w' := wq.drew) rfl (by go_simp) ⟨Turns.ofBelow (Below.refl _ _).drew, ?_⟩
          simp only [List.setIfInBounds_toArray, List.set_cons_zero, List.set_cons_succ]
          refine held_call 12 51 (f := 32) (args := #[.slice A5 m5 c5, .int .i64 id]) rfl rfl (by kernel_rfl) (by rfl) (by go_simp) ?_
          refine CP.mono ?_
          rintro e v1 ⟨o7, r7, V7, rfl, s7, bb⟩
          obtain ⟨A7, c7, rfl, _⟩ := own_z s7
          have bq : Below wq.heap.size wq v1 := (Below.refl _ _).drew.trans bb
          have t7 : Turns (S2 b1 b2) wq v1 := Turns.ofBelow bq
          refine ⟨_, rfl, t7, ?_⟩
          have I7 := I4.below bq
          obtain ⟨v2, hrun, i8, t8⟩ := I7.step H.out.ne (by rw [hM2.out]; exact hkn) HSET.out hT (by omega) r5 r7 s7 Tryz.underlying64
          rw [EY.out] at hrun
          simp only [List.setIfInBounds_toArray, List.set_cons_zero, List.set_cons_succ]
          refine held_op 13 rfl (by kernel_rfl) (by rfl) ?_
          refine wp_skip (w' := v2) rfl (by go_simp) ⟨t7.trans t8, ?_⟩
          refine wpAnyH_done (by kernel_rfl) ?_ _
          have I8 := Lib.hid i8
          clear i8 hrun I7 t7 t8 bq bb r7 s7 r5 s5 l5 L6 CP I4 MQ hwq ca cb QB HI
          go_wp2_with (rw [WL.out])
          go_roundw
          case rel => exact ⟨k + 1, by omega, by go_num, I8.out⟩
          case measure => simp [intOf]; omega
        · obtain rfl : k = M := by omega
          have hkz : ¬ (k : Int) < (k : Int) := by omega
          have R : Hid (IdxAt wr x b1 b2 (N + 7) (T ++ [(id, ls)]) ∧ Turns (S2 b1 b2) w wr) := by
            have q := HI.out
            rw [← hM2.out] at q
            exact ⟨q.done H.out hid HNEW.out HSET.out hT rfl hN, q.turns⟩
          clear HI
          go_wp2
          go_ret
          exact ⟨true, rfl, by simp [HSET.out, HNEW.out], R.out.1, R.out.2⟩
  · have R : Hid (IdxAt w x b1 b2 (N + 7) T ∧ Turns (S2 b1 b2) w w ∧ id ∈ T.map Prod.fst) := ⟨grow.out _ H.out, Turns.refl _ _, List.mem_map.2 ⟨_, hin, rfl⟩⟩
    clear h ha hsm hM hM2 AL H grow hA hin
    go_enter Tryz.func10, Tryz.ntmps10
    go_wp2
    go_ret
    exact ⟨false, rfl, by simp [R.out.2.2], R.out.1, R.out.2.1⟩
end Go.Proofs.YtlfcjjlgkcfkdaaGreatDoor
namespace Go.Proofs.YtlfcjjlgkcfkdaaGreatDoor
open Go.RowKit Go.Maps Go.Sort La

open Classical in
/-- A label's ids, but for one id where the label is y. -/
noncomputable def but (g : Lab → List Int) (id : Int) (y : Lab) (z : Lab) : List Int := if z = y then pickZ [id] false (g z) else g z
theorem but_same (g : Lab → List Int) (id : Int) (y : Lab) : but g id y y = pickZ [id] false (g y) := by simp [but]
theorem but_other {g : Lab → List Int} {id : Int} {y z : Lab} (h : z ≠ y) : but g id y z = g z := by simp [but, h]
/-- What cut hands back. -/
def CutRes (w : World) (b2 n : Nat) (g : Lab → List Int) (id : Int) (y : Lab) (e : Ending) (w' : World) : Prop := e = .returned (.tuple #[]) ∧ PostAt w' b2 (n + 1) (but g id y) ∧ Turns (fun q => q = b2) w w'
set_option maxRecDepth 100000 in
set_option maxHeartbeats 4000000 in
theorem icut_any {w : World} {x b2 n : Nat} {g : Lab → List Int} (c1 : w.cell? ⟨x, 1, none⟩ = some (.map (some b2))) (hp : PostAt w b2 n g) (id : Int) (y1 y2 : ByteArray) (hy : smallL (y1, y2)) (hn : n ≤ 1000000) :
    Calls Tryz.prog 50 #[.pointer (some ⟨x, 0, none⟩), .agg #[.string y1, .string y2], .int .i64 id] w (CutRes w b2 n g id (y1, y2)) := by
  have QB : Below w.heap.size w (w.alloc (.cells #[.string y1, .string y2] 26)) := (Below.refl _ _).alloc (Nat.le_refl _) _
  have hb : (w.alloc (.cells #[.string y1, .string y2] 26)).heap[w.heap.size]? = some (.cells #[.string y1, .string y2] 26 (0, 0)) := World.alloc_heap_new w _
  have ca0 := row_cell (j := 0) hb rfl
  have cb0 := row_cell (j := 1) hb rfl
  have M0 : AreMaps (fun q => q = b2) w := fun q e => by obtain ⟨f, t, _⟩ := hp; subst e; exact t.isMap
  obtain ⟨wq, hwq⟩ : ∃ wq, w.alloc (.cells #[.string y1, .string y2] 26) = wq := ⟨_, rfl⟩
  rw [hwq] at ca0 cb0 QB
  have TQ0 : Turns (fun q => q = b2) w wq := Turns.ofBelow QB
  have cc0 := (Turns.ofBelow (S := fun _ => False) QB).cell AreMaps.none c1
  have PQ := hp.turns (Turns.ofBelow (S := fun _ => False) QB) Far.none (fun e => e)
  have MQ : AreMaps (fun q => q = b2) wq := fun q e => by obtain ⟨f, t, _⟩ := PQ; subst e; exact t.isMap
  obtain ⟨A5, m5, c5, o5, r5, s5, l5⟩ := PQ.look (y1, y2) hy
  have L6 := l5 wq.drew 64 rfl Tryz.underlying64
  have CP := Lib.hid (cut_any o5 id A5 m5 c5 wq.drew s5.len (by have := s5.small; omega) s5.nil (s5.is.drewN 1))
  have SM5 := Lib.hid s5
  have PH := Lib.hid PQ
  have TQ := Lib.hid TQ0
  have R5 := Lib.hid r5
  have ca := Lib.hid ca0
  have cb := Lib.hid cb0
  have cc := Lib.hid cc0
  clear s5 l5 r5 PQ c1 hp hb TQ0 QB M0 ca0 cb0 cc0
  go_enter Tryz.func50, Tryz.ntmps50
  go_wp2_with fail
  refine wp_region_held_drew (S := fun W => Turns (fun q => q = b2) wq W) (by kernel_rfl) (Turns.ofBelow (Below.refl _ _).drew) (fun hHeld => ?_)
  refine held_take 0 7 (v := (.pointer (some ⟨x, 0, none⟩))) rfl rfl (by kernel_rfl) (by kernel_rfl) (by kernel_rfl) (by rfl) (fun _ _ _ h => h) (by assumption) ?_ ?_
  · intro W hW
    go_simp
  simp only [List.setIfInBounds_toArray, List.set_cons_zero, List.set_cons_succ]
  refine held_take 1 8 (v := (.pointer (some ⟨x, 0, none⟩))) rfl rfl (by kernel_rfl) (by kernel_rfl) (by kernel_rfl) (by rfl) (fun _ _ _ h => h) (by assumption) ?_ ?_
  · intro W hW
    go_simp
  simp only [List.setIfInBounds_toArray, List.set_cons_zero, List.set_cons_succ]
  refine held_take 2 9 (v := (.pointer (some ⟨x, 1, none⟩))) rfl rfl (by kernel_rfl) (by kernel_rfl) (by kernel_rfl) (by rfl) (fun _ _ _ h => h) (by assumption) ?_ ?_
  · intro W hW
    go_simp
  simp only [List.setIfInBounds_toArray, List.set_cons_zero, List.set_cons_succ]
  refine held_take 3 10 (v := (.map (some b2))) rfl rfl (by kernel_rfl) (by kernel_rfl) (by kernel_rfl) (by rfl) (fun _ _ _ h => h) (by assumption) ?_ ?_
  · intro W hW
    have q := hW.cell MQ cc.out
    go_simp
  simp only [List.setIfInBounds_toArray, List.set_cons_zero, List.set_cons_succ]
  refine held_take 4 11 (v := (.agg #[.string y1, .string y2])) rfl rfl (by kernel_rfl) (by kernel_rfl) (by kernel_rfl) (by rfl) (fun _ _ _ h => h) (by assumption) ?_ ?_
  · intro W hW
    have q1 := hW.cell MQ ca.out
    have q2 := hW.cell MQ cb.out
    go_simp
  simp only [List.setIfInBounds_toArray, List.set_cons_zero, List.set_cons_succ]
  refine held_take 6 13 (v := (.int .i64 id)) rfl rfl (by kernel_rfl) (by kernel_rfl) (by kernel_rfl) (by rfl) (fun _ _ _ h => h) (by assumption) ?_ ?_
  · intro W hW
    go_simp
  simp only [List.setIfInBounds_toArray, List.set_cons_zero, List.set_cons_succ]
  refine held_op 5 rfl (by kernel_rfl) (by rfl) ?_
  refine wp_run (v := .slice A5 m5 c5) (w' := wq.drew) rfl (by go_simp) ⟨Turns.ofBelow (Below.refl _ _).drew, ?_⟩
  simp only [List.setIfInBounds_toArray, List.set_cons_zero, List.set_cons_succ]
  refine held_call 7 14 (f := 69) (args := #[.slice A5 m5 c5, .int .i64 id]) rfl rfl (by kernel_rfl) (by rfl) (by go_simp) ?_
  refine CP.out.mono ?_
  rintro e v1 ⟨o7, r7, V7, rfl, s7, bb⟩
  obtain ⟨A7, c7, rfl, _⟩ := own_z s7
  obtain ⟨n7, hn7⟩ : ∃ n, o7.length = n := ⟨_, rfl⟩
  rw [hn7] at s7
  have M1 : Hid (n7 ≤ 1000) := by
    have h1 := r7.len
    have h2 := pick_le o5 [id] false
    have h3 := SM5.out.small
    have h4 := SM5.out.len
    show _ ≤ _
    omega
  rw [hn7]
  have bq : Below wq.heap.size wq v1 := (Below.refl _ _).drew.trans bb
  have t7 : Turns (fun q => q = b2) wq v1 := Turns.ofBelow bq
  refine ⟨_, rfl, t7, ?_⟩
  simp only [List.setIfInBounds_toArray, List.set_cons_zero, List.set_cons_succ]
  refine held_take 8 6 (v := (.slice A7 n7 c7)) rfl rfl (by kernel_rfl) (by kernel_rfl) (by kernel_rfl) (by rfl) (fun _ _ _ h => h) (by assumption) ?_ ?_
  · intro W hW
    go_simp
  simp only [List.setIfInBounds_toArray, List.set_cons_zero, List.set_cons_succ]
  refine wpAnyH_done (by kernel_rfl) ?_ _
  have P7 : Hid (PostAt v1 b2 n g) := PH.out.turns (Turns.ofBelow (S := fun _ => False) bq) Far.none (fun e => e)
  have T7 : Hid (Turns (fun q => q = b2) w v1) := TQ.out.trans t7
  have ca7 : Hid (v1.cell? ⟨w.heap.size, 0, none⟩ = some (.string y1)) := t7.cell MQ ca.out
  have cb7 : Hid (v1.cell? ⟨w.heap.size, 1, none⟩ = some (.string y2)) := t7.cell MQ cb.out
  have cc7 : Hid (v1.cell? ⟨x, 1, none⟩ = some (.map (some b2))) := t7.cell MQ cc.out
  have R7 : Hid (IsRise (but g id (y1, y2) (y1, y2)) o7) := by
    show IsRise _ _
    rw [but_same]
    exact r7.congr fun z => by rw [pick_mem, pick_mem, R5.out.2 z]
  have S7 := Lib.hid s7
  have LN7 := Lib.hid hn7
  clear hn7
  have M7 : AreMaps (fun q => q = b2) v1 := fun q e => by obtain ⟨f, t, _⟩ := P7.out; subst e; exact t.isMap
  have PD : Hid (PostAt v1.drew b2 n g) := P7.out.turns (Turns.ofBelow (S := fun _ => False) (Below.refl _ _).drew) Far.none (fun e => e)
  clear bq t7 bb r7 s7 CP PH TQ R5 ca cb cc L6 MQ hHeld hwq
  by_cases h0 : n7 = 0
  · have hz : decide ((n7 : Int) = 0) = true := decide_eq_true (by omega)
    have E7 : o7 = [] := List.eq_nil_of_length_eq_zero (by have := LN7.out; omega)
    have G0 : but g id (y1, y2) (y1, y2) = [] := by
      have h := R7.out
      rw [E7] at h
      exact List.eq_nil_iff_forall_not_mem.2 fun z hz => by have := (h.2 z).2 hz; cases this
    obtain ⟨v2, hrun, p8, t8⟩ := PD.out.cut (g' := but g id (y1, y2)) (y := (y1, y2)) hy Tryz.underlying64 G0 (fun z hz => but_other hz)
    have t9 : Turns (fun q => q = b2) v1 v2 := (Turns.ofBelow (Below.refl _ _).drew).trans (Turns.ofMap t8 rfl)
    have R : Hid (PostAt v2 b2 (n + 1) (but g id (y1, y2)) ∧ Turns (fun q => q = b2) w v2) := ⟨by obtain ⟨f, t, r⟩ := p8; exact ⟨f, t.mono (by omega), r⟩, T7.out.trans t9⟩
    go_wp2_with fail
    refine wp_region_held_drew (S := fun W => Turns (fun q => q = b2) v1 W) (by kernel_rfl) (Turns.ofBelow (Below.refl _ _).drew) (fun hHeld => ?_)
    refine held_take 0 18 (v := (.pointer (some ⟨x, 0, none⟩))) rfl rfl (by kernel_rfl) (by kernel_rfl) (by kernel_rfl) (by rfl) (fun _ _ _ h => h) (by assumption) ?_ ?_
    · intro W hW
      go_simp
    simp only [List.setIfInBounds_toArray, List.set_cons_zero, List.set_cons_succ]
    refine held_take 1 19 (v := (.pointer (some ⟨x, 0, none⟩))) rfl rfl (by kernel_rfl) (by kernel_rfl) (by kernel_rfl) (by rfl) (fun _ _ _ h => h) (by assumption) ?_ ?_
    · intro W hW
      go_simp
    simp only [List.setIfInBounds_toArray, List.set_cons_zero, List.set_cons_succ]
    refine held_take 2 20 (v := (.pointer (some ⟨x, 1, none⟩))) rfl rfl (by kernel_rfl) (by kernel_rfl) (by kernel_rfl) (by rfl) (fun _ _ _ h => h) (by assumption) ?_ ?_
    · intro W hW
      go_simp
    simp only [List.setIfInBounds_toArray, List.set_cons_zero, List.set_cons_succ]
    refine held_take 3 21 (v := (.map (some b2))) rfl rfl (by kernel_rfl) (by kernel_rfl) (by kernel_rfl) (by rfl) (fun _ _ _ h => h) (by assumption) ?_ ?_
    · intro W hW
      have q := hW.cell M7 cc7.out
      go_simp
    simp only [List.setIfInBounds_toArray, List.set_cons_zero, List.set_cons_succ]
    refine held_take 4 22 (v := (.agg #[.string y1, .string y2])) rfl rfl (by kernel_rfl) (by kernel_rfl) (by kernel_rfl) (by rfl) (fun _ _ _ h => h) (by assumption) ?_ ?_
    · intro W hW
      have q1 := hW.cell M7 ca7.out
      have q2 := hW.cell M7 cb7.out
      go_simp
    simp only [List.setIfInBounds_toArray, List.set_cons_zero, List.set_cons_succ]
    refine held_op 5 rfl (by kernel_rfl) (by rfl) ?_
    refine wp_run0 (v := .tuple #[]) (w' := v2) rfl (by go_simp) ⟨t9, ?_⟩
    refine wpAnyH_done (by kernel_rfl) ?_ _
    clear hrun p8 t8 t9 M7 P7 T7 ca7 cb7 cc7 R7 S7 hHeld
    go_wp2
    refine bodyPost_ret (results_none rfl _ _ _) rfl ?_
    exact ⟨rfl, R.out.1, R.out.2⟩
  · have hz : decide ((n7 : Int) = 0) = false := decide_eq_false (by omega)
    have NE : but g id (y1, y2) (y1, y2) ≠ [] := fun e => by
      have h := R7.out
      rw [e] at h
      have h2 : o7 = [] := h.nil_of (fun z hz => by cases hz)
      have := LN7.out
      rw [h2] at this
      exact h0 this.symm
    have S8 := Lib.hid S7.out
    obtain ⟨v2, hrun, p8, t8⟩ := PD.out.put (g' := but g id (y1, y2)) (y := (y1, y2)) (A := A7) (m := n7) (c := c7) (out := o7) hy (by unfold maxLen; omega) Tryz.underlying64 R7.out (own_turns S7.out (S := fun _ => False) (Turns.ofBelow (Below.refl _ _).drew) (fun _ _ _ h => h.elim)) M1.out NE (fun z hz => but_other hz)
    have t9 : Turns (fun q => q = b2) v1 v2 := (Turns.ofBelow (Below.refl _ _).drew).trans (Turns.ofMap t8 rfl)
    have R : Hid (PostAt v2 b2 (n + 1) (but g id (y1, y2)) ∧ Turns (fun q => q = b2) w v2) := ⟨p8, T7.out.trans t9⟩
    go_wp2_with fail
    refine wp_region_held_drew (S := fun W => Turns (fun q => q = b2) v1 W) (by kernel_rfl) (Turns.ofBelow (Below.refl _ _).drew) (fun hHeld => ?_)
    refine held_take 0 23 (v := (.pointer (some ⟨x, 0, none⟩))) rfl rfl (by kernel_rfl) (by kernel_rfl) (by kernel_rfl) (by rfl) (fun _ _ _ h => h) (by assumption) ?_ ?_
    · intro W hW
      go_simp
    simp only [List.setIfInBounds_toArray, List.set_cons_zero, List.set_cons_succ]
    refine held_take 1 24 (v := (.pointer (some ⟨x, 0, none⟩))) rfl rfl (by kernel_rfl) (by kernel_rfl) (by kernel_rfl) (by rfl) (fun _ _ _ h => h) (by assumption) ?_ ?_
    · intro W hW
      go_simp
    simp only [List.setIfInBounds_toArray, List.set_cons_zero, List.set_cons_succ]
    refine held_take 2 25 (v := (.pointer (some ⟨x, 1, none⟩))) rfl rfl (by kernel_rfl) (by kernel_rfl) (by kernel_rfl) (by rfl) (fun _ _ _ h => h) (by assumption) ?_ ?_
    · intro W hW
      go_simp
    simp only [List.setIfInBounds_toArray, List.set_cons_zero, List.set_cons_succ]
    refine held_take 3 26 (v := (.map (some b2))) rfl rfl (by kernel_rfl) (by kernel_rfl) (by kernel_rfl) (by rfl) (fun _ _ _ h => h) (by assumption) ?_ ?_
    · intro W hW
      have q := hW.cell M7 cc7.out
      go_simp
    simp only [List.setIfInBounds_toArray, List.set_cons_zero, List.set_cons_succ]
    refine held_take 4 27 (v := (.agg #[.string y1, .string y2])) rfl rfl (by kernel_rfl) (by kernel_rfl) (by kernel_rfl) (by rfl) (fun _ _ _ h => h) (by assumption) ?_ ?_
    · intro W hW
      have q1 := hW.cell M7 ca7.out
      have q2 := hW.cell M7 cb7.out
      go_simp
    simp only [List.setIfInBounds_toArray, List.set_cons_zero, List.set_cons_succ]
    refine held_take 5 28 (v := (.slice A7 n7 c7)) rfl rfl (by kernel_rfl) (by kernel_rfl) (by kernel_rfl) (by rfl) (fun _ _ _ h => h) (by assumption) ?_ ?_
    · intro W hW
      go_simp
    simp only [List.setIfInBounds_toArray, List.set_cons_zero, List.set_cons_succ]
    refine held_op 6 rfl (by kernel_rfl) (by rfl) ?_
    refine wp_skip (w' := v2) rfl (by go_simp) ⟨t9, ?_⟩
    refine wpAnyH_done (by kernel_rfl) ?_ _
    clear hrun p8 t8 t9 M7 P7 T7 ca7 cb7 cc7 R7 S7 hHeld
    go_wp2
    go_end0
    exact ⟨rfl, R.out.1, R.out.2⟩
end Go.Proofs.YtlfcjjlgkcfkdaaGreatDoor
namespace Go.Proofs.YtlfcjjlgkcfkdaaGreatDoor
open Go.RowKit Go.Maps Go.Sort La

theorem nd_inj : ∀ {T : List Ent}, (T.map Prod.fst).Nodup → ∀ {a b : Ent}, a ∈ T → b ∈ T → a.1 = b.1 → a = b
  | [], _, _, _, ha, _, _ => by cases ha
  | c :: T, h, a, b, ha, hb, e => by
    rw [List.map_cons, List.nodup_cons] at h
    rcases List.mem_cons.1 ha with ea | ha'
    · rcases List.mem_cons.1 hb with eb | hb'
      · rw [ea, eb]
      · exact absurd (List.mem_map.2 ⟨b, hb', by rw [← e, ea]⟩) h.1
    · rcases List.mem_cons.1 hb with eb | hb'
      · exact absurd (List.mem_map.2 ⟨a, ha', by rw [e, eb]⟩) h.1
      · exact nd_inj h.2 ha' hb' e
/-- The index without an id. -/
def less (T : List Ent) (id : Int) : List Ent := T.filter fun p => decide (p.1 ≠ id)
theorem mem_less {T : List Ent} {id : Int} {p : Ent} : p ∈ less T id ↔ (p ∈ T ∧ p.1 ≠ id) := by simp [less]
theorem less_len (T : List Ent) (id : Int) : (less T id).length ≤ T.length := List.length_filter_le _ _
open Classical in
/-- A label's ids, but for one id where the label is among these. -/
noncomputable def cutAll (T : List Ent) (id : Int) (L : List Lab) (y : Lab) : List Int := if y ∈ L then pickZ [id] false (who T y) else who T y
theorem mem_cutAll {T : List Ent} {id z : Int} {L : List Lab} {y : Lab} : z ∈ cutAll T id L y ↔ (z ∈ who T y ∧ (y ∈ L → z ≠ id)) := by
  unfold cutAll
  by_cases h : y ∈ L
  · rw [if_pos h, pick_mem]; simp [h]
  · rw [if_neg h]; simp [h]
theorem mem_but {g : Lab → List Int} {id z : Int} {y u : Lab} : z ∈ but g id y u ↔ (z ∈ g u ∧ (u = y → z ≠ id)) := by
  by_cases h : u = y
  · subst h
    rw [but_same, pick_mem]; simp
  · rw [but_other h]; simp [h]
/-- On the way through Drop. -/
structure DropI (w0 : World) (x b1 b2 N : Nat) (T : List Ent) (id : Int) (ls : List Lab) (A : Option Addr) (k : Nat) (wr : World) : Prop where
  hx : wr.heap[x]? = some (.cells #[.map (some b1), .map (some b2)] 66 (0, 0))
  sets : SetsAt wr b1 N (less T id)
  posts : PostAt wr b2 (N + k) (cutAll T id (ls.take k))
  labs : IsLabs wr A ls
  turns : Turns (S2 b1 b2) w0 wr
theorem DropI.below {w0 : World} {x b1 b2 N : Nat} {T : List Ent} {id : Int} {ls : List Lab} {A : Option Addr} {k : Nat} {wr w' : World} (h : DropI w0 x b1 b2 N T id ls A k wr) (hb : Below wr.heap.size wr w') : DropI w0 x b1 b2 N T id ls A k w' := by
  have t : Turns (fun _ => False) wr w' := Turns.ofBelow hb
  exact ⟨Far.none.idx t h.hx, h.sets.turns t Far.none (fun e => e), h.posts.turns t Far.none (fun e => e), h.labs.below hb, h.turns.trans (Turns.ofBelow hb)⟩
theorem DropI.step {w0 : World} {x b1 b2 N : Nat} {T : List Ent} {id : Int} {ls : List Lab} {A : Option Addr} {k : Nat} {wr w' : World} (h : DropI w0 x b1 b2 N T id ls A k wr) (hne : b1 ≠ b2) (hk : k < ls.length)
    (hp : PostAt w' b2 (N + k + 1) (but (cutAll T id (ls.take k)) id (nth ls k))) (ht : Turns (fun q => q = b2) wr w') : DropI w0 x b1 b2 N T id ls A (k + 1) w' := by
  have m2 : AreMaps (fun q => q = b2) wr := fun q e => by obtain ⟨f, t, _⟩ := h.posts; subst e; exact t.isMap
  refine ⟨m2.far.idx ht h.hx, h.sets.turns ht m2.far hne, ?_, h.labs.turns ht m2, h.turns.trans (ht.mono fun q e => .inr e)⟩
  have := hp.congr (g' := cutAll T id (ls.take (k + 1))) fun y z => by
    rw [mem_but, mem_cutAll, mem_cutAll, nth_take_mem hk]
    exact ⟨fun ⟨⟨a, b⟩, c⟩ => ⟨a, fun h => h.elim b c⟩, fun ⟨a, b⟩ => ⟨⟨a, fun h => b (.inl h)⟩, fun h => b (.inr h)⟩⟩
  rwa [Nat.add_assoc] at this
theorem DropI.done {w0 wr : World} {x b1 b2 N N' : Nat} {T : List Ent} {id : Int} {ls : List Lab} {A : Option Addr} (h : DropI w0 x b1 b2 N T id ls A ls.length wr) (h0 : IdxAt w0 x b1 b2 N T) (hin : (id, ls) ∈ T) (hN : N' = N + 7) (hr : N' ≤ 1000) : IdxAt wr x b1 b2 N' (less T id) := by
  subst hN
  have h6 : ls.length ≤ 6 := (isSet_iff.1 (h0.set _ hin)).2.1
  refine ⟨h.hx, h0.ne, ?_, fun p hp => h0.set p (mem_less.1 hp).1, fun p hp => h0.wf p (mem_less.1 hp).1, Nat.le_trans (less_len _ _) h0.len, hr, ?_, ?_⟩
  · exact h0.nd.sublist (List.filter_sublist.map _)
  · obtain ⟨f, t1, r⟩ := h.sets
    exact ⟨f, t1.mono (by omega), r⟩
  · have := h.posts.congr (g' := who (less T id)) fun y z => by
      rw [List.take_of_length_le (Nat.le_refl _), mem_cutAll, mem_who, mem_who]
      constructor
      · rintro ⟨⟨l', h1, h2⟩, h3⟩
        by_cases e : z = id
        · subst e
          have : l' = ls := congrArg Prod.snd (nd_inj h0.nd h1 hin rfl)
          subst this
          exact absurd rfl (h3 h2)
        · exact ⟨l', mem_less.2 ⟨h1, e⟩, h2⟩
      · rintro ⟨l', h1, h2⟩
        obtain ⟨h1, h3⟩ := mem_less.1 h1
        exact ⟨⟨l', h1, h2⟩, fun _ => h3⟩
    obtain ⟨f, t1, r⟩ := this
    exact ⟨f, t1.mono (by omega), r⟩
/-- What Drop hands back. -/
def DropRes (w : World) (x b1 b2 N : Nat) (T : List Ent) (id : Int) (e : Ending) (w' : World) : Prop :=
  ∃ ok : Bool, e = .returned (.bool ok) ∧ (ok = true ↔ id ∈ T.map Prod.fst) ∧ IdxAt w' x b1 b2 (N + 7) (less T id) ∧ Turns (S2 b1 b2) w w'
set_option maxRecDepth 100000 in
set_option maxHeartbeats 4000000 in
theorem idrop_any {w : World} {x b1 b2 N : Nat} {T : List Ent} (h : IdxAt w x b1 b2 N T) (id : Int) (hid : (Lit.int .i64 id).wf = true) (hN : N + 7 ≤ 1000) :
    Calls Tryz.prog 29 #[.pointer (some ⟨x, 0, none⟩), .int .i64 id] w (DropRes w x b1 b2 N T id) := by
  have H := Lib.hid h
  have c0 := h.c0
  have grow : Hid (IdxAt w x b1 b2 (N + 7) T) := ⟨h.hx, h.ne, h.nd, h.set, h.wf, h.len, hN, by obtain ⟨f, t, r⟩ := h.sets; exact ⟨f, t.mono (by omega), r⟩, by obtain ⟨f, t, r⟩ := h.posts; exact ⟨f, t.mono (by omega), r⟩⟩
  rcases h.sets.look id hid Tryz.underlying63 with ⟨hnew, L1⟩ | ⟨ls, A, c, hin, hA, hl, L1⟩
  · have R : Hid (IdxAt w x b1 b2 (N + 7) (less T id) ∧ Turns (S2 b1 b2) w w ∧ id ∉ T.map Prod.fst) := by
      refine ⟨?_, Turns.refl _ _, hnew⟩
      have : less T id = T := List.filter_eq_self.2 fun p hp => by
        have : p.1 ≠ id := fun e => hnew (List.mem_map.2 ⟨p, hp, e⟩)
        simpa using this
      rw [this]
      exact grow.out
    clear h hnew H grow
    go_enter Tryz.func29, Tryz.ntmps29
    go_wp2
    go_ret
    exact ⟨false, rfl, by simp [R.out.2.2], R.out.1, R.out.2.1⟩
  · obtain ⟨w1, hrun, s1, tm⟩ := h.sets.cut hid Tryz.underlying63
    have t1 : Turns (fun q => q = b1) w w1 := Turns.ofMap tm rfl
    have m1 : AreMaps (fun q => q = b1) w := fun q e => h.maps q (.inl e)
    have I0 : Hid (DropI w x b1 b2 N T id ls A 0 w1) := ⟨m1.far.idx t1 h.hx, s1, (h.posts.turns t1 m1.far (fun e => h.ne e.symm)).congr fun y z => by rw [mem_cutAll]; simp, hl.turns t1 m1, t1.mono fun q e => .inl e⟩
    have HSET := Lib.hid (h.set _ hin)
    have HIN := Lib.hid hin
    obtain ⟨M, hM⟩ : ∃ M, ls.length = M := ⟨_, rfl⟩
    rw [hM] at L1
    have hM6 : M ≤ 6 := by rw [← hM]; exact (isSet_iff.1 HSET.out).2.1
    have hM2 := Lib.hid hM
    clear h hin hl hA s1 tm t1 m1 grow hM
    go_enter Tryz.func29, Tryz.ntmps29
    go_wp2
    clear L1 hrun c0
    go_loopw [27] (fun i wr => ∃ k : Nat, k ≤ M ∧ i = .int .i64 (k : Int) ∧ Hid (DropI w x b1 b2 N T id ls A k wr)) (fun i _ => M - (intOf i).toNat)
    case atStart => exact ⟨0, by omega, rfl, I0.out⟩
    case round =>
      clear I0
      obtain ⟨k, hk, rfl, HI⟩ := hrel
      by_cases hkn : k < M
      · have hkz : (k : Int) < (M : Int) := by omega
        obtain ⟨b, off, e, hc⟩ := HI.out.labs (by rw [hM2.out]; omega)
        subst e
        obtain ⟨d1, d2⟩ := hc k (by rw [hM2.out]; exact hkn)
        clear hc
        have WL : Hid (IntKind.i64.wrap ((k : Int) + 1) = (k : Int) + 1) := by show _ = _; rw [IntKind.wrap_i64]; omega
        obtain ⟨y1, e1⟩ : ∃ y, (nth ls k).1 = y := ⟨_, rfl⟩
        obtain ⟨y2, e2⟩ : ∃ y, (nth ls k).2 = y := ⟨_, rfl⟩
        have EY : Hid (nth ls k = (y1, y2)) := Prod.ext e1 e2
        rw [e1] at d1
        rw [e2] at d2
        clear e1 e2
        have QB : Below wr.heap.size wr (wr.alloc (.cells #[.string y1, .string y2] 26)) := (Below.refl _ _).alloc (Nat.le_refl _) _
        have I4 := HI.out.below QB
        have sm : smallL (y1, y2) := by rw [← EY.out]; exact set_small HSET.out _ (nth_mem (by rw [hM2.out]; exact hkn))
        have CU := Lib.hid (icut_any (row_cell I4.hx rfl) I4.posts id y1 y2 sm (by omega))
        have J4 := Lib.hid I4
        clear I4 QB HI sm
        go_wp2_with fail
        refine CU.out.mono ?_
        rintro e w4 ⟨rfl, p4, t4⟩
        have I5 : Hid (DropI w x b1 b2 N T id ls (some ⟨b, off, none⟩) (k + 1) w4) := by
          have q := p4
          rw [← EY.out] at q
          exact J4.out.step H.out.ne (by rw [hM2.out]; exact hkn) q t4
        clear p4 t4 CU J4 d1 d2
        go_wp2_with (rw [WL.out])
        go_roundw
        case rel => exact ⟨k + 1, by omega, by go_num, I5.out⟩
        case measure => simp [intOf]; omega
      · obtain rfl : k = M := by omega
        have hkz : ¬ (k : Int) < (k : Int) := by omega
        have R : Hid (IdxAt wr x b1 b2 (N + 7) (less T id) ∧ Turns (S2 b1 b2) w wr ∧ id ∈ T.map Prod.fst) := by
          have q := HI.out
          rw [← hM2.out] at q
          exact ⟨q.done H.out HIN.out rfl hN, q.turns, List.mem_map.2 ⟨_, HIN.out, rfl⟩⟩
        clear HI
        go_wp2
        go_ret
        exact ⟨true, rfl, ⟨fun _ => R.out.2.2, fun _ => rfl⟩, R.out.1, R.out.2.1⟩
end Go.Proofs.YtlfcjjlgkcfkdaaGreatDoor
namespace Go.Proofs.YtlfcjjlgkcfkdaaGreatDoor
open Go.RowKit Go.Maps Go.Sort La

/-- Strings as cells. -/
def sc8 (l : List ByteArray) : List Value := l.map Value.string
theorem sc8_len (l : List ByteArray) : (sc8 l).length = l.length := by simp [sc8]
theorem Tryz.infoS8 : (Tryz.prog.info? 9).map (fun i => (i.zero, i.size, i.bytes)) = some (some (.string ⟨#[]⟩), 1, 16) := by kernel_rfl
set_option maxRecDepth 100000 in
/-- append(v, u) of strings: v is one's own, u lies in a block of one cell. -/
theorem wpList_appStr {ops : Array Oper} {rest : List Oper} {o : Oper} {a : Act} {w : World} {Q : Exit → Act → World → Prop} (hgd : o.guard = none) (s x : Operand) (ho : o.op = .call { callee := .builtin .append, args := #[s, x], argTypes := #[49, 49] })
    (base : Nat) (v : Value) (n : Nat) (xs : List ByteArray) (hs : a.eval s = v) (hown : w.ownsRow base 9 1 v n (sc8 xs)) (g : Nat) (u : ByteArray) (hx : a.eval x = .slice (some ⟨g, 0, none⟩) 1 1) (hr : w.cell? ⟨g, 0, none⟩ = some (.string u))
    (hlen : n ≤ 1000000) (hbase : base ≤ w.heap.size)
    (h : ∀ v' w', w'.ownsRow base 9 1 v' (n + 1) (sc8 (xs ++ [u])) → w.grownBy w' v.ownBlock → wpList Tryz.prog ops Q rest (a.put o.dst v') w') : wpList Tryz.prog ops Q (o :: rest) a w := by
  obtain ⟨i0, hi, hz0, hz1, hz2⟩ := info_parts Tryz.infoS8
  refine wpList_append_own (w := w) hgd s x 49 ho base 9 i0 (.string ⟨#[]⟩) 1 16 Tryz.underlying49 hi hz0 hz1 hz2 rfl (by decide) v n _ hs hown ⟨g, 0, none⟩ 1 1 [.string u] hx rfl (fun j q hq => ?_) (fun q hq => ?_) (by unfold maxLen; omega) (by omega) hbase fun v' w' h2 h3 _ => h v' w' (by simpa [sc8] using h2) h3
  · obtain ⟨rfl, rfl⟩ : j = 0 ∧ q = .string u := by
      cases j with
      | zero => simpa using hq.symm
      | succ j => simp at hq
    exact hr
  · obtain rfl : q = .string u := by simpa using hq
    rfl
theorem own_strs {w : World} {base n : Nat} {v : Value} {l : List ByteArray} (h : w.ownsRow base 9 1 v n (sc8 l)) : ∃ A c, v = .slice A n c ∧ (A = none → c = 0) ∧ IsStrs w A l ∧ l.length = n := by
  have hl : l.length = n := by have := h.1; rw [sc8_len] at this; omega
  rcases h.2 with ⟨rfl, rfl⟩ | ⟨g, c, cur, rfl, _, hb, hc, _, _, ht⟩
  · exact ⟨none, 0, rfl, fun _ => rfl, fun hp => by omega, hl⟩
  · refine ⟨some ⟨g, 0, none⟩, c, rfl, (fun e => by cases e), fun hp => ⟨g, 0, rfl, fun j hj => ?_⟩, hl⟩
    have := h.cellAt (g := g) j (by omega)
    rw [Nat.zero_add, this]
    simp [sc8, snth, List.getD, List.getElem?_eq_getElem hj]
/-- Texts in order. -/
def sortB (l : List ByteArray) : List ByteArray := ((l.map fun u => u.data.toList).mergeSort fun x y => decide (x ≤ y)).map fun b => ⟨b.toArray⟩
theorem sortB_perm (l : List ByteArray) : (sortB l).Perm l := by
  have h := (List.mergeSort_perm (l.map fun u : ByteArray => u.data.toList) fun x y => decide (x ≤ y)).map fun b : List UInt8 => (⟨b.toArray⟩ : ByteArray)
  have e : (l.map fun u : ByteArray => u.data.toList).map (fun b : List UInt8 => (⟨b.toArray⟩ : ByteArray)) = l := by
    rw [List.map_map]
    exact (List.map_congr_left fun u _ => rfl).trans (List.map_id l)
  rw [e] at h
  exact h
theorem sortB_sorted {l : List ByteArray} (hn : l.Nodup) : (sortB l).Pairwise fun a b => lt a b = true := by
  have h1 : ((l.map fun u : ByteArray => u.data.toList).mergeSort fun x y => decide (x ≤ y)).Pairwise fun x y => x ≤ y :=
    (List.pairwise_mergeSort (le := fun x y : List UInt8 => decide (x ≤ y)) (fun a b c => by simpa using List.le_trans) (fun a b => by simpa using List.le_total a b) _).imp fun h => by simpa using h
  have h2 : (sortB l).Nodup := (sortB_perm l).nodup_iff.2 hn
  unfold sortB at h2 ⊢
  unfold List.Nodup at h2
  rw [List.pairwise_map] at h2 ⊢
  refine (h1.and h2).imp fun {x y} ⟨hle, hne⟩ => ?_
  show Op.bytesLess _ _ = true
  rw [bytesLess_eq, Lib.toList_data, Lib.toList_data]
  refine decide_eq_true ?_
  show x < y
  have hxy : x ≠ y := fun e => hne (by rw [e])
  rcases List.le_iff_lt_or_eq.1 hle with h | h
  · exact h
  · exact absurd h hxy
/-- slices.Sort of strings that one owns. -/
theorem sort_strs (l : List ByteArray) (v : Value) (n base : Nat) (w : World) (ho : w.ownsRow base 9 1 v n (sc8 l)) (hn : n ≤ 1000000) (hb : base ≤ w.heap.size) :
    Calls Tryz.prog 38 #[v] w fun e w' => e = .returned (.tuple #[]) ∧ w'.ownsRow base 9 1 v n (sc8 (sortB l)) ∧ Below base w w' := by
  have hl : l.length = n := by have := ho.1; rw [sc8_len] at this; omega
  rcases ho.2 with ⟨rfl, rfl⟩ | ⟨g, cap, cur, rfl, hbase, hblk, h1, h2, h3, h4⟩
  · obtain rfl := List.eq_nil_of_length_eq_zero hl
    refine (Tryz.slices_Sort_string_none none 0 w).mono fun e w' ⟨e1, e2⟩ => ⟨e1, ?_, by rw [e2]; exact Below.refl _ _⟩
    rw [e2]
    have : sortB [] = [] := List.eq_nil_of_length_eq_zero (sortB_perm []).length_eq
    rw [this]
    exact ho
  · have hlen : (l.map fun u : ByteArray => u.data.toList).length = n := by simp [hl]
    have hcur : cur.toList.take (n * 1) = (l.map fun u : ByteArray => u.data.toList).map encStr := by
      rw [h4, List.map_map]
      exact List.map_congr_left fun u _ => rfl
    have hH : Holds encStr w g 0 (l.map fun u : ByteArray => u.data.toList).toArray := by
      refine holds_of_block hblk ?_
      rw [hlen]
      simpa using hcur
    have C := Tryz.slices_Sort_string g 0 cap (l.map fun u : ByteArray => u.data.toList) w hH (Array.getElem?_eq_some_iff.1 hblk).1 (by omega)
    rw [hlen] at C
    refine C.mono ?_
    rintro e w' ⟨rfl, m, os, rfl⟩
    refine ⟨rfl, ?_, (Below.refl _ _).grown (grownBy_sorted _) hb fun k hk => by cases hk; exact hbase⟩
    have q := ownsRow_sorted (n := m) (os := os) (ss := l.map fun u : ByteArray => u.data.toList) (ts := (l.map fun u : ByteArray => u.data.toList).mergeSort fun x y => decide (x ≤ y)) (List.length_mergeSort _) hbase hblk (by omega) h2 h3
    rw [hlen] at q
    have e : ((l.map fun u : ByteArray => u.data.toList).mergeSort fun x y => decide (x ≤ y)).map encStr = sc8 (sortB l) := by
      unfold sc8 sortB
      rw [List.map_map]
      rfl
    rw [← e]
    exact q

theorem own_ne_obj {w : World} {base e s n : Nat} {v : Value} {xs : List Value} (h : w.ownsRow base e s v n xs) {b : Nat} {o : Obj} (hb : w.heap[b]? = some o) (ho : ∀ c t f, o ≠ .cells c t f) : some b ≠ v.ownBlock := by
  rcases h.2 with ⟨rfl, _⟩ | ⟨g, cap, cur, rfl, _, hg, _⟩
  · simp [Value.ownBlock]
  · intro e1
    have : b = g := by simpa [Value.ownBlock] using e1
    subst this
    rw [hg] at hb
    injection hb with hb
    exact ho _ _ _ hb.symm
/-- The values of a name met so far. -/
def CollV (g : Lab → List Int) (nm : ByteArray) (left : Lit → Bool) (ss : List ByteArray) : Prop := ss.Nodup ∧ ∀ u, u ∈ ss ↔ (g (nm, u) ≠ [] ∧ left (lk (nm, u)) = false)
theorem CollV.hit {g : Lab → List Int} {nm : ByteArray} {left : Lit → Bool} {ss : List ByteArray} (h : CollV g nm left ss) (hg : ∀ y, g y ≠ [] → smallL y) {u : ByteArray} (hy : g (nm, u) ≠ []) (hl : left (lk (nm, u)) = true) : CollV g nm (fun z => left z && !z.sameKey (lk (nm, u))) (ss ++ [u]) := by
  have hnew : u ∉ ss := fun hu => by have := ((h.2 u).1 hu).2; rw [hl] at this; cases this
  refine ⟨List.nodup_append.2 ⟨h.1, by simp, fun a ha b hb e => ?_⟩, fun x => ?_⟩
  · obtain rfl : b = u := by simpa using hb
    exact hnew (e ▸ ha)
  · rw [List.mem_append, h.2 x, List.mem_singleton]
    by_cases e : x = u
    · subst e
      simp [hy, Lit.sameKey, lk]
    · constructor
      · rintro (⟨a, b⟩ | a)
        · exact ⟨a, by simp [b]⟩
        · exact absurd a e
      · rintro ⟨a, b⟩
        refine .inl ⟨a, ?_⟩
        have : (lk (nm, x)).sameKey (lk (nm, u)) = false := sameKey_ne fun e2 => e (by have := lk_inj (hg _ a) (hg _ hy) e2; exact congrArg Prod.snd this)
        simpa [this] using b
theorem CollV.miss {g : Lab → List Int} {nm : ByteArray} {left : Lit → Bool} {ss : List ByteArray} (h : CollV g nm left ss) (hg : ∀ y, g y ≠ [] → smallL y) {y : Lab} (hy : g y ≠ []) (hne : y.1 ≠ nm) : CollV g nm (fun z => left z && !z.sameKey (lk y)) ss := by
  refine ⟨h.1, fun x => ?_⟩
  rw [h.2 x]
  constructor
  · rintro ⟨a, b⟩
    exact ⟨a, by simp [b]⟩
  · rintro ⟨a, b⟩
    refine ⟨a, ?_⟩
    have : (lk (nm, x)).sameKey (lk y) = false := sameKey_ne fun e2 => hne (by have := lk_inj (hg _ a) (hg _ hy) e2; exact (congrArg Prod.fst this).symm)
    simpa [this] using b
/-- The step of a range over the labels. -/
theorem wpList_nextL {ops : Array Oper} {rest : List Oper} {o : Oper} {a : Act} {w : World} {Q : Exit → Act → World → Prop} (hg : o.guard = none) (it : Operand) (hop : o.op = Op.next it false) (b r n : Nat) (D : DataW Value) (left : Lit → Bool) (cnt : Nat) (g : Lab → List Int)
    (hit : a.eval it = .pointer (some ⟨r, 0, none⟩)) (h : w.ranges Tryz.prog 26 heldV b r n D left cnt) (hk : ∀ kl, has D kl = true → ∃ y, g y ≠ [] ∧ kl = lk y) (hs : ∀ y, g y ≠ [] → smallL y)
    (hDone : (∀ kl, left kl = false) → wpList Tryz.prog ops Q rest (a.put o.dst (.tuple #[.bool false])) w)
    (hMore : ∀ (y1 y2 : ByteArray) (v : Value) (w' : World) (cnt' : Nat), g (y1, y2) ≠ [] → left (lk (y1, y2)) = true → w'.ranges Tryz.prog 26 heldV b r n D (fun z => left z && !z.sameKey (lk (y1, y2))) cnt' → cnt' < cnt →
      w.grownBy w' (some r) → (Instr.entry (.pointer (some ⟨r, 0, none⟩))).run Tryz.prog w' = .ok (.tuple #[.agg #[.string y1, .string y2], v]) w' → wpList Tryz.prog ops Q rest (a.put o.dst (.tuple #[.bool true, .agg #[.string y1, .string y2], v])) w') :
    wpList Tryz.prog ops Q (o :: rest) a w := by
  refine wpList_plain hg fun K' hK' => ?_
  unfold Oper.wp
  rcases h.next labLaw o.type with ⟨h0, hl, hrun⟩ | ⟨key, v, kl, y, w', cnt', hkey, hlk, hv, hat, hrun, hrg, hlt, hgr, hsz, hen⟩
  · simp [execOp, hop, hit, hrun, Result.andThen]
    exact hK' _ _ (hDone hl)
  · obtain ⟨u, hu, rfl⟩ := hk kl (has_true_of_atKey hat)
    have hsm := hs u hu
    obtain rfl := labLaw.inj hkey (lkey (y := u) ⟨by have := hsm.1; omega, by have := hsm.2; omega⟩)
    simp [execOp, hop, hit, hrun, Result.andThen]
    exact hK' _ _ (hMore u.1 u.2 v w' cnt' hu hlk hrg hlt hgr hen)
/-- On the way through Values. -/
structure ValI (w0 : World) (b2 N : Nat) (D : DataW Value) (g : Lab → List Int) (nm : ByteArray) (left : Lit → Bool) (cnt : Nat) (ss : List ByteArray) (v : Value) (wr : World) : Prop where
  rg : wr.ranges Tryz.prog 26 heldV b2 w0.heap.size N D left cnt
  own : wr.ownsRow w0.heap.size 9 1 v ss.length (sc8 ss)
  cnt : ss.length + cnt ≤ Maps.size D
  col : CollV g nm left ss
  bel : Below w0.heap.size w0 wr
theorem ValI.alloc {w0 wr : World} {b2 N : Nat} {D : DataW Value} {g : Lab → List Int} {nm : ByteArray} {left : Lit → Bool} {cnt : Nat} {ss : List ByteArray} {v : Value} (h : ValI w0 b2 N D g nm left cnt ss v wr) (o : Obj) : ValI w0 b2 N D g nm left cnt ss v (wr.alloc o) :=
  ⟨h.rg.alloc o, h.own.alloc o, h.cnt, h.col, h.bel.alloc h.bel.size o⟩
theorem ranges_appended {W W' : World} {k : TypeId} {b2 r N : Nat} {D : DataW Value} {left : Lit → Bool} {cnt base e n : Nat} {v : Value} {xs : List Value} (rg : W.ranges Tryz.prog k heldV b2 r N D left cnt) (own : W.ownsRow base e 1 v n xs) (g : W.grownBy W' v.ownBlock) : W'.ranges Tryz.prog k heldV b2 r N D left cnt := by
  refine rg.kept g ?_ (row_ne_iter own rg)
  obtain ⟨es, c, hb, _⟩ := rg.owns
  exact own_ne_obj own hb fun _ _ _ e => by cases e
/-- What Values hands back. -/
def ValRes (w : World) (T : List Ent) (nm : ByteArray) (N : Nat) (e : Ending) (w' : World) : Prop :=
  ∃ (vs : List ByteArray) (A : Option Addr) (n c : Nat), e = .returned (.slice A n c) ∧ vs.length = n ∧ (A = none → c = 0) ∧ IsStrs w' A vs ∧ vs.Pairwise (fun a b => lt a b = true) ∧ (∀ u, u ∈ vs ↔ who T (nm, u) ≠ []) ∧ n ≤ N ∧ Below w.heap.size w w'
set_option maxRecDepth 100000 in
set_option maxHeartbeats 4000000 in
theorem ivalues_any {w : World} {x b1 b2 N : Nat} {T : List Ent} (h : IdxAt w x b1 b2 N T) (nm : ByteArray) :
    Calls Tryz.prog 20 #[.pointer (some ⟨x, 0, none⟩), .string nm] w (ValRes w T nm N) := by
  obtain ⟨f, ⟨D, hown, hsay⟩, h2, h3, _⟩ := h.posts
  have c1 := h.c1
  have hk : ∀ kl, has D kl = true → ∃ y, who T y ≠ [] ∧ kl = lk y := fun kl hkl => (h2 kl).1 (by rw [← hsay.has]; exact hkl)
  have hhas : ∀ y, who T y ≠ [] → has D (lk y) = true := fun y hy => by rw [hsay.has]; exact (h2 _).2 ⟨y, hy, rfl⟩
  have hsz : Maps.size D ≤ N := hown.size_le
  have hroom := h.room
  have S0 : Hid (CollV (who T) nm (has D) []) := ⟨List.nodup_nil, fun u => ⟨(fun hu => by cases hu), (fun hu => by have := hu.2; rw [hhas _ hu.1] at this; cases this)⟩⟩
  have HK := Lib.hid hk
  have HS := Lib.hid h3
  have HSZ := Lib.hid hsz
  clear hk hhas hsay h2 h3 hsz h
  go_enter Tryz.func20, Tryz.ntmps20
  go_wp2_with (at_range; refine wpList_range_own _ rfl _ 64 rfl 26 29 labLaw Tryz.underlying64 heldV b2 N D rfl hown ?_; intro w0 hrg0 hg0 hs0)
  go_frame
  have I0 : Hid (ValI w b2 N D (who T) nm (has D) (Maps.size D) [] (.slice none 0 0) w0) := ⟨hrg0, World.ownsRow_nil _ _ _ _, by simp, S0.out, (Below.refl _ _).grown hg0 (Nat.le_refl _) (fun k hk => by cases hk)⟩
  clear hrg0 hg0 hs0 hown S0 c1
  go_loopw [5] (fun v wr => ∃ (v5 : Value) (left : Lit → Bool) (cnt : Nat) (ss : List ByteArray), v5 = v ∧ Hid (ValI w b2 N D (who T) nm left cnt ss v5 wr)) (fun _ wr => wr.rangeLeft b2 w.heap.size)
  case atStart => exact ⟨_, _, _, _, rfl, I0⟩
  case round =>
    clear I0
    obtain ⟨v5, left, cnt, ss, rfl, HI⟩ := hrel
    go_wp2_with (at_next; refine wpList_nextL rfl _ rfl b2 w.heap.size N D left cnt (who T) rfl HI.out.rg HK.out HS.out ?_ ?_)
    · intro hl0
      have OW := Lib.hid HI.out.own
      have BE := Lib.hid HI.out.bel
      have CO : Hid (ss.Nodup ∧ ∀ u, u ∈ ss ↔ who T (nm, u) ≠ []) := ⟨HI.out.col.1, fun u => by rw [HI.out.col.2 u, hl0]; simp⟩
      have LE : Hid (ss.length ≤ N) := by have := HI.out.cnt; have := HSZ.out; show _ ≤ _; omega
      have CS := Lib.hid (sort_strs ss v5 ss.length w.heap.size wr HI.out.own (by have := LE.out; omega) HI.out.bel.size)
      clear HI hl0
      go_wp2_with fail
      refine CS.out.mono ?_
      rintro e w5 ⟨rfl, o5, b5⟩
      have R : Hid (w5.ownsRow w.heap.size 9 1 v5 ss.length (sc8 (sortB ss)) ∧ Below w.heap.size w w5) := ⟨o5, BE.out.trans b5⟩
      clear o5 b5 CS OW BE
      go_wp2
      go_ret
      obtain ⟨A, c, rfl, hA, hI, hL⟩ := own_strs R.out.1
      exact ⟨sortB ss, A, ss.length, c, rfl, hL, hA, hI, sortB_sorted CO.out.1, fun u => (sortB_perm ss).mem_iff.trans (CO.out.2 u), LE.out, R.out.2⟩
    · intro y1 y2 v w2 cnt2 hy hlk hrg2 hlt hg2 hen
      have J : Hid (w2.ownsRow w.heap.size 9 1 v5 ss.length (sc8 ss) ∧ Below w.heap.size w w2) :=
        ⟨HI.out.own.kept hg2 (.inr (Ne.symm (row_ne_iter HI.out.own HI.out.rg))), HI.out.bel.grown hg2 HI.out.bel.size (fun k hk => by cases hk; exact Nat.le_refl _)⟩
      have RG := Lib.hid hrg2
      have ML : Hid (wr.rangeLeft b2 w.heap.size = cnt) := HI.out.rg.left_eq
      have HCNT : Hid (ss.length + cnt2 + 1 ≤ Maps.size D) := by have := HI.out.cnt; show _ ≤ _; omega
      have HLT := Lib.hid hlt
      have HC := Lib.hid HI.out.col
      have HLK := Lib.hid hlk
      have HY := Lib.hid hy
      clear HI hrg2 hg2 hlt hlk hy
      cases he : (y1.toList == nm.toList)
      · have NE : Hid (y1 ≠ nm) := fun e => by rw [e] at he; simp at he
        go_wp2
        have I2 : Hid (ValI w b2 N D (who T) nm (fun z => left z && !z.sameKey (lk (y1, y2))) cnt2 ss v5 (w2.alloc (.cells #[.string y1, .string y2] 26))) :=
          (ValI.mk RG.out J.out.1 (by have := HCNT.out; omega) (HC.out.miss HS.out HY.out NE.out) J.out.2).alloc _
        go_roundw
        case rel => exact ⟨_, _, _, _, rfl, I2⟩
        case measure => rw [I2.out.rg.left_eq, ML.out]; exact HLT.out
      · have EQ : y1 = nm := beq_iff.1 he
        subst EQ
        have A1 : Below w2.heap.size w2 (w2.alloc (.cells #[.string y1, .string y2] 26)) := (Below.refl _ _).alloc (Nat.le_refl _) _
        have O1 : ((w2.alloc (.cells #[.string y1, .string y2] 26)).alloc (.cells #[.string y2] 9)).ownsRow w.heap.size 9 1 v5 ss.length (sc8 ss) := (J.out.1.alloc _).alloc _
        have R1 : Hid (((w2.alloc (.cells #[.string y1, .string y2] 26)).alloc (.cells #[.string y2] 9)).ranges Tryz.prog 26 heldV b2 w.heap.size N D (fun z => left z && !z.sameKey (lk (y1, y2))) cnt2) := (RG.out.alloc _).alloc _
        have B1 : Hid (Below w.heap.size w ((w2.alloc (.cells #[.string y1, .string y2] 26)).alloc (.cells #[.string y2] 9))) := (J.out.2.alloc J.out.2.size _).alloc (by have := J.out.2.size; simp; omega) _
        have CE : ((w2.alloc (.cells #[.string y1, .string y2] 26)).alloc (.cells #[.string y2] 9)).cell? ⟨w2.heap.size + 1, 0, none⟩ = some (.string y2) := by
          have := World.alloc_heap_new (w2.alloc (.cells #[.string y1, .string y2] 26)) (.cells #[.string y2] 9)
          have e : (w2.alloc (.cells #[.string y1, .string y2] 26)).heap.size = w2.heap.size + 1 := by simp
          rw [e] at this
          exact row_cell this rfl
        have LS : ss.length ≤ 1000000 := by have := HCNT.out; have := HSZ.out; omega
        have O1h := Lib.hid O1
        have CEh := Lib.hid CE
        clear A1 O1 CE
        go_wp2_with (at_builtin; refine wpList_appStr rfl _ _ rfl w.heap.size v5 ss.length ss rfl O1h.out (w2.heap.size + 1) y2 rfl CEh.out LS B1.out.size ?_; intro v6 w6 o6 g6)
        have I2 : Hid (ValI w b2 N D (who T) y1 (fun z => left z && !z.sameKey (lk (y1, y2))) cnt2 (ss ++ [y2]) v6 w6) :=
          ⟨ranges_appended R1.out O1h.out g6, by rw [List.length_append]; exact o6, by have := HCNT.out; rw [List.length_append]; simp; omega, HC.out.hit HS.out HY.out HLK.out, B1.out.grown g6 B1.out.size (fun q hq => own_geL O1h.out q hq)⟩
        clear o6 g6 R1 O1h CEh B1
        go_roundw
        case rel => exact ⟨_, _, _, _, rfl, I2⟩
        case measure => rw [I2.out.rg.left_eq, ML.out]; exact HLT.out
end Go.Proofs.YtlfcjjlgkcfkdaaGreatDoor

