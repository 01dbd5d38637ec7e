/-
  What the index's narrow does: those ids on whose labels a matcher holds. Conditions: texts fit; the library's table lies in its variable.
  What the index's Find does. Conditions: texts fit; the library's table lies in its variable.
  Rows of alerts in memory; what the law's ids and sordinekeep.Those do. Conditions: lengths fit.
-/
import Derived.Test.YtlfcjjlgkcfkdaaGreatDoorY02
import Derived.Test.YtlfcjjlgkcfkdaaGreatDoorZ19
namespace Go.Proofs.YtlfcjjlgkcfkdaaGreatDoor
open Go.RowKit Go.Maps Go.Sort La

set_option maxRecDepth 100000 in
/-- append(v, l...) of ints: where the new slice lies. -/
theorem run_app_loc {w : World} (base : Nat) (v : Value) (n : Nat) (xs : List Int) (hown : w.ownsRow base 3 1 v n (zs xs)) (A : Option Addr) (L c : Nat) (l : List Int) (hL : l.length = L) (hA : A = none → c = 0) (hr : IsZ w A l) (hlen : n + L ≤ 1099511627776) (hbase : base ≤ w.heap.size) :
    ∃ v' w', (Builtin.append_ #[29, 29] 29 #[v, .slice A L c]).run Tryz.prog w = .ok v' w' ∧ w'.ownsRow base 3 1 v' (n + L) (zs (xs ++ l)) ∧ w.grownBy w' v.ownBlock ∧ (v'.ownBlock = v.ownBlock ∨ v'.ownBlock = some w.heap.size) := by
  obtain ⟨i0, hi, hz0, hz1, hz2⟩ := info_parts Tryz.infoZ
  subst hL
  rcases A with _ | ad
  · obtain rfl := hA rfl
    have hl0 : l = [] := by
      rcases Nat.eq_zero_or_pos l.length with h0 | h0
      · exact List.eq_nil_of_length_eq_zero h0
      · obtain ⟨_, _, e, _⟩ := hr h0; cases e
    subst hl0
    exact ⟨v, w, run_append_owned_none (P := Tryz.prog) (w := w) base 29 29 3 i0 1 Tryz.underlying29 hi v n _ hown, by simpa using hown, World.grownBy.refl w _, .inl rfl⟩
  · obtain ⟨v', w', h1, h2, h3, _, h5⟩ := run_append_own_at (P := Tryz.prog) (w := w) base 29 29 3 i0 (.int .i64 0) 1 8 Tryz.underlying29 hi hz0 hz1 hz2 rfl (by decide) v n _ hown ad l.length c (zs l) (by rw [zs_len, Nat.mul_one]) (fun j u hu => by
        have hj : j < l.length := by
          rcases Nat.lt_or_ge j l.length with h1 | h1
          · exact h1
          · rw [List.getElem?_eq_none (by rw [zs_len]; exact h1)] at hu; cases hu
        obtain ⟨b, off, e, hc⟩ := hr (by omega)
        injection e with e
        subst e
        rw [addr_addNZ, hc j hj, ← hu]
        simp [zs, List.getD, List.getElem?_eq_getElem hj]) (fun u hu => by
        simp only [zs, List.mem_map] at hu
        obtain ⟨_, _, rfl⟩ := hu
        rfl) (by unfold maxLen; omega) (by omega) hbase
    exact ⟨v', w', h1, by rw [zs_app]; exact h2, h3, h5⟩
/-- append, where what it makes is known. -/
theorem wp_appLoc {o : Oper} {ts : Array Value} {ds : List Deferred} {w w' : World} {v v' : Value} {A : Option Addr} {L c d : Nat} {K : Act → World → Prop} {Q : Exit → Act → World → Prop} (s x : Operand) (ho : o.op = .call { callee := .builtin .append, args := #[s, x], argTypes := #[29, 29] }) (hty : o.type = 29) (hd : o.dst = some d)
    (hs : (Act.mk ts ds).eval s = v) (hx : (Act.mk ts ds).eval x = .slice A L c) (hrun : (Builtin.append_ #[29, 29] 29 #[v, .slice A L c]).run Tryz.prog w = .ok v' w') (h : K ⟨ts.setIfInBounds d v', ds⟩ w') : o.wp Tryz.prog ⟨ts, ds⟩ w K Q := by
  unfold Oper.wp
  simp [execOp, ho, resolve, invoke, builtin, hs, hx, hty, hrun, Result.andThen]
  show K _ _
  rw [hd]
  exact h
/-- Two rows that lie apart. -/
def Apz (v u : Value) : Prop := v.ownBlock = none ∨ v.ownBlock ≠ u.ownBlock
theorem Apz.symm {v u : Value} (h : Apz v u) : Apz u v := by
  rcases h with h | h
  · by_cases e : u.ownBlock = none
    · exact .inl e
    · exact .inr fun e2 => e (e2.trans h)
  · exact .inr fun e => h e.symm
/-- On the way through narrow. -/
structure NarI (w1 : World) (T : List Ent) (m : Mat) (vs : List ByteArray) (k : Nat) (ly ln : List Int) (v7 v8 : Value) (wr : World) : Prop where
  oy : wr.ownsRow w1.heap.size 3 1 v7 ly.length (zs ly)
  on : wr.ownsRow w1.heap.size 3 1 v8 ln.length (zs ln)
  ap : Apz v7 v8
  ylen : ly.length ≤ k * 900
  nlen : ln.length ≤ k * 900
  my : ∀ z, z ∈ ly ↔ ∃ j, j < k ∧ m.says (snth vs j) = true ∧ z ∈ who T (m.n, snth vs j)
  mn : ∀ z, z ∈ ln ↔ ∃ j, j < k ∧ m.says (snth vs j) = false ∧ z ∈ who T (m.n, snth vs j)
  bel : Below w1.heap.size w1 wr
theorem own_grow_apart {w w' : World} {base n : Nat} {v u : Value} {l : List Int} (h : w.ownsRow base 3 1 u n (zs l)) (g : w.grownBy w' v.ownBlock) (ha : Apz u v) : w'.ownsRow base 3 1 u n (zs l) := h.kept g ha
theorem Apz.grown {w : World} {base n : Nat} {v v' u : Value} {l : List Int} (h : Apz v u) (hu : w.ownsRow base 3 1 u n (zs l)) (hv : v'.ownBlock = v.ownBlock ∨ v'.ownBlock = some w.heap.size) : Apz v' u := by
  rcases hv with e | e
  · unfold Apz; rw [e]; exact h
  · refine .inr ?_
    rw [e]
    intro e2
    have := (hu.lt _ e2.symm).2
    omega
theorem NarI.below {w1 wr w' : World} {T : List Ent} {m : Mat} {vs : List ByteArray} {k : Nat} {ly ln : List Int} {v7 v8 : Value} (h : NarI w1 T m vs k ly ln v7 v8 wr) (hb : Below wr.heap.size wr w') : NarI w1 T m vs k ly ln v7 v8 w' :=
  ⟨own_keepL h.oy hb, own_keepL h.on hb, h.ap, h.ylen, h.nlen, h.my, h.mn, h.bel.trans (hb.mono h.bel.size)⟩
theorem ex_succ {k : Nat} {p : Nat → Prop} : (∃ j, j < k + 1 ∧ p j) ↔ ((∃ j, j < k ∧ p j) ∨ p k) := by
  constructor
  · rintro ⟨j, hj, h⟩
    by_cases e : j = k
    · exact .inr (e ▸ h)
    · exact .inl ⟨j, by omega, h⟩
  · rintro (⟨j, hj, h⟩ | h)
    · exact ⟨j, by omega, h⟩
    · exact ⟨k, by omega, h⟩
set_option maxRecDepth 100000 in
theorem NarI.yes {w1 wr w' : World} {T : List Ent} {m : Mat} {vs : List ByteArray} {k : Nat} {ly ln out : List Int} {v7 v8 v' : Value} (h : NarI w1 T m vs k ly ln v7 v8 wr) (hs : m.says (snth vs k) = true) (hr : IsRise (who T (m.n, snth vs k)) out) (hT : T.length ≤ 900)
    (ho : w'.ownsRow w1.heap.size 3 1 v' (ly ++ out).length (zs (ly ++ out))) (hg : wr.grownBy w' v7.ownBlock) (hv : v'.ownBlock = v7.ownBlock ∨ v'.ownBlock = some wr.heap.size) : NarI w1 T m vs (k + 1) (ly ++ out) ln v' v8 w' := by
  have hl := hr.len
  have hw := who_len T (m.n, snth vs k)
  have e9 : (k + 1) * 900 = k * 900 + 900 := by omega
  refine ⟨ho, own_grow_apart h.on hg h.ap.symm, h.ap.grown h.on hv, ?_, ?_, fun z => ?_, fun z => ?_, h.bel.grown hg h.bel.size (fun q hq => own_geL h.oy q hq)⟩
  · rw [List.length_append]; have := h.ylen; omega
  · have := h.nlen; omega
  · rw [List.mem_append, h.my, hr.2 z, ex_succ (p := fun j => m.says (snth vs j) = true ∧ z ∈ who T (m.n, snth vs j))]
    simp [hs]
  · rw [h.mn, ex_succ (p := fun j => m.says (snth vs j) = false ∧ z ∈ who T (m.n, snth vs j))]
    simp [hs]
set_option maxRecDepth 100000 in
theorem NarI.no {w1 wr w' : World} {T : List Ent} {m : Mat} {vs : List ByteArray} {k : Nat} {ly ln out : List Int} {v7 v8 v' : Value} (h : NarI w1 T m vs k ly ln v7 v8 wr) (hs : m.says (snth vs k) = false) (hr : IsRise (who T (m.n, snth vs k)) out) (hT : T.length ≤ 900)
    (ho : w'.ownsRow w1.heap.size 3 1 v' (ln ++ out).length (zs (ln ++ out))) (hg : wr.grownBy w' v8.ownBlock) (hv : v'.ownBlock = v8.ownBlock ∨ v'.ownBlock = some wr.heap.size) : NarI w1 T m vs (k + 1) ly (ln ++ out) v7 v' w' := by
  have hl := hr.len
  have hw := who_len T (m.n, snth vs k)
  have e9 : (k + 1) * 900 = k * 900 + 900 := by omega
  refine ⟨own_grow_apart h.oy hg h.ap, ho, (h.ap.symm.grown h.oy hv).symm, ?_, ?_, fun z => ?_, fun z => ?_, h.bel.grown hg h.bel.size (fun q hq => own_geL h.on q hq)⟩
  · have := h.ylen; omega
  · rw [List.length_append]; have := h.nlen; omega
  · rw [h.my, ex_succ (p := fun j => m.says (snth vs j) = true ∧ z ∈ who T (m.n, snth vs j))]
    simp [hs]
  · rw [List.mem_append, h.mn, hr.2 z, ex_succ (p := fun j => m.says (snth vs j) = false ∧ z ∈ who T (m.n, snth vs j))]
    simp [hs]

/-- An id whose labels a matcher holds on. -/
def Sat (T : List Ent) (m : Mat) (z : Int) : Prop := ∃ ls, (z, ls) ∈ T ∧ m.holds ls = true
theorem set_getL {ls : List Lab} (h : isSet ls = true) (n : ByteArray) : (getL ls n = ⟨#[]⟩ ∧ ∀ u, (n, u) ∉ ls) ∨ ((n, getL ls n) ∈ ls ∧ ∀ u, (n, u) ∈ ls → u = getL ls n) := by
  by_cases e : ∃ u, (n, u) ∈ ls
  · obtain ⟨u, hu⟩ := e
    have h1 := getL_mem (set_pw h) hu
    refine .inr ⟨by rw [h1]; exact hu, fun u' hu' => ?_⟩
    have h2 := getL_mem (set_pw h) hu'
    exact h2.symm
  · refine .inl ⟨?_, fun u hu => e ⟨u, hu⟩⟩
    have key : ∀ l : List Lab, (∀ u, (n, u) ∉ l) → getL l n = ⟨#[]⟩ := by
      intro l
      induction l with
      | nil => intro _; rfl
      | cons y r ih =>
        intro hl
        have hne : (y.1.toList == n.toList) = false := by
          rw [beq_dec]
          refine decide_eq_false fun e => hl y.2 ?_
          rw [← e]
          simp
        rw [getL, hne]
        exact ih fun u hu => hl u (by simp [hu])
    exact key ls fun u hu => e ⟨u, hu⟩
/-- Who stays. -/
theorem stay_yes {T : List Ent} (hset : ∀ p ∈ T, isSet p.2 = true) {m : Mat} {vs : List ByteArray} (hv : ∀ u, u ∈ vs ↔ who T (m.n, u) ≠ []) (h0 : m.says ⟨#[]⟩ = false) {z : Int} :
    (∃ j, j < vs.length ∧ m.says (snth vs j) = true ∧ z ∈ who T (m.n, snth vs j)) ↔ Sat T m z := by
  constructor
  · rintro ⟨j, hj, h1, h2⟩
    obtain ⟨ls, h3, h4⟩ := mem_who.1 h2
    refine ⟨ls, h3, ?_⟩
    have := getL_mem (set_pw (hset _ h3)) h4
    unfold Mat.holds
    rw [this]
    exact h1
  · rintro ⟨ls, h3, h4⟩
    rcases set_getL (hset _ h3) m.n with ⟨e, _⟩ | ⟨e, _⟩
    · unfold Mat.holds at h4
      rw [e, h0] at h4
      cases h4
    · have hz : z ∈ who T (m.n, getL ls m.n) := mem_who.2 ⟨ls, h3, e⟩
      obtain ⟨j, hj, ej⟩ := List.getElem_of_mem ((hv _).2 (fun e2 => by rw [e2] at hz; cases hz))
      have es : snth vs j = getL ls m.n := by simp [snth, List.getD, List.getElem?_eq_getElem hj, ej]
      exact ⟨j, hj, by rw [es]; exact h4, by rw [es]; exact hz⟩
theorem stay_no {T : List Ent} (hnd : (T.map Prod.fst).Nodup) (hset : ∀ p ∈ T, isSet p.2 = true) {m : Mat} {vs : List ByteArray} (hv : ∀ u, u ∈ vs ↔ who T (m.n, u) ≠ []) (h0 : m.says ⟨#[]⟩ = true) {z : Int} (hz : z ∈ T.map Prod.fst) :
    (¬ ∃ j, j < vs.length ∧ m.says (snth vs j) = false ∧ z ∈ who T (m.n, snth vs j)) ↔ Sat T m z := by
  obtain ⟨⟨z', ls⟩, hp, rfl⟩ := List.mem_map.1 hz
  have uniq : ∀ ls', (z', ls') ∈ T → ls' = ls := fun ls' h => congrArg Prod.snd (nd_inj hnd h hp rfl)
  have hs : Sat T m z' ↔ m.says (getL ls m.n) = true := by
    constructor
    · rintro ⟨ls', h1, h2⟩
      rw [uniq ls' h1] at h2
      exact h2
    · intro h
      exact ⟨ls, hp, h⟩
  show _ ↔ Sat T m z'
  rw [hs]
  rcases set_getL (hset _ hp) m.n with ⟨e, hno⟩ | ⟨e, hone⟩
  · rw [e, h0]
    refine ⟨fun _ => rfl, fun _ => ?_⟩
    rintro ⟨j, hj, _, h2⟩
    obtain ⟨ls', h3, h4⟩ := mem_who.1 h2
    rw [uniq ls' h3] at h4
    exact hno _ h4
  · constructor
    · intro hne
      have hw : z' ∈ who T (m.n, getL ls m.n) := mem_who.2 ⟨ls, hp, e⟩
      obtain ⟨j, hj, ej⟩ := List.getElem_of_mem ((hv _).2 (fun e2 => by rw [e2] at hw; cases hw))
      have es : snth vs j = getL ls m.n := by simp [snth, List.getD, List.getElem?_eq_getElem hj, ej]
      cases hc : m.says (getL ls m.n)
      · exact absurd ⟨j, hj, by rw [es]; exact hc, by rw [es]; exact hw⟩ hne
      · rfl
    · rintro h ⟨j, hj, h1, h2⟩
      obtain ⟨ls', h3, h4⟩ := mem_who.1 h2
      rw [uniq ls' h3] at h4
      rw [hone _ h4, h] at h1
      cases h1
open Classical in
/-- Of these ids those that a matcher holds on. -/
noncomputable def sift (T : List Ent) (m : Mat) (xs : List Int) : List Int := xs.filter fun z => decide (Sat T m z)
theorem mem_sift {T : List Ent} {m : Mat} {xs : List Int} {z : Int} : z ∈ sift T m xs ↔ (z ∈ xs ∧ Sat T m z) := by simp [sift]

set_option maxRecDepth 100000 in
set_option maxHeartbeats 8000000 in
theorem narrow_any {w : World} {x b1 b2 N : Nat} {T : List Ent} (h : IdxAt w x b1 b2 N T) (xs : List Int) (A : Option Addr) (n c : Nat) (hx : SlZ w xs A n c 1000) (hin : ∀ z ∈ xs, z ∈ T.map Prod.fst) (mk : Int) (mn mv : ByteArray) (hmn : mn.size ≤ 1000) (hmv : mv.size ≤ 1000) (hT : DTab w) :
    Calls Tryz.prog 33 #[.pointer (some ⟨x, 0, none⟩), .slice A n c, .agg #[.int .i64 mk, .string mn, .string mv]] w (GaveZ w (IsRise (sift T ⟨mk, mn, mv⟩ xs)) 1000) := by
  have QB : Below w.heap.size w (w.alloc (.cells #[.int .i64 mk, .string mn, .string mv] 32)) := (Below.refl _ _).alloc (Nat.le_refl _) _
  have hb : (w.alloc (.cells #[.int .i64 mk, .string mn, .string mv] 32)).heap[w.heap.size]? = some (.cells #[.int .i64 mk, .string mn, .string mv] 32 (0, 0)) := World.alloc_heap_new w _
  have SZ : (w.alloc (.cells #[.int .i64 mk, .string mn, .string mv] 32)).heap.size = w.heap.size + 1 := by simp
  have BOX : Hid (∀ W, Below (w.alloc (.cells #[.int .i64 mk, .string mn, .string mv] 32)).heap.size (w.alloc (.cells #[.int .i64 mk, .string mn, .string mv] 32)) W → W.cell? ⟨w.heap.size, 0, none⟩ = some (.int .i64 mk) ∧ W.cell? ⟨w.heap.size, 1, none⟩ = some (.string mn) ∧ W.cell? ⟨w.heap.size, 2, none⟩ = some (.string mv)) := fun W hW =>
    ⟨(hW.cell (p := ⟨_, 0, none⟩) (by rw [SZ]; exact Nat.lt_succ_self _)).trans (row_cell hb rfl), (hW.cell (p := ⟨_, 1, none⟩) (by rw [SZ]; exact Nat.lt_succ_self _)).trans (row_cell hb rfl), (hW.cell (p := ⟨_, 2, none⟩) (by rw [SZ]; exact Nat.lt_succ_self _)).trans (row_cell hb rfl)⟩
  have H0 := Lib.hid (h.below QB)
  have X0 := Lib.hid (hx.below QB)
  have T0 := Lib.hid (hT.below QB)
  have HIN := Lib.hid hin
  have BQ := Lib.hid QB
  obtain ⟨wa, hwa⟩ : ∃ wa, w.alloc (.cells #[.int .i64 mk, .string mn, .string mv] 32) = wa := ⟨_, rfl⟩
  rw [hwa] at BOX H0 X0 T0 BQ SZ
  have C1 := Lib.hid (ivalues_any H0.out mn)
  obtain ⟨a0, a1, a2⟩ := BOX.out wa (Below.refl _ _)
  have SZh := Lib.hid SZ
  clear h hx hT hin QB hb SZ
  go_enter Tryz.func33, Tryz.ntmps33
  go_wp2_with fail
  refine C1.out.mono ?_
  rintro e w1 ⟨vs, A2, n2, c2, rfl, hlen, hA2, hI2, _, hmem, hn2, bb⟩
  have H1 := Lib.hid (H0.out.below bb)
  have X1 := Lib.hid (X0.out.below bb)
  have T1 := Lib.hid (T0.out.below bb)
  have BOX1 : Hid (∀ W, Below w1.heap.size w1 W → W.cell? ⟨w.heap.size, 0, none⟩ = some (.int .i64 mk) ∧ W.cell? ⟨w.heap.size, 1, none⟩ = some (.string mn) ∧ W.cell? ⟨w.heap.size, 2, none⟩ = some (.string mv)) := fun W hW => BOX.out W (bb.trans (hW.mono bb.size))
  have B1 : Hid (Below w.heap.size w w1) := BQ.out.trans (bb.mono BQ.out.size)
  have VS : Hid (vs.length = n2 ∧ IsStrs w1 A2 vs ∧ (∀ u, u ∈ vs ↔ who T (mn, u) ≠ [])) := ⟨hlen, hI2, hmem⟩
  have SM : Hid (∀ j, j < n2 → smallL (mn, snth vs j)) := fun j hj => by
    obtain ⟨f, _, _, h3, _⟩ := H1.out.posts
    exact h3 _ ((hmem _).1 (by rw [snth, List.getD, List.getElem?_eq_getElem (show j < vs.length by omega)]; exact List.getElem_mem _))
  have SZ1 : Hid (w.heap.size < w1.heap.size) := by have := bb.size; have := SZh.out; show _ < _; omega
  have N2 : n2 ≤ 1000 := by have := H1.out.room; omega
  have I0 : Hid (NarI w1 T ⟨mk, mn, mv⟩ vs 0 [] [] (.slice none 0 0) (.slice none 0 0) w1) := ⟨World.ownsRow_nil _ _ _ _, World.ownsRow_nil _ _ _ _, .inl rfl, by simp, by simp, fun z => by simp, fun z => by simp, Below.refl _ _⟩
  clear bb hlen hA2 hI2 hmem hn2 C1 BOX BQ H0 X0 T0 a0 a1 a2 hwa
  go_wp2
  go_loopw [7, 8, 17] (fun v7 v8 i wr => ∃ (y7 y8 : Value) (k : Nat) (ly ln : List Int), y7 = v7 ∧ y8 = v8 ∧ k ≤ n2 ∧ i = .int .i64 (k : Int) ∧ Hid (NarI w1 T ⟨mk, mn, mv⟩ vs k ly ln y7 y8 wr)) (fun _ _ i _ => n2 - (intOf i).toNat)
  case atStart => exact ⟨_, _, 0, _, _, rfl, rfl, by omega, rfl, I0⟩
  case round =>
    clear I0
    obtain ⟨y7, y8, k, ly, ln, rfl, rfl, hk, rfl, HI⟩ := hrel
    by_cases hkn : k < n2
    · have hkz : (k : Int) < (n2 : Int) := by omega
      have sm := SM.out k hkn
      obtain ⟨b, off, e, hc⟩ := (VS.out.2.1.below HI.out.bel) (by rw [VS.out.1]; omega)
      subst e
      have d1 := hc k (by rw [VS.out.1]; exact hkn)
      clear hc
      obtain ⟨u, hu⟩ : ∃ u, snth vs k = u := ⟨_, rfl⟩
      rw [hu] at d1 sm
      have HU := Lib.hid hu
      clear hu
      have WL : Hid (IntKind.i64.wrap ((k : Int) + 1) = (k : Int) + 1) := by show _ = _; rw [IntKind.wrap_i64]; omega
      obtain ⟨q0, q1, q2⟩ := BOX1.out wr HI.out.bel
      have hlt : w.heap.size < wr.heap.size := Nat.lt_of_lt_of_le SZ1.out HI.out.bel.size
      have BA : Below wr.heap.size wr (wr.alloc (.cells #[.string mn, .string u] 26)) := (Below.refl _ _).alloc (Nat.le_refl _) _
      have BB : Below wr.heap.size wr ((wr.alloc (.cells #[.string mn, .string u] 26)).alloc (.cells #[.string mn, .string u] 26)) := BA.alloc BA.size _
      have eS : (wr.alloc (.cells #[.string mn, .string u] 26)).heap.size = wr.heap.size + 1 := by simp
      have LI : IsLabs ((wr.alloc (.cells #[.string mn, .string u] 26)).alloc (.cells #[.string mn, .string u] 26)) (some ⟨wr.heap.size + 1, 0, none⟩) [(mn, u)] := by
        have := lit_lab (wr.alloc (.cells #[.string mn, .string u] 26)) (mn, u)
        rwa [eS] at this
      have LB : Hid (∀ W, Below ((wr.alloc (.cells #[.string mn, .string u] 26)).alloc (.cells #[.string mn, .string u] 26)).heap.size ((wr.alloc (.cells #[.string mn, .string u] 26)).alloc (.cells #[.string mn, .string u] 26)) W → W.cell? ⟨wr.heap.size, 0, none⟩ = some (.string mn) ∧ W.cell? ⟨wr.heap.size, 1, none⟩ = some (.string u)) := fun W hW => by
        have h0 : (wr.alloc (.cells #[.string mn, .string u] 26)).heap[wr.heap.size]? = some (.cells #[.string mn, .string u] 26 (0, 0)) := World.alloc_heap_new wr _
        have bz : Below (wr.alloc (.cells #[.string mn, .string u] 26)).heap.size (wr.alloc (.cells #[.string mn, .string u] 26)) W := ((Below.refl _ _).alloc (Nat.le_refl _) _).trans (hW.mono (by simp))
        exact ⟨(bz.cell (p := ⟨_, 0, none⟩) (by rw [eS]; exact Nat.lt_succ_self _)).trans (row_cell h0 rfl), (bz.cell (p := ⟨_, 1, none⟩) (by rw [eS]; exact Nat.lt_succ_self _)).trans (row_cell h0 rfl)⟩
      have USZ : ∀ y ∈ [(mn, u)], y.2.size ≤ 1000 := fun y hy => by
        obtain rfl : y = (mn, u) := by simpa using hy
        have h2 : u.size ≤ 24 := sm.2
        show u.size ≤ 1000
        omega
      have CH := Lib.hid (mholds_any mk mn mv [(mn, u)] (some ⟨wr.heap.size + 1, 0, none⟩) 1 1 _ hmn hmv rfl (by omega) (fun y hy => USZ y hy) LI ((T1.out.below HI.out.bel).below BB))
      have HSAY : Mat.holds ⟨mk, mn, mv⟩ [(mn, u)] = Mat.says ⟨mk, mn, mv⟩ u := by
        unfold Mat.holds
        rw [show getL [(mn, u)] mn = u by simp [getL]]
      have J1 := Lib.hid (HI.out.below BB)
      have SMh := Lib.hid sm
      clear LI BA eS HI sm BB USZ
      cases hsay : Mat.says ⟨mk, mn, mv⟩ u
      · rw [HSAY, hsay] at CH
        have SAY := Lib.hid hsay
        clear HSAY hsay
        go_wp2_with fail
        refine CH.out.mono ?_
        rintro e w4 ⟨rfl, b4⟩
        go_wp2_with fail
        have J4 := Lib.hid (J1.out.below b4)
        obtain ⟨l0, l1⟩ := LB.out w4.drew (b4.trans ((Below.refl _ _).drew))
        have L0 := Lib.hid l0
        have L1 := Lib.hid l1
        clear l0 l1
        obtain ⟨A5, m5, c5, o5, r5, s5, l5⟩ := (H1.out.below J4.out.bel).posts.look (mn, u) SMh.out
        have L6 := l5 w4.drew 64 rfl Tryz.underlying64
        have OW : w4.drew.ownsRow w1.heap.size 3 1 y8 ln.length (zs ln) := J4.out.on
        obtain ⟨v6, w6, hrun, o6, g6, loc6⟩ := run_app_loc (w := w4.drew) w1.heap.size y8 ln.length ln OW A5 m5 c5 o5 s5.len s5.nil (s5.is.drewN 1) (by have := J4.out.nlen; have := s5.small; omega) (by have := J4.out.bel.size; exact this)
        have K6 : Hid (NarI w1 T ⟨mk, mn, mv⟩ vs (k + 1) ly (ln ++ o5) y7 v6 w6) := by
          have rr : IsRise (who T (Mat.n ⟨mk, mn, mv⟩, snth vs k)) o5 := by rw [HU.out]; exact r5
          have ss : Mat.says ⟨mk, mn, mv⟩ (snth vs k) = false := by rw [HU.out]; exact SAY.out
          refine NarI.no (wr := w4.drew) (J4.out.below ((Below.refl _ _).drew)) ss rr (by have := H1.out.len; exact this) (by rw [List.length_append, s5.len]; exact o6) g6 loc6
        have C1 : Hid (∀ W, Below w1.heap.size w1 W → W.cell? ⟨x, 1, none⟩ = some (.map (some b2))) := fun W hW => (H1.out.below hW).c1
        refine wp_region_held_drew (S := fun W => Below w1.heap.size w1 W) (by kernel_rfl) (J4.out.bel.drew) (fun hHeld => ?_)
        refine held_take 0 37 (v := y8) rfl rfl (by kernel_rfl) (by kernel_rfl) (by kernel_rfl) (by rfl) (fun _ _ _ h => h) (by assumption) ?_ ?_
        · intro W hW
          go_simp
        simp only [List.setIfInBounds_toArray, List.set_cons_zero, List.set_cons_succ]
        refine held_take 1 38 (v := (.pointer (some ⟨x, 0, none⟩))) rfl rfl (by kernel_rfl) (by kernel_rfl) (by kernel_rfl) (by rfl) (fun _ _ _ h => h) (by assumption) ?_ ?_
        · intro W hW
          go_simp
        simp only [List.setIfInBounds_toArray, List.set_cons_zero, List.set_cons_succ]
        refine held_take 2 39 (v := (.pointer (some ⟨x, 0, none⟩))) rfl rfl (by kernel_rfl) (by kernel_rfl) (by kernel_rfl) (by rfl) (fun _ _ _ h => h) (by assumption) ?_ ?_
        · intro W hW
          go_simp
        simp only [List.setIfInBounds_toArray, List.set_cons_zero, List.set_cons_succ]
        refine held_take 3 40 (v := (.pointer (some ⟨x, 1, none⟩))) rfl rfl (by kernel_rfl) (by kernel_rfl) (by kernel_rfl) (by rfl) (fun _ _ _ h => h) (by assumption) ?_ ?_
        · intro W hW
          go_simp
        simp only [List.setIfInBounds_toArray, List.set_cons_zero, List.set_cons_succ]
        refine held_take 4 41 (v := (.map (some b2))) rfl rfl (by kernel_rfl) (by kernel_rfl) (by kernel_rfl) (by rfl) (fun _ _ _ h => h) (by assumption) ?_ ?_
        · intro W hW
          have q := C1.out W hW
          go_simp
        simp only [List.setIfInBounds_toArray, List.set_cons_zero, List.set_cons_succ]
        have la := L0.out
        have lb := L1.out
        refine held_op 5 rfl (by kernel_rfl) (by rfl) ?_
        refine wp_run (v := .agg #[.string mn, .string u]) (w' := w4.drew) rfl (by go_simp) ⟨hHeld, ?_⟩
        simp only [List.setIfInBounds_toArray, List.set_cons_zero, List.set_cons_succ]
        refine held_op 6 rfl (by kernel_rfl) (by rfl) ?_
        refine wp_run (v := .slice A5 m5 c5) (w' := w4.drew) rfl (by go_simp) ⟨hHeld, ?_⟩
        simp only [List.setIfInBounds_toArray, List.set_cons_zero, List.set_cons_succ]
        refine held_op 7 rfl (by kernel_rfl) (by rfl) ?_
        refine wp_appLoc (.tmp 37) (.tmp 43) rfl rfl rfl rfl rfl hrun ⟨K6.out.bel, ?_⟩
        simp only [List.setIfInBounds_toArray, List.set_cons_zero, List.set_cons_succ]
        have hK6 := K6.out.bel
        refine held_take 8 8 (v := v6) rfl rfl (by kernel_rfl) (by kernel_rfl) (by kernel_rfl) (by rfl) (fun _ _ _ h => h) (by assumption) ?_ ?_
        · intro W hW
          go_simp
        simp only [List.setIfInBounds_toArray, List.set_cons_zero, List.set_cons_succ]
        refine wpAnyH_done (by kernel_rfl) ?_ _
        clear la lb L0 L1 L6 hrun o6 g6 loc6 OW s5 r5 l5 C1 J4 J1 hHeld hK6 b4 CH LB d1 q0 q1 q2
        go_wp2_with (rw [WL.out])
        go_roundw
        case rel => exact ⟨_, _, k + 1, _, _, rfl, rfl, by omega, by go_num, K6⟩
        case measure => simp [intOf]; omega
      · rw [HSAY, hsay] at CH
        have SAY := Lib.hid hsay
        clear HSAY hsay
        go_wp2_with fail
        refine CH.out.mono ?_
        rintro e w4 ⟨rfl, b4⟩
        go_wp2_with fail
        have J4 := Lib.hid (J1.out.below b4)
        obtain ⟨l0, l1⟩ := LB.out w4.drew (b4.trans ((Below.refl _ _).drew))
        have L0 := Lib.hid l0
        have L1 := Lib.hid l1
        clear l0 l1
        obtain ⟨A5, m5, c5, o5, r5, s5, l5⟩ := (H1.out.below J4.out.bel).posts.look (mn, u) SMh.out
        have L6 := l5 w4.drew 64 rfl Tryz.underlying64
        have OW : w4.drew.ownsRow w1.heap.size 3 1 y7 ly.length (zs ly) := J4.out.oy
        obtain ⟨v6, w6, hrun, o6, g6, loc6⟩ := run_app_loc (w := w4.drew) w1.heap.size y7 ly.length ly OW A5 m5 c5 o5 s5.len s5.nil (s5.is.drewN 1) (by have := J4.out.ylen; have := s5.small; omega) (by have := J4.out.bel.size; exact this)
        have K6 : Hid (NarI w1 T ⟨mk, mn, mv⟩ vs (k + 1) (ly ++ o5) ln v6 y8 w6) := by
          have rr : IsRise (who T (Mat.n ⟨mk, mn, mv⟩, snth vs k)) o5 := by rw [HU.out]; exact r5
          have ss : Mat.says ⟨mk, mn, mv⟩ (snth vs k) = true := by rw [HU.out]; exact SAY.out
          refine NarI.yes (wr := w4.drew) (J4.out.below ((Below.refl _ _).drew)) ss rr (by have := H1.out.len; exact this) (by rw [List.length_append, s5.len]; exact o6) g6 loc6
        have C1 : Hid (∀ W, Below w1.heap.size w1 W → W.cell? ⟨x, 1, none⟩ = some (.map (some b2))) := fun W hW => (H1.out.below hW).c1
        refine wp_region_held_drew (S := fun W => Below w1.heap.size w1 W) (by kernel_rfl) (J4.out.bel.drew) (fun hHeld => ?_)
        refine held_take 0 29 (v := y7) rfl rfl (by kernel_rfl) (by kernel_rfl) (by kernel_rfl) (by rfl) (fun _ _ _ h => h) (by assumption) ?_ ?_
        · intro W hW
          go_simp
        simp only [List.setIfInBounds_toArray, List.set_cons_zero, List.set_cons_succ]
        refine held_take 1 30 (v := (.pointer (some ⟨x, 0, none⟩))) rfl rfl (by kernel_rfl) (by kernel_rfl) (by kernel_rfl) (by rfl) (fun _ _ _ h => h) (by assumption) ?_ ?_
        · intro W hW
          go_simp
        simp only [List.setIfInBounds_toArray, List.set_cons_zero, List.set_cons_succ]
        refine held_take 2 31 (v := (.pointer (some ⟨x, 0, none⟩))) rfl rfl (by kernel_rfl) (by kernel_rfl) (by kernel_rfl) (by rfl) (fun _ _ _ h => h) (by assumption) ?_ ?_
        · intro W hW
          go_simp
        simp only [List.setIfInBounds_toArray, List.set_cons_zero, List.set_cons_succ]
        refine held_take 3 32 (v := (.pointer (some ⟨x, 1, none⟩))) rfl rfl (by kernel_rfl) (by kernel_rfl) (by kernel_rfl) (by rfl) (fun _ _ _ h => h) (by assumption) ?_ ?_
        · intro W hW
          go_simp
        simp only [List.setIfInBounds_toArray, List.set_cons_zero, List.set_cons_succ]
        refine held_take 4 33 (v := (.map (some b2))) rfl rfl (by kernel_rfl) (by kernel_rfl) (by kernel_rfl) (by rfl) (fun _ _ _ h => h) (by assumption) ?_ ?_
        · intro W hW
          have q := C1.out W hW
          go_simp
        simp only [List.setIfInBounds_toArray, List.set_cons_zero, List.set_cons_succ]
        have la := L0.out
        have lb := L1.out
        refine held_op 5 rfl (by kernel_rfl) (by rfl) ?_
        refine wp_run (v := .agg #[.string mn, .string u]) (w' := w4.drew) rfl (by go_simp) ⟨hHeld, ?_⟩
        simp only [List.setIfInBounds_toArray, List.set_cons_zero, List.set_cons_succ]
        refine held_op 6 rfl (by kernel_rfl) (by rfl) ?_
        refine wp_run (v := .slice A5 m5 c5) (w' := w4.drew) rfl (by go_simp) ⟨hHeld, ?_⟩
        simp only [List.setIfInBounds_toArray, List.set_cons_zero, List.set_cons_succ]
        refine held_op 7 rfl (by kernel_rfl) (by rfl) ?_
        refine wp_appLoc (.tmp 29) (.tmp 35) rfl rfl rfl rfl rfl hrun ⟨K6.out.bel, ?_⟩
        simp only [List.setIfInBounds_toArray, List.set_cons_zero, List.set_cons_succ]
        have hK6 := K6.out.bel
        refine held_take 8 7 (v := v6) rfl rfl (by kernel_rfl) (by kernel_rfl) (by kernel_rfl) (by rfl) (fun _ _ _ h => h) (by assumption) ?_ ?_
        · intro W hW
          go_simp
        simp only [List.setIfInBounds_toArray, List.set_cons_zero, List.set_cons_succ]
        refine wpAnyH_done (by kernel_rfl) ?_ _
        clear la lb L0 L1 L6 hrun o6 g6 loc6 OW s5 r5 l5 C1 J4 J1 hHeld hK6 b4 CH LB d1 q0 q1 q2
        go_wp2_with (rw [WL.out])
        go_roundw
        case rel => exact ⟨_, _, k + 1, _, _, rfl, rfl, by omega, by go_num, K6⟩
        case measure => simp [intOf]; omega
    · obtain rfl : k = n2 := by omega
      have hkz : ¬ (k : Int) < (k : Int) := by omega
      have J1 := Lib.hid HI.out
      obtain ⟨q0, q1, q2⟩ := BOX1.out wr HI.out.bel
      have CH := Lib.hid (mholds_any mk mn mv [] none 0 0 wr hmn hmv rfl (by omega) (fun y hy => by cases hy) (isLabs_nil _ _) (T1.out.below HI.out.bel))
      have HSAY : Mat.holds ⟨mk, mn, mv⟩ [] = Mat.says ⟨mk, mn, mv⟩ ⟨#[]⟩ := rfl
      rw [HSAY] at CH
      clear HI HSAY
      cases hsay : Mat.says ⟨mk, mn, mv⟩ ⟨#[]⟩
      · rw [hsay] at CH
        have SAY := Lib.hid hsay
        clear hsay
        obtain ⟨A7, c7, rfl, s7⟩ := GaveZ.of_own (K := 1048576) J1.out.oy (by have := J1.out.ylen; omega) (by omega)
        have S7 := Lib.hid s7
        have R7 : Hid (∀ z, z ∈ ly ↔ Sat T ⟨mk, mn, mv⟩ z) := fun z => (J1.out.my z).trans (by
          have := stay_yes (T := T) (m := ⟨mk, mn, mv⟩) (vs := vs) (z := z) H1.out.set VS.out.2.2 SAY.out
          rw [VS.out.1] at this
          exact this)
        clear s7
        go_wp2_with fail
        refine CH.out.mono ?_
        rintro e w4 ⟨rfl, b4⟩
        have CA := Lib.hid (and_s (X1.out.below (J1.out.bel.trans (b4.mono J1.out.bel.size))) (S7.out.below b4))
        have B4 := Lib.hid b4
        clear b4 CH
        go_wp2_with fail
        refine CA.out.mono ?_
        rintro e w5 ⟨o5, A5, n5, c5, rfl, r5, s5, b5⟩
        have Q : Hid (IsRise (sift T ⟨mk, mn, mv⟩ xs) o5 ∧ SlZ w5 o5 A5 n5 c5 1000 ∧ Below w.heap.size w w5) :=
          ⟨r5.congr fun z => by rw [pick_mem, mem_sift]; simp [R7.out z], s5, B1.out.trans ((J1.out.bel.mono B1.out.size).trans ((B4.out.mono (Nat.le_trans B1.out.size J1.out.bel.size)).trans (b5.mono (Nat.le_trans B1.out.size (Nat.le_trans J1.out.bel.size B4.out.size)))))⟩
        clear r5 s5 b5 CA
        go_wp2
        go_ret
        exact ⟨o5, A5, n5, c5, rfl, Q.out⟩
      · rw [hsay] at CH
        have SAY := Lib.hid hsay
        clear hsay
        obtain ⟨A8, c8, rfl, s8⟩ := GaveZ.of_own (K := 1048576) J1.out.on (by have := J1.out.nlen; omega) (by omega)
        have S8 := Lib.hid s8
        have R8 : Hid (∀ z, z ∈ xs → (z ∉ ln ↔ Sat T ⟨mk, mn, mv⟩ z)) := fun z hz => (not_congr (J1.out.mn z)).trans (by
          have := stay_no (T := T) H1.out.nd H1.out.set (m := ⟨mk, mn, mv⟩) (vs := vs) (z := z) VS.out.2.2 SAY.out (HIN.out z hz)
          rw [VS.out.1] at this
          exact this)
        clear s8
        go_wp2_with fail
        refine CH.out.mono ?_
        rintro e w4 ⟨rfl, b4⟩
        have CA := Lib.hid (not_s (X1.out.below (J1.out.bel.trans (b4.mono J1.out.bel.size))) (S8.out.below b4))
        have B4 := Lib.hid b4
        clear b4 CH
        go_wp2_with fail
        refine CA.out.mono ?_
        rintro e w5 ⟨o5, A5, n5, c5, rfl, r5, s5, b5⟩
        have Q : Hid (IsRise (sift T ⟨mk, mn, mv⟩ xs) o5 ∧ SlZ w5 o5 A5 n5 c5 1000 ∧ Below w.heap.size w w5) :=
          ⟨r5.congr fun z => by
            rw [pick_mem, mem_sift]
            exact ⟨fun ⟨a, b⟩ => ⟨a, (R8.out z a).1 (by simpa using b)⟩, fun ⟨a, b⟩ => ⟨a, by simpa using (R8.out z a).2 b⟩⟩, s5, B1.out.trans ((J1.out.bel.mono B1.out.size).trans ((B4.out.mono (Nat.le_trans B1.out.size J1.out.bel.size)).trans (b5.mono (Nat.le_trans B1.out.size (Nat.le_trans J1.out.bel.size B4.out.size)))))⟩
        clear r5 s5 b5 CA
        go_wp2
        go_ret
        exact ⟨o5, A5, n5, c5, rfl, Q.out⟩
end Go.Proofs.YtlfcjjlgkcfkdaaGreatDoor
namespace Go.Proofs.YtlfcjjlgkcfkdaaGreatDoor
open Go.RowKit Go.Maps Go.Sort La

/-- Those ids on whose labels all matchers hold. -/
def found (T : List Ent) (ms : List Mat) : List Int := (T.filter fun p => Mat.allHold ms p.2).map Prod.fst
theorem mem_found {T : List Ent} {ms : List Mat} {z : Int} : z ∈ found T ms ↔ ∃ ls, (z, ls) ∈ T ∧ Mat.allHold ms ls = true := by
  unfold found
  rw [List.mem_map]
  constructor
  · rintro ⟨⟨a, ls⟩, h, rfl⟩
    rw [List.mem_filter] at h
    exact ⟨ls, h.1, h.2⟩
  · rintro ⟨ls, h1, h2⟩
    exact ⟨(z, ls), List.mem_filter.2 ⟨h1, h2⟩, rfl⟩
theorem found_nil (T : List Ent) : found T [] = T.map Prod.fst := by
  unfold found
  exact congrArg _ (List.filter_eq_self.2 fun p _ => rfl)
theorem allHold_app (a b : List Mat) (ls : List Lab) : Mat.allHold (a ++ b) ls = (Mat.allHold a ls && Mat.allHold b ls) := by
  unfold Mat.allHold
  exact List.all_append
theorem found_step {T : List Ent} (hnd : (T.map Prod.fst).Nodup) {ms : List Mat} {k : Nat} (hk : k < ms.length) {xs out : List Int} (hx : ∀ z, z ∈ xs ↔ z ∈ found T (ms.take k)) (hr : IsRise (sift T (Mat.nth ms k) xs) out) : ∀ z, z ∈ out ↔ z ∈ found T (ms.take (k + 1)) := fun z => by
  rw [hr.2 z, mem_sift, hx z, mem_found, mem_found, List.take_succ_eq_append_getElem hk]
  constructor
  · rintro ⟨⟨ls, h1, h2⟩, ⟨ls', h3, h4⟩⟩
    have : ls' = ls := congrArg Prod.snd (nd_inj hnd h3 h1 rfl)
    subst this
    refine ⟨ls', h1, ?_⟩
    rw [allHold_app, h2]
    rw [Mat.nth_eq hk] at h4
    simp [Mat.allHold, h4]
  · rintro ⟨ls, h1, h2⟩
    rw [allHold_app, Bool.and_eq_true] at h2
    refine ⟨⟨ls, h1, h2.1⟩, ls, h1, ?_⟩
    rw [Mat.nth_eq hk]
    simpa [Mat.allHold] using h2.2
set_option maxRecDepth 100000 in
set_option maxHeartbeats 4000000 in
theorem ifind_any {w : World} {x b1 b2 N : Nat} {T : List Ent} (h : IdxAt w x b1 b2 N T) (ms : List Mat) (A : Option Addr) (M c : Nat) (hM : ms.length = M) (hM1 : M ≤ 1099511627776) (hs : SmallM ms) (ha : IsMats w A ms) (hT : DTab w) :
    Calls Tryz.prog 12 #[.pointer (some ⟨x, 0, none⟩), .slice A M c] w (GaveZ w (IsRise (found T ms)) 1000) := by
  have C1 := Lib.hid (iids_any h)
  have H := Lib.hid h
  have AM := Lib.hid ha
  have T0 := Lib.hid hT
  have HM := Lib.hid hM
  have HS := Lib.hid hs
  clear h ha hT hM hs
  go_enter Tryz.func12, Tryz.ntmps12
  go_wp2_with fail
  refine C1.out.mono ?_
  rintro e w1 ⟨o1, A1, n1, c1, rfl, r1, s1, bb⟩
  have H1 := Lib.hid (H.out.below bb)
  have AM1 := Lib.hid (AM.out.below bb)
  have T1 := Lib.hid (T0.out.below bb)
  have I0 : Hid (SlZ w1 o1 A1 n1 c1 1000 ∧ o1.Pairwise (· < ·) ∧ (∀ z, z ∈ o1 ↔ z ∈ found T (ms.take 0)) ∧ Below w1.heap.size w1 w1) := ⟨s1, r1.1, fun z => by rw [List.take_zero, found_nil]; exact r1.2 z, Below.refl _ _⟩
  have B1 := Lib.hid bb
  clear bb r1 s1 C1 H AM T0
  go_wp2
  go_loopw [5, 12] (fun v i wr => ∃ (k : Nat) (o : List Int) (A5 : Option Addr) (n5 c5 : Nat), k ≤ M ∧ i = .int .i64 (k : Int) ∧ v = .slice A5 n5 c5 ∧ Hid (SlZ wr o A5 n5 c5 1000 ∧ o.Pairwise (· < ·) ∧ (∀ z, z ∈ o ↔ z ∈ found T (ms.take k)) ∧ Below w1.heap.size w1 wr)) (fun _ i _ => M - (intOf i).toNat)
  case atStart => exact ⟨0, o1, A1, n1, c1, by omega, rfl, rfl, I0.out⟩
  case round =>
    clear I0
    obtain ⟨k, o, A5, n5, c5, hk, rfl, rfl, HI⟩ := hrel
    by_cases hkn : k < M
    · have hkz : (k : Int) < (M : Int) := by omega
      obtain ⟨b, off, e, hc⟩ := (AM1.out.below HI.out.2.2.2) (by rw [HM.out]; omega)
      subst e
      obtain ⟨d0, d1, d2⟩ := hc k (by rw [HM.out]; exact hkn)
      clear hc
      have sz := HS.out.at (show k < ms.length by rw [HM.out]; exact hkn)
      have WL : Hid (IntKind.i64.wrap ((k : Int) + 1) = (k : Int) + 1) := by show _ = _; rw [IntKind.wrap_i64]; omega
      obtain ⟨mk, e0⟩ : ∃ y, (Mat.nth ms k).k = y := ⟨_, rfl⟩
      obtain ⟨mn, e1⟩ : ∃ y, (Mat.nth ms k).n = y := ⟨_, rfl⟩
      obtain ⟨mv, e2⟩ : ∃ y, (Mat.nth ms k).v = y := ⟨_, rfl⟩
      have EM : Hid ((⟨mk, mn, mv⟩ : Mat) = Mat.nth ms k) := Mat.ext e0.symm e1.symm e2.symm
      rw [e0] at d0
      rw [e1] at d1 sz
      rw [e2] at d2 sz
      clear e0 e1 e2
      have QB : Below wr.heap.size wr (wr.alloc (.cells #[.int .i64 mk, .string mn, .string mv] 32)) := (Below.refl _ _).alloc (Nat.le_refl _) _
      have HIN : ∀ z ∈ o, z ∈ T.map Prod.fst := fun z hz => by
        obtain ⟨ls, h1, _⟩ := mem_found.1 ((HI.out.2.2.1 z).1 hz)
        exact List.mem_map.2 ⟨_, h1, rfl⟩
      have CN := Lib.hid (narrow_any ((H1.out.below HI.out.2.2.2).below QB) o A5 n5 c5 (HI.out.1.below QB) HIN mk mn mv sz.1 sz.2 ((T1.out.below HI.out.2.2.2).below QB))
      have BQ : Hid (Below w1.heap.size w1 (wr.alloc (.cells #[.int .i64 mk, .string mn, .string mv] 32))) := HI.out.2.2.2.trans (QB.mono HI.out.2.2.2.size)
      have HX : Hid (∀ z, z ∈ o ↔ z ∈ found T (ms.take k)) := HI.out.2.2.1
      clear QB HIN HI sz
      go_wp2_with fail
      refine CN.out.mono ?_
      rintro e w4 ⟨o4, A4, n4, c4, rfl, r4, s4, b4⟩
      have I4 : Hid (SlZ w4 o4 A4 n4 c4 1000 ∧ o4.Pairwise (· < ·) ∧ (∀ z, z ∈ o4 ↔ z ∈ found T (ms.take (k + 1))) ∧ Below w1.heap.size w1 w4) :=
        ⟨s4, r4.1, found_step H1.out.nd (by rw [HM.out]; exact hkn) HX.out (by rw [← EM.out]; exact r4), BQ.out.trans (b4.mono BQ.out.size)⟩
      clear r4 s4 b4 CN BQ HX d0 d1 d2
      go_wp2_with (rw [WL.out])
      go_roundw
      case rel => exact ⟨k + 1, o4, A4, n4, c4, by omega, by go_num, rfl, I4⟩
      case measure => simp [intOf]; omega
    · obtain rfl : k = M := by omega
      have hkz : ¬ (k : Int) < (k : Int) := by omega
      have R : Hid (IsRise (found T ms) o ∧ SlZ wr o A5 n5 c5 1000 ∧ Below w.heap.size w wr) := by
        obtain ⟨q1, q2, q3, q4⟩ := HI.out
        rw [← HM.out, List.take_of_length_le (Nat.le_refl _)] at q3
        exact ⟨⟨q2, q3⟩, q1, B1.out.trans (q4.mono B1.out.size)⟩
      clear HI
      go_wp2
      go_ret
      exact ⟨o, A5, n5, c5, rfl, R.out⟩
end Go.Proofs.YtlfcjjlgkcfkdaaGreatDoor
namespace Go.Proofs.YtlfcjjlgkcfkdaaGreatDoor
open Go.RowKit Go.Maps Go.Sort La

/-- An alert in memory: its id, the value of its labels' slice, its labels. -/
abbrev AltC := Int × Value × List Lab
def ent (p : AltC) : Ent := (p.1, p.2.2)
/-- Alerts as cells. -/
def alc (L : List AltC) : List Value := L.flatMap fun p => [.int .i64 p.1, p.2.1, .float .f64 0]
theorem alc_len (L : List AltC) : (alc L).length = L.length * 3 := by
  induction L with
  | nil => rfl
  | cons x r ih => simp [alc] at ih ⊢; omega
def no0 : AltC := (0, .slice none 0 0, [])
def anth (L : List AltC) (j : Nat) : AltC := L.getD j no0
theorem anth_eq {L : List AltC} {j : Nat} (h : j < L.length) : anth L j = L[j] := by simp [anth, List.getD, List.getElem?_eq_getElem h]
theorem anth_mem {L : List AltC} {j : Nat} (h : j < L.length) : anth L j ∈ L := by rw [anth_eq h]; exact List.getElem_mem h
theorem alc_get : ∀ (L : List AltC) (j : Nat), j < L.length → (alc L)[j * 3]? = some (.int .i64 (anth L j).1) ∧ (alc L)[j * 3 + 1]? = some (anth L j).2.1 ∧ (alc L)[j * 3 + 2]? = some (.float .f64 0)
  | [], j, h => by simp at h
  | x :: r, 0, _ => by simp [alc, anth]
  | x :: r, j + 1, h => by
    have ih := alc_get r j (by simpa using h)
    have e : alc (x :: r) = .int .i64 x.1 :: x.2.1 :: .float .f64 0 :: alc r := rfl
    have e1 : (j + 1) * 3 = j * 3 + 1 + 1 + 1 := by omega
    rw [e, e1]
    simpa [anth] using ih
/-- The slice at address A reads as these cells. -/
def RowIs (w : World) (A : Option Addr) (xs : List Value) : Prop := 0 < xs.length → ∃ b off, A = some ⟨b, off, none⟩ ∧ ∀ j u, xs[j]? = some u → w.cell? ⟨b, off + j, none⟩ = some u
theorem RowIs.nil (w : World) (A : Option Addr) : RowIs w A [] := fun h => absurd h (by simp)
theorem RowIs.below {w w' : World} {A : Option Addr} {xs : List Value} (h : RowIs w A xs) (hb : Below w.heap.size w w') : RowIs w' A xs := fun hp => by
  obtain ⟨b, off, e, hc⟩ := h hp
  exact ⟨b, off, e, fun j u hu => (hb.cell (World.block_lt_of_cell? w _ (hc j u hu))).trans (hc j u hu)⟩
theorem own_row {w : World} {base e s n : Nat} {v : Value} {xs : List Value} (h : w.ownsRow base e s v n xs) : ∃ A c, v = .slice A n c ∧ (A = none → c = 0) ∧ n ≤ c ∧ RowIs w A xs := by
  rcases h.2 with ⟨rfl, rfl⟩ | ⟨g, cap, cur, rfl, _, hg, hc, _⟩
  · exact ⟨none, 0, rfl, fun _ => rfl, Nat.le_refl _, fun hp => by have := h.1; omega⟩
  · refine ⟨some ⟨g, 0, none⟩, cap, rfl, (fun e => by cases e), hc, fun _ => ⟨g, 0, rfl, fun j u hu => ?_⟩⟩
    have hj : j < xs.length := by
      rcases Nat.lt_or_ge j xs.length with h1 | h1
      · exact h1
      · rw [List.getElem?_eq_none h1] at hu; cases hu
    have := h.cellAt (g := g) j (by have := h.1; omega)
    rw [Nat.zero_add, this, hu]
theorem RowIs.take {w : World} {A : Option Addr} {xs : List Value} (h : RowIs w A xs) (m : Nat) : RowIs w A (xs.take m) := fun hp => by
  obtain ⟨b, off, e, hc⟩ := h (by simp at hp; omega)
  refine ⟨b, off, e, fun j u hu => hc j u ?_⟩
  rw [List.getElem?_take] at hu
  split at hu
  · exact hu
  · cases hu
theorem RowIs.drop {w : World} {g off : Nat} {xs : List Value} (h : RowIs w (some ⟨g, off, none⟩) xs) (m : Nat) : RowIs w (some ⟨g, off + m, none⟩) (xs.drop m) := fun hp => by
  have hm : m < xs.length := by simp at hp; omega
  obtain ⟨b, o, e, hc⟩ := h (by omega)
  injection e with e; injection e with e1 e2
  subst e1 e2
  refine ⟨g, off + m, rfl, fun j u hu => ?_⟩
  rw [List.getElem?_drop] at hu
  have := hc (m + j) u hu
  rw [← Nat.add_assoc] at this
  exact this
/-- An alert's labels, read. -/
def GoodR (w : World) (p : AltC) : Prop := ∃ A c, p.2.1 = .slice A p.2.2.length c ∧ (A = none → c = 0) ∧ IsLabs w A p.2.2
theorem GoodR.below {w w' : World} {p : AltC} (h : GoodR w p) (hb : Below w.heap.size w w') : GoodR w' p := by
  obtain ⟨A, c, h1, h2, h3⟩ := h
  exact ⟨A, c, h1, h2, h3.below hb⟩
/-- Alerts that may be read. -/
structure AltsR (w : World) (A : Option Addr) (n c : Nat) (L : List AltC) : Prop where
  len : L.length = n
  nil : A = none → c = 0
  row : RowIs w A (alc L)
  good : ∀ p ∈ L, GoodR w p
theorem AltsR.below {w w' : World} {A : Option Addr} {n c : Nat} {L : List AltC} (h : AltsR w A n c L) (hb : Below w.heap.size w w') : AltsR w' A n c L := ⟨h.len, h.nil, h.row.below hb, fun p hp => (h.good p hp).below hb⟩
theorem AltsR.at {w : World} {A : Option Addr} {n c : Nat} {L : List AltC} (h : AltsR w A n c L) {j : Nat} (hj : j < n) : ∃ b off, A = some ⟨b, off, none⟩ ∧ w.cell? ⟨b, off + j * 3, none⟩ = some (.int .i64 (anth L j).1) ∧ w.cell? ⟨b, off + j * 3 + 1, none⟩ = some (anth L j).2.1 ∧ w.cell? ⟨b, off + j * 3 + 2, none⟩ = some (.float .f64 0) := by
  have hl := h.len
  obtain ⟨b, off, e, hc⟩ := h.row (by rw [alc_len]; omega)
  obtain ⟨g1, g2, g3⟩ := alc_get L j (by omega)
  exact ⟨b, off, e, hc _ _ g1, by have := hc _ _ g2; rw [← Nat.add_assoc] at this; exact this, by have := hc _ _ g3; rw [← Nat.add_assoc] at this; exact this⟩

/-- Of the first ones. -/
theorem found_snoc (T : List Ent) (p : Ent) (ms : List Mat) : found (T ++ [p]) ms = found T ms ++ if Mat.allHold ms p.2 then [p.1] else [] := by
  unfold found
  rw [List.filter_append, List.map_append]
  congr 1
  cases h : Mat.allHold ms p.2 <;> simp [h]
set_option maxRecDepth 100000 in
set_option maxHeartbeats 4000000 in
theorem those_any {w : World} {A : Option Addr} {n c : Nat} {L : List AltC} (h : AltsR w A n c L) (hn : n ≤ 900) (hsz : ∀ p ∈ L, p.2.2.length ≤ 1000 ∧ ∀ x ∈ p.2.2, x.2.size ≤ 100) (ms : List Mat) (B : Option Addr) (M cb : Nat) (hM : ms.length = M) (hM1 : M ≤ 1099511627776) (hs : SmallM ms) (hb : IsMats w B ms) :
    Calls Tryz.prog 24 #[.slice A n c, .slice B M cb] w (GaveZ w (IsRise (found (L.map ent) ms)) 1000) := by
  have H := Lib.hid h
  have LN := Lib.hid h.len
  have HB := Lib.hid hb
  have HS := Lib.hid hs
  have HM := Lib.hid hM
  have HZ := Lib.hid hsz
  clear h hb hs hM hsz
  have I0 : Hid (World.ownsRow w w.heap.size 3 1 (.slice none 0 0) 0 (zs (found ((L.take 0).map ent) ms)) ∧ Below w.heap.size w w) := ⟨World.ownsRow_nil _ _ _ _, Below.refl _ _⟩
  go_enter Tryz.func24, Tryz.ntmps24
  go_wp2
  go_loopw [5, 6] (fun v i wr => ∃ (y : Value) (k q : Nat), y = v ∧ k ≤ n ∧ q ≤ k ∧ i = .int .i64 (k : Int) ∧ Hid (World.ownsRow wr w.heap.size 3 1 y q (zs (found ((L.take k).map ent) ms)) ∧ Below w.heap.size w wr)) (fun _ i _ => n - (intOf i).toNat)
  case atStart => exact ⟨_, 0, 0, rfl, by omega, by omega, rfl, I0⟩
  case round =>
    clear I0
    obtain ⟨y, k, q, rfl, hk, hq, rfl, HI⟩ := hrel
    by_cases hkn : k < n
    · have hkz : (k : Int) < (n : Int) := by omega
      obtain ⟨b, off, rfl, d0, d1, _⟩ := (H.out.below HI.out.2).at hkn
      have WL : Hid (IntKind.i64.wrap ((k : Int) + 1) = (k : Int) + 1) := by show _ = _; rw [IntKind.wrap_i64]; omega
      have hl : k < L.length := by rw [LN.out]; exact hkn
      obtain ⟨A', c', e1, _, hi⟩ := (H.out.below HI.out.2).good _ (anth_mem hl)
      have hz := HZ.out _ (anth_mem hl)
      have STEP : Hid (found ((L.take (k + 1)).map ent) ms = found ((L.take k).map ent) ms ++ if Mat.allHold ms (anth L k).2.2 then [(anth L k).1] else []) := by
        show _ = _
        rw [List.take_succ_eq_append_getElem hl, List.map_append, ← anth_eq hl]
        exact found_snoc _ (ent (anth L k)) ms
      rw [e1] at d1
      obtain ⟨z, hz1⟩ : ∃ z, (anth L k).1 = z := ⟨_, rfl⟩
      obtain ⟨ls, hl1⟩ : ∃ ls, (anth L k).2.2 = ls := ⟨_, rfl⟩
      rw [hl1] at hi hz d1 STEP
      rw [hz1] at d0 STEP
      obtain ⟨nl, hnl⟩ : ∃ nl, ls.length = nl := ⟨_, rfl⟩
      have CA := Lib.hid (rall_any ms B M cb ls A' nl c' wr HM.out hM1 HS.out (HB.out.below HI.out.2) hnl (by rw [← hnl]; exact hz.1) hz.2 hi)
      rw [hnl] at d1
      have OB := Lib.hid HI.out
      clear hz1 hl1 hi hz e1 hnl HI
      cases hh : Mat.allHold ms ls
      · rw [hh] at CA STEP
        have ST2 : Hid (found ((L.take (k + 1)).map ent) ms = found ((L.take k).map ent) ms) := by show _ = _; rw [STEP.out]; simp
        clear hh STEP
        go_wp2_with fail
        refine CA.out.mono ?_
        rintro e w4 ⟨rfl, b4⟩
        have I6 : Hid (World.ownsRow w4 w.heap.size 3 1 y q (zs (found ((L.take (k + 1)).map ent) ms)) ∧ Below w.heap.size w w4) := ⟨by rw [ST2.out]; exact own_keepL OB.out.1 b4, OB.out.2.trans (b4.mono OB.out.2.size)⟩
        clear b4 OB CA ST2 d0 d1
        go_wp2_with (rw [WL.out])
        go_roundw
        case rel => exact ⟨_, k + 1, q, rfl, by omega, by omega, by go_num, I6⟩
        case measure => simp [intOf]; omega
      · rw [hh] at CA STEP
        have ST2 : Hid (found ((L.take (k + 1)).map ent) ms = found ((L.take k).map ent) ms ++ [z]) := by show _ = _; rw [STEP.out]; simp
        clear hh STEP
        go_wp2_with fail
        refine CA.out.mono ?_
        rintro e w4 ⟨rfl, b4⟩
        have d4 : w4.cell? ⟨b, off + k * 3, none⟩ = some (.int .i64 z) := (b4.cell (World.block_lt_of_cell? wr _ d0)).trans d0
        have O1 : Hid (World.ownsRow (w4.alloc (.cells #[.int .i64 z] 3)) w.heap.size 3 1 y q (zs (found ((L.take k).map ent) ms))) := (own_keepL OB.out.1 b4).alloc _
        have B4 : Below w.heap.size w w4 := OB.out.2.trans (b4.mono OB.out.2.size)
        have B1 : Hid (Below w.heap.size w (w4.alloc (.cells #[.int .i64 z] 3))) := B4.alloc B4.size _
        have LZ := Lib.hid (lit_z w4 z)
        clear B4 b4 OB CA d0 d1
        go_wp2_with (at_builtin; refine wpList_appZ rfl _ _ rfl w.heap.size y q _ rfl O1.out (some ⟨w4.heap.size, 0, none⟩) 1 1 [z] rfl rfl (fun e => by cases e) LZ.out (by omega) B1.out.size ?_; intro v6 w6 o6 g6)
        have I6 : Hid (World.ownsRow w6 w.heap.size 3 1 v6 (q + 1) (zs (found ((L.take (k + 1)).map ent) ms)) ∧ Below w.heap.size w w6) := ⟨by rw [ST2.out]; exact o6, B1.out.grown g6 B1.out.size (fun q hq => own_geZ O1.out q hq)⟩
        clear o6 g6 O1 B1 LZ d4 ST2
        go_wp2_with (rw [WL.out])
        go_roundw
        case rel => exact ⟨_, k + 1, q + 1, rfl, by omega, by omega, by go_num, I6⟩
        case measure => simp [intOf]; omega
    · obtain rfl : k = n := by omega
      have hkz : ¬ (k : Int) < (k : Int) := by omega
      obtain ⟨A7, c7, rfl, s7⟩ := GaveZ.of_own (K := 1000) HI.out.1 (by omega) (by omega)
      have C := Lib.hid (rising_s s7)
      have BB := Lib.hid HI.out.2
      have EL : Hid ((L.take k).map ent = L.map ent) := by show _ = _; rw [List.take_of_length_le (by rw [LN.out]; exact Nat.le_refl _)]
      clear s7 HI
      go_wp2_with fail
      refine C.out.mono ?_
      rintro e w5 ⟨o5, A5, n5, c5, rfl, r5, s5, b5⟩
      have Q : Hid (IsRise (found (L.map ent) ms) o5 ∧ SlZ w5 o5 A5 n5 c5 1000 ∧ Below w.heap.size w w5) := ⟨by rw [← EL.out]; exact r5, s5, BB.out.trans (b5.mono BB.out.size)⟩
      clear r5 s5 b5 C BB EL
      go_wp2
      go_ret
      exact ⟨o5, A5, n5, c5, rfl, Q.out⟩
end Go.Proofs.YtlfcjjlgkcfkdaaGreatDoor

