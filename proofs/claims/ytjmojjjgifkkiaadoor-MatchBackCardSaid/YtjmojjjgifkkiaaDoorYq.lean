/-
  What Bytes and the reference's ListBytes do: a new slice with the list's bytes, none of matchers that are no list. Conditions: names and values of at most 1000 bytes.
-/
import Derived.Test.YtjmojjjgifkkiaaDoorYp
import Derived.Test.YtjmojjjgifkkiaaDoorYf
namespace Go.Proofs.YtjmojjjgifkkiaaDoor
open Go.RowKit Go.Sort

theorem ok_sizes {m : Mat} (h : m.ok = true) : (m.n.size ≤ 40 ∧ m.v.size ≤ 40) ∧ (m.k = 1 ∨ m.k = 2 ∨ m.k = 3 ∨ m.k = 4) := by
  simp only [Mat.ok, Bool.and_eq_true] at h
  obtain ⟨hn, hv⟩ := h
  have hn2 : m.n.size ≤ 12 := by simp only [La.name, decide_eq_true_eq] at hn; exact hn.2.1
  unfold Mat.okV at hv
  by_cases h1 : m.k = 1 ∨ m.k = 2
  · rw [if_pos h1, decide_eq_true_eq] at hv
    exact ⟨⟨by omega, by omega⟩, by omega⟩
  · rw [if_neg h1] at hv
    by_cases h3 : m.k = 3 ∨ m.k = 4
    · rw [if_pos h3, Option.isSome_iff_exists] at hv
      obtain ⟨t, ht⟩ := hv
      refine ⟨⟨by omega, ?_⟩, by omega⟩
      unfold Pz.parse at ht
      rw [txt8_len] at ht
      split at ht
      · cases ht
      · omega
    · rw [if_neg h3] at hv; cases hv
theorem list_ok {l : List Mat} (h : Mat.isList l = true) : ∀ x ∈ l, x.ok = true := by
  intro x hx
  obtain ⟨j, hj, rfl⟩ := List.getElem_of_mem hx
  have := (Mat.isList_iff.1 h).2 j hj
  unfold Mat.okAt at this
  rw [Bool.and_eq_true, Mat.nth_eq hj] at this
  exact this.1
theorem list_sizes {l : List Mat} (h : Mat.isList l = true) : ∀ x ∈ l, x.n.size ≤ 40 ∧ x.v.size ≤ 40 := fun x hx => (ok_sizes (list_ok h x hx)).1
theorem list_kind {l : List Mat} (h : Mat.isList l = true) {j : Nat} (hj : j < l.length) : ∃ kb : Nat, (Mat.nth l j).k = (kb : Int) ∧ kb < 256 ∧ ((Mat.nth l j).k % 256).toNat = kb := by
  have := (ok_sizes (list_ok h _ (Mat.nth_mem hj))).2
  refine ⟨(Mat.nth l j).k.toNat, by omega, by omega, by omega⟩
/-- What the loop keeps. -/
structure ByM (w : World) (l : List Mat) (k : Nat) (v : Value) (wr : World) : Prop where
  own : wr.ownsRow w.heap.size 5 1 v (matsTo l k).length (by8 (matsTo l k))
  bel : Below w.heap.size w wr
theorem ptext_is8 (s : ByteArray) (w : World) (h : s.size ≤ 40) : Calls Tryd.prog 57 #[.string s] w fun e w' => ∃ A c, e = .returned (.slice A (putText s).length c) ∧ (A = none → c = 0) ∧ IsBytes w' A (putText s) ∧ Below w.heap.size w w' :=
  (ptext_any s w (by omega)).mono fun _ _ h2 => made_form h2 (ptext_byte (by omega))
theorem rptext_is8 (s : ByteArray) (w : World) (h : s.size ≤ 40) : Calls Tryd.prog 59 #[.string s] w fun e w' => ∃ A c, e = .returned (.slice A (putText s).length c) ∧ (A = none → c = 0) ∧ IsBytes w' A (putText s) ∧ Below w.heap.size w w' :=
  (rptext_any s w (by omega)).mono fun _ _ h2 => made_form h2 (ptext_byte (by omega))
theorem lit_byte (w : World) (k : Nat) (hk : k < 256) : IsBytes (w.alloc (.cells #[.int .u8 (k : Int)] 5)) (some ⟨w.heap.size, 0, none⟩) [k] :=
  ⟨fun j => by
    cases j with
    | zero => exact hk
    | succ j => simp, fun _ => ⟨w.heap.size, 0, rfl, fun j hj => by
    obtain rfl : j = 0 := by simpa using hj
    rw [cell_of_row _ w.heap.size _ _ 5 (0, 0) (heap_alloc_new w _)]
    simp⟩⟩
/-- append(v, l...) of bytes, and where the new row lies. -/
theorem wpList_appBt {ops : Array Oper} {rest : List Oper} {o : Oper} {a : Act} {w : World} {Q : Exit → Act → World → Prop} (hgd : o.guard = none) (s x : Operand) (ho : o.op = .call { callee := .builtin .append, args := #[s, x], argTypes := #[38, 38] })
    (base : Nat) (v : Value) (n : Nat) (xs : List Nat) (hs : a.eval s = v) (hown : w.ownsRow base 5 1 v n (by8 xs)) (A : Option Addr) (L c : Nat) (l : List Nat) (hx : a.eval x = .slice A L c) (hn : xs.length = n) (hL : l.length = L) (hp : 0 < l.length) (hi : IsBytes w A l)
    (hlen : n + L ≤ 1099511627776) (hbase : base ≤ w.heap.size)
    (h : ∀ v' w', w'.ownsRow base 5 1 v' (n + L) (by8 (xs ++ l)) → w.grownBy w' v.ownBlock → (v'.ownBlock = v.ownBlock ∨ v'.ownBlock = some w.heap.size) → wpList Tryd.prog ops Q rest (a.put o.dst v') w') : wpList Tryd.prog ops Q (o :: rest) a w := by
  obtain ⟨i0, hi0, hz0, hz1, hz2⟩ := info_parts Tryd.info5
  subst hL hn
  obtain ⟨b, off, rfl, hc⟩ := hi.2 hp
  have hcells : ∀ j u, (by8 l)[j]? = some u → w.cell? ((⟨b, off, none⟩ : Addr).add j) = some u := by
    intro j u hu
    by_cases hj : j < l.length
    · have e2 : (⟨b, off, none⟩ : Addr).add j = ⟨b, off + j, none⟩ := by unfold Addr.add; split <;> simp_all
      rw [e2, hc j hj, ← hu]
      simp [by8, List.getElem?_eq_getElem hj]
    · rw [List.getElem?_eq_none (by simp [by8]; omega)] at hu; cases hu
  refine wpList_append_own_at (P := Tryd.prog) w hgd s x 38 ho base 5 i0 (.int .u8 0) 1 1 Tryd.underlying38 hi0 hz0 hz1 hz2 rfl (by decide) v _ _ hs hown ⟨b, off, none⟩ l.length c (by8 l) hx (by simp [by8]) hcells (by8_one l) (by unfold maxLen; omega) (by omega) hbase ?_
  intro v' w' h1 h2 _ h4
  exact h v' w' (by rw [by8_app]; exact h1) h2 h4
theorem ptext_pos (s : ByteArray) : 0 < (putText s).length := by
  rw [putText, List.length_append]
  have := Vm.putF_pos 9 s.size
  unfold Vm.put
  omega

set_option maxRecDepth 100000 in
set_option maxHeartbeats 4000000 in
theorem mbytes_any (l : List Mat) (A : Option Addr) (N cap : Nat) (w : World) (hN : l.length = N) (hl : N ≤ 1048576) (hsm : SmallM l) (ha : IsMats w A l) :
    Calls Tryd.prog 28 #[.slice A N cap] w (MadeBytes w (matsBytes l)) := by
  have CI := Lib.hid (mlist_any l A N cap w hN (by omega) hsm ha)
  have HA := Lib.hid ha
  have HN := Lib.hid hN
  clear ha hsm
  cases hs : Mat.isList l
  · rw [hs] at CI
    have E : Hid (matsBytes l = []) := by show _ = _; rw [matsBytes, hs]; rfl
    clear hs HA hN
    go_enter Tryd.func28, Tryd.ntmps28
    go_wp2_with fail
    refine CI.out.mono ?_
    rintro e w' ⟨rfl, b⟩
    have B := Lib.hid b
    clear b CI
    go_wp2
    go_ret
    exact ⟨_, rfl, by rw [E.out]; exact World.ownsRow_nil _ _ _ _, B.out⟩
  · rw [hs] at CI
    have h6 : N ≤ 5 := by have := (Mat.isList_iff.1 hs).1; omega
    have E : Hid (matsBytes l = matsTo l N) := by show _ = _; rw [matsBytes, hs, if_pos rfl, hN]
    have HL := Lib.hid (matsTo_len (m := 40) (list_sizes hs))
    have SZ := Lib.hid (fun k hk => list_sizes hs _ (Mat.nth_mem (l := l) (j := k) hk))
    have KB := Lib.hid (fun k hk => list_kind hs (j := k) hk)
    have US := Lib.hid (fun k => matsTo_succ (l := l) (k := k))
    have U0 := Lib.hid (matsTo_zero l)
    rw [hN] at U0 HL SZ KB US
    clear hs hl hN
    have PN := Lib.hid (fun W => put_any N W (by unfold Vm.Fits; omega))
    go_enter Tryd.func28, Tryd.ntmps28
    go_wp2_with fail
    refine CI.out.mono ?_
    rintro e w1 ⟨rfl, b1⟩
    clear CI
    go_wp2_with fail
    refine (PN.out w1).mono ?_
    rintro e w2 ⟨v, rfl, o2, b2⟩
    have I0 : Hid (ByM w l 0 v w2) := ⟨by rw [U0.out]; exact own_baseL o2 b1.size, b1.trans (b2.mono b1.size)⟩
    clear o2 b1 b2 PN U0
    go_wp2
    go_loopw [3, 15] (fun v i wr => ∃ k : Nat, k ≤ N ∧ i = .int .i64 (k : Int) ∧ Hid (ByM w l k v wr)) (fun _ i _ => N - (intOf i).toNat)
    case atStart => exact ⟨0, by omega, rfl, I0⟩
    case round =>
      clear I0
      obtain ⟨k, hk, rfl, HI⟩ := hrel
      by_cases hkn : k < N
      · have hc' := (HA.out.below HI.out.bel) (by rw [HN.out]; omega)
        obtain ⟨b, off, rfl, hc⟩ := hc'
        have HC : Hid (∀ W, Below w.heap.size w W → W.cell? ⟨b, off + k * 3, none⟩ = some (.int .i64 (Mat.nth l k).k) ∧ W.cell? ⟨b, off + k * 3 + 1, none⟩ = some (.string (Mat.nth l k).n) ∧ W.cell? ⟨b, off + k * 3 + 2, none⟩ = some (.string (Mat.nth l k).v)) := fun W hW => by
          obtain ⟨b', off', e, hx⟩ := (HA.out.below hW) (by rw [HN.out]; omega)
          injection e with e; injection e with e1 e2
          subst e1 e2
          exact hx k (by rw [HN.out]; exact hkn)
        obtain ⟨kb, hkb, hkb2, hkb3⟩ := KB.out k hkn
        have hkz : (k : Int) < (N : Int) := by omega
        obtain ⟨s1, s2⟩ := SZ.out k hkn
        have UK := Lib.hid (US.out k hkn)
        rw [hkb3] at UK
        have hlen := HL.out k hk
        have hp1 := La.ptext_len (Mat.nth l k).n
        have hp2 := La.ptext_len (Mat.nth l k).v
        obtain ⟨x, hx⟩ : ∃ x, (Mat.nth l k).n = x := ⟨_, rfl⟩
        obtain ⟨y, hy⟩ : ∃ y, (Mat.nth l k).v = y := ⟨_, rfl⟩
        rw [hx] at s1 hp1 UK HC
        rw [hy] at s2 hp2 UK HC
        rw [hkb] at HC
        have hw8 : IntKind.u8.wrap (kb : Int) = (kb : Int) := by rw [IntKind.wrap_u8]; omega
        clear hx hy hc hkb hkb3
        obtain ⟨L1, hL1⟩ : ∃ L1, matsTo l k ++ [kb] = L1 := ⟨_, rfl⟩
        have HL1 := Lib.hid hL1
        have len1 : Hid (L1.length = (matsTo l k).length + 1) := by show _ = _; rw [← hL1, List.length_append, List.length_singleton]
        rw [hL1] at UK
        obtain ⟨L2, hL2⟩ : ∃ L2, L1 ++ putText x = L2 := ⟨_, rfl⟩
        have HL2 := Lib.hid hL2
        have len2 : Hid (L2.length = (matsTo l k).length + 1 + (putText x).length) := by show _ = _; rw [← hL2, List.length_append, len1.out]
        rw [hL2] at UK
        clear hL1 hL2
        have P1 := Lib.hid (fun W => ptext_is8 x W s1)
        have P2 := Lib.hid (fun W => ptext_is8 y W s2)
        obtain ⟨c0, c1, c2⟩ := HC.out wr HI.out.bel
        have BA : Hid (Below w.heap.size w ((wr.alloc (.cells #[.int .i64 (kb : Int), .string x, .string y] 26)).alloc (.cells #[.int .u8 (kb : Int)] 5))) := (HI.out.bel.alloc HI.out.bel.size _).alloc (HI.out.bel.alloc HI.out.bel.size _).size _
        have OA : Hid (((wr.alloc (.cells #[.int .i64 (kb : Int), .string x, .string y] 26)).alloc (.cells #[.int .u8 (kb : Int)] 5)).ownsRow w.heap.size 5 1 u3 (matsTo l k).length (by8 (matsTo l k))) := (HI.out.own.alloc _).alloc _
        have LBL : Hid (((wr.alloc (.cells #[.int .i64 (kb : Int), .string x, .string y] 26)).alloc (.cells #[.int .u8 (kb : Int)] 5)).heap[wr.heap.size]? = some (.cells #[.int .i64 (kb : Int), .string x, .string y] 26)) := by
          have b : Below (wr.alloc (.cells #[.int .i64 (kb : Int), .string x, .string y] 26)).heap.size (wr.alloc (.cells #[.int .i64 (kb : Int), .string x, .string y] 26)) ((wr.alloc (.cells #[.int .i64 (kb : Int), .string x, .string y] 26)).alloc (.cells #[.int .u8 (kb : Int)] 5)) := (Below.refl _ _).alloc (Nat.le_refl _) _
          exact (b.block _ (by simp)).trans (heap_alloc_new wr _)
        have LITB : Hid (IsBytes ((wr.alloc (.cells #[.int .i64 (kb : Int), .string x, .string y] 26)).alloc (.cells #[.int .u8 (kb : Int)] 5)) (some ⟨wr.heap.size + 1, 0, none⟩) [kb]) := by
          have := lit_byte (wr.alloc (.cells #[.int .i64 (kb : Int), .string x, .string y] 26)) kb hkb2
          have e : (wr.alloc (.cells #[.int .i64 (kb : Int), .string x, .string y] 26)).heap.size = wr.heap.size + 1 := by simp
          rw [e] at this; exact this
        have ZS : Hid (((wr.alloc (.cells #[.int .i64 (kb : Int), .string x, .string y] 26)).alloc (.cells #[.int .u8 (kb : Int)] 5)).heap.size = wr.heap.size + 2) := by show _ = _; simp
        have LT : Hid (u3.ownBlock ≠ some wr.heap.size) := fun e => by have := (HI.out.own.lt _ e).2; omega
        clear HI
        go_wp2_with (at_builtin; refine wpList_appBt rfl _ _ rfl w.heap.size _ (matsTo l k).length (matsTo l k) rfl OA.out (some ⟨wr.heap.size + 1, 0, none⟩) 1 1 [kb] rfl rfl rfl (by simp) LITB.out (by omega) BA.out.size ?_)
        intro v4 w4 o4 g4 m4
        rw [HL1.out] at o4
        have d4 := BA.out.grown g4 BA.out.size (own_geL OA.out)
        have h4 := (g4.block wr.heap.size (by have := ZS.out; omega) (Ne.symm LT.out)).trans LBL.out
        have LT4 : Hid (v4.ownBlock ≠ some wr.heap.size) := fun e => by
          rcases m4 with m | m
          · rw [m] at e; exact LT.out e
          · rw [m] at e; injection e with e; have := ZS.out; omega
        have z4 : wr.heap.size < w4.heap.size := by have := g4.size; have := ZS.out; omega
        have l4 : w4.cell? ⟨wr.heap.size, 1, none⟩ = some (.string x) := by rw [cell_of_row _ wr.heap.size 1 _ 26 (0, 0) h4]; rfl
        have H4 := Lib.hid h4
        clear OA BA LBL LITB ZS LT g4 m4 h4 c0 c1 c2
        go_wp2_with fail
        refine (P1.out _).mono ?_
        rintro e w5 ⟨A1, k1, rfl, n1, i1, b5⟩
        have o5 := own_keepL o4 b5
        have d5 := d4.trans (b5.mono d4.size)
        have h5 := (b5.block wr.heap.size z4).trans H4.out
        have H5 := Lib.hid h5
        have z5 : wr.heap.size < w5.heap.size := Nat.lt_of_lt_of_le z4 b5.size
        clear o4 d4 b5 P1 l4 H4 h5 z4
        go_wp2_with (at_builtin; refine wpList_appBt rfl _ _ rfl w.heap.size _ ((matsTo l k).length + 1) L1 rfl o5 A1 _ k1 (putText x) rfl len1.out rfl (ptext_pos x) i1 (by omega) d5.size ?_)
        intro v6 w6 o6 g6 m6
        clear m6
        rw [HL2.out] at o6
        have d6 := d5.grown g6 d5.size (own_geL o5)
        have h6 := (g6.block wr.heap.size z5 (Ne.symm LT4.out)).trans H5.out
        have l6 : w6.cell? ⟨wr.heap.size, 2, none⟩ = some (.string y) := by rw [cell_of_row _ wr.heap.size 2 _ 26 (0, 0) h6]; rfl
        clear h6 H5 LT4 o5 d5 g6 z5 n1 i1
        go_wp2_with fail
        refine (P2.out _).mono ?_
        rintro e w7 ⟨A2, k2, rfl, n2, i2, b7⟩
        have o7 := Lib.hid (own_keepL o6 b7)
        have d7 := Lib.hid (d6.trans (b7.mono d6.size))
        have i2 := Lib.hid i2
        clear o6 d6 b7 P2 l6 n2
        go_wp2_with (at_builtin; refine wpList_appBt rfl _ _ rfl w.heap.size _ ((matsTo l k).length + 1 + (putText x).length) L2 rfl o7.out A2 _ k2 (putText y) rfl len2.out rfl (ptext_pos y) i2.out (by omega) d7.out.size ?_)
        intro v8 w8 o8 g8 m8
        clear m8
        have I2 : Hid (ByM w l (k + 1) v8 w8) := ⟨by rw [UK.out, List.length_append, len2.out]; exact o8, d7.out.grown g8 d7.out.size (own_geL o7.out)⟩
        clear o7 d7 o8 g8 i2
        go_wp2
        go_roundw
        case rel => exact ⟨k + 1, by omega, by go_num, I2⟩
        case measure => simp [intOf]; omega
      · obtain rfl : k = N := by omega
        have hkz : ¬ (k : Int) < (k : Int) := by omega
        have R : Hid (MadeBytes w (matsBytes l) (.returned u3) wr) := by rw [E.out]; exact ⟨_, rfl, HI.out.own, HI.out.bel⟩
        clear HI
        go_wp2
        go_ret
        exact R.out

set_option maxRecDepth 100000 in
set_option maxHeartbeats 4000000 in
theorem rlistbytes_any (l : List Mat) (A : Option Addr) (N cap : Nat) (w : World) (hN : l.length = N) (hl : N ≤ 1048576) (hsm : SmallM l) (ha : IsMats w A l) :
    Calls Tryd.prog 29 #[.slice A N cap] w (MadeBytes w (matsBytes l)) := by
  have CI := Lib.hid (rlist_any l A N cap w hN (by omega) hsm ha)
  have HA := Lib.hid ha
  have HN := Lib.hid hN
  clear ha hsm
  cases hs : Mat.isList l
  · rw [hs] at CI
    have E : Hid (matsBytes l = []) := by show _ = _; rw [matsBytes, hs]; rfl
    clear hs HA hN
    go_enter Tryd.func29, Tryd.ntmps29
    go_wp2_with fail
    refine CI.out.mono ?_
    rintro e w' ⟨rfl, b⟩
    have B := Lib.hid b
    clear b CI
    go_wp2
    go_ret
    exact ⟨_, rfl, by rw [E.out]; exact World.ownsRow_nil _ _ _ _, B.out⟩
  · rw [hs] at CI
    have h6 : N ≤ 5 := by have := (Mat.isList_iff.1 hs).1; omega
    have E : Hid (matsBytes l = matsTo l N) := by show _ = _; rw [matsBytes, hs, if_pos rfl, hN]
    have HL := Lib.hid (matsTo_len (m := 40) (list_sizes hs))
    have SZ := Lib.hid (fun k hk => list_sizes hs _ (Mat.nth_mem (l := l) (j := k) hk))
    have KB := Lib.hid (fun k hk => list_kind hs (j := k) hk)
    have US := Lib.hid (fun k => matsTo_succ (l := l) (k := k))
    have U0 := Lib.hid (matsTo_zero l)
    rw [hN] at U0 HL SZ KB US
    clear hs hl hN
    have PN := Lib.hid (fun W => rput_any N W (by unfold Vm.Fits; omega))
    go_enter Tryd.func29, Tryd.ntmps29
    go_wp2_with fail
    refine CI.out.mono ?_
    rintro e w1 ⟨rfl, b1⟩
    clear CI
    go_wp2_with fail
    refine (PN.out w1).mono ?_
    rintro e w2 ⟨v, rfl, o2, b2⟩
    have I0 : Hid (ByM w l 0 v w2) := ⟨by rw [U0.out]; exact own_baseL o2 b1.size, b1.trans (b2.mono b1.size)⟩
    clear o2 b1 b2 PN U0
    go_wp2
    go_loopw [3, 4] (fun v i wr => ∃ k : Nat, k ≤ N ∧ i = .int .i64 (k : Int) ∧ Hid (ByM w l k v wr)) (fun _ i _ => N - (intOf i).toNat)
    case atStart => exact ⟨0, by omega, rfl, I0⟩
    case round =>
      clear I0
      obtain ⟨k, hk, rfl, HI⟩ := hrel
      by_cases hkn : k < N
      · have hc' := (HA.out.below HI.out.bel) (by rw [HN.out]; omega)
        obtain ⟨b, off, rfl, hc⟩ := hc'
        have HC : Hid (∀ W, Below w.heap.size w W → W.cell? ⟨b, off + k * 3, none⟩ = some (.int .i64 (Mat.nth l k).k) ∧ W.cell? ⟨b, off + k * 3 + 1, none⟩ = some (.string (Mat.nth l k).n) ∧ W.cell? ⟨b, off + k * 3 + 2, none⟩ = some (.string (Mat.nth l k).v)) := fun W hW => by
          obtain ⟨b', off', e, hx⟩ := (HA.out.below hW) (by rw [HN.out]; omega)
          injection e with e; injection e with e1 e2
          subst e1 e2
          exact hx k (by rw [HN.out]; exact hkn)
        obtain ⟨kb, hkb, hkb2, hkb3⟩ := KB.out k hkn
        have hkz : (k : Int) < (N : Int) := by omega
        obtain ⟨s1, s2⟩ := SZ.out k hkn
        have UK := Lib.hid (US.out k hkn)
        rw [hkb3] at UK
        have hlen := HL.out k hk
        have hp1 := La.ptext_len (Mat.nth l k).n
        have hp2 := La.ptext_len (Mat.nth l k).v
        obtain ⟨x, hx⟩ : ∃ x, (Mat.nth l k).n = x := ⟨_, rfl⟩
        obtain ⟨y, hy⟩ : ∃ y, (Mat.nth l k).v = y := ⟨_, rfl⟩
        rw [hx] at s1 hp1 UK HC
        rw [hy] at s2 hp2 UK HC
        rw [hkb] at HC
        have hw8 : IntKind.u8.wrap (kb : Int) = (kb : Int) := by rw [IntKind.wrap_u8]; omega
        clear hx hy hc hkb hkb3
        obtain ⟨L1, hL1⟩ : ∃ L1, matsTo l k ++ [kb] = L1 := ⟨_, rfl⟩
        have HL1 := Lib.hid hL1
        have len1 : Hid (L1.length = (matsTo l k).length + 1) := by show _ = _; rw [← hL1, List.length_append, List.length_singleton]
        rw [hL1] at UK
        obtain ⟨L2, hL2⟩ : ∃ L2, L1 ++ putText x = L2 := ⟨_, rfl⟩
        have HL2 := Lib.hid hL2
        have len2 : Hid (L2.length = (matsTo l k).length + 1 + (putText x).length) := by show _ = _; rw [← hL2, List.length_append, len1.out]
        rw [hL2] at UK
        clear hL1 hL2
        have P1 := Lib.hid (fun W => rptext_is8 x W s1)
        have P2 := Lib.hid (fun W => rptext_is8 y W s2)
        obtain ⟨c0, c1, c2⟩ := HC.out wr HI.out.bel
        have BA : Hid (Below w.heap.size w (wr.alloc (.cells #[.int .u8 (kb : Int)] 5))) := HI.out.bel.alloc HI.out.bel.size _
        have OA : Hid ((wr.alloc (.cells #[.int .u8 (kb : Int)] 5)).ownsRow w.heap.size 5 1 u3 (matsTo l k).length (by8 (matsTo l k))) := HI.out.own.alloc _
        have LITB := Lib.hid (lit_byte wr kb hkb2)
        clear HI
        go_wp2_with (at_builtin; refine wpList_appBt rfl _ _ rfl w.heap.size _ (matsTo l k).length (matsTo l k) rfl OA.out (some ⟨wr.heap.size, 0, none⟩) 1 1 [kb] rfl rfl rfl (by simp) LITB.out (by omega) BA.out.size ?_)
        intro v4 w4 o4 g4 m4
        clear m4
        rw [HL1.out] at o4
        have D4 := Lib.hid (BA.out.grown g4 BA.out.size (own_geL OA.out))
        have O4 := Lib.hid o4
        clear OA BA LITB g4 o4 c0 c1 c2
        go_wp2_with fail
        refine wp_region_held_drew (S := fun W => Below w.heap.size w W) (by kernel_rfl) (D4.out.drew) (fun hHeld => ?_)
        refine held_take 0 27 (v := v4) rfl rfl (by kernel_rfl) (by kernel_rfl) (by kernel_rfl) (by rfl) (fun _ _ _ h => h) (by assumption) ?_ ?_
        · intro W hW
          go_simp
        simp only [List.setIfInBounds_toArray, List.set_cons_zero, List.set_cons_succ]
        refine held_take 1 28 (v := (.slice (some ⟨b, off, none⟩) N cap)) rfl rfl (by kernel_rfl) (by kernel_rfl) (by kernel_rfl) (by rfl) (fun _ _ _ h => h) (by assumption) ?_ ?_
        · intro W hW
          go_simp
        simp only [List.setIfInBounds_toArray, List.set_cons_zero, List.set_cons_succ]
        refine held_take 2 29 (v := (.int .i64 (k : Int))) rfl rfl (by kernel_rfl) (by kernel_rfl) (by kernel_rfl) (by rfl) (fun _ _ _ h => h) (by assumption) ?_ ?_
        · intro W hW
          go_simp
        simp only [List.setIfInBounds_toArray, List.set_cons_zero, List.set_cons_succ]
        refine held_take 3 30 (v := (.pointer (some ⟨b, off + k * 3, none⟩))) rfl rfl (by kernel_rfl) (by kernel_rfl) (by kernel_rfl) (by rfl) (fun _ _ _ h => h) (by assumption) ?_ ?_
        · intro W hW
          go_simp
        simp only [List.setIfInBounds_toArray, List.set_cons_zero, List.set_cons_succ]
        refine held_take 4 31 (v := (.pointer (some ⟨b, off + k * 3 + 1, none⟩))) rfl rfl (by kernel_rfl) (by kernel_rfl) (by kernel_rfl) (by rfl) (fun _ _ _ h => h) (by assumption) ?_ ?_
        · intro W hW
          go_simp
        simp only [List.setIfInBounds_toArray, List.set_cons_zero, List.set_cons_succ]
        refine held_take 5 32 (v := (.string x)) rfl rfl (by kernel_rfl) (by kernel_rfl) (by kernel_rfl) (by rfl) (fun _ _ _ h => h) (by assumption) ?_ ?_
        · intro W hW
          obtain ⟨c0, c1, c2⟩ := HC.out W hW
          go_simp
        simp only [List.setIfInBounds_toArray, List.set_cons_zero, List.set_cons_succ]
        refine held_take 8 35 (v := (.slice (some ⟨b, off, none⟩) N cap)) rfl rfl (by kernel_rfl) (by kernel_rfl) (by kernel_rfl) (by rfl) (fun _ _ _ h => h) (by assumption) ?_ ?_
        · intro W hW
          go_simp
        simp only [List.setIfInBounds_toArray, List.set_cons_zero, List.set_cons_succ]
        refine held_take 9 36 (v := (.int .i64 (k : Int))) rfl rfl (by kernel_rfl) (by kernel_rfl) (by kernel_rfl) (by rfl) (fun _ _ _ h => h) (by assumption) ?_ ?_
        · intro W hW
          go_simp
        simp only [List.setIfInBounds_toArray, List.set_cons_zero, List.set_cons_succ]
        refine held_take 10 37 (v := (.pointer (some ⟨b, off + k * 3, none⟩))) rfl rfl (by kernel_rfl) (by kernel_rfl) (by kernel_rfl) (by rfl) (fun _ _ _ h => h) (by assumption) ?_ ?_
        · intro W hW
          go_simp
        simp only [List.setIfInBounds_toArray, List.set_cons_zero, List.set_cons_succ]
        refine held_take 11 38 (v := (.pointer (some ⟨b, off + k * 3 + 2, none⟩))) rfl rfl (by kernel_rfl) (by kernel_rfl) (by kernel_rfl) (by rfl) (fun _ _ _ h => h) (by assumption) ?_ ?_
        · intro W hW
          go_simp
        simp only [List.setIfInBounds_toArray, List.set_cons_zero, List.set_cons_succ]
        refine held_take 12 39 (v := (.string y)) rfl rfl (by kernel_rfl) (by kernel_rfl) (by kernel_rfl) (by rfl) (fun _ _ _ h => h) (by assumption) ?_ ?_
        · intro W hW
          obtain ⟨c0, c1, c2⟩ := HC.out W hW
          go_simp
        simp only [List.setIfInBounds_toArray, List.set_cons_zero, List.set_cons_succ]
        refine held_op 6 rfl (by kernel_rfl) (by rfl) ?_
        refine wp_call (f := 59) (args := #[.string x]) rfl (by go_simp) ?_
        refine (P1.out _).mono ?_
        rintro e w5 ⟨A1, k1, rfl, n1, i1, b5⟩
        have o5 : w5.ownsRow w.heap.size 5 1 v4 ((matsTo l k).length + 1) (by8 L1) := own_keepL (w1 := w4.drew) O4.out b5
        have d5 : Below w.heap.size w w5 := D4.out.drew.trans (b5.mono D4.out.size)
        refine ⟨_, rfl, d5, ?_⟩
        simp only [List.setIfInBounds_toArray, List.set_cons_zero, List.set_cons_succ]
        clear b5 P1
        refine held_op 7 rfl (by kernel_rfl) (by rfl) ?_
        refine wp_appB (.tmp 27) (.tmp 33) rfl w.heap.size v4 _ L1 rfl o5 A1 _ k1 (putText x) rfl len1.out rfl n1 i1 (by omega) d5.size ?_
        intro v6 w6 o6 g6
        rw [HL2.out] at o6
        have d6 := d5.grown g6 d5.size (own_geL o5)
        refine ⟨d6, ?_⟩
        show wpAnyH _ _ _ _ _ _ _ ⟨Array.setIfInBounds _ 34 v6, _⟩ _
        simp only [List.setIfInBounds_toArray, List.set_cons_zero, List.set_cons_succ]
        refine held_op 13 rfl (by kernel_rfl) (by rfl) ?_
        refine wp_call (f := 59) (args := #[.string y]) rfl (by go_simp) ?_
        refine (P2.out _).mono ?_
        rintro e w7 ⟨A2, k2, rfl, n2, i2, b7⟩
        have o7 := own_keepL o6 b7
        have d7 := d6.trans (b7.mono d6.size)
        refine ⟨_, rfl, d7, ?_⟩
        simp only [List.setIfInBounds_toArray, List.set_cons_zero, List.set_cons_succ]
        clear o6 d6 b7 P2 o5 d5 g6 n1 i1
        refine held_op 14 rfl (by kernel_rfl) (by rfl) ?_
        refine wp_appB (.tmp 34) (.tmp 40) rfl w.heap.size v6 _ L2 rfl o7 A2 _ k2 (putText y) rfl len2.out rfl n2 i2 (by omega) d7.size ?_
        intro v8 w8 o8 g8
        have d8 := d7.grown g8 d7.size (own_geL o7)
        refine ⟨d8, ?_⟩
        show wpAnyH _ _ _ _ _ _ _ ⟨Array.setIfInBounds _ 41 v8, _⟩ _
        simp only [List.setIfInBounds_toArray, List.set_cons_zero, List.set_cons_succ]
        have I2 : Hid (ByM w l (k + 1) v8 w8) := ⟨by rw [UK.out, List.length_append, len2.out]; exact o8, d8⟩
        clear o7 d7 o8 g8 n2 i2
        refine held_take 15 3 (v := v8) rfl rfl (by kernel_rfl) (by kernel_rfl) (by kernel_rfl) (by rfl) (fun _ _ _ h => h) (by assumption) ?_ ?_
        · intro W hW
          go_simp
        simp only [List.setIfInBounds_toArray, List.set_cons_zero, List.set_cons_succ]
        refine wpAnyH_done (by kernel_rfl) ?_ _
        clear d8
        go_wp2
        go_roundw
        case rel => exact ⟨k + 1, by omega, by go_num, I2⟩
        case measure => simp [intOf]; omega
      · obtain rfl : k = N := by omega
        have hkz : ¬ (k : Int) < (k : Int) := by omega
        have R : Hid (MadeBytes w (matsBytes l) (.returned u3) wr) := by rw [E.out]; exact ⟨_, rfl, HI.out.own, HI.out.bel⟩
        clear HI
        go_wp2
        go_ret
        exact R.out
end Go.Proofs.YtjmojjjgifkkiaaDoor
