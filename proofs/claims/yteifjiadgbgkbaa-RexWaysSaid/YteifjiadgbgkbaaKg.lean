/-
  RexWays as a contract: of two trees one or the other, one behind the other. No conditions.
-/
import Derived.Test.YteifjiadgbgkbaaKf
namespace Go.Proofs.Yteifjiadgbgkbaa
open Go.RowKit Go.Sort
open Pz

/-- Rising, as a row that reads so. -/
theorem rising_b (l : List Int) (A : Option Addr) (n cap : Nat) (w : World) (hn : l.length = n) (hl : n ≤ 1048576) (ha : IsZ w A l) :
    Calls Try.prog 22 #[.slice A n cap] w fun e w' => ∃ out A' n' c', e = .returned (.slice A' n' c') ∧ IsRise l out ∧ out.length = n' ∧ IsZ w' A' out ∧ Below w.heap.size w w' :=
  (rising_any l A n cap w hn hl ha).mono fun e w' ⟨out, h1, v, h2, h3, h4⟩ => by
    obtain ⟨A', c', rfl, _, _, hz, hl⟩ := own_z h3
    exact ⟨out, A', _, c', h2, h1, hl, hz, h4⟩
theorem wpList_appG {ops : Array Oper} {rest : List Oper} {o : Oper} {a : Act} {w : World} {Q : Exit → Act → World → Prop} (hgd : Region.wanted o (yielded ops a.tmps) = true) (s x : Operand) (ho : o.op = .call { callee := .builtin .append, args := #[s, x], argTypes := #[30, 30] })
    (base : Nat) (v : Value) (n : Nat) (xs : List Int) (hs : a.eval s = v) (hown : w.ownsRow base 3 1 v n (zs xs)) (A : Option Addr) (L c : Nat) (l : List Int) (hx : a.eval x = .slice A L c) (hL : l.length = L) (hA : A = none → c = 0) (hr : IsZ w A l)
    (hlen : n + L ≤ 1099511627776) (hbase : base ≤ w.heap.size)
    (h : ∀ v' w', w'.ownsRow base 3 1 v' (n + L) (zs (xs ++ l)) → w.grownBy w' v.ownBlock → wpList Try.prog ops Q rest (a.put o.dst v') w') : wpList Try.prog ops Q (o :: rest) a w :=
  wpList_step fun K hK => by
    simp only [hgd, if_true]
    exact wp_appZ s x ho base v n xs hs hown A L c l hx hL hA hr hlen hbase fun v' w' h1 h2 => hK _ _ (h v' w' h1 h2)
theorem rise_len {l out : List Int} (h : IsRise l out) : out.length ≤ l.length := by
  have h1 : out.Nodup := h.1.imp (fun h => by omega)
  exact h1.length_le_of_subset (fun y hy => (h.2 y).1 hy)
/-- What the program's Ends makes of any tree; a slice without an address has no room. -/
theorem ends_nil {t : Rx} (hcnt : Rx.count t ≤ 1000) (hfit : Rx.fit t) (v : Value) (z : Int) (s : ByteArray) (w : World) (hL : s.size ≤ 100) (h : IsRx w v t) :
    Calls Try.prog 13 #[v, .string s, .int .i64 z] w fun e w' => ∃ A n c, e = .returned (.slice A n c) ∧ (zn (ends (txt8 s) t z)).length = n ∧ n ≤ 101 ∧ (A = none → c = 0) ∧ IsZ w' A (zn (ends (txt8 s) t z)) ∧ Below w.heap.size w w' := by
  by_cases hz : Rx.isRex t = true ∧ 0 ≤ z ∧ z ≤ (s.size : Int)
  · obtain ⟨p, rfl⟩ : ∃ p : Nat, z = (p : Int) := ⟨z.toNat, by omega⟩
    have e : ends (txt8 s) t (p : Int) = endsTo (txt8 s) t p (s.size + 1) := by
      unfold ends; rw [if_pos ⟨hz.1, hz.2.1, by rw [txt8_len]; exact hz.2.2⟩, txt8_len, Int.toNat_natCast]
    rw [e]
    refine (ends_some t v p s s.size w hcnt hz.1 hfit rfl hL (by omega) h).mono ?_
    rintro e w' ⟨v', rfl, ho, hb⟩
    rw [iz_zs] at ho
    obtain ⟨A, c, rfl, h1, h2, h3, h4⟩ := own_z ho
    exact ⟨A, _, c, rfl, zn_len _, Nat.le_trans (endsTo_len _ _ _ _) (by omega), h2, h3, hb⟩
  · have e : ends (txt8 s) t z = [] := by unfold ends; rw [if_neg (fun h => hz (by rw [txt8_len] at h; exact h))]
    rw [e]
    refine (ends_none t v z s w hcnt h hz).mono ?_
    rintro e w' ⟨rfl, hb⟩
    exact ⟨none, 0, 0, rfl, rfl, by omega, fun _ => rfl, IsZ.nil _ _, hb⟩
theorem take_nth {l : List Nat} {k : Nat} (h : k < l.length) : l.take (k + 1) = l.take k ++ [l.getD k 0] := by
  rw [List.take_succ_eq_append_getElem h]; simp [List.getD, List.getElem?_eq_getElem h]
set_option maxRecDepth 100000 in
set_option maxHeartbeats 8000000 in
theorem ways_law (t u : Rx) (v vy : Value) (s : ByteArray) (z : Int) (w : World) (hs : s.size ≤ maxLen) (hf : Rx.fit t) (hfu : Rx.fit u) (h : IsRx w v t) (hy : IsRx w vy u) :
    Calls Try.prog 8 #[v, vy, .string s, .int .i64 z] w fun e w' => e = .returned (.bool true) ∧ Below w.heap.size w w' := by
  obtain ⟨opx, ax, bx, cx, dx, Ax, nx, capx, rfl⟩ := h.form6
  obtain ⟨opy, ay, by', cy, dy, Ay, ny, capy, rfl⟩ := hy.form6
  unfold maxLen at hs
  obtain ⟨f1, f2, z2, B0⟩ := alloc2 w (.cells #[.int .i64 opx, .int .u64 (ax : Int), .int .u64 (bx : Int), .int .u64 (cx : Int), .int .u64 (dx : Int), .slice Ax nx capx] 26) (.cells #[.int .i64 opy, .int .u64 (ay : Int), .int .u64 (by' : Int), .int .u64 (cy : Int), .int .u64 (dy : Int), .slice Ay ny capy] 26)
  have RX0 : Hid (Row6 ((w.alloc (.cells #[.int .i64 opx, .int .u64 (ax : Int), .int .u64 (bx : Int), .int .u64 (cx : Int), .int .u64 (dx : Int), .slice Ax nx capx] 26)).alloc (.cells #[.int .i64 opy, .int .u64 (ay : Int), .int .u64 (by' : Int), .int .u64 (cy : Int), .int .u64 (dy : Int), .slice Ay ny capy] 26)) w.heap.size #[.int .i64 opx, .int .u64 (ax : Int), .int .u64 (bx : Int), .int .u64 (cx : Int), .int .u64 (dx : Int), .slice Ax nx capx]) := f1
  have RY0 : Hid (Row6 ((w.alloc (.cells #[.int .i64 opx, .int .u64 (ax : Int), .int .u64 (bx : Int), .int .u64 (cx : Int), .int .u64 (dx : Int), .slice Ax nx capx] 26)).alloc (.cells #[.int .i64 opy, .int .u64 (ay : Int), .int .u64 (by' : Int), .int .u64 (cy : Int), .int .u64 (dy : Int), .slice Ay ny capy] 26)) (w.heap.size + 1) #[.int .i64 opy, .int .u64 (ay : Int), .int .u64 (by' : Int), .int .u64 (cy : Int), .int .u64 (dy : Int), .slice Ay ny capy]) := f2
  have IX := Lib.hid (h.grown B0)
  have IY := Lib.hid (hy.grown B0)
  have B := Lib.hid B0
  clear B0 h hy f1 f2 z2
  have RN := Lib.hid runs_any
  obtain ⟨L, hL⟩ : ∃ L, s.size = L := ⟨_, rfl⟩
  rw [hL] at hs
  by_cases h20 : 20 < L
  · have hz : decide ((L : Int) > 20) = true := decide_eq_true (by omega)
    clear h20
    go_enter Try.func8, Try.ntmps8
    go_wp2_with fail
    refine (RN.out _).mono ?_
    rintro e wz ⟨rfl, bz⟩
    replace B := Lib.hid (B.out.trans (bz.mono B.out.size))
    clear bz
    go_wp2
    go_ret
    exact ⟨rfl, B.out⟩
  have hz : decide ((L : Int) > 20) = false := decide_eq_false (by omega)
  have CN := Lib.hid (nodes14 t _ _ IX.out)
  obtain ⟨k, hk⟩ : ∃ k, min (Rx.count t) 15 = k := ⟨_, rfl⟩
  rw [hk] at CN
  by_cases h14 : 14 < k
  · have hkz : decide ((k : Int) > 14) = true := decide_eq_true (by omega)
    clear hk h14
    go_enter Try.func8, Try.ntmps8
    go_wp2_with fail
    refine CN.out.mono ?_
    rintro e w1 ⟨rfl, b1⟩
    replace B := Lib.hid (B.out.trans (b1.mono B.out.size))
    replace RX0 := Lib.hid (RX0.out.grow b1)
    replace RY0 := Lib.hid (RY0.out.grow b1)
    replace IX := Lib.hid (IX.out.grown b1)
    replace IY := Lib.hid (IY.out.grown b1)
    clear b1
    obtain ⟨x0, x1, x2, x3, x4, x5⟩ := RX0.out.cells
    obtain ⟨y0, y1, y2, y3, y4, y5⟩ := RY0.out.cells
    clear x0 x1 x2 x3 x4 x5 y0 y1 y2 y3 y4 y5
    go_wp2_with fail
    refine (RN.out _).mono ?_
    rintro e wz ⟨rfl, bz⟩
    replace B := Lib.hid (B.out.trans (bz.mono B.out.size))
    clear bz
    go_wp2
    go_ret
    exact ⟨rfl, B.out⟩
  have hkz : decide ((k : Int) > 14) = false := decide_eq_false (by omega)
  have hcnt : Rx.count t ≤ 14 := by omega
  clear hk h14
  go_enter Try.func8, Try.ntmps8
  go_wp2_with fail
  refine CN.out.mono ?_
  rintro e w1 ⟨rfl, b1⟩
  replace B := Lib.hid (B.out.trans (b1.mono B.out.size))
  replace RX0 := Lib.hid (RX0.out.grow b1)
  replace RY0 := Lib.hid (RY0.out.grow b1)
  replace IX := Lib.hid (IX.out.grown b1)
  replace IY := Lib.hid (IY.out.grown b1)
  clear b1
  obtain ⟨x0, x1, x2, x3, x4, x5⟩ := RX0.out.cells
  obtain ⟨y0, y1, y2, y3, y4, y5⟩ := RY0.out.cells
  clear CN
  have CM := Lib.hid (nodes14 u _ _ IY.out)
  obtain ⟨k2, hk2⟩ : ∃ k, min (Rx.count u) 15 = k := ⟨_, rfl⟩
  rw [hk2] at CM
  by_cases h15 : 14 < k2
  · have hkz2 : decide ((k2 : Int) > 14) = true := decide_eq_true (by omega)
    clear hk2 h15
    go_wp2_with fail
    refine CM.out.mono ?_
    rintro e w2 ⟨rfl, b1⟩
    replace B := Lib.hid (B.out.trans (b1.mono B.out.size))
    replace RX0 := Lib.hid (RX0.out.grow b1)
    replace RY0 := Lib.hid (RY0.out.grow b1)
    replace IX := Lib.hid (IX.out.grown b1)
    replace IY := Lib.hid (IY.out.grown b1)
    clear b1
    clear x0 x1 x2 x3 x4 x5 y0 y1 y2 y3 y4 y5
    obtain ⟨x0, x1, x2, x3, x4, x5⟩ := RX0.out.cells
    obtain ⟨y0, y1, y2, y3, y4, y5⟩ := RY0.out.cells
    clear x0 x1 x2 x3 x4 x5 y0 y1 y2 y3 y4 y5
    go_wp2_with fail
    refine (RN.out _).mono ?_
    rintro e wz ⟨rfl, bz⟩
    replace B := Lib.hid (B.out.trans (bz.mono B.out.size))
    clear bz
    go_wp2
    go_ret
    exact ⟨rfl, B.out⟩
  have hkz2 : decide ((k2 : Int) > 14) = false := decide_eq_false (by omega)
  have hcnt2 : Rx.count u ≤ 14 := by omega
  clear hk2 h15
  go_wp2_with fail
  refine CM.out.mono ?_
  rintro e w2 ⟨rfl, b1⟩
  replace B := Lib.hid (B.out.trans (b1.mono B.out.size))
  replace RX0 := Lib.hid (RX0.out.grow b1)
  replace RY0 := Lib.hid (RY0.out.grow b1)
  replace IX := Lib.hid (IX.out.grown b1)
  replace IY := Lib.hid (IY.out.grown b1)
  clear b1
  clear x0 x1 x2 x3 x4 x5 y0 y1 y2 y3 y4 y5
  obtain ⟨x0, x1, x2, x3, x4, x5⟩ := RX0.out.cells
  obtain ⟨y0, y1, y2, y3, y4, y5⟩ := RY0.out.cells
  clear CM
  have CI := Lib.hid (is_any 1000 t _ _ (Nat.le_refl _) (by omega) IX.out)
  cases hr : Rx.isRex t
  · rw [hr] at CI
    clear hr
    go_wp2_with fail
    refine CI.out.mono ?_
    rintro e w3 ⟨rfl, b1⟩
    replace B := Lib.hid (B.out.trans (b1.mono B.out.size))
    replace RX0 := Lib.hid (RX0.out.grow b1)
    replace RY0 := Lib.hid (RY0.out.grow b1)
    replace IX := Lib.hid (IX.out.grown b1)
    replace IY := Lib.hid (IY.out.grown b1)
    clear b1
    clear x0 x1 x2 x3 x4 x5 y0 y1 y2 y3 y4 y5
    obtain ⟨x0, x1, x2, x3, x4, x5⟩ := RX0.out.cells
    obtain ⟨y0, y1, y2, y3, y4, y5⟩ := RY0.out.cells
    clear x0 x1 x2 x3 x4 x5 y0 y1 y2 y3 y4 y5
    go_wp2_with fail
    refine (RN.out _).mono ?_
    rintro e wz ⟨rfl, bz⟩
    replace B := Lib.hid (B.out.trans (bz.mono B.out.size))
    clear bz
    go_wp2
    go_ret
    exact ⟨rfl, B.out⟩
  rw [hr] at CI
  have HR := Lib.hid hr
  clear hr
  go_wp2_with fail
  refine CI.out.mono ?_
  rintro e w3 ⟨rfl, b1⟩
  replace B := Lib.hid (B.out.trans (b1.mono B.out.size))
  replace RX0 := Lib.hid (RX0.out.grow b1)
  replace RY0 := Lib.hid (RY0.out.grow b1)
  replace IX := Lib.hid (IX.out.grown b1)
  replace IY := Lib.hid (IY.out.grown b1)
  clear b1
  clear x0 x1 x2 x3 x4 x5 y0 y1 y2 y3 y4 y5
  obtain ⟨x0, x1, x2, x3, x4, x5⟩ := RX0.out.cells
  obtain ⟨y0, y1, y2, y3, y4, y5⟩ := RY0.out.cells
  clear CI
  have CJ := Lib.hid (is_any 1000 u _ _ (Nat.le_refl _) (by omega) IY.out)
  cases hr : Rx.isRex u
  · rw [hr] at CJ
    clear hr
    go_wp2_with fail
    refine CJ.out.mono ?_
    rintro e w4 ⟨rfl, b1⟩
    replace B := Lib.hid (B.out.trans (b1.mono B.out.size))
    replace RX0 := Lib.hid (RX0.out.grow b1)
    replace RY0 := Lib.hid (RY0.out.grow b1)
    replace IX := Lib.hid (IX.out.grown b1)
    replace IY := Lib.hid (IY.out.grown b1)
    clear b1
    clear x0 x1 x2 x3 x4 x5 y0 y1 y2 y3 y4 y5
    obtain ⟨x0, x1, x2, x3, x4, x5⟩ := RX0.out.cells
    obtain ⟨y0, y1, y2, y3, y4, y5⟩ := RY0.out.cells
    clear x0 x1 x2 x3 x4 x5 y0 y1 y2 y3 y4 y5
    go_wp2_with fail
    refine (RN.out _).mono ?_
    rintro e wz ⟨rfl, bz⟩
    replace B := Lib.hid (B.out.trans (bz.mono B.out.size))
    clear bz
    go_wp2
    go_ret
    exact ⟨rfl, B.out⟩
  rw [hr] at CJ
  have HU := Lib.hid hr
  clear hr
  go_wp2_with fail
  refine CJ.out.mono ?_
  rintro e w0 ⟨rfl, b1⟩
  replace B := Lib.hid (B.out.trans (b1.mono B.out.size))
  replace RX0 := Lib.hid (RX0.out.grow b1)
  replace RY0 := Lib.hid (RY0.out.grow b1)
  replace IX := Lib.hid (IX.out.grown b1)
  replace IY := Lib.hid (IY.out.grown b1)
  clear b1
  clear x0 x1 x2 x3 x4 x5 y0 y1 y2 y3 y4 y5
  obtain ⟨x0, x1, x2, x3, x4, x5⟩ := RX0.out.cells
  obtain ⟨y0, y1, y2, y3, y4, y5⟩ := RY0.out.cells
  clear CJ
  clear x0 x1 x2 x3 x4 x5 y0 y1 y2 y3 y4 y5
  by_cases hz0 : z < 0
  · have hzd : decide (z < 0) = true := decide_eq_true hz0
    go_wp2_with fail
    refine (RN.out _).mono ?_
    rintro e wz ⟨rfl, bz⟩
    replace B := Lib.hid (B.out.trans (bz.mono B.out.size))
    clear bz
    go_wp2
    go_ret
    exact ⟨rfl, B.out⟩
  by_cases hz1 : z > (L : Int)
  · have hzd : decide (z > (L : Int)) = true := decide_eq_true hz1
    go_wp2_with fail
    refine (RN.out _).mono ?_
    rintro e wz ⟨rfl, bz⟩
    replace B := Lib.hid (B.out.trans (bz.mono B.out.size))
    clear bz
    go_wp2
    go_ret
    exact ⟨rfl, B.out⟩
  obtain ⟨p, rfl⟩ : ∃ p : Nat, z = (p : Int) := ⟨z.toNat, by omega⟩
  have hp : p ≤ L := by omega
  have hzd : decide ((p : Int) > (L : Int)) = false := decide_eq_false hz1
  have hzd2 : decide (L < p) = false := decide_eq_false (by omega)
  clear hz0 hz1
  have CE := Lib.hid (fun (q : Rx) (hc : Rx.count q ≤ 1000) (hu : Rx.fit q) (v : Value) (z : Int) W (hW : IsRx W v q) => ends_nil hc hu v z s W (by omega) hW)
  have hlen : (txt8 s).length = L := by rw [txt8_len]; exact hL
  have ER := Lib.hid (fun out => either_rise (S := txt8 s) (p := p) HR.out HU.out (by rw [hlen]; exact hp) (out := out))
  have BR := Lib.hid (fun out => both_rise (S := txt8 s) (p := p) HR.out HU.out (by rw [hlen]; exact hp) (out := out))
  have MR := Lib.hid (fun out => maybe_rise (S := txt8 s) (p := p) HR.out (by rw [hlen]; exact hp) (out := out))
  have c3' := count_nd2 3 t u
  have c2' := count_nd2 2 t u
  have c6' := count_nd1 6 t
  have CC := Lib.hid (And.intro (show Rx.count (nd 3 [t, u]) ≤ 1000 by omega) (And.intro (show Rx.count (nd 2 [t, u]) ≤ 1000 by omega) (show Rx.count (nd 6 [t]) ≤ 1000 by omega)))
  clear c3' c2' c6' hlen HR HU
  have CX := Lib.hid (fun W (hW : Below w0.heap.size w0 W) => CE.out t (by omega) hf _ (p : Int) W (IX.out.grown hW))
  have CY := Lib.hid (fun W (q : Int) (hW : Below w0.heap.size w0 W) => CE.out u (by omega) hfu _ q W (IY.out.grown hW))
  obtain ⟨E1, hE1⟩ : ∃ E1, ends (txt8 s) t (p : Int) = E1 := ⟨_, rfl⟩
  rw [hE1] at CX ER BR MR
  clear hE1
  go_wp2_with fail
  refine wp_region_held_drew (S := fun W => Below w0.heap.size w0 W) (by kernel_rfl) ((Below.refl _ _).drew) (fun hHeld => ?_)
  refine held_take 0 50 (v := (.agg #[.int .i64 opx, .int .u64 (ax : Int), .int .u64 (bx : Int), .int .u64 (cx : Int), .int .u64 (dx : Int), .slice Ax nx capx])) rfl rfl (by kernel_rfl) (by kernel_rfl) (by kernel_rfl) (by rfl) (fun _ _ _ h => h) (by assumption) ?_ ?_
  · intro W hW
    obtain ⟨e0, e1, e2, e3, e4, e5⟩ := (RX0.out.grow hW).cells
    go_simp
  simp only [List.setIfInBounds_toArray, List.set_cons_zero, List.set_cons_succ]
  refine held_take 1 51 (v := (.string s)) rfl rfl (by kernel_rfl) (by kernel_rfl) (by kernel_rfl) (by rfl) (fun _ _ _ h => h) (by assumption) ?_ ?_
  · intro W hW
    go_simp
  simp only [List.setIfInBounds_toArray, List.set_cons_zero, List.set_cons_succ]
  refine held_take 2 52 (v := (.int .i64 (p : Int))) rfl rfl (by kernel_rfl) (by kernel_rfl) (by kernel_rfl) (by rfl) (fun _ _ _ h => h) (by assumption) ?_ ?_
  · intro W hW
    go_simp
  simp only [List.setIfInBounds_toArray, List.set_cons_zero, List.set_cons_succ]
  refine held_take 4 54 (v := (.agg #[.int .i64 opy, .int .u64 (ay : Int), .int .u64 (by' : Int), .int .u64 (cy : Int), .int .u64 (dy : Int), .slice Ay ny capy])) rfl rfl (by kernel_rfl) (by kernel_rfl) (by kernel_rfl) (by rfl) (fun _ _ _ h => h) (by assumption) ?_ ?_
  · intro W hW
    obtain ⟨e0, e1, e2, e3, e4, e5⟩ := (RY0.out.grow hW).cells
    go_simp
  simp only [List.setIfInBounds_toArray, List.set_cons_zero, List.set_cons_succ]
  refine held_take 5 55 (v := (.string s)) rfl rfl (by kernel_rfl) (by kernel_rfl) (by kernel_rfl) (by rfl) (fun _ _ _ h => h) (by assumption) ?_ ?_
  · intro W hW
    go_simp
  simp only [List.setIfInBounds_toArray, List.set_cons_zero, List.set_cons_succ]
  refine held_take 6 56 (v := (.int .i64 (p : Int))) rfl rfl (by kernel_rfl) (by kernel_rfl) (by kernel_rfl) (by rfl) (fun _ _ _ h => h) (by assumption) ?_ ?_
  · intro W hW
    go_simp
  simp only [List.setIfInBounds_toArray, List.set_cons_zero, List.set_cons_succ]
  refine held_call 3 53 (f := 13) (args := #[(.agg #[.int .i64 opx, .int .u64 (ax : Int), .int .u64 (bx : Int), .int .u64 (cx : Int), .int .u64 (dx : Int), .slice Ax nx capx]), .string s, .int .i64 (p : Int)]) rfl rfl (by kernel_rfl) (by rfl) (by go_simp) ?_
  refine (CX.out _ ((Below.refl w0.heap.size w0).drew)).mono ?_
  rintro e v1 ⟨A1, n1, c1, rfl, l1, m1, q1, Z1, d1⟩
  have r1 : Below w0.heap.size w0 v1 := (Below.refl _ _).drew.trans d1
  refine ⟨_, rfl, r1, ?_⟩
  have held1 := Below.refl v1.heap.size v1
  refine held_more (S' := fun W => Below v1.heap.size v1 W) (fun W h => r1.trans (h.mono r1.size)) _ _ _ _ ?_
  simp only [List.setIfInBounds_toArray, List.set_cons_zero, List.set_cons_succ]
  refine held_call 7 57 (f := 13) (args := #[(.agg #[.int .i64 opy, .int .u64 (ay : Int), .int .u64 (by' : Int), .int .u64 (cy : Int), .int .u64 (dy : Int), .slice Ay ny capy]), .string s, .int .i64 (p : Int)]) rfl rfl (by kernel_rfl) (by rfl) (by go_simp) ?_
  refine (CY.out _ (p : Int) r1).mono ?_
  rintro e v2 ⟨A2, n2, c2, rfl, l2, m2, q2, Z2, d2⟩
  have r2 := r1.trans (d2.mono r1.size)
  refine ⟨_, rfl, d2, ?_⟩
  have held2 := Below.refl v2.heap.size v2
  refine held_more (S' := fun W => Below v2.heap.size v2 W) (fun W h => d2.trans (h.mono d2.size)) _ _ _ _ ?_
  simp only [List.setIfInBounds_toArray, List.set_cons_zero, List.set_cons_succ]
  refine held_take 8 9 (v := (.slice A1 n1 c1)) rfl rfl (by kernel_rfl) (by kernel_rfl) (by kernel_rfl) (by rfl) (fun _ _ _ h => h) (by assumption) ?_ ?_
  · intro W hW
    go_simp
  simp only [List.setIfInBounds_toArray, List.set_cons_zero, List.set_cons_succ]
  refine held_take 9 10 (v := (.slice A2 n2 c2)) rfl rfl (by kernel_rfl) (by kernel_rfl) (by kernel_rfl) (by rfl) (fun _ _ _ h => h) (by assumption) ?_ ?_
  · intro W hW
    go_simp
  simp only [List.setIfInBounds_toArray, List.set_cons_zero, List.set_cons_succ]
  refine wpAnyH_done (by kernel_rfl) ?_ _
  have BV := Lib.hid r2
  have Z1 := Lib.hid (Z1.below d2)
  have Z2 := Lib.hid Z2
  clear r1 r2 d1 d2 held1 held2 hHeld CX
  have L3 : Hid (IsRx (v2.alloc (.cells #[.int .i64 opx, .int .u64 (ax : Int), .int .u64 (bx : Int), .int .u64 (cx : Int), .int .u64 (dx : Int), .slice Ax nx capx, .int .i64 opy, .int .u64 (ay : Int), .int .u64 (by' : Int), .int .u64 (cy : Int), .int .u64 (dy : Int), .slice Ay ny capy] 26)) (.agg #[.int .i64 3, .int .u64 0, .int .u64 0, .int .u64 0, .int .u64 0, .slice (some ⟨v2.heap.size, 0, none⟩) 2 2]) (nd 3 [t, u])) := by
    have hb : Below v2.heap.size v2 (v2.alloc (.cells #[.int .i64 opx, .int .u64 (ax : Int), .int .u64 (bx : Int), .int .u64 (cx : Int), .int .u64 (dx : Int), .slice Ax nx capx, .int .i64 opy, .int .u64 (ay : Int), .int .u64 (by' : Int), .int .u64 (cy : Int), .int .u64 (dy : Int), .slice Ay ny capy] 26)) := (Below.refl _ _).alloc (Nat.le_refl _) _
    exact isrx_row (l := [v6f opx ax bx cx dx Ax nx capx, v6f opy ay by' cy dy Ay ny capy]) (ts := [t, u]) (heap_alloc_new v2 _) rfl rfl (fun j hj => by
      match j, hj with
      | 0, _ => exact (IX.out.grown BV.out).grown hb
      | 1, _ => exact (IY.out.grown BV.out).grown hb) 3
  have C3 := Lib.hid (CE.out (nd 3 [t, u]) CC.out.1 (fit_nd2 3 hf hfu) _ (p : Int) _ L3.out)
  clear L3
  obtain ⟨x0, x1, x2, x3, x4, x5⟩ := (RX0.out.grow BV.out).cells
  obtain ⟨y0, y1, y2, y3, y4, y5⟩ := (RY0.out.grow BV.out).cells
  go_wp2_with fail
  refine C3.out.mono ?_
  rintro e v3 ⟨A3, n3, c3, rfl, l3, m3, q3, Z3, d3⟩
  have e3 := ((Below.refl v2.heap.size v2).alloc (Nat.le_refl _) (.cells #[.int .i64 opx, .int .u64 (ax : Int), .int .u64 (bx : Int), .int .u64 (cx : Int), .int .u64 (dx : Int), .slice Ax nx capx, .int .i64 opy, .int .u64 (ay : Int), .int .u64 (by' : Int), .int .u64 (cy : Int), .int .u64 (dy : Int), .slice Ay ny capy] 26)).trans (d3.mono (by simp))
  clear C3 d3 x0 x1 x2 x3 x4 x5 y0 y1 y2 y3 y4 y5
  replace BV := Lib.hid (BV.out.trans (e3.mono BV.out.size))
  replace Z1 := Lib.hid (Z1.out.below e3)
  replace Z2 := Lib.hid (Z2.out.below e3)
  have Z3 := Lib.hid Z3
  clear e3
  have L4 : Hid (IsRx (v3.alloc (.cells #[.int .i64 opx, .int .u64 (ax : Int), .int .u64 (bx : Int), .int .u64 (cx : Int), .int .u64 (dx : Int), .slice Ax nx capx, .int .i64 opy, .int .u64 (ay : Int), .int .u64 (by' : Int), .int .u64 (cy : Int), .int .u64 (dy : Int), .slice Ay ny capy] 26)) (.agg #[.int .i64 2, .int .u64 0, .int .u64 0, .int .u64 0, .int .u64 0, .slice (some ⟨v3.heap.size, 0, none⟩) 2 2]) (nd 2 [t, u])) := by
    have hb : Below v3.heap.size v3 (v3.alloc (.cells #[.int .i64 opx, .int .u64 (ax : Int), .int .u64 (bx : Int), .int .u64 (cx : Int), .int .u64 (dx : Int), .slice Ax nx capx, .int .i64 opy, .int .u64 (ay : Int), .int .u64 (by' : Int), .int .u64 (cy : Int), .int .u64 (dy : Int), .slice Ay ny capy] 26)) := (Below.refl _ _).alloc (Nat.le_refl _) _
    exact isrx_row (l := [v6f opx ax bx cx dx Ax nx capx, v6f opy ay by' cy dy Ay ny capy]) (ts := [t, u]) (heap_alloc_new v3 _) rfl rfl (fun j hj => by
      match j, hj with
      | 0, _ => exact (IX.out.grown BV.out).grown hb
      | 1, _ => exact (IY.out.grown BV.out).grown hb) 2
  have C4 := Lib.hid (CE.out (nd 2 [t, u]) CC.out.2.1 (fit_nd2 2 hf hfu) _ (p : Int) _ L4.out)
  clear L4
  obtain ⟨x0, x1, x2, x3, x4, x5⟩ := (RX0.out.grow BV.out).cells
  obtain ⟨y0, y1, y2, y3, y4, y5⟩ := (RY0.out.grow BV.out).cells
  go_wp2_with fail
  refine C4.out.mono ?_
  rintro e v4 ⟨A4, n4, c4, rfl, l4, m4, q4, Z4, d4⟩
  have e4 := ((Below.refl v3.heap.size v3).alloc (Nat.le_refl _) (.cells #[.int .i64 opx, .int .u64 (ax : Int), .int .u64 (bx : Int), .int .u64 (cx : Int), .int .u64 (dx : Int), .slice Ax nx capx, .int .i64 opy, .int .u64 (ay : Int), .int .u64 (by' : Int), .int .u64 (cy : Int), .int .u64 (dy : Int), .slice Ay ny capy] 26)).trans (d4.mono (by simp))
  clear C4 d4 x0 x1 x2 x3 x4 x5 y0 y1 y2 y3 y4 y5
  replace BV := Lib.hid (BV.out.trans (e4.mono BV.out.size))
  replace Z1 := Lib.hid (Z1.out.below e4)
  replace Z2 := Lib.hid (Z2.out.below e4)
  replace Z3 := Lib.hid (Z3.out.below e4)
  have Z4 := Lib.hid Z4
  clear e4
  have L1 := Lib.hid (show E1.length = n1 by rw [← zn_len]; exact l1)
  have TA := Lib.hid (fun j (hj : j < n1) => (show thenAll (txt8 s) u (E1.take (j + 1)) = thenAll (txt8 s) u (E1.take j) ++ zn (ends (txt8 s) u ((E1.getD j 0 : Nat) : Int)) by rw [take_nth (by rw [L1.out]; exact hj), thenAll_app]))
  go_wp2
  go_loopw [13, 14] (fun v i wr => ∃ j na : Nat, j ≤ n1 ∧ na ≤ 101 * j ∧ i = .int .i64 (j : Int) ∧ Hid (wr.ownsRow v4.heap.size 3 1 v na (zs (thenAll (txt8 s) u (E1.take j))) ∧ Below v4.heap.size v4 wr)) (fun _ i _ => n1 - (intOf i).toNat)
  case atStart => exact ⟨0, 0, by omega, by omega, rfl, World.ownsRow_nil _ _ _ _, Below.refl _ _⟩
  case round =>
    obtain ⟨j, na, hj, hna, rfl, HI⟩ := hrel
    have OA := Lib.hid HI.out.1
    have HB := Lib.hid HI.out.2
    clear HI
    by_cases hjn : j < n1
    · have hjz : (j : Int) < (n1 : Int) := by omega
      obtain ⟨b1, o1, rfl, _⟩ := Z1.out (by rw [l1]; omega)
      obtain ⟨q, hq⟩ : ∃ q, E1.getD j 0 = q := ⟨_, rfl⟩
      have TJ := Lib.hid (TA.out j hjn)
      rw [hq] at TJ
      have QC : Hid (∀ W, Below v4.heap.size v4 W → W.cell? ⟨b1, o1 + j, none⟩ = some (.int .i64 (q : Int))) := fun W hW => by
        have h1 := isZ_at (Z1.out.below hW) (j := j) (by rw [l1]; exact hjn)
        have h2 : nz (zn E1) j = (q : Int) := by
          rw [nz_eq (by rw [l1]; exact hjn), ← hq]
          simp [zn, List.getD, List.getElem?_eq_getElem (show j < E1.length by rw [L1.out]; exact hjn)]
        rw [h2] at h1
        exact h1
      have YC : Hid (∀ W, Below v4.heap.size v4 W → Row6 W (w.heap.size + 1) #[.int .i64 opy, .int .u64 (ay : Int), .int .u64 (by' : Int), .int .u64 (cy : Int), .int .u64 (dy : Int), .slice Ay ny capy]) := fun W hW => (RY0.out.grow BV.out).grow hW
      have C5 := Lib.hid (fun W (hW : Below v4.heap.size v4 W) => CY.out W (q : Int) (BV.out.trans (hW.mono BV.out.size)))
      clear hq
      generalize hE5 : ends (txt8 s) u (q : Int) = E5 at C5 TJ
      clear hE5
      go_wp2_with fail
      refine wp_region_held_drew (S := fun W => Below v4.heap.size v4 W) (by kernel_rfl) (HB.out.drew) (fun hHeld => ?_)
      refine held_take 0 78 (v := u13) rfl rfl (by kernel_rfl) (by kernel_rfl) (by kernel_rfl) (by rfl) (fun _ _ _ h => h) (by assumption) ?_ ?_
      · intro W hW
        go_simp
      simp only [List.setIfInBounds_toArray, List.set_cons_zero, List.set_cons_succ]
      refine held_take 1 79 (v := (.agg #[.int .i64 opy, .int .u64 (ay : Int), .int .u64 (by' : Int), .int .u64 (cy : Int), .int .u64 (dy : Int), .slice Ay ny capy])) rfl rfl (by kernel_rfl) (by kernel_rfl) (by kernel_rfl) (by rfl) (fun _ _ _ h => h) (by assumption) ?_ ?_
      · intro W hW
        obtain ⟨e0, e1, e2, e3, e4, e5⟩ := (YC.out W hW).cells
        go_simp
      simp only [List.setIfInBounds_toArray, List.set_cons_zero, List.set_cons_succ]
      refine held_take 2 80 (v := (.string s)) rfl rfl (by kernel_rfl) (by kernel_rfl) (by kernel_rfl) (by rfl) (fun _ _ _ h => h) (by assumption) ?_ ?_
      · intro W hW
        go_simp
      simp only [List.setIfInBounds_toArray, List.set_cons_zero, List.set_cons_succ]
      refine held_take 3 81 (v := (.slice (some ⟨b1, o1, none⟩) n1 c1)) rfl rfl (by kernel_rfl) (by kernel_rfl) (by kernel_rfl) (by rfl) (fun _ _ _ h => h) (by assumption) ?_ ?_
      · intro W hW
        go_simp
      simp only [List.setIfInBounds_toArray, List.set_cons_zero, List.set_cons_succ]
      refine held_take 4 82 (v := (.int .i64 (j : Int))) rfl rfl (by kernel_rfl) (by kernel_rfl) (by kernel_rfl) (by rfl) (fun _ _ _ h => h) (by assumption) ?_ ?_
      · intro W hW
        go_simp
      simp only [List.setIfInBounds_toArray, List.set_cons_zero, List.set_cons_succ]
      refine held_take 5 83 (v := (.pointer (some ⟨b1, o1 + j, none⟩))) rfl rfl (by kernel_rfl) (by kernel_rfl) (by kernel_rfl) (by rfl) (fun _ _ _ h => h) (by assumption) ?_ ?_
      · intro W hW
        go_simp
      simp only [List.setIfInBounds_toArray, List.set_cons_zero, List.set_cons_succ]
      refine held_take 6 84 (v := (.int .i64 (q : Int))) rfl rfl (by kernel_rfl) (by kernel_rfl) (by kernel_rfl) (by rfl) (fun _ _ _ h => h) (by assumption) ?_ ?_
      · intro W hW
        have z1 := QC.out W hW
        go_simp
      simp only [List.setIfInBounds_toArray, List.set_cons_zero, List.set_cons_succ]
      refine held_call 7 85 (f := 13) (args := #[(.agg #[.int .i64 opy, .int .u64 (ay : Int), .int .u64 (by' : Int), .int .u64 (cy : Int), .int .u64 (dy : Int), .slice Ay ny capy]), .string s, .int .i64 (q : Int)]) rfl rfl (by kernel_rfl) (by rfl) (by go_simp) ?_
      refine (C5.out _ HB.out.drew).mono ?_
      rintro e v5 ⟨A5, n5, c5, rfl, l5, m5, q5, Z5, d5⟩
      have r5 := HB.out.trans (((Below.refl _ _).drew.trans d5).mono HB.out.size)
      refine ⟨_, rfl, r5, ?_⟩
      simp only [List.setIfInBounds_toArray, List.set_cons_zero, List.set_cons_succ]
      have o5 := own_grow OA.out ((Below.refl _ _).drew.trans d5)
      refine held_op 8 rfl (by kernel_rfl) (by rfl) ?_
      refine wp_appZ (.tmp 78) (.tmp 85) rfl v4.heap.size u13 na _ rfl o5 A5 n5 c5 (zn E5) rfl l5 q5 Z5 (by omega) r5.size ?_
      intro va w6 o6 g6
      have r6 : Below v4.heap.size v4 w6 := r5.grown g6 r5.size (fun g hg => own_geZ o5 g hg)
      refine ⟨r6, ?_⟩
      show wpAnyH _ _ _ _ _ _ _ ⟨Array.setIfInBounds _ 86 va, _⟩ _
      simp only [List.setIfInBounds_toArray, List.set_cons_zero, List.set_cons_succ]
      rw [← TJ.out] at o6
      have R := Lib.hid (And.intro o6 r6)
      refine held_take 9 13 (v := va) rfl rfl (by kernel_rfl) (by kernel_rfl) (by kernel_rfl) (by rfl) (fun _ _ _ h => h) (by assumption) ?_ ?_
      · intro W hW
        go_simp
      simp only [List.setIfInBounds_toArray, List.set_cons_zero, List.set_cons_succ]
      refine wpAnyH_done (by kernel_rfl) ?_ _
      clear o6 r6 g6 o5 r5 d5 Z5 hHeld OA HB
      go_wp2
      go_roundw
      case rel => exact ⟨j + 1, na + n5, by omega, by omega, by go_num, R⟩
      case measure => simp [intOf]; omega
    · obtain rfl : j = n1 := by omega
      have hjz : ¬ (j : Int) < (j : Int) := by omega
      have o7 := OA.out
      rw [List.take_of_length_le (by rw [L1.out]; exact Nat.le_refl _)] at o7
      obtain ⟨A7, c7, rfl, _, _, z7, l7⟩ := own_z o7
      replace Z1 := Lib.hid (Z1.out.below HB.out)
      replace Z2 := Lib.hid (Z2.out.below HB.out)
      replace Z3 := Lib.hid (Z3.out.below HB.out)
      replace Z4 := Lib.hid (Z4.out.below HB.out)
      replace BV := Lib.hid (BV.out.trans (HB.out.mono BV.out.size))
      have Z7 := Lib.hid z7
      clear o7 OA HB z7 CY
      have L6 : Hid (IsRx (wr.alloc (.cells #[.int .i64 opx, .int .u64 (ax : Int), .int .u64 (bx : Int), .int .u64 (cx : Int), .int .u64 (dx : Int), .slice Ax nx capx] 26)) (.agg #[.int .i64 6, .int .u64 0, .int .u64 0, .int .u64 0, .int .u64 0, .slice (some ⟨wr.heap.size, 0, none⟩) 1 1]) (nd 6 [t])) := by
        have hb : Below wr.heap.size wr (wr.alloc (.cells #[.int .i64 opx, .int .u64 (ax : Int), .int .u64 (bx : Int), .int .u64 (cx : Int), .int .u64 (dx : Int), .slice Ax nx capx] 26)) := (Below.refl _ _).alloc (Nat.le_refl _) _
        exact isrx_row (l := [v6f opx ax bx cx dx Ax nx capx]) (ts := [t]) (heap_alloc_new wr _) rfl rfl (fun j hj => by
          obtain rfl : j = 0 := by simpa using hj
          exact (IX.out.grown BV.out).grown hb) 6
      have C6 := Lib.hid (CE.out (nd 6 [t]) CC.out.2.2 (fit_nd1 6 hf) _ (p : Int) _ L6.out)
      clear L6
      obtain ⟨x0, x1, x2, x3, x4, x5⟩ := (RX0.out.grow BV.out).cells
      go_wp2_with fail
      refine C6.out.mono ?_
      rintro e we ⟨A6, n6, c6, rfl, l6, m6, q6, Z6, d6⟩
      have e6 := ((Below.refl wr.heap.size wr).alloc (Nat.le_refl _) (.cells #[.int .i64 opx, .int .u64 (ax : Int), .int .u64 (bx : Int), .int .u64 (cx : Int), .int .u64 (dx : Int), .slice Ax nx capx] 26)).trans (d6.mono (by simp))
      clear C6 d6 x0 x1 x2 x3 x4 x5
      replace BV := Lib.hid (BV.out.trans (e6.mono BV.out.size))
      replace Z1 := Lib.hid (Z1.out.below e6)
      replace Z2 := Lib.hid (Z2.out.below e6)
      replace Z3 := Lib.hid (Z3.out.below e6)
      replace Z4 := Lib.hid (Z4.out.below e6)
      replace Z7 := Lib.hid (Z7.out.below e6)
      replace Z6 := Lib.hid Z6
      clear e6
      have BB : Hid (Below we.heap.size we we) := Below.refl _ _
      go_wp2_with (first
        | ((refine wpList_appZ rfl (.const (.slice none 0 0)) (.tmp 94) rfl we.heap.size (.slice none 0 0) 0 [] rfl (World.ownsRow_nil _ _ _ _) A1 j c1 (zn E1) rfl l1 q1 Z1.out (by omega) (Nat.le_refl _) ?_); (intro va wa oa ga); (have ba := Lib.hid (show Below we.heap.size we wa from (Below.refl _ _).grown ga (Nat.le_refl _) (fun _ h => by cases h))); (rw [Nat.zero_add, List.nil_append] at oa); (have oa := Lib.hid oa); (clear ga))
        | ((refine wpList_appZ rfl (.tmp 95) (.tmp 96) rfl we.heap.size va j (zn E1) rfl oa.out A2 n2 c2 _ rfl l2 q2 (Z2.out.below ba.out) (by omega) ba.out.size ?_); (intro vb wb ob gb); (have bb := Lib.hid (ba.out.grown gb ba.out.size (fun g hg => own_geZ oa.out g hg))); (obtain ⟨AB, cB, rfl, _, _, ZB, LB⟩ := own_z ob); (clear ob gb)))
      refine (rising_b _ AB _ cB wb LB (by omega) ZB).mono ?_
      rintro e wg ⟨out1, AR, nR, cR, rfl, R1, lR, ZR, bg⟩
      have hR := rise_len R1
      rw [LB] at hR
      have bG := Lib.hid (bb.out.trans (bg.mono bb.out.size))
      have CS1 := Lib.hid (same_b _ out1 A3 AR n3 nR c3 cR wg l3 lR (by omega) (by omega) (Z3.out.below bG.out) ZR)
      rw [decide_eq_true (ER.out out1 R1)] at CS1
      clear ZB LB ba oa bb bg R1 ZR
      go_wp2_with fail
      refine CS1.out.mono ?_
      rintro e wh ⟨rfl, bh⟩
      have bH := Lib.hid (bG.out.trans (bh.mono bG.out.size))
      clear bh bG CS1
      go_wp2_with fail
      refine (rising_b _ A7 na c7 wh l7 (by omega) (Z7.out.below bH.out)).mono ?_
      rintro e wi ⟨out2, AS, nS, cS, rfl, R2, lS, ZS, bi⟩
      have hS := rise_len R2
      rw [l7] at hS
      have bI := Lib.hid (bH.out.trans (bi.mono bH.out.size))
      have CS2 := Lib.hid (same_b _ out2 A4 AS n4 nS c4 cS wi l4 lS (by omega) (by omega) (Z4.out.below bI.out) ZS)
      rw [decide_eq_true (BR.out out2 R2)] at CS2
      clear bi R2 ZS bH
      go_wp2_with fail
      refine CS2.out.mono ?_
      rintro e wj ⟨rfl, bj⟩
      have bJ := Lib.hid (bI.out.trans (bj.mono bI.out.size))
      clear bj bI CS2
      go_wp2_with (first
        | ((refine wpList_appG rfl (.const (.slice none 0 0)) (.tmp 108) rfl wj.heap.size (.slice none 0 0) 0 [] rfl (World.ownsRow_nil _ _ _ _) A1 j c1 (zn E1) rfl l1 q1 (Z1.out.below bJ.out) (by omega) (Nat.le_refl _) ?_); (intro va wa oa ga); (have ba := Lib.hid (show Below wj.heap.size wj wa from (Below.refl _ _).grown ga (Nat.le_refl _) (fun _ h => by cases h))); (rw [Nat.zero_add, List.nil_append] at oa); (have oa := Lib.hid oa); (clear ga))
        | ((refine wpList_appG rfl (.tmp 109) (.tmp 111) rfl wj.heap.size va j (zn E1) rfl (own_grow oa.out ((Below.refl _ _).alloc (Nat.le_refl _) (.cells #[.int .i64 (p : Int)] 3))) (some ⟨wa.heap.size, 0, none⟩) 1 1 [(p : Int)] rfl rfl (fun e => by cases e) (lit_z wa (p : Int)) (by omega) (ba.out.alloc ba.out.size _).size ?_); (intro vb wb ob gb); (have bb := Lib.hid ((ba.out.alloc ba.out.size (.cells #[.int .i64 (p : Int)] 3)).grown gb (ba.out.alloc ba.out.size _).size (fun g hg => own_geZ oa.out g hg))); (obtain ⟨AB, cB, rfl, _, _, ZB, LB⟩ := own_z ob); (clear ob gb)))
      refine (rising_b _ AB _ cB wb LB (by omega) ZB).mono ?_
      rintro e wk ⟨out3, AT, nT, cT, rfl, R3, lT, ZT, bk⟩
      have hT := rise_len R3
      rw [LB] at hT
      have bK := Lib.hid (bb.out.trans (bk.mono bb.out.size))
      have bL := Lib.hid (bJ.out.trans (bK.out.mono bJ.out.size))
      have CS3 := Lib.hid (same_b _ out3 A6 AT n6 nT c6 cT wk l6 lT (by omega) (by omega) (Z6.out.below bL.out) ZT)
      rw [decide_eq_true (MR.out out3 R3)] at CS3
      clear ZB LB ba oa bb bk R3 ZT bK bJ
      go_wp2_with fail
      refine CS3.out.mono ?_
      rintro e wm ⟨rfl, bm⟩
      have bM := Lib.hid (bL.out.trans (bm.mono bL.out.size))
      have bN := Lib.hid (B.out.trans ((BV.out.trans (bM.out.mono BV.out.size)).mono B.out.size))
      clear bm bL CS3 bM
      go_wp2_with fail
      refine (RN.out _).mono ?_
      rintro e wz ⟨rfl, bz⟩
      have bO := Lib.hid (bN.out.trans (bz.mono bN.out.size))
      clear bz bN
      go_wp2
      go_ret
      exact ⟨rfl, bO.out⟩
end Go.Proofs.Yteifjiadgbgkbaa
