/-
  RexStars as a contract: what is repeated. No conditions.
-/
import Derived.Test.YteifjiadgbgkbaaKc
import Derived.Test.YteifjiadgbgkbaaKe
import Derived.Deep.LoopGhost
namespace Go.Proofs.Yteifjiadgbgkbaa
open Go.RowKit Go.Sort
open Pz

theorem has_b (xs : List Int) (x : Int) (A : Option Addr) (nx ca : Nat) (w : World) (ex : xs.length = nx) (hx : nx ≤ 1099511627776) (ha : IsZ w A xs) :
    Calls Try.prog 20 #[.slice A nx ca, .int .i64 x] w fun e w' => e = .returned (.bool (decide (x ∈ xs))) ∧ Below w.heap.size w w' :=
  (hasz_any xs x A nx ca w ex hx ha).mono fun e w' ⟨h1, h2⟩ => ⟨h1, by rw [← h2]; exact Below.refl _ _⟩
/-- Both, as a row that reads so. -/
theorem both_b (xs ys : List Int) (inn : Bool) (A B : Option Addr) (nx ny ca cb : Nat) (w : World) (ex : xs.length = nx) (ey : ys.length = ny) (hx : nx ≤ 1048576) (hy : ny ≤ 1048576) (ha : IsZ w A xs) (hb : IsZ w B ys) (hp : pickZ ys inn xs = []) :
    Calls Try.prog 21 #[.slice A nx ca, .slice B ny cb, .bool inn] w fun e w' => ∃ A' c', e = .returned (.slice A' 0 c') ∧ Below w.heap.size w w' :=
  (both_any xs ys inn A B nx ny ca cb w ex ey hx hy ha hb).mono fun e w' ⟨out, h1, v, h2, h3, h4⟩ => by
    rw [hp] at h1
    obtain rfl := rise_nil h1
    obtain ⟨A', c', rfl, _⟩ := own_z h3
    exact ⟨A', c', h2, h4⟩
theorem isrx_row {w : World} {g : Nat} {cs : Array Value} {l : List (Nat → Value)} {ts : List Rx} (hg : w.heap[g]? = some (.cells cs 26 (0, 0))) (hcs : cs.toList = rc l) (hl : l.length = ts.length) (hk : ∀ j, j < ts.length → IsRx w (val6 (nthV l j)) (Rx.nth ts j)) (op : Int) :
    IsRx w (.agg #[.int .i64 op, .int .u64 0, .int .u64 0, .int .u64 0, .int .u64 0, .slice (some ⟨g, 0, none⟩) ts.length ts.length]) (nd op ts) := by
  refine IsRx.node op 0 0 0 0 ts _ ts.length g 0 (nthV l) (Nat.le_refl _) (fun e => by cases e) (fun _ => rfl) (fun j i hj hi => ?_) hk
  rw [Nat.zero_add, cell_of_row _ _ _ _ _ _ hg]
  have := rc_get l j i (by omega) hi
  rw [← hcs] at this
  simpa using this
theorem count_nd1 (op : Int) (t : Rx) : Rx.count (nd op [t]) = 1 + Rx.count t := by unfold nd; rw [Rx.count, Rx.countL, Rx.countL]; omega
theorem count_nd2 (op : Int) (t u : Rx) : Rx.count (nd op [t, u]) = 1 + Rx.count t + Rx.count u := by unfold nd; rw [Rx.count, Rx.countL, Rx.countL, Rx.countL]; omega
theorem fit_nd1 (op : Int) {t : Rx} (h : Rx.fit t) : Rx.fit (nd op [t]) := by unfold nd; rw [Rx.fit, Rx.fitL, Rx.fitL]; exact ⟨fit0, h, trivial⟩
theorem fit_nd2 (op : Int) {t u : Rx} (h : Rx.fit t) (h2 : Rx.fit u) : Rx.fit (nd op [t, u]) := by unfold nd; rw [Rx.fit, Rx.fitL, Rx.fitL, Rx.fitL]; exact ⟨fit0, h, h2, trivial⟩
/-- The trees that the law makes of x: each in its variable. -/
structure Made3 (G : Nat) (op : Int) (a b c d : Nat) (A : Option Addr) (n cap : Nat) (t : Rx) (w : World) : Prop where
  x : IsRx w (.agg (c6 op a b c d A n cap)) t
  s : IsRx w (.agg #[.int .i64 4, .int .u64 0, .int .u64 0, .int .u64 0, .int .u64 0, .slice (some ⟨G, 0, none⟩) 1 1]) (nd 4 [t])
  p : IsRx w (.agg #[.int .i64 5, .int .u64 0, .int .u64 0, .int .u64 0, .int .u64 0, .slice (some ⟨G + 1 + 1, 0, none⟩) 1 1]) (nd 5 [t])
  b : IsRx w (.agg #[.int .i64 2, .int .u64 0, .int .u64 0, .int .u64 0, .int .u64 0, .slice (some ⟨G + 1 + 1 + 1 + 1, 0, none⟩) 2 2]) (nd 2 [t, nd 4 [t]])
  rs : Row6 w (G + 1) #[.int .i64 4, .int .u64 0, .int .u64 0, .int .u64 0, .int .u64 0, .slice (some ⟨G, 0, none⟩) 1 1]
  rp : Row6 w (G + 1 + 1 + 1) #[.int .i64 5, .int .u64 0, .int .u64 0, .int .u64 0, .int .u64 0, .slice (some ⟨G + 1 + 1, 0, none⟩) 1 1]
  rb : Row6 w (G + 1 + 1 + 1 + 1 + 1) #[.int .i64 2, .int .u64 0, .int .u64 0, .int .u64 0, .int .u64 0, .slice (some ⟨G + 1 + 1 + 1 + 1, 0, none⟩) 2 2]
def vN (op : Int) (g n : Nat) : Nat → Value := fun i => (#[.int .i64 op, .int .u64 0, .int .u64 0, .int .u64 0, .int .u64 0, .slice (some ⟨g, 0, none⟩) n n] : Array Value).getD i Go.undef
theorem v6f_val (op : Int) (a b c d : Nat) (A : Option Addr) (n cap : Nat) : val6 (v6f op a b c d A n cap) = .agg (c6 op a b c d A n cap) := rfl
theorem made3 {w0 W : World} {op : Int} {a b c d : Nat} {A : Option Addr} {n cap : Nat} {t : Rx} (hx : IsRx w0 (.agg (c6 op a b c d A n cap)) t) (hW : ((((((w0.alloc (.cells #[.int .i64 op, .int .u64 (a : Int), .int .u64 (b : Int), .int .u64 (c : Int), .int .u64 (d : Int), .slice A n cap] 26)).alloc (.cells #[.int .i64 4, .int .u64 0, .int .u64 0, .int .u64 0, .int .u64 0, .slice (some ⟨w0.heap.size, 0, none⟩) 1 1] 26)).alloc (.cells #[.int .i64 op, .int .u64 (a : Int), .int .u64 (b : Int), .int .u64 (c : Int), .int .u64 (d : Int), .slice A n cap] 26)).alloc (.cells #[.int .i64 5, .int .u64 0, .int .u64 0, .int .u64 0, .int .u64 0, .slice (some ⟨w0.heap.size + 1 + 1, 0, none⟩) 1 1] 26)).alloc (.cells #[.int .i64 op, .int .u64 (a : Int), .int .u64 (b : Int), .int .u64 (c : Int), .int .u64 (d : Int), .slice A n cap, .int .i64 4, .int .u64 0, .int .u64 0, .int .u64 0, .int .u64 0, .slice (some ⟨w0.heap.size, 0, none⟩) 1 1] 26)).alloc (.cells #[.int .i64 2, .int .u64 0, .int .u64 0, .int .u64 0, .int .u64 0, .slice (some ⟨w0.heap.size + 1 + 1 + 1 + 1, 0, none⟩) 2 2] 26)) = W) : Made3 w0.heap.size op a b c d A n cap t W ∧ Below w0.heap.size w0 W := by
  obtain ⟨f1, f2, f3, z3, B3⟩ := alloc3 w0 (.cells #[.int .i64 op, .int .u64 (a : Int), .int .u64 (b : Int), .int .u64 (c : Int), .int .u64 (d : Int), .slice A n cap] 26) (.cells #[.int .i64 4, .int .u64 0, .int .u64 0, .int .u64 0, .int .u64 0, .slice (some ⟨w0.heap.size, 0, none⟩) 1 1] 26) (.cells #[.int .i64 op, .int .u64 (a : Int), .int .u64 (b : Int), .int .u64 (c : Int), .int .u64 (d : Int), .slice A n cap] 26)
  generalize ((w0.alloc (.cells #[.int .i64 op, .int .u64 (a : Int), .int .u64 (b : Int), .int .u64 (c : Int), .int .u64 (d : Int), .slice A n cap] 26)).alloc (.cells #[.int .i64 4, .int .u64 0, .int .u64 0, .int .u64 0, .int .u64 0, .slice (some ⟨w0.heap.size, 0, none⟩) 1 1] 26)).alloc (.cells #[.int .i64 op, .int .u64 (a : Int), .int .u64 (b : Int), .int .u64 (c : Int), .int .u64 (d : Int), .slice A n cap] 26) = w3 at *
  obtain ⟨f4, f5, f6, z6, B6⟩ := alloc3 w3 (.cells #[.int .i64 5, .int .u64 0, .int .u64 0, .int .u64 0, .int .u64 0, .slice (some ⟨w0.heap.size + 1 + 1, 0, none⟩) 1 1] 26) (.cells #[.int .i64 op, .int .u64 (a : Int), .int .u64 (b : Int), .int .u64 (c : Int), .int .u64 (d : Int), .slice A n cap, .int .i64 4, .int .u64 0, .int .u64 0, .int .u64 0, .int .u64 0, .slice (some ⟨w0.heap.size, 0, none⟩) 1 1] 26) (.cells #[.int .i64 2, .int .u64 0, .int .u64 0, .int .u64 0, .int .u64 0, .slice (some ⟨w0.heap.size + 1 + 1 + 1 + 1, 0, none⟩) 2 2] 26)
  rw [hW] at f4 f5 f6 z6 B6
  clear hW
  rw [z3] at f4 f5 f6 B6
  have o : ∀ k, k < w0.heap.size + 3 → W.heap[k]? = w3.heap[k]? := fun k hk => B6.block k hk
  have B := B3.trans (B6.mono (by omega))
  have h1 := (o (w0.heap.size) (by omega)).trans f1
  have h2 := (o (w0.heap.size + 1) (by omega)).trans f2
  have h3 := (o (w0.heap.size + 2) (by omega)).trans f3
  have X := hx.grown B
  have S := isrx_row (w := W) (l := [v6f op a b c d A n cap]) (ts := [t]) h1 rfl rfl (fun j hj => by
    obtain rfl : j = 0 := by simpa using hj
    exact X) 4
  have Pp := isrx_row (w := W) (l := [v6f op a b c d A n cap]) (ts := [t]) h3 rfl rfl (fun j hj => by
    obtain rfl : j = 0 := by simpa using hj
    exact X) 5
  have Bb := isrx_row (w := W) (l := [v6f op a b c d A n cap, vN 4 w0.heap.size 1]) (ts := [t, nd 4 [t]]) f5 rfl rfl (fun j hj => by
    match j, hj with
    | 0, _ => exact X
    | 1, _ => exact S) 2
  exact ⟨⟨X, S, Pp, Bb, h2, f4, f6⟩, B⟩
theorem Made3.grow {G : Nat} {op : Int} {a b c d : Nat} {A : Option Addr} {n cap : Nat} {t : Rx} {w w' : World} (h : Made3 G op a b c d A n cap t w) (hb : Below w.heap.size w w') : Made3 G op a b c d A n cap t w' :=
  ⟨h.x.grown hb, h.s.grown hb, h.p.grown hb, h.b.grown hb, h.rs.grow hb, h.rp.grow hb, h.rb.grow hb⟩

set_option maxRecDepth 100000 in
set_option maxHeartbeats 8000000 in
theorem stars_law (t : Rx) (v : Value) (s : ByteArray) (w : World) (hs : s.size ≤ maxLen) (hf : Rx.fit t) (h : IsRx w v t) :
    Calls Try.prog 7 #[v, .string s] w fun e w' => e = .returned (.bool true) ∧ Below w.heap.size w w' := by
  obtain ⟨op, a, b, c, d, A, n, cap, rfl⟩ := h.form6
  unfold maxLen at hs
  have B0 : Below w.heap.size w (w.alloc (.cells #[.int .i64 op, .int .u64 (a : Int), .int .u64 (b : Int), .int .u64 (c : Int), .int .u64 (d : Int), .slice A n cap] 26)) := (Below.refl _ _).alloc (Nat.le_refl _) _
  have R0 : Hid (Row6 (w.alloc (.cells #[.int .i64 op, .int .u64 (a : Int), .int .u64 (b : Int), .int .u64 (c : Int), .int .u64 (d : Int), .slice A n cap] 26)) w.heap.size #[.int .i64 op, .int .u64 (a : Int), .int .u64 (b : Int), .int .u64 (c : Int), .int .u64 (d : Int), .slice A n cap]) := heap_alloc_new w _
  have X0 := Lib.hid (h.grown B0)
  have B := Lib.hid B0
  clear B0 h
  have RN := Lib.hid runs_any
  obtain ⟨L, hL⟩ : ∃ L, s.size = L := ⟨_, rfl⟩
  rw [hL] at hs
  by_cases h20 : 20 < L
  · have hz : decide ((L : Int) > 20) = true := decide_eq_true (by omega)
    clear h20
    go_enter Try.func7, Try.ntmps7
    go_wp2_with fail
    refine (RN.out _).mono ?_
    rintro e w1 ⟨rfl, b1⟩
    replace B := Lib.hid (B.out.trans (b1.mono B.out.size))
    clear b1
    go_wp2
    go_ret
    exact ⟨rfl, B.out⟩
  have hz : decide ((L : Int) > 20) = false := decide_eq_false (by omega)
  have CN := Lib.hid (nodes14 t _ _ X0.out)
  obtain ⟨k, hk⟩ : ∃ k, min (Rx.count t) 15 = k := ⟨_, rfl⟩
  rw [hk] at CN
  by_cases h14 : 14 < k
  · have hkz : decide ((k : Int) > 14) = true := decide_eq_true (by omega)
    clear hk h14
    go_enter Try.func7, Try.ntmps7
    go_wp2_with fail
    refine CN.out.mono ?_
    rintro e w1 ⟨rfl, b1⟩
    replace B := Lib.hid (B.out.trans (b1.mono B.out.size))
    clear b1
    go_wp2_with fail
    refine (RN.out _).mono ?_
    rintro e w2 ⟨rfl, b1⟩
    replace B := Lib.hid (B.out.trans (b1.mono B.out.size))
    clear b1
    go_wp2
    go_ret
    exact ⟨rfl, B.out⟩
  have hkz : decide ((k : Int) > 14) = false := decide_eq_false (by omega)
  have hcnt : Rx.count t ≤ 14 := by omega
  clear hk h14
  go_enter Try.func7, Try.ntmps7
  go_wp2_with fail
  refine CN.out.mono ?_
  rintro e wn ⟨rfl, b1⟩
  replace B := Lib.hid (B.out.trans (b1.mono B.out.size))
  replace R0 := Lib.hid (R0.out.grow b1)
  replace X0 := Lib.hid (X0.out.grown b1)
  clear b1 CN
  have CI := Lib.hid (is_any 1000 t _ wn (Nat.le_refl _) (by omega) X0.out)
  obtain ⟨x0, x1, x2, x3, x4, x5⟩ := R0.out.cells
  go_wp2_with fail
  refine CI.out.mono ?_
  rintro e w0 ⟨rfl, b1⟩
  replace B := Lib.hid (B.out.trans (b1.mono B.out.size))
  replace R0 := Lib.hid (R0.out.grow b1)
  replace X0 := Lib.hid (X0.out.grown b1)
  clear b1 CI x0 x1 x2 x3 x4 x5
  cases hr : Rx.isRex t
  · clear hr
    go_wp2_with fail
    refine (RN.out _).mono ?_
    rintro e w2 ⟨rfl, b1⟩
    replace B := Lib.hid (B.out.trans (b1.mono B.out.size))
    clear b1
    go_wp2
    go_ret
    exact ⟨rfl, B.out⟩
  have HR := Lib.hid hr
  clear hr
  obtain ⟨x0, x1, x2, x3, x4, x5⟩ := R0.out.cells
  have hgw : w.heap.size < w0.heap.size := R0.out.lt
  have hg1 : w.heap.size < w0.heap.size + 1 := by omega
  have hg2 : w.heap.size < w0.heap.size + 1 + 1 := by omega
  have hg3 : w.heap.size < w0.heap.size + 1 + 1 + 1 := by omega
  have hg4 : w.heap.size < w0.heap.size + 1 + 1 + 1 + 1 := by omega
  have hg5 : w.heap.size < w0.heap.size + 1 + 1 + 1 + 1 + 1 := by omega
  have M3 := Lib.hid (fun W => made3 (W := W) X0.out)
  go_wp2
  obtain ⟨m3, b3⟩ := M3.out _ rfl
  generalize ((((((w0.alloc (.cells #[.int .i64 op, .int .u64 (a : Int), .int .u64 (b : Int), .int .u64 (c : Int), .int .u64 (d : Int), .slice A n cap] 26)).alloc (.cells #[.int .i64 4, .int .u64 0, .int .u64 0, .int .u64 0, .int .u64 0, .slice (some ⟨w0.heap.size, 0, none⟩) 1 1] 26)).alloc (.cells #[.int .i64 op, .int .u64 (a : Int), .int .u64 (b : Int), .int .u64 (c : Int), .int .u64 (d : Int), .slice A n cap] 26)).alloc (.cells #[.int .i64 5, .int .u64 0, .int .u64 0, .int .u64 0, .int .u64 0, .slice (some ⟨w0.heap.size + 1 + 1, 0, none⟩) 1 1] 26)).alloc (.cells #[.int .i64 op, .int .u64 (a : Int), .int .u64 (b : Int), .int .u64 (c : Int), .int .u64 (d : Int), .slice A n cap, .int .i64 4, .int .u64 0, .int .u64 0, .int .u64 0, .int .u64 0, .slice (some ⟨w0.heap.size, 0, none⟩) 1 1] 26)).alloc (.cells #[.int .i64 2, .int .u64 0, .int .u64 0, .int .u64 0, .int .u64 0, .slice (some ⟨w0.heap.size + 1 + 1 + 1 + 1, 0, none⟩) 2 2] 26)) = w1 at m3 b3 ⊢
  clear M3 hg1 hg2 hg3 hg4 hg5 x0 x1 x2 x3 x4 x5
  have M := Lib.hid m3
  replace R0 := Lib.hid (R0.out.grow b3)
  replace B := Lib.hid (B.out.trans (b3.mono B.out.size))
  clear m3 b3 X0
  generalize w0.heap.size = G at *
  have CE := Lib.hid (fun (u : Rx) (hc : Rx.count u ≤ 1000) (hu : Rx.fit u) (v : Value) (z : Int) W (hW : IsRx W v u) => ends_all hc hu v z s W (by omega) hW)
  have hlen : (txt8 s).length = L := by rw [txt8_len]; exact hL
  have SH := Lib.hid (fun p (hp : p ≤ L) => star_here (S := txt8 s) HR.out (by rw [hlen]; exact hp))
  have PB := Lib.hid (fun p (hp : p ≤ L) => plus_both (S := txt8 s) HR.out (by rw [hlen]; exact hp))
  have SM := Lib.hid (fun p e (hp : p ≤ L) => star_more (S := txt8 s) (e := e) HR.out (p := p) (by rw [hlen]; exact hp))
  rw [hlen] at SM
  have c4 := count_nd1 4 t
  have c5 := count_nd1 5 t
  have c2' := count_nd2 2 t (nd 4 [t])
  have CC := Lib.hid (And.intro (show Rx.count (nd 4 [t]) ≤ 1000 by omega) (And.intro (show Rx.count (nd 5 [t]) ≤ 1000 by omega) (show Rx.count (nd 2 [t, nd 4 [t]]) ≤ 1000 by omega)))
  clear c4 c5 c2' hlen
  go_loopw [8] (fun i wr => ∃ k : Nat, k ≤ L + 1 ∧ i = .int .i64 (k : Int) ∧ Hid (Below w1.heap.size w1 wr)) (fun i _ => L + 1 - (intOf i).toNat)
  case atStart => exact ⟨0, by omega, rfl, Below.refl _ _⟩
  case round =>
    obtain ⟨k, hk, rfl, HB⟩ := hrel
    by_cases hkl : k ≤ L
    · have hkz : (k : Int) ≤ (L : Int) := by omega
      obtain ⟨x0, x1, x2, x3, x4, x5⟩ := (M.out.grow HB.out).rs.cells
      have C4 := Lib.hid (CE.out (nd 4 [t]) CC.out.1 (fit_nd1 4 hf) _ (k : Int) _ (M.out.grow HB.out).s)
      have E1 := Lib.hid (zn_mem.2 (SH.out k hkl))
      have E2 := Lib.hid (PB.out k hkl)
      have E3 := Lib.hid (fun e => SM.out k e hkl)
      obtain ⟨E, hE⟩ : ∃ E, ends (txt8 s) (nd 4 [t]) (k : Int) = E := ⟨_, rfl⟩
      rw [hE] at C4 E1 E3
      clear hE
      go_wp2_with fail
      refine C4.out.mono ?_
      rintro e wa ⟨A1, n1, c1, rfl, l1, m1, Z1, ba⟩
      have BA := Lib.hid (HB.out.trans (ba.mono HB.out.size))
      have MA := Lib.hid (M.out.grow BA.out)
      have Z1 := Lib.hid Z1
      have L1 := Lib.hid (show (zn E).length = n1 by rw [zn_len]; exact l1)
      have CH := Lib.hid (fun W (hW : Below wa.heap.size wa W) => has_b (zn E) (k : Int) A1 n1 c1 W L1.out (by omega) (Z1.out.below hW))
      rw [decide_eq_true E1.out] at CH
      have CP := Lib.hid (fun W (hW : Below wa.heap.size wa W) => CE.out (nd 5 [t]) CC.out.2.1 (fit_nd1 5 hf) _ (k : Int) W (MA.out.grow hW).p)
      have CB := Lib.hid (fun W (hW : Below wa.heap.size wa W) => CE.out (nd 2 [t, nd 4 [t]]) CC.out.2.2 (fit_nd2 2 hf (fit_nd1 4 hf)) _ (k : Int) W (MA.out.grow hW).b)
      clear C4 ba x0 x1 x2 x3 x4 x5 l1 E1
      go_wp2_with fail
      refine wp_region_held_drew (S := fun W => Below wa.heap.size wa W) (by kernel_rfl) ((Below.refl _ _).drew) (fun hHeld => ?_)
      refine held_take 0 45 (v := (.slice A1 n1 c1)) rfl rfl (by kernel_rfl) (by kernel_rfl) (by kernel_rfl) (by rfl) (fun _ _ _ h => h) (by assumption) ?_ ?_
      · intro W hW
        go_simp
      simp only [List.setIfInBounds_toArray, List.set_cons_zero, List.set_cons_succ]
      refine held_take 1 46 (v := (.int .i64 (k : Int))) rfl rfl (by kernel_rfl) (by kernel_rfl) (by kernel_rfl) (by rfl) (fun _ _ _ h => h) (by assumption) ?_ ?_
      · intro W hW
        go_simp
      simp only [List.setIfInBounds_toArray, List.set_cons_zero, List.set_cons_succ]
      refine held_call 2 47 (f := 20) (args := #[.slice A1 n1 c1, .int .i64 (k : Int)]) rfl rfl (by kernel_rfl) (by rfl) (by go_simp) ?_
      refine (CH.out _ ((Below.refl wa.heap.size wa).drew)).mono ?_
      rintro e v1 ⟨rfl, d1⟩
      have r1 : Below wa.heap.size wa v1 := (Below.refl _ _).drew.trans d1
      refine ⟨_, rfl, r1, ?_⟩
      have held1 := Below.refl v1.heap.size v1
      refine held_more (S' := fun W => Below v1.heap.size v1 W) (fun W h => r1.trans (h.mono r1.size)) _ _ _ _ ?_
      simp only [List.setIfInBounds_toArray, List.set_cons_zero, List.set_cons_succ]
      refine held_take 3 48 (v := (.bool false)) rfl rfl (by kernel_rfl) (by kernel_rfl) (by kernel_rfl) (by rfl) (fun _ _ _ h => h) (by assumption) ?_ ?_
      · intro W hW
        go_simp
      simp only [List.setIfInBounds_toArray, List.set_cons_zero, List.set_cons_succ]
      refine held_take 4 49 (v := (.bool false)) rfl rfl (by kernel_rfl) (by kernel_rfl) (by kernel_rfl) (by rfl) (fun _ _ _ h => h) (by assumption) ?_ ?_
      · intro W hW
        go_simp
      simp only [List.setIfInBounds_toArray, List.set_cons_zero, List.set_cons_succ]
      refine held_take 5 50 (v := (.agg #[.int .i64 5, .int .u64 0, .int .u64 0, .int .u64 0, .int .u64 0, .slice (some ⟨G + 1 + 1, 0, none⟩) 1 1])) rfl rfl (by kernel_rfl) (by kernel_rfl) (by kernel_rfl) (by rfl) (fun _ _ _ h => h) (by assumption) ?_ ?_
      · intro W hW
        obtain ⟨e0, e1, e2, e3, e4, e5⟩ := (MA.out.grow (r1.trans (hW.mono r1.size))).rp.cells
        go_simp
      simp only [List.setIfInBounds_toArray, List.set_cons_zero, List.set_cons_succ]
      refine held_take 6 51 (v := (.string s)) rfl rfl (by kernel_rfl) (by kernel_rfl) (by kernel_rfl) (by rfl) (fun _ _ _ h => h) (by assumption) ?_ ?_
      · intro W hW
        go_simp
      simp only [List.setIfInBounds_toArray, List.set_cons_zero, List.set_cons_succ]
      refine held_take 7 52 (v := (.int .i64 (k : Int))) rfl rfl (by kernel_rfl) (by kernel_rfl) (by kernel_rfl) (by rfl) (fun _ _ _ h => h) (by assumption) ?_ ?_
      · intro W hW
        go_simp
      simp only [List.setIfInBounds_toArray, List.set_cons_zero, List.set_cons_succ]
      refine held_take 9 54 (v := (.agg #[.int .i64 2, .int .u64 0, .int .u64 0, .int .u64 0, .int .u64 0, .slice (some ⟨G + 1 + 1 + 1 + 1, 0, none⟩) 2 2])) rfl rfl (by kernel_rfl) (by kernel_rfl) (by kernel_rfl) (by rfl) (fun _ _ _ h => h) (by assumption) ?_ ?_
      · intro W hW
        obtain ⟨e0, e1, e2, e3, e4, e5⟩ := (MA.out.grow (r1.trans (hW.mono r1.size))).rb.cells
        go_simp
      simp only [List.setIfInBounds_toArray, List.set_cons_zero, List.set_cons_succ]
      refine held_take 10 55 (v := (.string s)) rfl rfl (by kernel_rfl) (by kernel_rfl) (by kernel_rfl) (by rfl) (fun _ _ _ h => h) (by assumption) ?_ ?_
      · intro W hW
        go_simp
      simp only [List.setIfInBounds_toArray, List.set_cons_zero, List.set_cons_succ]
      refine held_take 11 56 (v := (.int .i64 (k : Int))) rfl rfl (by kernel_rfl) (by kernel_rfl) (by kernel_rfl) (by rfl) (fun _ _ _ h => h) (by assumption) ?_ ?_
      · intro W hW
        go_simp
      simp only [List.setIfInBounds_toArray, List.set_cons_zero, List.set_cons_succ]
      refine held_call 8 53 (f := 13) (args := #[(.agg #[.int .i64 5, .int .u64 0, .int .u64 0, .int .u64 0, .int .u64 0, .slice (some ⟨G + 1 + 1, 0, none⟩) 1 1]), .string s, .int .i64 (k : Int)]) rfl rfl (by kernel_rfl) (by rfl) (by go_simp) ?_
      refine (CP.out _ r1).mono ?_
      rintro e v2 ⟨A2, n2, c2, rfl, l2, m2, Z2, d2⟩
      have r2 := r1.trans (d2.mono r1.size)
      refine ⟨_, rfl, d2, ?_⟩
      have held2 := Below.refl v2.heap.size v2
      refine held_more (S' := fun W => Below v2.heap.size v2 W) (fun W h => d2.trans (h.mono d2.size)) _ _ _ _ ?_
      simp only [List.setIfInBounds_toArray, List.set_cons_zero, List.set_cons_succ]
      refine held_call 12 57 (f := 13) (args := #[(.agg #[.int .i64 2, .int .u64 0, .int .u64 0, .int .u64 0, .int .u64 0, .slice (some ⟨G + 1 + 1 + 1 + 1, 0, none⟩) 2 2]), .string s, .int .i64 (k : Int)]) rfl rfl (by kernel_rfl) (by rfl) (by go_simp) ?_
      refine (CB.out _ r2).mono ?_
      rintro e v3 ⟨A3, n3, c3, rfl, l3, m3, Z3, d3⟩
      have r3 := r2.trans (d3.mono r2.size)
      refine ⟨_, rfl, d3, ?_⟩
      have held3 := Below.refl v3.heap.size v3
      refine held_more (S' := fun W => Below v3.heap.size v3 W) (fun W h => d3.trans (h.mono d3.size)) _ _ _ _ ?_
      simp only [List.setIfInBounds_toArray, List.set_cons_zero, List.set_cons_succ]
      have CS := same_b (zn (ends (txt8 s) (nd 5 [t]) (k : Int))) (zn (ends (txt8 s) (nd 2 [t, nd 4 [t]]) (k : Int))) A2 A3 n2 n3 c2 c3 _ (by rw [zn_len]; exact l2) (by rw [zn_len]; exact l3) (by omega) (by omega) (Z2.below d3) Z3
      rw [decide_eq_true E2.out] at CS
      refine held_call 13 58 (f := 12) (args := #[.slice A2 n2 c2, .slice A3 n3 c3]) rfl rfl (by kernel_rfl) (by rfl) (by go_simp) ?_
      refine (CS).mono ?_
      rintro e v4 ⟨rfl, d4⟩
      have r4 := r3.trans (d4.mono r3.size)
      refine ⟨_, rfl, d4, ?_⟩
      have held4 := Below.refl v4.heap.size v4
      refine held_more (S' := fun W => Below v4.heap.size v4 W) (fun W h => d4.trans (h.mono d4.size)) _ _ _ _ ?_
      simp only [List.setIfInBounds_toArray, List.set_cons_zero, List.set_cons_succ]
      refine held_take 14 59 (v := (.bool false)) rfl rfl (by kernel_rfl) (by kernel_rfl) (by kernel_rfl) (by rfl) (fun _ _ _ h => h) (by assumption) ?_ ?_
      · intro W hW
        go_simp
      simp only [List.setIfInBounds_toArray, List.set_cons_zero, List.set_cons_succ]
      refine held_take 15 60 (v := (.bool false)) rfl rfl (by kernel_rfl) (by kernel_rfl) (by kernel_rfl) (by rfl) (fun _ _ _ h => h) (by assumption) ?_ ?_
      · intro W hW
        go_simp
      simp only [List.setIfInBounds_toArray, List.set_cons_zero, List.set_cons_succ]
      refine wpAnyH_done (by kernel_rfl) ?_ _
      have BV := Lib.hid r4
      clear r1 r2 r3 r4 d1 d2 d3 d4 held1 held2 held3 held4 hHeld Z2 Z3 l2 l3 m2 m3 CS CH CP CB E2
      go_wp2
      go_loopw [10] (fun i wr => ∃ j : Nat, j ≤ n1 ∧ i = .int .i64 (j : Int) ∧ Hid (Below v4.heap.size v4 wr)) (fun i _ => n1 - (intOf i).toNat)
      case atStart => exact ⟨0, by omega, rfl, Below.refl _ _⟩
      case round =>
        obtain ⟨j, hj, rfl, HC⟩ := hrel
        have BX := Lib.hid (BV.out.trans (HC.out.mono BV.out.size))
        by_cases hjn : j < n1
        · have hjz : (j : Int) < (n1 : Int) := by omega
          obtain ⟨b1, o1, rfl, _⟩ := Z1.out (by rw [L1.out]; omega)
          obtain ⟨q, hq, hqz⟩ : ∃ q : Nat, q ∈ E ∧ nz (zn E) j = (q : Int) := by
            have h1 : nz (zn E) j ∈ zn E := by rw [nz_eq (by rw [L1.out]; exact hjn)]; exact List.getElem_mem _
            unfold zn at h1
            obtain ⟨q, h2, h3⟩ := List.mem_map.1 h1
            exact ⟨q, h2, h3.symm⟩
          obtain ⟨e1, e2, e3⟩ := E3.out q hq
          have QC : Hid (∀ W, Below wr.heap.size wr W → W.cell? ⟨b1, o1 + j, none⟩ = some (.int .i64 (q : Int))) := fun W hW => by rw [← hqz]; exact isZ_at (Z1.out.below (BX.out.trans (hW.mono BX.out.size))) (by rw [L1.out]; exact hjn)
          have XC : Hid (∀ W, Below wr.heap.size wr W → Row6 W w.heap.size #[.int .i64 op, .int .u64 (a : Int), .int .u64 (b : Int), .int .u64 (c : Int), .int .u64 (d : Int), .slice A n cap]) := fun W hW => (R0.out.grow BA.out).grow (BX.out.trans (hW.mono BX.out.size))
          have C5 := Lib.hid (fun W (hW : Below wr.heap.size wr W) => CE.out t (by omega) hf _ (q : Int) W (MA.out.grow (BX.out.trans (hW.mono BX.out.size))).x)
          have C6 := Lib.hid (fun A5 n5 c5 W (l5 : (ends (txt8 s) t (q : Int)).length = n5) (m5 : n5 ≤ 101) (z5 : IsZ W A5 (zn (ends (txt8 s) t (q : Int)))) (hW : Below wr.heap.size wr W) => both_b (zn (ends (txt8 s) t (q : Int))) (zn E) false A5 (some ⟨b1, o1, none⟩) n5 n1 c5 c1 W (by rw [zn_len]; exact l5) L1.out (by omega) (by omega) z5 (Z1.out.below (BX.out.trans (hW.mono BX.out.size))) e3)
          have hq1 : decide (q < k) = false := decide_eq_false (by omega)
          have hq2 : decide ((q : Int) < (k : Int)) = false := decide_eq_false (by omega)
          have hq3 : decide ((q : Int) > (L : Int)) = false := decide_eq_false (by omega)
          have hq4 : decide (L < q) = false := decide_eq_false (by omega)
          unfold c6 at C5
          clear hqz hq e1 e2 e3
          go_wp2_with fail
          refine wp_region_held_drew (S := fun W => Below wr.heap.size wr W) (by kernel_rfl) ((Below.refl _ _).drew) (fun hHeld => ?_)
          refine held_take 0 67 (v := (.slice (some ⟨b1, o1, none⟩) n1 c1)) rfl rfl (by kernel_rfl) (by kernel_rfl) (by kernel_rfl) (by rfl) (fun _ _ _ h => h) (by assumption) ?_ ?_
          · intro W hW
            go_simp
          simp only [List.setIfInBounds_toArray, List.set_cons_zero, List.set_cons_succ]
          refine held_take 1 68 (v := (.int .i64 (j : Int))) rfl rfl (by kernel_rfl) (by kernel_rfl) (by kernel_rfl) (by rfl) (fun _ _ _ h => h) (by assumption) ?_ ?_
          · intro W hW
            go_simp
          simp only [List.setIfInBounds_toArray, List.set_cons_zero, List.set_cons_succ]
          refine held_take 2 69 (v := (.pointer (some ⟨b1, o1 + j, none⟩))) rfl rfl (by kernel_rfl) (by kernel_rfl) (by kernel_rfl) (by rfl) (fun _ _ _ h => h) (by assumption) ?_ ?_
          · intro W hW
            go_simp
          simp only [List.setIfInBounds_toArray, List.set_cons_zero, List.set_cons_succ]
          refine held_take 3 70 (v := (.int .i64 (q : Int))) rfl rfl (by kernel_rfl) (by kernel_rfl) (by kernel_rfl) (by rfl) (fun _ _ _ h => h) (by assumption) ?_ ?_
          · intro W hW
            have z1 := QC.out W hW
            go_simp
          simp only [List.setIfInBounds_toArray, List.set_cons_zero, List.set_cons_succ]
          refine held_take 4 71 (v := (.int .i64 (k : Int))) rfl rfl (by kernel_rfl) (by kernel_rfl) (by kernel_rfl) (by rfl) (fun _ _ _ h => h) (by assumption) ?_ ?_
          · intro W hW
            go_simp
          simp only [List.setIfInBounds_toArray, List.set_cons_zero, List.set_cons_succ]
          refine held_take 5 72 (v := (.bool false)) rfl rfl (by kernel_rfl) (by kernel_rfl) (by kernel_rfl) (by rfl) (fun _ _ _ h => h) (by assumption) ?_ ?_
          · intro W hW
            go_simp
          simp only [List.setIfInBounds_toArray, List.set_cons_zero, List.set_cons_succ]
          refine held_take 6 73 (v := (.bool false)) rfl rfl (by kernel_rfl) (by kernel_rfl) (by kernel_rfl) (by rfl) (fun _ _ _ h => h) (by assumption) ?_ ?_
          · intro W hW
            go_simp
          simp only [List.setIfInBounds_toArray, List.set_cons_zero, List.set_cons_succ]
          refine held_take 7 74 (v := (.slice (some ⟨b1, o1, none⟩) n1 c1)) rfl rfl (by kernel_rfl) (by kernel_rfl) (by kernel_rfl) (by rfl) (fun _ _ _ h => h) (by assumption) ?_ ?_
          · intro W hW
            go_simp
          simp only [List.setIfInBounds_toArray, List.set_cons_zero, List.set_cons_succ]
          refine held_take 8 75 (v := (.int .i64 (j : Int))) rfl rfl (by kernel_rfl) (by kernel_rfl) (by kernel_rfl) (by rfl) (fun _ _ _ h => h) (by assumption) ?_ ?_
          · intro W hW
            go_simp
          simp only [List.setIfInBounds_toArray, List.set_cons_zero, List.set_cons_succ]
          refine held_take 9 76 (v := (.pointer (some ⟨b1, o1 + j, none⟩))) rfl rfl (by kernel_rfl) (by kernel_rfl) (by kernel_rfl) (by rfl) (fun _ _ _ h => h) (by assumption) ?_ ?_
          · intro W hW
            go_simp
          simp only [List.setIfInBounds_toArray, List.set_cons_zero, List.set_cons_succ]
          refine held_take 10 77 (v := (.int .i64 (q : Int))) rfl rfl (by kernel_rfl) (by kernel_rfl) (by kernel_rfl) (by rfl) (fun _ _ _ h => h) (by assumption) ?_ ?_
          · intro W hW
            have z1 := QC.out W hW
            go_simp
          simp only [List.setIfInBounds_toArray, List.set_cons_zero, List.set_cons_succ]
          refine held_take 11 78 (v := (.string s)) rfl rfl (by kernel_rfl) (by kernel_rfl) (by kernel_rfl) (by rfl) (fun _ _ _ h => h) (by assumption) ?_ ?_
          · intro W hW
            go_simp
          simp only [List.setIfInBounds_toArray, List.set_cons_zero, List.set_cons_succ]
          refine held_take 12 79 (v := (.int .i64 (L : Int))) rfl rfl (by kernel_rfl) (by kernel_rfl) (by kernel_rfl) (by rfl) (fun _ _ _ h => h) (by assumption) ?_ ?_
          · intro W hW
            go_simp
          simp only [List.setIfInBounds_toArray, List.set_cons_zero, List.set_cons_succ]
          refine held_take 13 80 (v := (.bool false)) rfl rfl (by kernel_rfl) (by kernel_rfl) (by kernel_rfl) (by rfl) (fun _ _ _ h => h) (by assumption) ?_ ?_
          · intro W hW
            go_simp
          simp only [List.setIfInBounds_toArray, List.set_cons_zero, List.set_cons_succ]
          refine held_take 14 81 (v := (.bool false)) rfl rfl (by kernel_rfl) (by kernel_rfl) (by kernel_rfl) (by rfl) (fun _ _ _ h => h) (by assumption) ?_ ?_
          · intro W hW
            go_simp
          simp only [List.setIfInBounds_toArray, List.set_cons_zero, List.set_cons_succ]
          refine held_take 15 82 (v := (.bool false)) rfl rfl (by kernel_rfl) (by kernel_rfl) (by kernel_rfl) (by rfl) (fun _ _ _ h => h) (by assumption) ?_ ?_
          · intro W hW
            go_simp
          simp only [List.setIfInBounds_toArray, List.set_cons_zero, List.set_cons_succ]
          refine held_take 16 83 (v := (.agg #[.int .i64 op, .int .u64 (a : Int), .int .u64 (b : Int), .int .u64 (c : Int), .int .u64 (d : Int), .slice A n cap])) rfl rfl (by kernel_rfl) (by kernel_rfl) (by kernel_rfl) (by rfl) (fun _ _ _ h => h) (by assumption) ?_ ?_
          · intro W hW
            obtain ⟨e0, e1, e2, e3, e4, e5⟩ := (XC.out W hW).cells
            go_simp
          simp only [List.setIfInBounds_toArray, List.set_cons_zero, List.set_cons_succ]
          refine held_take 17 84 (v := (.string s)) rfl rfl (by kernel_rfl) (by kernel_rfl) (by kernel_rfl) (by rfl) (fun _ _ _ h => h) (by assumption) ?_ ?_
          · intro W hW
            go_simp
          simp only [List.setIfInBounds_toArray, List.set_cons_zero, List.set_cons_succ]
          refine held_take 18 85 (v := (.slice (some ⟨b1, o1, none⟩) n1 c1)) rfl rfl (by kernel_rfl) (by kernel_rfl) (by kernel_rfl) (by rfl) (fun _ _ _ h => h) (by assumption) ?_ ?_
          · intro W hW
            go_simp
          simp only [List.setIfInBounds_toArray, List.set_cons_zero, List.set_cons_succ]
          refine held_take 19 86 (v := (.int .i64 (j : Int))) rfl rfl (by kernel_rfl) (by kernel_rfl) (by kernel_rfl) (by rfl) (fun _ _ _ h => h) (by assumption) ?_ ?_
          · intro W hW
            go_simp
          simp only [List.setIfInBounds_toArray, List.set_cons_zero, List.set_cons_succ]
          refine held_take 20 87 (v := (.pointer (some ⟨b1, o1 + j, none⟩))) rfl rfl (by kernel_rfl) (by kernel_rfl) (by kernel_rfl) (by rfl) (fun _ _ _ h => h) (by assumption) ?_ ?_
          · intro W hW
            go_simp
          simp only [List.setIfInBounds_toArray, List.set_cons_zero, List.set_cons_succ]
          refine held_take 21 88 (v := (.int .i64 (q : Int))) rfl rfl (by kernel_rfl) (by kernel_rfl) (by kernel_rfl) (by rfl) (fun _ _ _ h => h) (by assumption) ?_ ?_
          · intro W hW
            have z1 := QC.out W hW
            go_simp
          simp only [List.setIfInBounds_toArray, List.set_cons_zero, List.set_cons_succ]
          refine held_take 23 90 (v := (.slice (some ⟨b1, o1, none⟩) n1 c1)) rfl rfl (by kernel_rfl) (by kernel_rfl) (by kernel_rfl) (by rfl) (fun _ _ _ h => h) (by assumption) ?_ ?_
          · intro W hW
            go_simp
          simp only [List.setIfInBounds_toArray, List.set_cons_zero, List.set_cons_succ]
          refine held_call 22 89 (f := 13) (args := #[(.agg #[.int .i64 op, .int .u64 (a : Int), .int .u64 (b : Int), .int .u64 (c : Int), .int .u64 (d : Int), .slice A n cap]), .string s, .int .i64 (q : Int)]) rfl rfl (by kernel_rfl) (by rfl) (by go_simp) ?_
          refine (C5.out _ ((Below.refl wr.heap.size wr).drew)).mono ?_
          rintro e uv1 ⟨A5, n5, c5, rfl, l5, m5, Z5, ud1⟩
          have ur1 : Below wr.heap.size wr uv1 := (Below.refl _ _).drew.trans ud1
          refine ⟨_, rfl, ur1, ?_⟩
          have uheld1 := Below.refl uv1.heap.size uv1
          refine held_more (S' := fun W => Below uv1.heap.size uv1 W) (fun W h => ur1.trans (h.mono ur1.size)) _ _ _ _ ?_
          simp only [List.setIfInBounds_toArray, List.set_cons_zero, List.set_cons_succ]
          refine held_call 24 91 (f := 21) (args := #[.slice A5 n5 c5, .slice (some ⟨b1, o1, none⟩) n1 c1, .bool false]) rfl rfl (by kernel_rfl) (by rfl) (by go_simp) ?_
          refine (C6.out A5 n5 c5 _ l5 m5 Z5 ur1).mono ?_
          rintro e uv2 ⟨A6, c6', rfl, ud2⟩
          have ur2 := ur1.trans (ud2.mono ur1.size)
          refine ⟨_, rfl, ud2, ?_⟩
          have uheld2 := Below.refl uv2.heap.size uv2
          refine held_more (S' := fun W => Below uv2.heap.size uv2 W) (fun W h => ud2.trans (h.mono ud2.size)) _ _ _ _ ?_
          simp only [List.setIfInBounds_toArray, List.set_cons_zero, List.set_cons_succ]
          refine held_take 25 92 (v := (.int .i64 0)) rfl rfl (by kernel_rfl) (by kernel_rfl) (by kernel_rfl) (by rfl) (fun _ _ _ h => h) (by assumption) ?_ ?_
          · intro W hW
            go_simp
          simp only [List.setIfInBounds_toArray, List.set_cons_zero, List.set_cons_succ]
          refine held_take 26 93 (v := (.bool false)) rfl rfl (by kernel_rfl) (by kernel_rfl) (by kernel_rfl) (by rfl) (fun _ _ _ h => h) (by assumption) ?_ ?_
          · intro W hW
            go_simp
          simp only [List.setIfInBounds_toArray, List.set_cons_zero, List.set_cons_succ]
          refine held_take 27 94 (v := (.bool false)) rfl rfl (by kernel_rfl) (by kernel_rfl) (by kernel_rfl) (by rfl) (fun _ _ _ h => h) (by assumption) ?_ ?_
          · intro W hW
            go_simp
          simp only [List.setIfInBounds_toArray, List.set_cons_zero, List.set_cons_succ]
          refine wpAnyH_done (by kernel_rfl) ?_ _
          have BN := Lib.hid (HC.out.trans (ur2.mono HC.out.size))
          clear ur1 ur2 ud1 ud2 uheld1 uheld2 hHeld
          go_wp2
          go_roundw
          case rel => exact ⟨j + 1, by omega, by go_num, BN⟩
          case measure => simp [intOf]; omega
        · obtain rfl : j = n1 := by omega
          have hjz : ¬ (j : Int) < (j : Int) := by omega
          have BN := Lib.hid (BA.out.trans (BX.out.mono BA.out.size))
          go_wp2
          go_roundw
          case rel => exact ⟨k + 1, by omega, by go_num, BN⟩
          case measure => simp [intOf]; omega
    · obtain rfl : k = L + 1 := by omega
      have hkz : ¬ ((L + 1 : Nat) : Int) ≤ (L : Int) := by omega
      have BF := Lib.hid (B.out.trans (HB.out.mono B.out.size))
      generalize L + 1 = k at *
      go_wp2_with fail
      refine (RN.out _).mono ?_
      rintro e w2 ⟨rfl, b1⟩
      have B2 := Lib.hid (BF.out.trans (b1.mono BF.out.size))
      clear b1
      go_wp2
      go_ret
      exact ⟨rfl, B2.out⟩
end Go.Proofs.Yteifjiadgbgkbaa
