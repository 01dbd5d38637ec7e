/-
  ProgAdds as a contract: how many steps two trees have, one behind the other or either; one repeated. No conditions.
-/
import Derived.Test.YtjnikeiboefnbaaUo
namespace Go.Proofs.Ytjnikeiboefnbaa
open Go.RowKit Go.Sort
open Pz

/-- A node made of some trees. -/
def ndS (op : Int) (ts : List Rx) : Rx := .mk op 0 0 0 0 ts
theorem isrx_made {w : World} {g : Nat} {cs : Array Value} {l : List (Nat → Value)} {ts : List Rx} (hg : w.heap[g]? = some (.cells cs 26 (0, 0))) (hcs : cs.toList = rc l) (hl : l.length = ts.length) (hk : ∀ j, j < ts.length → IsRx w (val6 (nthV l j)) (Rx.nth ts j)) (op : Int) :
    IsRx w (.agg #[.int .i64 op, .int .u64 0, .int .u64 0, .int .u64 0, .int .u64 0, .slice (some ⟨g, 0, none⟩) ts.length ts.length]) (ndS op ts) := by
  refine IsRx.node op 0 0 0 0 ts _ ts.length g 0 (nthV l) (Nat.le_refl _) (fun e => by cases e) (fun _ => rfl) (fun j i hj hi => ?_) hk
  rw [Nat.zero_add, cell_of_row _ _ _ _ _ _ hg]
  have := rc_get l j i (by omega) hi
  rw [← hcs] at this
  simpa using this
theorem ndS_count1 (op : Int) (t : Rx) : Rx.count (ndS op [t]) = 1 + Rx.count t := by unfold ndS; rw [Rx.count, Rx.countL, Rx.countL]; omega
theorem ndS_count2 (op : Int) (t u : Rx) : Rx.count (ndS op [t, u]) = 1 + Rx.count t + Rx.count u := by unfold ndS; rw [Rx.count, Rx.countL, Rx.countL, Rx.countL]; omega
theorem ndS_size1 {t : Rx} (h : Rx.isRex t = true) : Rx.size (ndS 4 [t]) = Rx.sz t + 3 ∧ Rx.size (ndS 5 [t]) = Rx.sz t + 2 ∧ Rx.size (ndS 6 [t]) = Rx.sz t + 2 := by
  simp [Rx.size, ndS, Rx.isRex, Rx.isAll, Rx.may, Rx.sz, Rx.szL, h]
theorem ndS_size2 {t u : Rx} (h : Rx.isRex t = true) (h2 : Rx.isRex u = true) : Rx.size (ndS 2 [t, u]) = Rx.sz t + Rx.sz u + 1 ∧ Rx.size (ndS 3 [t, u]) = Rx.sz t + Rx.sz u + 3 := by
  simp [Rx.size, ndS, Rx.isRex, Rx.isAll, Rx.may, Rx.sz, Rx.szL, h, h2]
theorem size_of {t : Rx} (h : Rx.isRex t = true) : Rx.size t = Rx.sz t + 1 := by unfold Rx.size; rw [if_pos h]
/-- The rows of two trees and of one. -/
structure Rows2 (w : World) (g : Nat) (x y : Rx) : Prop where
  two : ∀ op, IsRx w (.agg #[.int .i64 op, .int .u64 0, .int .u64 0, .int .u64 0, .int .u64 0, .slice (some ⟨g, 0, none⟩) 2 2]) (ndS op [x, y])
  one : ∀ op, IsRx w (.agg #[.int .i64 op, .int .u64 0, .int .u64 0, .int .u64 0, .int .u64 0, .slice (some ⟨g + 1, 0, none⟩) 1 1]) (ndS op [x])
theorem Rows2.grown {w w' : World} {g : Nat} {x y : Rx} (h : Rows2 w g x y) (hb : Below w.heap.size w w') : Rows2 w' g x y := ⟨fun op => (h.two op).grown hb, fun op => (h.one op).grown hb⟩
theorem rows2 {w W : World} {ox oy : Int} {ax bx cx dx nx capx ay by' cy dy ny capy : Nat} {Ax Ay : Option Addr} {x y : Rx} (hx : IsRx w (.agg #[.int .i64 ox, .int .u64 (ax : Int), .int .u64 (bx : Int), .int .u64 (cx : Int), .int .u64 (dx : Int), .slice Ax nx capx]) x) (hy : IsRx w (.agg #[.int .i64 oy, .int .u64 (ay : Int), .int .u64 (by' : Int), .int .u64 (cy : Int), .int .u64 (dy : Int), .slice Ay ny capy]) y)
    (hW : (w.alloc (.cells #[.int .i64 ox, .int .u64 (ax : Int), .int .u64 (bx : Int), .int .u64 (cx : Int), .int .u64 (dx : Int), .slice Ax nx capx, .int .i64 oy, .int .u64 (ay : Int), .int .u64 (by' : Int), .int .u64 (cy : Int), .int .u64 (dy : Int), .slice Ay ny capy] 26)).alloc (.cells #[.int .i64 ox, .int .u64 (ax : Int), .int .u64 (bx : Int), .int .u64 (cx : Int), .int .u64 (dx : Int), .slice Ax nx capx] 26) = W) : Rows2 W w.heap.size x y ∧ Below w.heap.size w W := by
  obtain ⟨e1, e2, z, B⟩ := alloc2 w (.cells #[.int .i64 ox, .int .u64 (ax : Int), .int .u64 (bx : Int), .int .u64 (cx : Int), .int .u64 (dx : Int), .slice Ax nx capx, .int .i64 oy, .int .u64 (ay : Int), .int .u64 (by' : Int), .int .u64 (cy : Int), .int .u64 (dy : Int), .slice Ay ny capy] 26) (.cells #[.int .i64 ox, .int .u64 (ax : Int), .int .u64 (bx : Int), .int .u64 (cx : Int), .int .u64 (dx : Int), .slice Ax nx capx] 26)
  rw [hW] at e1 e2 z B
  have X := hx.grown B
  have Y := hy.grown B
  refine ⟨⟨fun op => ?_, fun op => ?_⟩, B⟩
  · refine isrx_made (l := [v6f ox ax bx cx dx Ax nx capx, v6f oy ay by' cy dy Ay ny capy]) (ts := [x, y]) e1 rfl rfl (fun j hj => ?_) op
    match j, hj with
    | 0, _ => exact X
    | 1, _ => exact Y
  · refine isrx_made (l := [v6f ox ax bx cx dx Ax nx capx]) (ts := [x]) e2 rfl rfl (fun j hj => ?_) op
    match j, hj with
    | 0, _ => exact X

set_option maxRecDepth 100000 in
set_option maxHeartbeats 8000000 in
theorem adds_law (t u : Rx) (v vy : Value) (w : World) (h : IsRx w v t) (hy : IsRx w vy u) :
    Calls Try.prog 8 #[v, vy] w fun e w' => e = .returned (.bool true) ∧ Below w.heap.size w w' := by
  obtain ⟨ox, ax, bx, cx, dx, Ax, nx, capx, rfl⟩ := h.six
  obtain ⟨oy, ay, by', cy, dy, Ay, ny, capy, rfl⟩ := hy.six
  obtain ⟨f1, f2, z2, B0⟩ := alloc2 w (.cells #[.int .i64 ox, .int .u64 (ax : Int), .int .u64 (bx : Int), .int .u64 (cx : Int), .int .u64 (dx : Int), .slice Ax nx capx] 26) (.cells #[.int .i64 oy, .int .u64 (ay : Int), .int .u64 (by' : Int), .int .u64 (cy : Int), .int .u64 (dy : Int), .slice Ay ny capy] 26)
  have RX0 : Hid (Row6 ((w.alloc (.cells #[.int .i64 ox, .int .u64 (ax : Int), .int .u64 (bx : Int), .int .u64 (cx : Int), .int .u64 (dx : Int), .slice Ax nx capx] 26)).alloc (.cells #[.int .i64 oy, .int .u64 (ay : Int), .int .u64 (by' : Int), .int .u64 (cy : Int), .int .u64 (dy : Int), .slice Ay ny capy] 26)) w.heap.size #[.int .i64 ox, .int .u64 (ax : Int), .int .u64 (bx : Int), .int .u64 (cx : Int), .int .u64 (dx : Int), .slice Ax nx capx]) := f1
  have RY0 : Hid (Row6 ((w.alloc (.cells #[.int .i64 ox, .int .u64 (ax : Int), .int .u64 (bx : Int), .int .u64 (cx : Int), .int .u64 (dx : Int), .slice Ax nx capx] 26)).alloc (.cells #[.int .i64 oy, .int .u64 (ay : Int), .int .u64 (by' : Int), .int .u64 (cy : Int), .int .u64 (dy : Int), .slice Ay ny capy] 26)) (w.heap.size + 1) #[.int .i64 oy, .int .u64 (ay : Int), .int .u64 (by' : Int), .int .u64 (cy : Int), .int .u64 (dy : Int), .slice Ay ny capy]) := f2
  have IX := Lib.hid (h.grown B0)
  have IY := Lib.hid (hy.grown B0)
  have B := Lib.hid B0
  clear B0 h hy f1 f2 z2
  have RN := Lib.hid runs6_any
  have NX : Hid (∀ W, IsRx W (.agg #[.int .i64 ox, .int .u64 (ax : Int), .int .u64 (bx : Int), .int .u64 (cx : Int), .int .u64 (dx : Int), .slice Ax nx capx]) t → Calls Try.prog 12 #[.agg #[.int .i64 ox, .int .u64 (ax : Int), .int .u64 (bx : Int), .int .u64 (cx : Int), .int .u64 (dx : Int), .slice Ax nx capx], .int .i64 40] W fun e w' => e = .returned (.int .i64 ((min (Rx.count t) (40 + 1) : Nat) : Int)) ∧ Below W.heap.size W w') := fun W hW => nodes_at 40 (by omega) t _ W hW
  have NY : Hid (∀ W, IsRx W (.agg #[.int .i64 oy, .int .u64 (ay : Int), .int .u64 (by' : Int), .int .u64 (cy : Int), .int .u64 (dy : Int), .slice Ay ny capy]) u → Calls Try.prog 12 #[.agg #[.int .i64 oy, .int .u64 (ay : Int), .int .u64 (by' : Int), .int .u64 (cy : Int), .int .u64 (dy : Int), .slice Ay ny capy], .int .i64 40] W fun e w' => e = .returned (.int .i64 ((min (Rx.count u) (40 + 1) : Nat) : Int)) ∧ Below W.heap.size W w') := fun W hW => nodes_at 40 (by omega) u _ W hW
  obtain ⟨kx, hkx⟩ : ∃ k, min (Rx.count t) (40 + 1) = k := ⟨_, rfl⟩
  obtain ⟨ky, hky⟩ : ∃ k, min (Rx.count u) (40 + 1) = k := ⟨_, rfl⟩
  rw [hkx] at NX
  rw [hky] at NY
  go_enter Try.func8, Try.ntmps8
  go_upto_region 1 with fail
  generalize ((w.alloc (.cells #[.int .i64 ox, .int .u64 (ax : Int), .int .u64 (bx : Int), .int .u64 (cx : Int), .int .u64 (dx : Int), .slice Ax nx capx] 26)).alloc (.cells #[.int .i64 oy, .int .u64 (ay : Int), .int .u64 (by' : Int), .int .u64 (cy : Int), .int .u64 (dy : Int), .slice Ay ny capy] 26)) = w0 at *
  obtain ⟨e0, e1, e2, e3, e4, e5⟩ := RX0.out.cells
  go_wp2_with fail
  refine (NX.out _ IX.out).mono ?_
  rintro e w1 ⟨rfl, b1⟩
  replace B := Lib.hid (B.out.trans (b1.mono B.out.size))
  replace RX0 := Lib.hid (RX0.out.grow b1)
  replace RY0 := Lib.hid (RY0.out.grow b1)
  replace IX := Lib.hid (IX.out.grown b1)
  replace IY := Lib.hid (IY.out.grown b1)
  clear b1
  clear e0 e1 e2 e3 e4 e5
  by_cases hx : 40 < kx
  · have hxz : decide ((kx : Int) > 40) = true := decide_eq_true (by omega)
    clear hkx hky hx
    go_wp2_with fail
    refine (RN.out _).mono ?_
    rintro e wz ⟨rfl, bz⟩
    replace B := Lib.hid (B.out.trans (bz.mono B.out.size))
    clear bz
    go_wp2
    go_ret
    exact ⟨rfl, B.out⟩
  have hxz : decide ((kx : Int) > 40) = false := decide_eq_false (by omega)
  obtain ⟨e0, e1, e2, e3, e4, e5⟩ := RY0.out.cells
  go_wp2_with fail
  refine (NY.out _ IY.out).mono ?_
  rintro e w2 ⟨rfl, b1⟩
  replace B := Lib.hid (B.out.trans (b1.mono B.out.size))
  replace RX0 := Lib.hid (RX0.out.grow b1)
  replace RY0 := Lib.hid (RY0.out.grow b1)
  replace IX := Lib.hid (IX.out.grown b1)
  replace IY := Lib.hid (IY.out.grown b1)
  clear b1
  clear e0 e1 e2 e3 e4 e5
  by_cases hy : 40 < ky
  · have hyz : decide ((ky : Int) > 40) = true := decide_eq_true (by omega)
    clear hkx hky hx hy
    go_wp2_with fail
    refine (RN.out _).mono ?_
    rintro e wz ⟨rfl, bz⟩
    replace B := Lib.hid (B.out.trans (bz.mono B.out.size))
    clear bz
    go_wp2
    go_ret
    exact ⟨rfl, B.out⟩
  have hyz : decide ((ky : Int) > 40) = false := decide_eq_false (by omega)
  have cx1 : Rx.count t ≤ 40 := by omega
  have cy1 : Rx.count u ≤ 40 := by omega
  have TX := Lib.hid (fun W (hW : IsRx W (.agg #[.int .i64 ox, .int .u64 (ax : Int), .int .u64 (bx : Int), .int .u64 (cx : Int), .int .u64 (dx : Int), .slice Ax nx capx]) t) => is_any 1000 t _ W (Nat.le_refl _) (by omega) hW)
  have TY := Lib.hid (fun W (hW : IsRx W (.agg #[.int .i64 oy, .int .u64 (ay : Int), .int .u64 (by' : Int), .int .u64 (cy : Int), .int .u64 (dy : Int), .slice Ay ny capy]) u) => is_any 1000 u _ W (Nat.le_refl _) (by omega) hW)
  have SX := Lib.hid (fun W (hW : IsRx W (.agg #[.int .i64 ox, .int .u64 (ax : Int), .int .u64 (bx : Int), .int .u64 (cx : Int), .int .u64 (dx : Int), .slice Ax nx capx]) t) => size_any t _ W (by omega) hW)
  have SY := Lib.hid (fun W (hW : IsRx W (.agg #[.int .i64 oy, .int .u64 (ay : Int), .int .u64 (by' : Int), .int .u64 (cy : Int), .int .u64 (dy : Int), .slice Ay ny capy]) u) => size_any u _ W (by omega) hW)
  have S2 := Lib.hid (fun op v W (hW : IsRx W v (ndS op [t, u])) => size_any (ndS op [t, u]) v W (by rw [ndS_count2]; omega) hW)
  have S1 := Lib.hid (fun op v W (hW : IsRx W v (ndS op [t])) => size_any (ndS op [t]) v W (by rw [ndS_count1]; omega) hW)
  have zx := Rx.sz_le t
  have zy := Rx.sz_le u
  clear hkx hky hx hy
  obtain ⟨e0, e1, e2, e3, e4, e5⟩ := RX0.out.cells
  go_wp2_with fail
  refine (TX.out _ IX.out).mono ?_
  rintro e w3 ⟨rfl, b1⟩
  replace B := Lib.hid (B.out.trans (b1.mono B.out.size))
  replace RX0 := Lib.hid (RX0.out.grow b1)
  replace RY0 := Lib.hid (RY0.out.grow b1)
  replace IX := Lib.hid (IX.out.grown b1)
  replace IY := Lib.hid (IY.out.grown b1)
  clear b1
  clear e0 e1 e2 e3 e4 e5
  cases hrx : Rx.isRex t
  · go_wp2_with fail
    refine (RN.out _).mono ?_
    rintro e wz ⟨rfl, bz⟩
    replace B := Lib.hid (B.out.trans (bz.mono B.out.size))
    clear bz
    go_wp2
    go_ret
    exact ⟨rfl, B.out⟩
  obtain ⟨e0, e1, e2, e3, e4, e5⟩ := RY0.out.cells
  go_wp2_with fail
  refine (TY.out _ IY.out).mono ?_
  rintro e w4 ⟨rfl, b1⟩
  replace B := Lib.hid (B.out.trans (b1.mono B.out.size))
  replace RX0 := Lib.hid (RX0.out.grow b1)
  replace RY0 := Lib.hid (RY0.out.grow b1)
  replace IX := Lib.hid (IX.out.grown b1)
  replace IY := Lib.hid (IY.out.grown b1)
  clear b1
  clear e0 e1 e2 e3 e4 e5
  cases hry : Rx.isRex u
  · go_wp2_with fail
    refine (RN.out _).mono ?_
    rintro e wz ⟨rfl, bz⟩
    replace B := Lib.hid (B.out.trans (bz.mono B.out.size))
    clear bz
    go_wp2
    go_ret
    exact ⟨rfl, B.out⟩
  obtain ⟨q4, q5, q6⟩ := ndS_size1 hrx
  obtain ⟨q2, q3⟩ := ndS_size2 hrx hry
  have C2 := Lib.hid (fun v W hW => S2.out 2 v W hW)
  have C3 := Lib.hid (fun v W hW => S2.out 3 v W hW)
  have C4 := Lib.hid (fun v W hW => S1.out 4 v W hW)
  have C5 := Lib.hid (fun v W hW => S1.out 5 v W hW)
  have C6 := Lib.hid (fun v W hW => S1.out 6 v W hW)
  rw [q2] at C2
  rw [q3] at C3
  rw [q4] at C4
  rw [q5] at C5
  rw [q6] at C6
  rw [size_of hrx] at SX
  rw [size_of hry] at SY
  clear TX TY NX NY hrx hry q2 q3 q4 q5 q6 S1 S2
  obtain ⟨a, ha⟩ : ∃ a, Rx.sz t = a := ⟨_, rfl⟩
  obtain ⟨b, hb⟩ : ∃ b, Rx.sz u = b := ⟨_, rfl⟩
  rw [ha] at SX C2 C3 C4 C5 C6 zx
  rw [hb] at SY C2 C3 zy
  have a1 : a ≤ 1000 := by omega
  have b1 : b ≤ 1000 := by omega
  have wa : IntKind.i64.wrap (a : Int) = (a : Int) := by rw [IntKind.wrap_i64]; omega
  have wb : IntKind.i64.wrap (b : Int) = (b : Int) := by rw [IntKind.wrap_i64]; omega
  clear ha hb zx zy cx1 cy1
  go_wp2_with fail
  refine wp_region_held_drew (S := fun W => Below w4.heap.size w4 W) (by kernel_rfl) ((Below.refl _ _).drew) (fun hHeld => ?_)
  refine held_take 0 28 (v := (.agg #[.int .i64 ox, .int .u64 (ax : Int), .int .u64 (bx : Int), .int .u64 (cx : Int), .int .u64 (dx : Int), .slice Ax nx capx])) rfl rfl (by kernel_rfl) (by kernel_rfl) (by kernel_rfl) (by rfl) (fun _ _ _ h => h) (by assumption) ?_ ?_
  · intro W hW
    obtain ⟨e0, e1, e2, e3, e4, e5⟩ := (RX0.out.grow hW).cells
    go_simp
  simp only [List.setIfInBounds_toArray, List.set_cons_zero, List.set_cons_succ]
  refine held_take 3 31 (v := (.agg #[.int .i64 oy, .int .u64 (ay : Int), .int .u64 (by' : Int), .int .u64 (cy : Int), .int .u64 (dy : Int), .slice Ay ny capy])) rfl rfl (by kernel_rfl) (by kernel_rfl) (by kernel_rfl) (by rfl) (fun _ _ _ h => h) (by assumption) ?_ ?_
  · intro W hW
    obtain ⟨e0, e1, e2, e3, e4, e5⟩ := (RY0.out.grow hW).cells
    go_simp
  simp only [List.setIfInBounds_toArray, List.set_cons_zero, List.set_cons_succ]
  refine held_call 1 29 (f := 14) (args := #[(.agg #[.int .i64 ox, .int .u64 (ax : Int), .int .u64 (bx : Int), .int .u64 (cx : Int), .int .u64 (dx : Int), .slice Ax nx capx])]) rfl rfl (by kernel_rfl) (by rfl) (by go_simp) ?_
  refine (SX.out _ (IX.out.grown ((Below.refl w4.heap.size w4).drew))).mono ?_
  rintro e hv1 ⟨rfl, hd1⟩
  have hr1 : Below w4.heap.size w4 hv1 := (Below.refl _ _).drew.trans hd1
  refine ⟨_, rfl, hr1, ?_⟩
  have hheld1 := Below.refl hv1.heap.size hv1
  refine held_more (S' := fun W => Below hv1.heap.size hv1 W) (fun W h => hr1.trans (h.mono hr1.size)) _ _ _ _ ?_
  simp only [List.setIfInBounds_toArray, List.set_cons_zero, List.set_cons_succ]
  refine held_take 2 30 (v := (.int .i64 (a : Int))) rfl rfl (by kernel_rfl) (by kernel_rfl) (by kernel_rfl) (by rfl) (fun _ _ _ h => h) (by assumption) ?_ ?_
  · intro W hW
    go_simp
  simp only [List.setIfInBounds_toArray, List.set_cons_zero, List.set_cons_succ]
  refine held_call 4 32 (f := 14) (args := #[(.agg #[.int .i64 oy, .int .u64 (ay : Int), .int .u64 (by' : Int), .int .u64 (cy : Int), .int .u64 (dy : Int), .slice Ay ny capy])]) rfl rfl (by kernel_rfl) (by rfl) (by go_simp) ?_
  refine (SY.out _ (IY.out.grown hr1)).mono ?_
  rintro e hv2 ⟨rfl, hd2⟩
  have hr2 := hr1.trans (hd2.mono hr1.size)
  refine ⟨_, rfl, hd2, ?_⟩
  have hheld2 := Below.refl hv2.heap.size hv2
  refine held_more (S' := fun W => Below hv2.heap.size hv2 W) (fun W h => hd2.trans (h.mono hd2.size)) _ _ _ _ ?_
  simp only [List.setIfInBounds_toArray, List.set_cons_zero, List.set_cons_succ]
  refine held_take 5 33 (v := (.int .i64 (b : Int))) rfl rfl (by kernel_rfl) (by kernel_rfl) (by kernel_rfl) (by rfl) (fun _ _ _ h => h) (by assumption) ?_ ?_
  · intro W hW
    go_simp
  simp only [List.setIfInBounds_toArray, List.set_cons_zero, List.set_cons_succ]
  refine held_take 6 5 (v := (.int .i64 (a : Int))) rfl rfl (by kernel_rfl) (by kernel_rfl) (by kernel_rfl) (by rfl) (fun _ _ _ h => h) (by assumption) ?_ ?_
  · intro W hW
    go_simp
  simp only [List.setIfInBounds_toArray, List.set_cons_zero, List.set_cons_succ]
  refine held_take 7 6 (v := (.int .i64 (b : Int))) rfl rfl (by kernel_rfl) (by kernel_rfl) (by kernel_rfl) (by rfl) (fun _ _ _ h => h) (by assumption) ?_ ?_
  · intro W hW
    go_simp
  simp only [List.setIfInBounds_toArray, List.set_cons_zero, List.set_cons_succ]
  refine wpAnyH_done (by kernel_rfl) ?_ _
  clear hHeld
  have bq := hr2
  generalize hv2 = w5 at *
  replace B := Lib.hid (B.out.trans (bq.mono B.out.size))
  replace RX0 := Lib.hid (RX0.out.grow bq)
  replace RY0 := Lib.hid (RY0.out.grow bq)
  replace IX := Lib.hid (IX.out.grown bq)
  replace IY := Lib.hid (IY.out.grown bq)
  clear bq
  obtain ⟨e0, e1, e2, e3, e4, e5⟩ := RX0.out.cells
  obtain ⟨i0, i1, i2, i3, i4, i5⟩ := RY0.out.cells
  have hl1 : w.heap.size < w5.heap.size := World.block_lt_of_cell? w5 _ e0
  have hl2 : w.heap.size + 1 < w5.heap.size := World.block_lt_of_cell? w5 _ i0
  go_upto_region 6 with fail
  obtain ⟨RW0, BR⟩ := rows2 IX.out IY.out rfl
  replace B := Lib.hid (B.out.trans (BR.mono B.out.size))
  have RW := Lib.hid RW0
  clear RW0 BR IX IY RX0 RY0 SX SY e0 e1 e2 e3 e4 e5 i0 i1 i2 i3 i4 i5
  generalize (w5.alloc (.cells #[.int .i64 ox, .int .u64 (ax : Int), .int .u64 (bx : Int), .int .u64 (cx : Int), .int .u64 (dx : Int), .slice Ax nx capx, .int .i64 oy, .int .u64 (ay : Int), .int .u64 (by' : Int), .int .u64 (cy : Int), .int .u64 (dy : Int), .slice Ay ny capy] 26)).alloc (.cells #[.int .i64 ox, .int .u64 (ax : Int), .int .u64 (bx : Int), .int .u64 (cx : Int), .int .u64 (dx : Int), .slice Ax nx capx] 26) = w6 at *
  generalize w5.heap.size = g at *
  go_wp2_with fail
  refine (C2.out _ _ (RW.out.two 2)).mono ?_
  rintro e wq0 ⟨rfl, bq⟩
  replace B := Lib.hid (B.out.trans (bq.mono B.out.size))
  replace RW := Lib.hid (RW.out.grown bq)
  clear bq
  go_wp2_with fail
  refine (C3.out _ _ (RW.out.two 3)).mono ?_
  rintro e wq1 ⟨rfl, bq⟩
  replace B := Lib.hid (B.out.trans (bq.mono B.out.size))
  replace RW := Lib.hid (RW.out.grown bq)
  clear bq
  go_wp2_with fail
  refine (C4.out _ _ (RW.out.one 4)).mono ?_
  rintro e wq2 ⟨rfl, bq⟩
  replace B := Lib.hid (B.out.trans (bq.mono B.out.size))
  replace RW := Lib.hid (RW.out.grown bq)
  clear bq
  go_wp2_with fail
  refine (C5.out _ _ (RW.out.one 5)).mono ?_
  rintro e wq3 ⟨rfl, bq⟩
  replace B := Lib.hid (B.out.trans (bq.mono B.out.size))
  replace RW := Lib.hid (RW.out.grown bq)
  clear bq
  go_wp2_with fail
  refine (C6.out _ _ (RW.out.one 6)).mono ?_
  rintro e wq4 ⟨rfl, bq⟩
  replace B := Lib.hid (B.out.trans (bq.mono B.out.size))
  replace RW := Lib.hid (RW.out.grown bq)
  clear bq
  go_wp2_with fail
  refine (RN.out _).mono ?_
  rintro e wz ⟨rfl, bz⟩
  replace B := Lib.hid (B.out.trans (bz.mono B.out.size))
  clear bz
  go_wp2
  go_ret
  exact ⟨rfl, B.out⟩
end Go.Proofs.Ytjnikeiboefnbaa
