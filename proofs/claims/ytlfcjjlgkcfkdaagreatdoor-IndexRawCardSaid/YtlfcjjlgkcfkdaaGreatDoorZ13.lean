/-
  Chapter 5's runs (RexRuns), as a contract. No conditions.
  What the program's appendStar, appendPlus and appendMaybe do, of what appendTree does to the kid. Conditions: at most 1000 steps.
  What the reference's lay does: the steps of a tree that may be, behind others. Conditions: at most 1000 steps, 1000 nodes.
  Rows of places in memory beside a row of steps, each of which grows. Conditions: lengths fit.
-/
import Derived.Test.YtlfcjjlgkcfkdaaGreatDoorProg
import Derived.Test.YtlfcjjlgkcfkdaaGreatDoorZ01
import Derived.Test.YtlfcjjlgkcfkdaaGreatDoorZ02
import Derived.Test.YtlfcjjlgkcfkdaaGreatDoorZ04
import Derived.Test.YtlfcjjlgkcfkdaaGreatDoorZ06
import Derived.Test.YtlfcjjlgkcfkdaaGreatDoorZ05
import Derived.Test.YtlfcjjlgkcfkdaaGreatDoorZ07
import Derived.Test.YtlfcjjlgkcfkdaaGreatDoorZ09
import Derived.Test.YtlfcjjlgkcfkdaaGreatDoorZ08
import Derived.Test.YtlfcjjlgkcfkdaaGreatDoorZ11
import Derived.Test.YtlfcjjlgkcfkdaaGreatDoorZ12
import Derived.Test.YtlfcjjlgkcfkdaaGreatDoorZ03
import Derived.Deep.RegionHeld3
import Derived.WalkKit
import Derived.WalkSpells
import Derived.WalkLawsBesides
import Derived.Lib.Hide
import Derived.Below
import Derived.BigQuiet
import Derived.Lib.QuietBelow
import Derived.Laws.StructEq
import Derived.KernelRfl
import Derived.Laws.MakeOwn
import Derived.Laws.OwnMore
import Derived.OwnWalk
import Derived.Laws.CopyOwn
import Derived.Laws.AppendOwn
import Derived.Deep.QuietTactic
import Derived.Lib.Bytealg
import Derived.Laws.Externs
import Derived.Maps.AppendAt
import Derived.StillTailTactics
import Derived.Laws.ResultCell
import Derived.Deep.LoopGhost
import Derived.Deep.MidRow
import Derived.Deep.Upon
import Derived.Deep.Cut
namespace Go.Proofs.YtlfcjjlgkcfkdaaGreatDoor
open Go.RowKit Go.Sort
open Pz

/-- What the reference's Ends makes of any tree, as a list. -/
theorem rends_all {t : Rx} (hcnt : Rx.count t ≤ 1000) (hfit : Rx.fit t) (v : Value) (z : Int) (s : ByteArray) (w : World) (hL : s.size ≤ 100) (h : IsRx w v t) :
    Calls Tryz.prog 123 #[v, .string s, .int .i64 z] w fun e w' => ∃ A n c, e = .returned (.slice A n c) ∧ (ends (txt8 s) t z).length = n ∧ n ≤ 101 ∧ IsZ w' A (zn (ends (txt8 s) t z)) ∧ Below w.heap.size w w' := by
  by_cases hz : Rx.isRex t = true ∧ 0 ≤ z ∧ z ≤ (s.size : Int)
  · obtain ⟨p, rfl⟩ : ∃ p : Nat, z = (p : Int) := ⟨z.toNat, by omega⟩
    have e : ends (txt8 s) t (p : Int) = endsTo (txt8 s) t p (s.size + 1) := by
      unfold ends; rw [if_pos ⟨hz.1, hz.2.1, by rw [txt8_len]; exact hz.2.2⟩, txt8_len, Int.toNat_natCast]
    rw [e]
    refine (rends_some t v p s s.size w hcnt hz.1 hfit rfl hL (by omega) h).mono ?_
    rintro e w' ⟨v', rfl, ho, hb⟩
    rw [iz_zs] at ho
    obtain ⟨A, c, rfl, h1, h2, h3, h4⟩ := own_z ho
    exact ⟨A, _, c, rfl, rfl, Nat.le_trans (endsTo_len _ _ _ _) (by omega), h3, hb⟩
  · have e : ends (txt8 s) t z = [] := by unfold ends; rw [if_neg (fun h => hz (by rw [txt8_len] at h; exact h))]
    rw [e]
    refine (rends_none t v z s w hcnt h hz).mono ?_
    rintro e w' ⟨rfl, hb⟩
    exact ⟨none, 0, 0, rfl, rfl, by omega, IsZ.nil _ _, hb⟩
def s1 : ByteArray := ⟨#[97, 42, 124, 98]⟩
def s2 : ByteArray := ⟨#[97, 42]⟩
def s3 : ByteArray := ⟨#[97, 42, 42]⟩
def s4 : ByteArray := ⟨#[97, 97, 98]⟩
def t2 : Rx := .mk 4 0 0 0 0 [.mk 1 0 8589934592 0 0 []]
def t1 : Rx := .mk 3 0 0 0 0 [t2, .mk 1 0 17179869184 0 0 []]
theorem p1 : parse (txt8 s1) = some t1 := by kernel_rfl
theorem p2 : parse (txt8 s2) = some t2 := by kernel_rfl
theorem p3 : parse (txt8 s3) = none := by kernel_rfl
theorem e4 : ends (txt8 s4) t2 0 = [0, 1, 2] := by decide +kernel
theorem ParseRes.yes {w w' : World} {r : Option Rx} {t : Rx} {e : Ending} (h : ParseRes w r e w') (hr : r = some t) : ∃ op a b c d A n cap, e = .returned (.tuple #[.agg #[.int .i64 op, .int .u64 ((a : Nat) : Int), .int .u64 ((b : Nat) : Int), .int .u64 ((c : Nat) : Int), .int .u64 ((d : Nat) : Int), .slice A n cap], .bool true]) ∧ IsRx w' (.agg (c6 op a b c d A n cap)) t ∧ Below w.heap.size w w' := by
  subst hr
  obtain ⟨hb, ⟨t', v, hr, he, hx⟩ | ⟨hr, _⟩⟩ := h
  · injection hr with hr
    subst hr
    obtain ⟨op, a, b, c, d, A, n, cap, rfl⟩ := hx.form
    exact ⟨op, a, b, c, d, A, n, cap, he, hx.is, hb⟩
  · cases hr
theorem ParseRes.no {w w' : World} {r : Option Rx} {e : Ending} (h : ParseRes w r e w') (hr : r = none) : e = .returned (.tuple #[.agg #[.int .i64 0, .int .u64 0, .int .u64 0, .int .u64 0, .int .u64 0, .slice none 0 0], .bool false]) ∧ Below w.heap.size w w' := by
  subst hr
  obtain ⟨hb, ⟨_, _, hr, _⟩ | ⟨_, he⟩⟩ := h
  · cases hr
  · exact ⟨he, hb⟩
theorem IsRx.op {w : World} {V : Nat → Value} {op : Int} {a b c d : Nat} {ks : List Rx} (h : IsRx w (val6 V) (.mk op a b c d ks)) : V 0 = .int .i64 op := by
  generalize hv : val6 V = v at h
  cases h
  exact (val6_eq hv).1
end Go.Proofs.YtlfcjjlgkcfkdaaGreatDoor
namespace Go.Proofs.YtlfcjjlgkcfkdaaGreatDoor
open Go.RowKit

/-- What lays the steps of a tree behind others. -/
def LayPost (base : Nat) (w : World) (v : Value) (n : Nat) (L M : List St) : Ending → World → Prop := fun e w' => ∃ A' m cap', m = n + M.length ∧ e = .returned (.slice A' m cap') ∧ Steps base w' (.slice A' m cap') (L ++ M) ∧ Moved w v w' (.slice A' m cap')
def Lays (f : FuncId) (base : Nat) (t : Rx) : Prop := ∀ (tv : Value) (L : List St) (A : Option Addr) (n cap : Nat) (w : World), L.length = n → n + Rx.sz t ≤ 1000 → base ≤ w.heap.size → RxIn (fun b => b < base) w tv t → Steps base w (.slice A n cap) L →
  Calls Tryz.prog f #[.slice A n cap, tv] w (LayPost base w (.slice A n cap) n L (Rx.lay n t))
/-- Its kid in a box, at the beginning of a walk. -/
structure Boxed (base : Nat) (w w0 : World) (v : Value) (L : List St) (cs : Array Value) (t : Rx) : Prop where
  moved : Moved w v w0 v
  steps : Steps base w0 v L
  box : w0.heap[w.heap.size]? = some (.cells cs 135 (0, 0))
  size : w0.heap.size = w.heap.size + 1
  tree : RxIn (fun b => b < base) w0 (.agg cs) t
theorem Boxed.of {base : Nat} {w : World} {v : Value} {L : List St} {cs : Array Value} {t : Rx} (hb : base ≤ w.heap.size) (hs : Steps base w v L) (ht : RxIn (fun b => b < base) w (.agg cs) t) : Boxed base w (w.alloc (.cells cs 135)) v L cs t := by
  have B : Below w.heap.size w (w.alloc (.cells cs 135)) := (Below.refl _ _).alloc (Nat.le_refl _) _
  exact ⟨Moved.of v B, hs.grow B, heap_alloc_new w _, by simp, ht.low (B.mono hb)⟩
/-- What is known of its kid in a later world. -/
theorem Boxed.later {base : Nat} {w w0 W : World} {v V : Value} {L : List St} {v0 v1 v2 v3 v4 v5 : Value} {t : Rx} (h : Boxed base w w0 v L #[v0, v1, v2, v3, v4, v5] t) (hb : base ≤ w.heap.size) (htop : ∀ k, v.ownBlock = some k → k < w.heap.size) (hlow : ∀ k, v.ownBlock = some k → base ≤ k) (hm : Moved w0 v W V) :
    (W.cell? ⟨w.heap.size, 0, none⟩ = some v0 ∧ W.cell? ⟨w.heap.size, 1, none⟩ = some v1 ∧ W.cell? ⟨w.heap.size, 2, none⟩ = some v2 ∧ W.cell? ⟨w.heap.size, 3, none⟩ = some v3 ∧ W.cell? ⟨w.heap.size, 4, none⟩ = some v4 ∧ W.cell? ⟨w.heap.size, 5, none⟩ = some v5) ∧ RxIn (fun b => b < base) W (.agg #[v0, v1, v2, v3, v4, v5]) t ∧ base ≤ W.heap.size := by
  have hz := h.size
  have hz2 := hm.size
  exact ⟨hm.box h.box (fun e => by have := htop _ e.symm; omega), h.tree.low (hm.below (by omega) hlow), by omega⟩

set_option maxRecDepth 100000 in
set_option maxHeartbeats 4000000 in
theorem star_any (base : Nat) (t : Rx) (hT : Lays 126 base t) (tv : Value) (L : List St) (A : Option Addr) (n cap : Nat) (w : World) (hL : L.length = n) (hn : n + Rx.sz t + 2 ≤ 1000) (hb : base ≤ w.heap.size) (hx : RxIn (fun b => b < base) w tv t) (hs : Steps base w (.slice A n cap) L) (a b c d : Nat) :
    Calls Tryz.prog 143 #[.slice A n cap, tv] w (LayPost base w (.slice A n cap) n L (Rx.lay n (.mk 4 a b c d [t]))) := by
  obtain ⟨op, xa, xb, xc, xd, XA, xn, xcap, rfl⟩ := hx.form
  obtain ⟨Z, hZ⟩ : ∃ Z, Rx.sz t = Z := ⟨_, rfl⟩
  have BX := Lib.hid (Boxed.of hb hs hx)
  have LT := Lib.hid (fun W V => Boxed.later (W := W) (V := V) BX.out hb hs.top hs.low)
  have FIN : Hid (L ++ Rx.lay n (.mk 4 a b c d [t]) = L ++ (St.split (n + 1) (n + 2 + Z) :: (Rx.lay (n + 1) t ++ [St.jump n])) ∧ (Rx.lay n (.mk 4 a b c d [t])).length = Z + 2) := by
    refine ⟨?_, ?_⟩
    · simp [Rx.lay, Rx.layL, Rx.szL, hZ]
    · rw [Rx.lay_len]; simp [Rx.sz, Rx.szL, hZ]
  have TT : Hid (∀ L1 A1 cap1 W, L1.length = n + 1 → base ≤ W.heap.size → RxIn (fun b => b < base) W _ t → Steps base W (.slice A1 (n + 1) cap1) L1 → Calls Tryz.prog 126 #[.slice A1 (n + 1) cap1, _] W (LayPost base W (.slice A1 (n + 1) cap1) (n + 1) L1 (Rx.lay (n + 1) t))) := fun L1 A1 cap1 W h1 h2 h3 h4 => hT (.agg #[.int .i64 op, .int .u64 (xa : Int), .int .u64 (xb : Int), .int .u64 (xc : Int), .int .u64 (xd : Int), .slice XA xn xcap]) L1 A1 (n + 1) cap1 W h1 (by omega) h2 h3 h4
  have ZL : Hid ((Rx.lay (n + 1) t).length = Z) := by show _ = _; rw [Rx.lay_len, hZ]
  rw [hZ] at hn
  have hLL := Lib.hid hL
  clear hL hT hs hx hZ
  go_enter Tryz.func143, Tryz.ntmps143
  go_upto_region 2 with fail
  generalize w.alloc (.cells #[.int .i64 op, .int .u64 (xa : Int), .int .u64 (xb : Int), .int .u64 (xc : Int), .int .u64 (xd : Int), .slice XA xn xcap] 135) = w0 at *
  go_wp2_with (at_builtin; go_must (refine wpList_appS rfl (.tmp 8) (.tmp 12) rfl base (.slice A n cap) L n ⟨2, 0, 0, 0, 0, (n : Int) + 1, 0⟩ w0.heap.size rfl rfl rfl rfl BX.out.steps hLL.out (by omega) (by have := BX.out.size; omega) ?_); (intro g1 cap1 w1 S1 M1); (replace S1 := Lib.hid S1); (replace M1 := Lib.hid M1); (obtain ⟨⟨q0, q1, q2, q3, q4, q5⟩, X1, Z1⟩ := LT.out _ _ M1.out); (replace X1 := Lib.hid X1))
  refine (TT.out _ _ _ _ (by rw [List.length_append, hLL.out]; rfl) Z1 X1.out S1.out).mono ?_
  rintro e w2 ⟨A2, m2, cap2, hm, rfl, S2, M2⟩
  rw [ZL.out] at hm
  subst hm
  replace M2 := Lib.hid (M1.out.trans M2)
  replace S2 := Lib.hid S2
  obtain ⟨_, _, Z2⟩ := LT.out _ _ M2.out
  have L2 : Hid ((L ++ [(⟨2, 0, 0, 0, 0, (n : Int) + 1, 0⟩ : St)] ++ Rx.lay (n + 1) t).length = n + 1 + Z) := by show _ = _; rw [List.length_append, List.length_append, hLL.out, ZL.out]; rfl
  clear M1 S1 X1 q0 q1 q2 q3 q4 q5 TT
  go_wp2_with (at_builtin; go_must (refine wpList_appS rfl (.tmp 17) (.tmp 20) rfl base _ _ (n + 1 + Z) ⟨3, 0, 0, 0, 0, (n : Int), 0⟩ w2.heap.size rfl rfl rfl rfl S2.out L2.out (by omega) Z2 ?_); (intro g3 cap3 w3 S3 M3); go_must (simp only [List.append_assoc, List.cons_append, List.nil_append] at S3); (replace S3 := Lib.hid S3); (replace M3 := Lib.hid (M2.out.trans M3)); go_must (obtain ⟨hc, _, hf, _⟩ := S3.out.at hLL.out); (dsimp only at hc))
  obtain ⟨S4, M4⟩ := S3.out.fixY hLL.out ((n : Int) + 1 + Z + 1) (s' := St.split (n + 1) (n + 2 + Z)) (by simp [St.setY, St.split]; omega)
  go_ret
  refine ⟨_, n + 1 + Z + 1, cap3, by rw [FIN.out.2]; omega, rfl, ?_, BX.out.moved.trans (M3.out.trans M4)⟩
  rw [FIN.out.1]
  exact S4

set_option maxRecDepth 100000 in
set_option maxHeartbeats 4000000 in
theorem plus_any (base : Nat) (t : Rx) (hT : Lays 126 base t) (tv : Value) (L : List St) (A : Option Addr) (n cap : Nat) (w : World) (hL : L.length = n) (hn : n + Rx.sz t + 1 ≤ 1000) (hb : base ≤ w.heap.size) (hx : RxIn (fun b => b < base) w tv t) (hs : Steps base w (.slice A n cap) L) (a b c d : Nat) :
    Calls Tryz.prog 144 #[.slice A n cap, tv] w (LayPost base w (.slice A n cap) n L (Rx.lay n (.mk 5 a b c d [t]))) := by
  obtain ⟨op, xa, xb, xc, xd, XA, xn, xcap, rfl⟩ := hx.form
  obtain ⟨Z, hZ⟩ : ∃ Z, Rx.sz t = Z := ⟨_, rfl⟩
  have BX := Lib.hid (Boxed.of hb hs hx)
  have LT := Lib.hid (fun W V => Boxed.later (W := W) (V := V) BX.out hb hs.top hs.low)
  have FIN : Hid (L ++ Rx.lay n (.mk 5 a b c d [t]) = L ++ Rx.lay n t ++ [St.split n (n + Z + 1)] ∧ (Rx.lay n (.mk 5 a b c d [t])).length = Z + 1) := by
    refine ⟨?_, ?_⟩
    · simp [Rx.lay, Rx.layL, Rx.szL, hZ]
    · rw [Rx.lay_len]; simp [Rx.sz, Rx.szL, hZ]
  have TT := Lib.hid (hT (.agg #[.int .i64 op, .int .u64 (xa : Int), .int .u64 (xb : Int), .int .u64 (xc : Int), .int .u64 (xd : Int), .slice XA xn xcap]) L A n cap)
  have ZL : Hid ((Rx.lay n t).length = Z) := by show _ = _; rw [Rx.lay_len, hZ]
  rw [hZ] at hn TT
  have hLL := Lib.hid hL
  clear hL hT hs hx hZ
  go_enter Tryz.func144, Tryz.ntmps144
  go_upto_region 2 with fail
  generalize w.alloc (.cells #[.int .i64 op, .int .u64 (xa : Int), .int .u64 (xb : Int), .int .u64 (xc : Int), .int .u64 (xd : Int), .slice XA xn xcap] 135) = w0 at *
  obtain ⟨⟨q0, q1, q2, q3, q4, q5⟩, X1, Z1⟩ := LT.out _ _ (Moved.refl _ _)
  have T2 := Lib.hid (TT.out w0 hLL.out (by omega) Z1 X1 BX.out.steps)
  clear X1 TT
  go_wp2_with fail
  refine T2.out.mono ?_
  rintro e w2 ⟨A2, m2, cap2, hm, rfl, S2, M2⟩
  rw [ZL.out] at hm
  subst hm
  replace M2 := Lib.hid M2
  replace S2 := Lib.hid S2
  obtain ⟨_, _, Z2⟩ := LT.out _ _ M2.out
  have L2 : Hid ((L ++ Rx.lay n t).length = n + Z) := by show _ = _; rw [List.length_append, hLL.out, ZL.out]
  clear q0 q1 q2 q3 q4 q5 T2
  go_wp2_with (at_builtin; go_must (refine wpList_appS rfl (.tmp 11) (.tmp 17) rfl base _ _ (n + Z) ⟨2, 0, 0, 0, 0, (n : Int), (n : Int) + Z + 1⟩ w2.heap.size rfl rfl rfl rfl S2.out L2.out (by omega) Z2 ?_); (intro g3 cap3 w3 S3 M3); (replace S3 := Lib.hid S3); (replace M3 := Lib.hid (M2.out.trans M3)))
  go_ret
  refine ⟨_, n + Z + 1, cap3, by rw [FIN.out.2]; omega, rfl, ?_, BX.out.moved.trans M3.out⟩
  rw [FIN.out.1]
  have e : St.split n (n + Z + 1) = ⟨2, 0, 0, 0, 0, (n : Int), (n : Int) + Z + 1⟩ := by simp [St.split]
  rw [e]
  exact S3.out

set_option maxRecDepth 100000 in
set_option maxHeartbeats 4000000 in
theorem maybe_any (base : Nat) (t : Rx) (hT : Lays 126 base t) (tv : Value) (L : List St) (A : Option Addr) (n cap : Nat) (w : World) (hL : L.length = n) (hn : n + Rx.sz t + 1 ≤ 1000) (hb : base ≤ w.heap.size) (hx : RxIn (fun b => b < base) w tv t) (hs : Steps base w (.slice A n cap) L) (a b c d : Nat) :
    Calls Tryz.prog 145 #[.slice A n cap, tv] w (LayPost base w (.slice A n cap) n L (Rx.lay n (.mk 6 a b c d [t]))) := by
  obtain ⟨op, xa, xb, xc, xd, XA, xn, xcap, rfl⟩ := hx.form
  obtain ⟨Z, hZ⟩ : ∃ Z, Rx.sz t = Z := ⟨_, rfl⟩
  have BX := Lib.hid (Boxed.of hb hs hx)
  have LT := Lib.hid (fun W V => Boxed.later (W := W) (V := V) BX.out hb hs.top hs.low)
  have FIN : Hid (L ++ Rx.lay n (.mk 6 a b c d [t]) = L ++ (St.split (n + 1) (n + 1 + Z) :: Rx.lay (n + 1) t) ∧ (Rx.lay n (.mk 6 a b c d [t])).length = Z + 1) := by
    refine ⟨?_, ?_⟩
    · simp [Rx.lay, Rx.layL, Rx.szL, hZ]
    · rw [Rx.lay_len]; simp [Rx.sz, Rx.szL, hZ]
  have TT : Hid (∀ L1 A1 cap1 W, L1.length = n + 1 → base ≤ W.heap.size → RxIn (fun b => b < base) W _ t → Steps base W (.slice A1 (n + 1) cap1) L1 → Calls Tryz.prog 126 #[.slice A1 (n + 1) cap1, _] W (LayPost base W (.slice A1 (n + 1) cap1) (n + 1) L1 (Rx.lay (n + 1) t))) := fun L1 A1 cap1 W h1 h2 h3 h4 => hT (.agg #[.int .i64 op, .int .u64 (xa : Int), .int .u64 (xb : Int), .int .u64 (xc : Int), .int .u64 (xd : Int), .slice XA xn xcap]) L1 A1 (n + 1) cap1 W h1 (by omega) h2 h3 h4
  have ZL : Hid ((Rx.lay (n + 1) t).length = Z) := by show _ = _; rw [Rx.lay_len, hZ]
  rw [hZ] at hn
  have hLL := Lib.hid hL
  clear hL hT hs hx hZ
  go_enter Tryz.func145, Tryz.ntmps145
  go_upto_region 2 with fail
  generalize w.alloc (.cells #[.int .i64 op, .int .u64 (xa : Int), .int .u64 (xb : Int), .int .u64 (xc : Int), .int .u64 (xd : Int), .slice XA xn xcap] 135) = w0 at *
  go_wp2_with (at_builtin; go_must (refine wpList_appS rfl (.tmp 8) (.tmp 12) rfl base (.slice A n cap) L n ⟨2, 0, 0, 0, 0, (n : Int) + 1, 0⟩ w0.heap.size rfl rfl rfl rfl BX.out.steps hLL.out (by omega) (by have := BX.out.size; omega) ?_); (intro g1 cap1 w1 S1 M1); (replace S1 := Lib.hid S1); (replace M1 := Lib.hid M1); (obtain ⟨⟨q0, q1, q2, q3, q4, q5⟩, X1, Z1⟩ := LT.out _ _ M1.out); (replace X1 := Lib.hid X1))
  refine (TT.out _ _ _ _ (by rw [List.length_append, hLL.out]; rfl) Z1 X1.out S1.out).mono ?_
  rintro e w2 ⟨A2, m2, cap2, hm, rfl, S2, M2⟩
  rw [ZL.out] at hm
  subst hm
  replace M2 := Lib.hid (M1.out.trans M2)
  simp only [List.append_assoc, List.cons_append, List.nil_append] at S2
  obtain ⟨g2, cap2', hv⟩ := S2.form2 (by rw [List.length_append, List.length_cons]; omega)
  injection hv with hv1 hv2 hv3
  subst hv1 hv3
  clear hv2
  replace S2 := Lib.hid S2
  obtain ⟨hc, _, hf, _⟩ := S2.out.at hLL.out
  dsimp only at hc
  clear M1 S1 X1 q0 q1 q2 q3 q4 q5 TT
  go_wp2
  obtain ⟨S4, M4⟩ := S2.out.fixY hLL.out ((n : Int) + 1 + Z) (s' := St.split (n + 1) (n + 1 + Z)) (by simp [St.setY, St.split])
  go_ret
  refine ⟨_, n + 1 + Z, cap2, by rw [FIN.out.2]; omega, rfl, ?_, BX.out.moved.trans (M2.out.trans M4)⟩
  rw [FIN.out.1]
  exact S4

end Go.Proofs.YtlfcjjlgkcfkdaaGreatDoor
namespace Go.Proofs.YtlfcjjlgkcfkdaaGreatDoor
open Go.RowKit

/-- A row of steps on its way. -/
structure Run (base : Nat) (w : World) (v : Value) (W : World) (V : Value) (L : List St) : Prop where
  steps : Steps base W V L
  moved : Moved w v W V
theorem Run.step {base : Nat} {w W W' : World} {v V V' : Value} {L L' : List St} (h : Run base w v W V L) (hm : Moved W V W' V') (hs : Steps base W' V' L') : Run base w v W' V' L' := ⟨hs, h.moved.trans hm⟩
theorem Run.grow {base : Nat} {w W W' : World} {v V : Value} {L : List St} (h : Run base w v W V L) (hb : Below W.heap.size W W') : Run base w v W' V L := ⟨h.steps.grow hb, h.moved.grow hb⟩

end Go.Proofs.YtlfcjjlgkcfkdaaGreatDoor
namespace Go.Proofs.YtlfcjjlgkcfkdaaGreatDoor
open Go.RowKit

/-- A row of places that one owns. -/
def Js (base : Nat) (w : World) (v : Value) (l : List Nat) : Prop := w.ownsRow base 3 1 v l.length (iz l)
theorem Js.nil (base : Nat) (w : World) : Js base w (.slice none 0 0) [] := World.ownsRow_nil _ _ _ _
/-- Two rows that lie apart. -/
def Apt (v u : Value) : Prop := ∀ g, v.ownBlock = some g → u.ownBlock ≠ some g
theorem Apt.symm {v u : Value} (h : Apt v u) : Apt u v := fun g h1 h2 => h g h2 h1
theorem Js.kept {base : Nat} {w w' : World} {j v v' : Value} {l : List Nat} (h : Js base w j l) (hm : Moved w v w' v') (ha : Apt j v) : Js base w' j l ∧ Apt j v' := by
  have hlt := World.ownsRow.lt h
  refine ⟨⟨h.1, ?_⟩, fun g hg e => ?_⟩
  · rcases h.2 with hn | ⟨g, cap, cur, e, hbg, hg, rest⟩
    · exact .inl hn
    · exact .inr ⟨g, cap, cur, e, hbg, (hm.block g (Array.getElem?_eq_some_iff.1 hg).1 (fun e2 => ha g (by rw [e]; rfl) e2.symm)).trans hg, rest⟩
  · rcases hm.own with e2 | ⟨g2, e2, h2⟩
    · rw [e2] at e; exact ha g hg e
    · rw [e2] at e; injection e with e; have := (hlt g hg).2; omega
theorem Steps.kept {base : Nat} {w w' : World} {j v v' : Value} {L : List St} (h : Steps base w j L) (hm : Moved w v w' v') (ha : Apt j v) : Steps base w' j L ∧ Apt j v' := by
  have hlt := World.ownsRow.lt h
  refine ⟨⟨h.1, ?_⟩, fun g hg e => ?_⟩
  · rcases h.2 with hn | ⟨g, cap, cur, e, hbg, hg, rest⟩
    · exact .inl hn
    · exact .inr ⟨g, cap, cur, e, hbg, (hm.block g (Array.getElem?_eq_some_iff.1 hg).1 (fun e2 => ha g (by rw [e]; rfl) e2.symm)).trans hg, rest⟩
  · rcases hm.own with e2 | ⟨g2, e2, h2⟩
    · rw [e2] at e; exact ha g hg e
    · rw [e2] at e; injection e with e; have := (hlt g hg).2; omega
/-- Beside v, a row in newer blocks grows. -/
theorem Moved.aside {w W W' : World} {v V j j' : Value} (h : Moved w v W V) (hm : Moved W j W' j') (hj : ∀ g, j.ownBlock = some g → w.heap.size ≤ g) : Moved w v W' V :=
  ⟨hm.os.trans h.os, hm.tape.trans h.tape, hm.output.trans h.output, Nat.le_trans h.size hm.size, fun k hk hne => (hm.block k (Nat.lt_of_lt_of_le hk h.size) (fun e => by have := hj k e.symm; omega)).trans (h.block k hk hne), h.own⟩
theorem Js.low {base : Nat} {w : World} {v : Value} {l : List Nat} (h : Js base w v l) : ∀ k, v.ownBlock = some k → base ≤ k := fun k hk => (World.ownsRow.lt h k hk).1
theorem Js.form2 {base : Nat} {w : World} {v : Value} {l : List Nat} (h : Js base w v l) (hp : 0 < l.length) : ∃ g cap, v = .slice (some ⟨g, 0, none⟩) l.length cap := by
  rcases h.2 with ⟨e, h0⟩ | ⟨g, cap', cur, e, rest⟩
  · omega
  · exact ⟨g, cap', e⟩
theorem Js.cell {base : Nat} {w : World} {g n cap : Nat} {l : List Nat} (h : Js base w (.slice (some ⟨g, 0, none⟩) n cap) l) {j p : Nat} (hj : l[j]? = some p) : w.cell? ⟨g, j, none⟩ = some (.int .i64 (p : Int)) := by
  have := World.ownsRow.cells h (g := g) rfl j (.int .i64 (p : Int)) (by simp [iz, hj])
  rw [add0] at this; exact this
/-- append(v, x) of one place, which a literal's row holds. -/
theorem wpList_appJ {ops : Array Oper} {rest : List Oper} {o : Oper} {a : Act} {w : World} {Q : Exit → Act → World → Prop} (hgd : o.guard = none) (sl x : Operand) (ho : o.op = .call { callee := .builtin .append, args := #[sl, x], argTypes := #[29, 29] })
    (base : Nat) (v : Value) (l : List Nat) (n : Nat) (p : Nat) (z : Int) (g : Nat) (hs : a.eval sl = v) (hx : a.eval x = .slice (some ⟨g, 0, none⟩) 1 1) (hg : w.heap.size = g) (hz : z = (p : Int)) (h : Js base w v l) (hL : l.length = n) (hn : n ≤ 100000) (hbase : base ≤ w.heap.size)
    (hk : ∀ g' cap' w', Js base w' (.slice (some ⟨g', 0, none⟩) (n + 1) cap') (l ++ [p]) → Moved w v w' (.slice (some ⟨g', 0, none⟩) (n + 1) cap') → wpList Tryz.prog ops Q rest (a.put o.dst (.slice (some ⟨g', 0, none⟩) (n + 1) cap')) w') : wpList Tryz.prog ops Q (o :: rest) a (w.alloc (.cells #[.int .i64 z] 3)) := by
  subst hL
  subst hg
  subst hz
  have B1 : Below w.heap.size w (w.alloc (.cells #[.int .i64 (p : Int)] 3)) := (Below.refl _ _).alloc (Nat.le_refl _) _
  have hnew := heap_alloc_new w (.cells #[.int .i64 (p : Int)] 3)
  have h1 : Js base (w.alloc (.cells #[.int .i64 (p : Int)] 3)) v l := (h.kept (v := .bool true) (v' := .bool true) (Moved.of _ B1) (fun _ _ e => by cases e)).1
  have z1 : (w.alloc (.cells #[.int .i64 (p : Int)] 3)).heap.size = w.heap.size + 1 := by simp
  generalize w.alloc (.cells #[.int .i64 (p : Int)] 3) = w1 at *
  obtain ⟨i0, hi, hz0, hz1, hz2⟩ := info_parts Tryz.infoZ
  refine wpList_append_own_at (P := Tryz.prog) w1 hgd sl x 29 ho base 3 i0 _ 1 8 Tryz.underlying29 hi hz0 hz1 hz2 rfl (by decide) v l.length (iz l) hs h1 ⟨w.heap.size, 0, none⟩ 1 1 [.int .i64 (p : Int)] hx rfl ?_ ?_ (by unfold maxLen; omega) (by omega) (by omega) ?_
  · intro j u hj
    rw [add0, cell_of_row _ w.heap.size j _ _ _ hnew]
    simpa using hj
  · intro u hu
    rw [List.mem_singleton] at hu
    subst hu; rfl
  · intro v' w' h2 h3 h4 h5
    have hS : Js base w' v' (l ++ [p]) := by unfold Js; rw [List.length_append, iz_app]; exact h2
    obtain ⟨g', cap', e⟩ := hS.form2 (by simp)
    rw [List.length_append, List.length_singleton] at e
    subst e
    refine hk g' cap' w' hS ?_
    have M1 : Moved w v w1 v := Moved.of v B1
    refine M1.trans ⟨h3.os, h3.tape, h3.output, h3.size, fun k hk hne => h3.block k hk hne, ?_⟩
    rcases h5 with e | e
    · exact .inl e
    · exact .inr ⟨_, e, Nat.le_refl _⟩
/-- A patched jump. -/
theorem Steps.fixX {base : Nat} {w : World} {g m cap n p : Nat} {L P R P' : List St} {s : St} (h : Steps base w (.slice (some ⟨g, 0, none⟩) m cap) (L ++ P ++ R)) (hL : L.length = n) (hp : n ≤ p) (hs : P[p - n]? = some s) (z : Int) (hP : P.set (p - n) (s.setX z) = P') :
    w.cell? ⟨g, p * 7 + 5, none⟩ = some (.int .i64 s.x) ∧ w.frozen? ⟨g, p * 7 + 5, none⟩ = false ∧ p < m ∧ Steps base (w.setCell ⟨g, p * 7 + 5, none⟩ (.int .i64 z)) (.slice (some ⟨g, 0, none⟩) m cap) (L ++ P' ++ R) ∧ Moved w (.slice (some ⟨g, 0, none⟩) m cap) (w.setCell ⟨g, p * 7 + 5, none⟩ (.int .i64 z)) (.slice (some ⟨g, 0, none⟩) m cap) := by
  have hlt : p - n < P.length := by
    rcases Nat.lt_or_ge (p - n) P.length with h | h
    · exact h
    · rw [List.getElem?_eq_none h] at hs; cases hs
  have hn : p < (L ++ P ++ R).length := by rw [List.length_append, List.length_append]; omega
  have hget : nthS (L ++ P ++ R) p = s := by
    simp only [nthS, List.getD]
    rw [List.getElem?_append_left (by rw [List.length_append]; omega), List.getElem?_append_right (by omega), hL, hs]; rfl
  have hset : (L ++ P ++ R).set p (s.setX z) = L ++ P' ++ R := by
    rw [List.set_append_left _ _ (by rw [List.length_append]; omega), List.set_append_right _ _ (by omega), hL, hP]
  have c5 := h.cell (i := 5) hn (by omega)
  have := h.putX hn z
  rw [hget] at c5 this
  rw [hset] at this
  exact ⟨c5, h.free _, by rw [h.form]; exact hn, this⟩

end Go.Proofs.YtlfcjjlgkcfkdaaGreatDoor

