/-
  Chapter 5's runs (RexRuns), as a contract. No conditions.
  What the program's appendStar, appendPlus and appendMaybe do, of what appendTree does to the kid. Conditions: at most 1000 steps.
-/
import Derived.Test.YtonfmbnankihbaaDoorProg
import Derived.Test.YtonfmbnankihbaaDoorZ01
import Derived.Test.YtonfmbnankihbaaDoorZ02
import Derived.Test.YtonfmbnankihbaaDoorZ03
import Derived.Test.YtonfmbnankihbaaDoorZ05
import Derived.Test.YtonfmbnankihbaaDoorZ08
import Derived.Test.YtonfmbnankihbaaDoorZ06
import Derived.Test.YtonfmbnankihbaaDoorZ07
import Derived.Test.YtonfmbnankihbaaDoorZ12
import Derived.Test.YtonfmbnankihbaaDoorZ09
import Derived.Test.YtonfmbnankihbaaDoorZ11
import Derived.Test.YtonfmbnankihbaaDoorZ21
import Derived.Test.YtonfmbnankihbaaDoorZ22
import Derived.Test.YtonfmbnankihbaaDoorZ23
import Derived.Test.YtonfmbnankihbaaDoorZ13
import Derived.Test.YtonfmbnankihbaaDoorZ29
import Derived.Test.YtonfmbnankihbaaDoorZ04
import Derived.Test.YtonfmbnankihbaaDoorZ14
import Derived.StillTailTactics
import Derived.Deep.QuietTactic
import Derived.BigQuiet
import Derived.WalkKit
import Derived.WalkSpells
import Derived.WalkLawsBesides
import Derived.Lib.Hide
import Derived.Below
import Derived.Lib.QuietBelow
import Derived.Laws.StructEq
import Derived.KernelRfl
import Derived.Laws.AppendOwn
import Derived.Deep.RegionHeld3
import Derived.Deep.LoopGhost
import Derived.Deep.MidRow
import Derived.Deep.Upon
import Derived.Laws.MakeOwn
import Derived.Laws.OwnMore
import Derived.OwnWalk
import Derived.Laws.CopyOwn
import Derived.Lib.Bytealg
import Derived.Laws.Externs
import Derived.Maps.AppendAt
import Derived.Laws.ResultCell
import Derived.Deep.Cut
namespace Go.Proofs.YtonfmbnankihbaaDoor
open Go.RowKit Go.Sort
open Pz

/-- What the program's Ends makes of any tree, as a list. -/
theorem ends_all {t : Rx} (hcnt : Rx.count t ≤ 1000) (hfit : Rx.fit t) (v : Value) (z : Int) (s : ByteArray) (w : World) (hL : s.size ≤ 100) (h : IsRx w v t) :
    Calls Tryd.prog 20 #[v, .string s, .int .i64 z] w fun e w' => ∃ A n c, e = .returned (.slice A n c) ∧ (ends (txt8 s) t z).length = n ∧ n ≤ 101 ∧ IsZ w' A (zn (ends (txt8 s) t z)) ∧ Below w.heap.size w w' := by
  by_cases hz : Rx.isRex t = true ∧ 0 ≤ z ∧ z ≤ (s.size : Int)
  · obtain ⟨p, rfl⟩ : ∃ p : Nat, z = (p : Int) := ⟨z.toNat, by omega⟩
    have e : ends (txt8 s) t (p : Int) = endsTo (txt8 s) t p (s.size + 1) := by
      unfold ends; rw [if_pos ⟨hz.1, hz.2.1, by rw [txt8_len]; exact hz.2.2⟩, txt8_len, Int.toNat_natCast]
    rw [e]
    refine (ends_some t v p s s.size w hcnt hz.1 hfit rfl hL (by omega) h).mono ?_
    rintro e w' ⟨v', rfl, ho, hb⟩
    rw [iz_zs] at ho
    obtain ⟨A, c, rfl, h1, h2, h3, h4⟩ := own_z ho
    exact ⟨A, _, c, rfl, rfl, Nat.le_trans (endsTo_len _ _ _ _) (by omega), h3, hb⟩
  · have e : ends (txt8 s) t z = [] := by unfold ends; rw [if_neg (fun h => hz (by rw [txt8_len] at h; exact h))]
    rw [e]
    refine (ends_none t v z s w hcnt h hz).mono ?_
    rintro e w' ⟨rfl, hb⟩
    exact ⟨none, 0, 0, rfl, rfl, by omega, IsZ.nil _ _, hb⟩
/-- What the reference's Ends makes of any tree, as a list. -/
theorem rends_all {t : Rx} (hcnt : Rx.count t ≤ 1000) (hfit : Rx.fit t) (v : Value) (z : Int) (s : ByteArray) (w : World) (hL : s.size ≤ 100) (h : IsRx w v t) :
    Calls Tryd.prog 40 #[v, .string s, .int .i64 z] w fun e w' => ∃ A n c, e = .returned (.slice A n c) ∧ (ends (txt8 s) t z).length = n ∧ n ≤ 101 ∧ IsZ w' A (zn (ends (txt8 s) t z)) ∧ Below w.heap.size w w' := by
  by_cases hz : Rx.isRex t = true ∧ 0 ≤ z ∧ z ≤ (s.size : Int)
  · obtain ⟨p, rfl⟩ : ∃ p : Nat, z = (p : Int) := ⟨z.toNat, by omega⟩
    have e : ends (txt8 s) t (p : Int) = endsTo (txt8 s) t p (s.size + 1) := by
      unfold ends; rw [if_pos ⟨hz.1, hz.2.1, by rw [txt8_len]; exact hz.2.2⟩, txt8_len, Int.toNat_natCast]
    rw [e]
    refine (rends_some t v p s s.size w hcnt hz.1 hfit rfl hL (by omega) h).mono ?_
    rintro e w' ⟨v', rfl, ho, hb⟩
    rw [iz_zs] at ho
    obtain ⟨A, c, rfl, h1, h2, h3, h4⟩ := own_z ho
    exact ⟨A, _, c, rfl, rfl, Nat.le_trans (endsTo_len _ _ _ _) (by omega), h3, hb⟩
  · have e : ends (txt8 s) t z = [] := by unfold ends; rw [if_neg (fun h => hz (by rw [txt8_len] at h; exact h))]
    rw [e]
    refine (rends_none t v z s w hcnt h hz).mono ?_
    rintro e w' ⟨rfl, hb⟩
    exact ⟨none, 0, 0, rfl, rfl, by omega, IsZ.nil _ _, hb⟩
def s1 : ByteArray := ⟨#[97, 42, 124, 98]⟩
def s2 : ByteArray := ⟨#[97, 42]⟩
def s3 : ByteArray := ⟨#[97, 42, 42]⟩
def s4 : ByteArray := ⟨#[97, 97, 98]⟩
def t2 : Rx := .mk 4 0 0 0 0 [.mk 1 0 8589934592 0 0 []]
def t1 : Rx := .mk 3 0 0 0 0 [t2, .mk 1 0 17179869184 0 0 []]
theorem p1 : parse (txt8 s1) = some t1 := by kernel_rfl
theorem p2 : parse (txt8 s2) = some t2 := by kernel_rfl
theorem p3 : parse (txt8 s3) = none := by kernel_rfl
theorem e4 : ends (txt8 s4) t2 0 = [0, 1, 2] := by decide +kernel
theorem ParseRes.yes {w w' : World} {r : Option Rx} {t : Rx} {e : Ending} (h : ParseRes w r e w') (hr : r = some t) : ∃ op a b c d A n cap, e = .returned (.tuple #[.agg #[.int .i64 op, .int .u64 ((a : Nat) : Int), .int .u64 ((b : Nat) : Int), .int .u64 ((c : Nat) : Int), .int .u64 ((d : Nat) : Int), .slice A n cap], .bool true]) ∧ IsRx w' (.agg (c6 op a b c d A n cap)) t ∧ Below w.heap.size w w' := by
  subst hr
  obtain ⟨hb, ⟨t', v, hr, he, hx⟩ | ⟨hr, _⟩⟩ := h
  · injection hr with hr
    subst hr
    obtain ⟨op, a, b, c, d, A, n, cap, rfl⟩ := hx.form
    exact ⟨op, a, b, c, d, A, n, cap, he, hx.is, hb⟩
  · cases hr
theorem ParseRes.no {w w' : World} {r : Option Rx} {e : Ending} (h : ParseRes w r e w') (hr : r = none) : e = .returned (.tuple #[.agg #[.int .i64 0, .int .u64 0, .int .u64 0, .int .u64 0, .int .u64 0, .slice none 0 0], .bool false]) ∧ Below w.heap.size w w' := by
  subst hr
  obtain ⟨hb, ⟨_, _, hr, _⟩ | ⟨_, he⟩⟩ := h
  · cases hr
  · exact ⟨he, hb⟩
theorem cell_grow {w w' : World} (hb : Below w.heap.size w w') {p : Addr} {v : Value} (h : w.cell? p = some v) : w'.cell? p = some v := (hb.cell (World.block_lt_of_cell? w _ h)).trans h
theorem IsRx.op {w : World} {V : Nat → Value} {op : Int} {a b c d : Nat} {ks : List Rx} (h : IsRx w (val6 V) (.mk op a b c d ks)) : V 0 = .int .i64 op := by
  generalize hv : val6 V = v at h
  cases h
  exact (val6_eq hv).1
theorem t1_form {w : World} {op : Int} {a b c d n cap : Nat} {A : Option Addr} (h : IsRx w (.agg (c6 op a b c d A n cap)) t1) : op = 3 ∧ n = 2 ∧ ∃ blk off, A = some ⟨blk, off, none⟩ ∧ w.cell? ⟨blk, off, none⟩ = some (.int .i64 4) ∧ w.cell? ⟨blk, off + 6, none⟩ = some (.int .i64 1) := by
  generalize hv : Value.agg (c6 op a b c d A n cap) = v at h
  unfold t1 at h
  cases h with
  | node _ _ _ _ _ _ A' cap' blk off V hcap hA hp hc hk =>
    simp [c6] at hv
    obtain ⟨h1, _, _, _, _, h2, h3, _⟩ := hv
    refine ⟨h1, h3, blk, off, h2.trans (hp (by simp)), ?_, ?_⟩
    · have := hc 0 0 (by simp) (by omega)
      have e := (hk 0 (by simp)).op
      rw [e] at this
      simpa using this
    · have := hc 1 0 (by simp) (by omega)
      have e := (hk 1 (by simp)).op
      rw [e] at this
      simpa using this
end Go.Proofs.YtonfmbnankihbaaDoor
namespace Go.Proofs.YtonfmbnankihbaaDoor
open Go.RowKit

/-- What lays the steps of a tree behind others. -/
def LayPost (base : Nat) (w : World) (v : Value) (n : Nat) (L M : List St) : Ending → World → Prop := fun e w' => ∃ A' m cap', m = n + M.length ∧ e = .returned (.slice A' m cap') ∧ Steps base w' (.slice A' m cap') (L ++ M) ∧ Moved w v w' (.slice A' m cap')
def Lays (f : FuncId) (base : Nat) (t : Rx) : Prop := ∀ (tv : Value) (L : List St) (A : Option Addr) (n cap : Nat) (w : World), L.length = n → n + Rx.sz t ≤ 1000 → base ≤ w.heap.size → RxIn (fun b => b < base) w tv t → Steps base w (.slice A n cap) L →
  Calls Tryd.prog f #[.slice A n cap, tv] w (LayPost base w (.slice A n cap) n L (Rx.lay n t))
/-- Its kid in a box, at the beginning of a walk. -/
structure Boxed (base : Nat) (w w0 : World) (v : Value) (L : List St) (cs : Array Value) (t : Rx) : Prop where
  moved : Moved w v w0 v
  steps : Steps base w0 v L
  box : w0.heap[w.heap.size]? = some (.cells cs 34 (0, 0))
  size : w0.heap.size = w.heap.size + 1
  tree : RxIn (fun b => b < base) w0 (.agg cs) t
theorem Boxed.of {base : Nat} {w : World} {v : Value} {L : List St} {cs : Array Value} {t : Rx} (hb : base ≤ w.heap.size) (hs : Steps base w v L) (ht : RxIn (fun b => b < base) w (.agg cs) t) : Boxed base w (w.alloc (.cells cs 34)) v L cs t := by
  have B : Below w.heap.size w (w.alloc (.cells cs 34)) := (Below.refl _ _).alloc (Nat.le_refl _) _
  exact ⟨Moved.of v B, hs.grow B, heap_alloc_new w _, by simp, ht.low (B.mono hb)⟩
/-- What is known of its kid in a later world. -/
theorem Boxed.later {base : Nat} {w w0 W : World} {v V : Value} {L : List St} {v0 v1 v2 v3 v4 v5 : Value} {t : Rx} (h : Boxed base w w0 v L #[v0, v1, v2, v3, v4, v5] t) (hb : base ≤ w.heap.size) (htop : ∀ k, v.ownBlock = some k → k < w.heap.size) (hlow : ∀ k, v.ownBlock = some k → base ≤ k) (hm : Moved w0 v W V) :
    (W.cell? ⟨w.heap.size, 0, none⟩ = some v0 ∧ W.cell? ⟨w.heap.size, 1, none⟩ = some v1 ∧ W.cell? ⟨w.heap.size, 2, none⟩ = some v2 ∧ W.cell? ⟨w.heap.size, 3, none⟩ = some v3 ∧ W.cell? ⟨w.heap.size, 4, none⟩ = some v4 ∧ W.cell? ⟨w.heap.size, 5, none⟩ = some v5) ∧ RxIn (fun b => b < base) W (.agg #[v0, v1, v2, v3, v4, v5]) t ∧ base ≤ W.heap.size := by
  have hz := h.size
  have hz2 := hm.size
  exact ⟨hm.box h.box (fun e => by have := htop _ e.symm; omega), h.tree.low (hm.below (by omega) hlow), by omega⟩

set_option maxRecDepth 100000 in
set_option maxHeartbeats 4000000 in
theorem star_any (base : Nat) (t : Rx) (hT : Lays 33 base t) (tv : Value) (L : List St) (A : Option Addr) (n cap : Nat) (w : World) (hL : L.length = n) (hn : n + Rx.sz t + 2 ≤ 1000) (hb : base ≤ w.heap.size) (hx : RxIn (fun b => b < base) w tv t) (hs : Steps base w (.slice A n cap) L) (a b c d : Nat) :
    Calls Tryd.prog 47 #[.slice A n cap, tv] w (LayPost base w (.slice A n cap) n L (Rx.lay n (.mk 4 a b c d [t]))) := by
  obtain ⟨op, xa, xb, xc, xd, XA, xn, xcap, rfl⟩ := hx.form
  obtain ⟨Z, hZ⟩ : ∃ Z, Rx.sz t = Z := ⟨_, rfl⟩
  have BX := Lib.hid (Boxed.of hb hs hx)
  have LT := Lib.hid (fun W V => Boxed.later (W := W) (V := V) BX.out hb hs.top hs.low)
  have FIN : Hid (L ++ Rx.lay n (.mk 4 a b c d [t]) = L ++ (St.split (n + 1) (n + 2 + Z) :: (Rx.lay (n + 1) t ++ [St.jump n])) ∧ (Rx.lay n (.mk 4 a b c d [t])).length = Z + 2) := by
    refine ⟨?_, ?_⟩
    · simp [Rx.lay, Rx.layL, Rx.szL, hZ]
    · rw [Rx.lay_len]; simp [Rx.sz, Rx.szL, hZ]
  have TT : Hid (∀ L1 A1 cap1 W, L1.length = n + 1 → base ≤ W.heap.size → RxIn (fun b => b < base) W _ t → Steps base W (.slice A1 (n + 1) cap1) L1 → Calls Tryd.prog 33 #[.slice A1 (n + 1) cap1, _] W (LayPost base W (.slice A1 (n + 1) cap1) (n + 1) L1 (Rx.lay (n + 1) t))) := fun L1 A1 cap1 W h1 h2 h3 h4 => hT (.agg #[.int .i64 op, .int .u64 (xa : Int), .int .u64 (xb : Int), .int .u64 (xc : Int), .int .u64 (xd : Int), .slice XA xn xcap]) L1 A1 (n + 1) cap1 W h1 (by omega) h2 h3 h4
  have ZL : Hid ((Rx.lay (n + 1) t).length = Z) := by show _ = _; rw [Rx.lay_len, hZ]
  rw [hZ] at hn
  have hLL := Lib.hid hL
  clear hL hT hs hx hZ
  go_enter Tryd.func47, Tryd.ntmps47
  go_upto_region 2 with fail
  generalize w.alloc (.cells #[.int .i64 op, .int .u64 (xa : Int), .int .u64 (xb : Int), .int .u64 (xc : Int), .int .u64 (xd : Int), .slice XA xn xcap] 34) = w0 at *
  go_wp2_with (at_builtin; go_must (refine wpList_appS rfl (.tmp 8) (.tmp 12) rfl base (.slice A n cap) L n ⟨2, 0, 0, 0, 0, (n : Int) + 1, 0⟩ w0.heap.size rfl rfl rfl rfl BX.out.steps hLL.out (by omega) (by have := BX.out.size; omega) ?_); (intro g1 cap1 w1 S1 M1); (replace S1 := Lib.hid S1); (replace M1 := Lib.hid M1); (obtain ⟨⟨q0, q1, q2, q3, q4, q5⟩, X1, Z1⟩ := LT.out _ _ M1.out); (replace X1 := Lib.hid X1))
  refine (TT.out _ _ _ _ (by rw [List.length_append, hLL.out]; rfl) Z1 X1.out S1.out).mono ?_
  rintro e w2 ⟨A2, m2, cap2, hm, rfl, S2, M2⟩
  rw [ZL.out] at hm
  subst hm
  replace M2 := Lib.hid (M1.out.trans M2)
  replace S2 := Lib.hid S2
  obtain ⟨_, _, Z2⟩ := LT.out _ _ M2.out
  have L2 : Hid ((L ++ [(⟨2, 0, 0, 0, 0, (n : Int) + 1, 0⟩ : St)] ++ Rx.lay (n + 1) t).length = n + 1 + Z) := by show _ = _; rw [List.length_append, List.length_append, hLL.out, ZL.out]; rfl
  clear M1 S1 X1 q0 q1 q2 q3 q4 q5 TT
  go_wp2_with (at_builtin; go_must (refine wpList_appS rfl (.tmp 17) (.tmp 20) rfl base _ _ (n + 1 + Z) ⟨3, 0, 0, 0, 0, (n : Int), 0⟩ w2.heap.size rfl rfl rfl rfl S2.out L2.out (by omega) Z2 ?_); (intro g3 cap3 w3 S3 M3); go_must (simp only [List.append_assoc, List.cons_append, List.nil_append] at S3); (replace S3 := Lib.hid S3); (replace M3 := Lib.hid (M2.out.trans M3)); go_must (obtain ⟨hc, _, hf, _⟩ := S3.out.at hLL.out); (dsimp only at hc))
  obtain ⟨S4, M4⟩ := S3.out.fixY hLL.out ((n : Int) + 1 + Z + 1) (s' := St.split (n + 1) (n + 2 + Z)) (by simp [St.setY, St.split]; omega)
  go_ret
  refine ⟨_, n + 1 + Z + 1, cap3, by rw [FIN.out.2]; omega, rfl, ?_, BX.out.moved.trans (M3.out.trans M4)⟩
  rw [FIN.out.1]
  exact S4

set_option maxRecDepth 100000 in
set_option maxHeartbeats 4000000 in
theorem plus_any (base : Nat) (t : Rx) (hT : Lays 33 base t) (tv : Value) (L : List St) (A : Option Addr) (n cap : Nat) (w : World) (hL : L.length = n) (hn : n + Rx.sz t + 1 ≤ 1000) (hb : base ≤ w.heap.size) (hx : RxIn (fun b => b < base) w tv t) (hs : Steps base w (.slice A n cap) L) (a b c d : Nat) :
    Calls Tryd.prog 48 #[.slice A n cap, tv] w (LayPost base w (.slice A n cap) n L (Rx.lay n (.mk 5 a b c d [t]))) := by
  obtain ⟨op, xa, xb, xc, xd, XA, xn, xcap, rfl⟩ := hx.form
  obtain ⟨Z, hZ⟩ : ∃ Z, Rx.sz t = Z := ⟨_, rfl⟩
  have BX := Lib.hid (Boxed.of hb hs hx)
  have LT := Lib.hid (fun W V => Boxed.later (W := W) (V := V) BX.out hb hs.top hs.low)
  have FIN : Hid (L ++ Rx.lay n (.mk 5 a b c d [t]) = L ++ Rx.lay n t ++ [St.split n (n + Z + 1)] ∧ (Rx.lay n (.mk 5 a b c d [t])).length = Z + 1) := by
    refine ⟨?_, ?_⟩
    · simp [Rx.lay, Rx.layL, Rx.szL, hZ]
    · rw [Rx.lay_len]; simp [Rx.sz, Rx.szL, hZ]
  have TT := Lib.hid (hT (.agg #[.int .i64 op, .int .u64 (xa : Int), .int .u64 (xb : Int), .int .u64 (xc : Int), .int .u64 (xd : Int), .slice XA xn xcap]) L A n cap)
  have ZL : Hid ((Rx.lay n t).length = Z) := by show _ = _; rw [Rx.lay_len, hZ]
  rw [hZ] at hn TT
  have hLL := Lib.hid hL
  clear hL hT hs hx hZ
  go_enter Tryd.func48, Tryd.ntmps48
  go_upto_region 2 with fail
  generalize w.alloc (.cells #[.int .i64 op, .int .u64 (xa : Int), .int .u64 (xb : Int), .int .u64 (xc : Int), .int .u64 (xd : Int), .slice XA xn xcap] 34) = w0 at *
  obtain ⟨⟨q0, q1, q2, q3, q4, q5⟩, X1, Z1⟩ := LT.out _ _ (Moved.refl _ _)
  have T2 := Lib.hid (TT.out w0 hLL.out (by omega) Z1 X1 BX.out.steps)
  clear X1 TT
  go_wp2_with fail
  refine T2.out.mono ?_
  rintro e w2 ⟨A2, m2, cap2, hm, rfl, S2, M2⟩
  rw [ZL.out] at hm
  subst hm
  replace M2 := Lib.hid M2
  replace S2 := Lib.hid S2
  obtain ⟨_, _, Z2⟩ := LT.out _ _ M2.out
  have L2 : Hid ((L ++ Rx.lay n t).length = n + Z) := by show _ = _; rw [List.length_append, hLL.out, ZL.out]
  clear q0 q1 q2 q3 q4 q5 T2
  go_wp2_with (at_builtin; go_must (refine wpList_appS rfl (.tmp 11) (.tmp 17) rfl base _ _ (n + Z) ⟨2, 0, 0, 0, 0, (n : Int), (n : Int) + Z + 1⟩ w2.heap.size rfl rfl rfl rfl S2.out L2.out (by omega) Z2 ?_); (intro g3 cap3 w3 S3 M3); (replace S3 := Lib.hid S3); (replace M3 := Lib.hid (M2.out.trans M3)))
  go_ret
  refine ⟨_, n + Z + 1, cap3, by rw [FIN.out.2]; omega, rfl, ?_, BX.out.moved.trans M3.out⟩
  rw [FIN.out.1]
  have e : St.split n (n + Z + 1) = ⟨2, 0, 0, 0, 0, (n : Int), (n : Int) + Z + 1⟩ := by simp [St.split]
  rw [e]
  exact S3.out

set_option maxRecDepth 100000 in
set_option maxHeartbeats 4000000 in
theorem maybe_any (base : Nat) (t : Rx) (hT : Lays 33 base t) (tv : Value) (L : List St) (A : Option Addr) (n cap : Nat) (w : World) (hL : L.length = n) (hn : n + Rx.sz t + 1 ≤ 1000) (hb : base ≤ w.heap.size) (hx : RxIn (fun b => b < base) w tv t) (hs : Steps base w (.slice A n cap) L) (a b c d : Nat) :
    Calls Tryd.prog 49 #[.slice A n cap, tv] w (LayPost base w (.slice A n cap) n L (Rx.lay n (.mk 6 a b c d [t]))) := by
  obtain ⟨op, xa, xb, xc, xd, XA, xn, xcap, rfl⟩ := hx.form
  obtain ⟨Z, hZ⟩ : ∃ Z, Rx.sz t = Z := ⟨_, rfl⟩
  have BX := Lib.hid (Boxed.of hb hs hx)
  have LT := Lib.hid (fun W V => Boxed.later (W := W) (V := V) BX.out hb hs.top hs.low)
  have FIN : Hid (L ++ Rx.lay n (.mk 6 a b c d [t]) = L ++ (St.split (n + 1) (n + 1 + Z) :: Rx.lay (n + 1) t) ∧ (Rx.lay n (.mk 6 a b c d [t])).length = Z + 1) := by
    refine ⟨?_, ?_⟩
    · simp [Rx.lay, Rx.layL, Rx.szL, hZ]
    · rw [Rx.lay_len]; simp [Rx.sz, Rx.szL, hZ]
  have TT : Hid (∀ L1 A1 cap1 W, L1.length = n + 1 → base ≤ W.heap.size → RxIn (fun b => b < base) W _ t → Steps base W (.slice A1 (n + 1) cap1) L1 → Calls Tryd.prog 33 #[.slice A1 (n + 1) cap1, _] W (LayPost base W (.slice A1 (n + 1) cap1) (n + 1) L1 (Rx.lay (n + 1) t))) := fun L1 A1 cap1 W h1 h2 h3 h4 => hT (.agg #[.int .i64 op, .int .u64 (xa : Int), .int .u64 (xb : Int), .int .u64 (xc : Int), .int .u64 (xd : Int), .slice XA xn xcap]) L1 A1 (n + 1) cap1 W h1 (by omega) h2 h3 h4
  have ZL : Hid ((Rx.lay (n + 1) t).length = Z) := by show _ = _; rw [Rx.lay_len, hZ]
  rw [hZ] at hn
  have hLL := Lib.hid hL
  clear hL hT hs hx hZ
  go_enter Tryd.func49, Tryd.ntmps49
  go_upto_region 2 with fail
  generalize w.alloc (.cells #[.int .i64 op, .int .u64 (xa : Int), .int .u64 (xb : Int), .int .u64 (xc : Int), .int .u64 (xd : Int), .slice XA xn xcap] 34) = w0 at *
  go_wp2_with (at_builtin; go_must (refine wpList_appS rfl (.tmp 8) (.tmp 12) rfl base (.slice A n cap) L n ⟨2, 0, 0, 0, 0, (n : Int) + 1, 0⟩ w0.heap.size rfl rfl rfl rfl BX.out.steps hLL.out (by omega) (by have := BX.out.size; omega) ?_); (intro g1 cap1 w1 S1 M1); (replace S1 := Lib.hid S1); (replace M1 := Lib.hid M1); (obtain ⟨⟨q0, q1, q2, q3, q4, q5⟩, X1, Z1⟩ := LT.out _ _ M1.out); (replace X1 := Lib.hid X1))
  refine (TT.out _ _ _ _ (by rw [List.length_append, hLL.out]; rfl) Z1 X1.out S1.out).mono ?_
  rintro e w2 ⟨A2, m2, cap2, hm, rfl, S2, M2⟩
  rw [ZL.out] at hm
  subst hm
  replace M2 := Lib.hid (M1.out.trans M2)
  simp only [List.append_assoc, List.cons_append, List.nil_append] at S2
  obtain ⟨g2, cap2', hv⟩ := S2.form2 (by rw [List.length_append, List.length_cons]; omega)
  injection hv with hv1 hv2 hv3
  subst hv1 hv3
  clear hv2
  replace S2 := Lib.hid S2
  obtain ⟨hc, _, hf, _⟩ := S2.out.at hLL.out
  dsimp only at hc
  clear M1 S1 X1 q0 q1 q2 q3 q4 q5 TT
  go_wp2
  obtain ⟨S4, M4⟩ := S2.out.fixY hLL.out ((n : Int) + 1 + Z) (s' := St.split (n + 1) (n + 1 + Z)) (by simp [St.setY, St.split])
  go_ret
  refine ⟨_, n + 1 + Z, cap2, by rw [FIN.out.2]; omega, rfl, ?_, BX.out.moved.trans (M2.out.trans M4)⟩
  rw [FIN.out.1]
  exact S4

end Go.Proofs.YtonfmbnankihbaaDoor
