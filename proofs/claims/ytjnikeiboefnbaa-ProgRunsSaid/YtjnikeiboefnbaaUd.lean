/-
  What the program's appendStar, appendPlus and appendMaybe do, of what appendTree does to the kid. Conditions: at most 1000 steps.
-/
import Derived.Test.YtjnikeiboefnbaaProg
import Derived.Test.YtjnikeiboefnbaaEa
import Derived.Test.YtjnikeiboefnbaaEd
import Derived.Test.YtjnikeiboefnbaaEm
import Derived.Test.YtjnikeiboefnbaaEf
import Derived.Test.YtjnikeiboefnbaaEi
import Derived.Test.YtjnikeiboefnbaaJb
import Derived.Test.YtjnikeiboefnbaaHa
import Derived.Test.YtjnikeiboefnbaaHd
import Derived.Test.YtjnikeiboefnbaaHe
import Derived.Test.YtjnikeiboefnbaaJd
import Derived.Test.YtjnikeiboefnbaaJe
import Derived.Test.YtjnikeiboefnbaaJf
import Derived.Test.YtjnikeiboefnbaaJg
import Derived.Test.YtjnikeiboefnbaaJh
import Derived.Test.YtjnikeiboefnbaaHi
import Derived.Test.YtjnikeiboefnbaaUa
import Derived.Test.YtjnikeiboefnbaaUb
import Derived.Test.YtjnikeiboefnbaaUc
import Derived.Deep.Cut
import Derived.Laws.AppendOwn
import Derived.Maps.AppendAt
import Derived.Deep.LoopGhost
import Derived.Deep.QuietTactic
import Derived.BigQuiet
import Derived.Lib.Bytealg
import Derived.Laws.Externs
import Derived.Laws.CopyOwn
import Derived.Laws.MakeOwn
import Derived.Laws.OwnMore
import Derived.OwnWalk
import Derived.StillTailTactics
import Derived.WalkKit
import Derived.WalkSpells
import Derived.WalkLawsBesides
import Derived.Lib.Hide
import Derived.Below
import Derived.Lib.QuietBelow
import Derived.Laws.StructEq
import Derived.KernelRfl
import Derived.Deep.RegionHeld3
import Derived.Laws.ResultCell
namespace Go.Proofs.Ytjnikeiboefnbaa
open Go.RowKit

/-- What lays the steps of a tree behind others. -/
def LayPost (base : Nat) (w : World) (v : Value) (n : Nat) (L M : List St) : Ending → World → Prop := fun e w' => ∃ A' m cap', m = n + M.length ∧ e = .returned (.slice A' m cap') ∧ Steps base w' (.slice A' m cap') (L ++ M) ∧ Moved w v w' (.slice A' m cap')
def Lays (f : FuncId) (base : Nat) (t : Rx) : Prop := ∀ (tv : Value) (L : List St) (A : Option Addr) (n cap : Nat) (w : World), L.length = n → n + Rx.sz t ≤ 1000 → base ≤ w.heap.size → RxIn (fun b => b < base) w tv t → Steps base w (.slice A n cap) L →
  Calls Try.prog f #[.slice A n cap, tv] w (LayPost base w (.slice A n cap) n L (Rx.lay n t))
/-- Its kid in a box, at the beginning of a walk. -/
structure Boxed (base : Nat) (w w0 : World) (v : Value) (L : List St) (cs : Array Value) (t : Rx) : Prop where
  moved : Moved w v w0 v
  steps : Steps base w0 v L
  box : w0.heap[w.heap.size]? = some (.cells cs 26 (0, 0))
  size : w0.heap.size = w.heap.size + 1
  tree : RxIn (fun b => b < base) w0 (.agg cs) t
theorem Boxed.of {base : Nat} {w : World} {v : Value} {L : List St} {cs : Array Value} {t : Rx} (hb : base ≤ w.heap.size) (hs : Steps base w v L) (ht : RxIn (fun b => b < base) w (.agg cs) t) : Boxed base w (w.alloc (.cells cs 26)) v L cs t := by
  have B : Below w.heap.size w (w.alloc (.cells cs 26)) := (Below.refl _ _).alloc (Nat.le_refl _) _
  exact ⟨Moved.of v B, hs.grow B, heap_alloc_new w _, by simp, ht.low (B.mono hb)⟩
/-- What is known of its kid in a later world. -/
theorem Boxed.later {base : Nat} {w w0 W : World} {v V : Value} {L : List St} {v0 v1 v2 v3 v4 v5 : Value} {t : Rx} (h : Boxed base w w0 v L #[v0, v1, v2, v3, v4, v5] t) (hb : base ≤ w.heap.size) (htop : ∀ k, v.ownBlock = some k → k < w.heap.size) (hlow : ∀ k, v.ownBlock = some k → base ≤ k) (hm : Moved w0 v W V) :
    (W.cell? ⟨w.heap.size, 0, none⟩ = some v0 ∧ W.cell? ⟨w.heap.size, 1, none⟩ = some v1 ∧ W.cell? ⟨w.heap.size, 2, none⟩ = some v2 ∧ W.cell? ⟨w.heap.size, 3, none⟩ = some v3 ∧ W.cell? ⟨w.heap.size, 4, none⟩ = some v4 ∧ W.cell? ⟨w.heap.size, 5, none⟩ = some v5) ∧ RxIn (fun b => b < base) W (.agg #[v0, v1, v2, v3, v4, v5]) t ∧ base ≤ W.heap.size := by
  have hz := h.size
  have hz2 := hm.size
  exact ⟨hm.box h.box (fun e => by have := htop _ e.symm; omega), h.tree.low (hm.below (by omega) hlow), by omega⟩

set_option maxRecDepth 100000 in
set_option maxHeartbeats 4000000 in
theorem star_any (base : Nat) (t : Rx) (hT : Lays 21 base t) (tv : Value) (L : List St) (A : Option Addr) (n cap : Nat) (w : World) (hL : L.length = n) (hn : n + Rx.sz t + 2 ≤ 1000) (hb : base ≤ w.heap.size) (hx : RxIn (fun b => b < base) w tv t) (hs : Steps base w (.slice A n cap) L) (a b c d : Nat) :
    Calls Try.prog 33 #[.slice A n cap, tv] w (LayPost base w (.slice A n cap) n L (Rx.lay n (.mk 4 a b c d [t]))) := by
  obtain ⟨op, xa, xb, xc, xd, XA, xn, xcap, rfl⟩ := hx.form
  obtain ⟨Z, hZ⟩ : ∃ Z, Rx.sz t = Z := ⟨_, rfl⟩
  have BX := Lib.hid (Boxed.of hb hs hx)
  have LT := Lib.hid (fun W V => Boxed.later (W := W) (V := V) BX.out hb hs.top hs.low)
  have FIN : Hid (L ++ Rx.lay n (.mk 4 a b c d [t]) = L ++ (St.split (n + 1) (n + 2 + Z) :: (Rx.lay (n + 1) t ++ [St.jump n])) ∧ (Rx.lay n (.mk 4 a b c d [t])).length = Z + 2) := by
    refine ⟨?_, ?_⟩
    · simp [Rx.lay, Rx.layL, Rx.szL, hZ]
    · rw [Rx.lay_len]; simp [Rx.sz, Rx.szL, hZ]
  have TT : Hid (∀ L1 A1 cap1 W, L1.length = n + 1 → base ≤ W.heap.size → RxIn (fun b => b < base) W _ t → Steps base W (.slice A1 (n + 1) cap1) L1 → Calls Try.prog 21 #[.slice A1 (n + 1) cap1, _] W (LayPost base W (.slice A1 (n + 1) cap1) (n + 1) L1 (Rx.lay (n + 1) t))) := fun L1 A1 cap1 W h1 h2 h3 h4 => hT (.agg #[.int .i64 op, .int .u64 (xa : Int), .int .u64 (xb : Int), .int .u64 (xc : Int), .int .u64 (xd : Int), .slice XA xn xcap]) L1 A1 (n + 1) cap1 W h1 (by omega) h2 h3 h4
  have ZL : Hid ((Rx.lay (n + 1) t).length = Z) := by show _ = _; rw [Rx.lay_len, hZ]
  rw [hZ] at hn
  have hLL := Lib.hid hL
  clear hL hT hs hx hZ
  go_enter Try.func33, Try.ntmps33
  go_upto_region 2 with fail
  generalize w.alloc (.cells #[.int .i64 op, .int .u64 (xa : Int), .int .u64 (xb : Int), .int .u64 (xc : Int), .int .u64 (xd : Int), .slice XA xn xcap] 26) = w0 at *
  go_wp2_with (at_builtin; go_must (refine wpList_appS rfl (.tmp 8) (.tmp 12) rfl base (.slice A n cap) L n ⟨2, 0, 0, 0, 0, (n : Int) + 1, 0⟩ w0.heap.size rfl rfl rfl rfl BX.out.steps hLL.out (by omega) (by have := BX.out.size; omega) ?_); (intro g1 cap1 w1 S1 M1); (replace S1 := Lib.hid S1); (replace M1 := Lib.hid M1); (obtain ⟨⟨q0, q1, q2, q3, q4, q5⟩, X1, Z1⟩ := LT.out _ _ M1.out); (replace X1 := Lib.hid X1))
  refine (TT.out _ _ _ _ (by rw [List.length_append, hLL.out]; rfl) Z1 X1.out S1.out).mono ?_
  rintro e w2 ⟨A2, m2, cap2, hm, rfl, S2, M2⟩
  rw [ZL.out] at hm
  subst hm
  replace M2 := Lib.hid (M1.out.trans M2)
  replace S2 := Lib.hid S2
  obtain ⟨_, _, Z2⟩ := LT.out _ _ M2.out
  have L2 : Hid ((L ++ [(⟨2, 0, 0, 0, 0, (n : Int) + 1, 0⟩ : St)] ++ Rx.lay (n + 1) t).length = n + 1 + Z) := by show _ = _; rw [List.length_append, List.length_append, hLL.out, ZL.out]; rfl
  clear M1 S1 X1 q0 q1 q2 q3 q4 q5 TT
  go_wp2_with (at_builtin; go_must (refine wpList_appS rfl (.tmp 17) (.tmp 20) rfl base _ _ (n + 1 + Z) ⟨3, 0, 0, 0, 0, (n : Int), 0⟩ w2.heap.size rfl rfl rfl rfl S2.out L2.out (by omega) Z2 ?_); (intro g3 cap3 w3 S3 M3); go_must (simp only [List.append_assoc, List.cons_append, List.nil_append] at S3); (replace S3 := Lib.hid S3); (replace M3 := Lib.hid (M2.out.trans M3)); go_must (obtain ⟨hc, _, hf, _⟩ := S3.out.at hLL.out); (dsimp only at hc))
  obtain ⟨S4, M4⟩ := S3.out.fixY hLL.out ((n : Int) + 1 + Z + 1) (s' := St.split (n + 1) (n + 2 + Z)) (by simp [St.setY, St.split]; omega)
  go_ret
  refine ⟨_, n + 1 + Z + 1, cap3, by rw [FIN.out.2]; omega, rfl, ?_, BX.out.moved.trans (M3.out.trans M4)⟩
  rw [FIN.out.1]
  exact S4

set_option maxRecDepth 100000 in
set_option maxHeartbeats 4000000 in
theorem plus_any (base : Nat) (t : Rx) (hT : Lays 21 base t) (tv : Value) (L : List St) (A : Option Addr) (n cap : Nat) (w : World) (hL : L.length = n) (hn : n + Rx.sz t + 1 ≤ 1000) (hb : base ≤ w.heap.size) (hx : RxIn (fun b => b < base) w tv t) (hs : Steps base w (.slice A n cap) L) (a b c d : Nat) :
    Calls Try.prog 34 #[.slice A n cap, tv] w (LayPost base w (.slice A n cap) n L (Rx.lay n (.mk 5 a b c d [t]))) := by
  obtain ⟨op, xa, xb, xc, xd, XA, xn, xcap, rfl⟩ := hx.form
  obtain ⟨Z, hZ⟩ : ∃ Z, Rx.sz t = Z := ⟨_, rfl⟩
  have BX := Lib.hid (Boxed.of hb hs hx)
  have LT := Lib.hid (fun W V => Boxed.later (W := W) (V := V) BX.out hb hs.top hs.low)
  have FIN : Hid (L ++ Rx.lay n (.mk 5 a b c d [t]) = L ++ Rx.lay n t ++ [St.split n (n + Z + 1)] ∧ (Rx.lay n (.mk 5 a b c d [t])).length = Z + 1) := by
    refine ⟨?_, ?_⟩
    · simp [Rx.lay, Rx.layL, Rx.szL, hZ]
    · rw [Rx.lay_len]; simp [Rx.sz, Rx.szL, hZ]
  have TT := Lib.hid (hT (.agg #[.int .i64 op, .int .u64 (xa : Int), .int .u64 (xb : Int), .int .u64 (xc : Int), .int .u64 (xd : Int), .slice XA xn xcap]) L A n cap)
  have ZL : Hid ((Rx.lay n t).length = Z) := by show _ = _; rw [Rx.lay_len, hZ]
  rw [hZ] at hn TT
  have hLL := Lib.hid hL
  clear hL hT hs hx hZ
  go_enter Try.func34, Try.ntmps34
  go_upto_region 2 with fail
  generalize w.alloc (.cells #[.int .i64 op, .int .u64 (xa : Int), .int .u64 (xb : Int), .int .u64 (xc : Int), .int .u64 (xd : Int), .slice XA xn xcap] 26) = w0 at *
  obtain ⟨⟨q0, q1, q2, q3, q4, q5⟩, X1, Z1⟩ := LT.out _ _ (Moved.refl _ _)
  have T2 := Lib.hid (TT.out w0 hLL.out (by omega) Z1 X1 BX.out.steps)
  clear X1 TT
  go_wp2_with fail
  refine T2.out.mono ?_
  rintro e w2 ⟨A2, m2, cap2, hm, rfl, S2, M2⟩
  rw [ZL.out] at hm
  subst hm
  replace M2 := Lib.hid M2
  replace S2 := Lib.hid S2
  obtain ⟨_, _, Z2⟩ := LT.out _ _ M2.out
  have L2 : Hid ((L ++ Rx.lay n t).length = n + Z) := by show _ = _; rw [List.length_append, hLL.out, ZL.out]
  clear q0 q1 q2 q3 q4 q5 T2
  go_wp2_with (at_builtin; go_must (refine wpList_appS rfl (.tmp 11) (.tmp 17) rfl base _ _ (n + Z) ⟨2, 0, 0, 0, 0, (n : Int), (n : Int) + Z + 1⟩ w2.heap.size rfl rfl rfl rfl S2.out L2.out (by omega) Z2 ?_); (intro g3 cap3 w3 S3 M3); (replace S3 := Lib.hid S3); (replace M3 := Lib.hid (M2.out.trans M3)))
  go_ret
  refine ⟨_, n + Z + 1, cap3, by rw [FIN.out.2]; omega, rfl, ?_, BX.out.moved.trans M3.out⟩
  rw [FIN.out.1]
  have e : St.split n (n + Z + 1) = ⟨2, 0, 0, 0, 0, (n : Int), (n : Int) + Z + 1⟩ := by simp [St.split]
  rw [e]
  exact S3.out

set_option maxRecDepth 100000 in
set_option maxHeartbeats 4000000 in
theorem maybe_any (base : Nat) (t : Rx) (hT : Lays 21 base t) (tv : Value) (L : List St) (A : Option Addr) (n cap : Nat) (w : World) (hL : L.length = n) (hn : n + Rx.sz t + 1 ≤ 1000) (hb : base ≤ w.heap.size) (hx : RxIn (fun b => b < base) w tv t) (hs : Steps base w (.slice A n cap) L) (a b c d : Nat) :
    Calls Try.prog 35 #[.slice A n cap, tv] w (LayPost base w (.slice A n cap) n L (Rx.lay n (.mk 6 a b c d [t]))) := by
  obtain ⟨op, xa, xb, xc, xd, XA, xn, xcap, rfl⟩ := hx.form
  obtain ⟨Z, hZ⟩ : ∃ Z, Rx.sz t = Z := ⟨_, rfl⟩
  have BX := Lib.hid (Boxed.of hb hs hx)
  have LT := Lib.hid (fun W V => Boxed.later (W := W) (V := V) BX.out hb hs.top hs.low)
  have FIN : Hid (L ++ Rx.lay n (.mk 6 a b c d [t]) = L ++ (St.split (n + 1) (n + 1 + Z) :: Rx.lay (n + 1) t) ∧ (Rx.lay n (.mk 6 a b c d [t])).length = Z + 1) := by
    refine ⟨?_, ?_⟩
    · simp [Rx.lay, Rx.layL, Rx.szL, hZ]
    · rw [Rx.lay_len]; simp [Rx.sz, Rx.szL, hZ]
  have TT : Hid (∀ L1 A1 cap1 W, L1.length = n + 1 → base ≤ W.heap.size → RxIn (fun b => b < base) W _ t → Steps base W (.slice A1 (n + 1) cap1) L1 → Calls Try.prog 21 #[.slice A1 (n + 1) cap1, _] W (LayPost base W (.slice A1 (n + 1) cap1) (n + 1) L1 (Rx.lay (n + 1) t))) := fun L1 A1 cap1 W h1 h2 h3 h4 => hT (.agg #[.int .i64 op, .int .u64 (xa : Int), .int .u64 (xb : Int), .int .u64 (xc : Int), .int .u64 (xd : Int), .slice XA xn xcap]) L1 A1 (n + 1) cap1 W h1 (by omega) h2 h3 h4
  have ZL : Hid ((Rx.lay (n + 1) t).length = Z) := by show _ = _; rw [Rx.lay_len, hZ]
  rw [hZ] at hn
  have hLL := Lib.hid hL
  clear hL hT hs hx hZ
  go_enter Try.func35, Try.ntmps35
  go_upto_region 2 with fail
  generalize w.alloc (.cells #[.int .i64 op, .int .u64 (xa : Int), .int .u64 (xb : Int), .int .u64 (xc : Int), .int .u64 (xd : Int), .slice XA xn xcap] 26) = w0 at *
  go_wp2_with (at_builtin; go_must (refine wpList_appS rfl (.tmp 8) (.tmp 12) rfl base (.slice A n cap) L n ⟨2, 0, 0, 0, 0, (n : Int) + 1, 0⟩ w0.heap.size rfl rfl rfl rfl BX.out.steps hLL.out (by omega) (by have := BX.out.size; omega) ?_); (intro g1 cap1 w1 S1 M1); (replace S1 := Lib.hid S1); (replace M1 := Lib.hid M1); (obtain ⟨⟨q0, q1, q2, q3, q4, q5⟩, X1, Z1⟩ := LT.out _ _ M1.out); (replace X1 := Lib.hid X1))
  refine (TT.out _ _ _ _ (by rw [List.length_append, hLL.out]; rfl) Z1 X1.out S1.out).mono ?_
  rintro e w2 ⟨A2, m2, cap2, hm, rfl, S2, M2⟩
  rw [ZL.out] at hm
  subst hm
  replace M2 := Lib.hid (M1.out.trans M2)
  simp only [List.append_assoc, List.cons_append, List.nil_append] at S2
  obtain ⟨g2, cap2', hv⟩ := S2.form2 (by rw [List.length_append, List.length_cons]; omega)
  injection hv with hv1 hv2 hv3
  subst hv1 hv3
  clear hv2
  replace S2 := Lib.hid S2
  obtain ⟨hc, _, hf, _⟩ := S2.out.at hLL.out
  dsimp only at hc
  clear M1 S1 X1 q0 q1 q2 q3 q4 q5 TT
  go_wp2
  obtain ⟨S4, M4⟩ := S2.out.fixY hLL.out ((n : Int) + 1 + Z) (s' := St.split (n + 1) (n + 1 + Z)) (by simp [St.setY, St.split])
  go_ret
  refine ⟨_, n + 1 + Z, cap2, by rw [FIN.out.2]; omega, rfl, ?_, BX.out.moved.trans (M2.out.trans M4)⟩
  rw [FIN.out.1]
  exact S4

end Go.Proofs.Ytjnikeiboefnbaa
