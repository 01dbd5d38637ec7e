/-
  What the program's appendWays does, of what appendTree does to each kid. Conditions: at most 1000 steps, 1000 kids.
  What the program's appendTree does: the steps of a tree that may be, behind others. Conditions: at most 1000 steps, 1000 nodes.
  What the program's Make and the reference's Make do: the program of a tree, or that there is none. Conditions: at most 1000 nodes.
  Steps read in memory; what the program's Check does: may steps be a program? Conditions: lengths fit.
-/
import Derived.Test.YtlfcjjlgkcfkdaaGreatDoorProg
import Derived.Test.YtlfcjjlgkcfkdaaGreatDoorZ01
import Derived.Test.YtlfcjjlgkcfkdaaGreatDoorZ02
import Derived.Test.YtlfcjjlgkcfkdaaGreatDoorZ03
import Derived.Test.YtlfcjjlgkcfkdaaGreatDoorZ04
import Derived.Test.YtlfcjjlgkcfkdaaGreatDoorZ05
import Derived.Test.YtlfcjjlgkcfkdaaGreatDoorZ07
import Derived.Test.YtlfcjjlgkcfkdaaGreatDoorZ06
import Derived.Test.YtlfcjjlgkcfkdaaGreatDoorZ08
import Derived.Test.YtlfcjjlgkcfkdaaGreatDoorZ09
import Derived.Test.YtlfcjjlgkcfkdaaGreatDoorZ13
import Derived.Deep.RegionHeld3
import Derived.WalkKit
import Derived.WalkSpells
import Derived.WalkLawsBesides
import Derived.Lib.Hide
import Derived.Below
import Derived.BigQuiet
import Derived.Lib.QuietBelow
import Derived.Laws.StructEq
import Derived.KernelRfl
import Derived.Laws.MakeOwn
import Derived.Laws.OwnMore
import Derived.OwnWalk
import Derived.Laws.CopyOwn
import Derived.Laws.AppendOwn
import Derived.Deep.QuietTactic
import Derived.Lib.Bytealg
import Derived.Laws.Externs
import Derived.Maps.AppendAt
import Derived.StillTailTactics
import Derived.Laws.ResultCell
import Derived.Deep.LoopGhost
import Derived.Deep.Cut
namespace Go.Proofs.YtlfcjjlgkcfkdaaGreatDoor
open Go.RowKit

/-- A row of steps and a row of places, each grown apart from the other. -/
structure Two (base : Nat) (w : World) (v : Value) (wr : World) (lv jv : Value) (L : List St) (js : List Nat) : Prop where
  moved : Moved w v wr lv
  steps : Steps base wr lv L
  jumps : Js w.heap.size wr jv js
  apart : Apt jv lv
theorem Two.stepL {base : Nat} {w wr W : World} {v lv jv lv' : Value} {L L' : List St} {js : List Nat} (h : Two base w v wr lv jv L js) (hm : Moved wr lv W lv') (hs : Steps base W lv' L') : Two base w v W lv' jv L' js := by
  obtain ⟨h1, h2⟩ := h.jumps.kept hm h.apart
  exact ⟨h.moved.trans hm, hs, h1, h2⟩
theorem Two.stepJ {base : Nat} {w wr W : World} {v lv jv jv' : Value} {L : List St} {js js' : List Nat} (h : Two base w v wr lv jv L js) (hm : Moved wr jv W jv') (hs : Js w.heap.size W jv' js') : Two base w v W lv jv' L js' := by
  obtain ⟨h1, h2⟩ := h.steps.kept hm h.apart.symm
  exact ⟨h.moved.aside hm h.jumps.low, h1, hs, h2.symm⟩
theorem Moved.tree {base : Nat} {w W : World} {v V tv : Value} {t : Rx} (hm : Moved w v W V) (hb : base ≤ w.heap.size) (hlow : ∀ k, v.ownBlock = some k → base ≤ k) (h : RxIn (fun b => b < base) w tv t) : RxIn (fun b => b < base) W tv t := h.low (hm.below hb hlow)

set_option maxRecDepth 100000 in
set_option maxHeartbeats 8000000 in
theorem ways6_any (base : Nat) (ks : List Rx) (hT : ∀ j, j < ks.length → Lays 126 base (Rx.nth ks j)) (hp : 1 ≤ ks.length) (hkn : ks.length ≤ 1000) (blk off kcap : Nat) (hkc : ks.length ≤ kcap) (V : Nat → Nat → Value) (L : List St) (A : Option Addr) (n cap : Nat) (w : World) (hL : L.length = n) (hn : n + (Rx.szL ks + 2 * (ks.length - 1)) ≤ 1000) (hb : base ≤ w.heap.size) (hq : blk < base)
    (hc : ∀ j i, j < ks.length → i < 6 → w.cell? ⟨blk, off + j * 6 + i, none⟩ = some (V j i)) (hk : ∀ j, j < ks.length → RxIn (fun b => b < base) w (val6 (V j)) (Rx.nth ks j)) (hs : Steps base w (.slice A n cap) L) :
    Calls Tryz.prog 142 #[.slice A n cap, .slice (some ⟨blk, off, none⟩) ks.length kcap] w (LayPost base w (.slice A n cap) n L (Rx.ways n (n + (Rx.szL ks + 2 * (ks.length - 1))) ks)) := by
  have hlow := hs.low
  have HC : Hid (∀ W v', Moved w (.slice A n cap) W v' → ∀ j, j < ks.length → ∃ op a b c d XA xn xcap, (W.cell? ⟨blk, off + j * 6, none⟩ = some (.int .i64 op) ∧ W.cell? ⟨blk, off + j * 6 + 1, none⟩ = some (.int .u64 ((a : Nat) : Int)) ∧ W.cell? ⟨blk, off + j * 6 + 2, none⟩ = some (.int .u64 ((b : Nat) : Int)) ∧ W.cell? ⟨blk, off + j * 6 + 3, none⟩ = some (.int .u64 ((c : Nat) : Int)) ∧ W.cell? ⟨blk, off + j * 6 + 4, none⟩ = some (.int .u64 ((d : Nat) : Int)) ∧ W.cell? ⟨blk, off + j * 6 + 5, none⟩ = some (.slice XA xn xcap)) ∧ RxIn (fun b => b < base) W (.agg #[.int .i64 op, .int .u64 (a : Int), .int .u64 (b : Int), .int .u64 (c : Int), .int .u64 (d : Int), .slice XA xn xcap]) (Rx.nth ks j)) := fun W v' hm j hj => by
    have hB : Below base w W := hm.below hb hlow
    have c : ∀ i, i < 6 → W.cell? ⟨blk, off + j * 6 + i, none⟩ = some (V j i) := fun i hi => (hB.cell hq).trans (hc j i hj hi)
    obtain ⟨op, xa, xb, xc, xd, XA, xn, xcap, e⟩ := (hk j hj).form
    obtain ⟨e0, e1, e2, e3, e4, e5⟩ := val6_eq e
    refine ⟨op, xa, xb, xc, xd, XA, xn, xcap, ⟨?_, ?_, ?_, ?_, ?_, ?_⟩, by rw [← e]; exact (hk j hj).low hB⟩
    · rw [← e0]; exact c 0 (by omega)
    · rw [← e1]; exact c 1 (by omega)
    · rw [← e2]; exact c 2 (by omega)
    · rw [← e3]; exact c 3 (by omega)
    · rw [← e4]; exact c 4 (by omega)
    · rw [← e5]; exact c 5 (by omega)
  have TT := Lib.hid hT
  have SUM : Hid (∀ j, j < ks.length → Rx.szW (ks.take j) + 2 + Rx.sz (Rx.nth ks j) ≤ Rx.szL ks + 2 * ks.length ∧ (j + 1 < ks.length → Rx.szW (ks.take j) + 2 + Rx.sz (Rx.nth ks j) ≤ Rx.szL ks + 2 * (ks.length - 1))) := fun j hj => by
    have h1 := Rx.szL_take hj
    have h2 := Rx.szL_sum ks (j + 1)
    have h3 : (ks.take j).length = j := by rw [List.length_take]; omega
    rw [Rx.szW_eq, h3]
    omega
  have LAST : Hid (Rx.szW (ks.take (ks.length - 1)) + Rx.sz (Rx.nth ks (ks.length - 1)) = Rx.szL ks + 2 * (ks.length - 1)) := by
    have h1 := Rx.szL_take (ks := ks) (j := ks.length - 1) (by omega)
    rw [show ks.length - 1 + 1 = ks.length by omega, List.take_length] at h1
    show _ = _
    have h3 : (ks.take (ks.length - 1)).length = ks.length - 1 := by rw [List.length_take]; omega
    rw [Rx.szW_eq, h3]
    omega
  have STEP : Hid (∀ j, j < ks.length → Rx.pre (fun _ => 0) n 0 (ks.take (j + 1)) = Rx.pre (fun _ => 0) n 0 (ks.take j) ++ St.split (n + Rx.szW (ks.take j) + 1) (n + Rx.szW (ks.take j) + 2 + Rx.sz (Rx.nth ks j)) :: (Rx.lay (n + Rx.szW (ks.take j) + 1) (Rx.nth ks j) ++ [St.jump 0]) ∧ Rx.jpos n (ks.take (j + 1)) = Rx.jpos n (ks.take j) ++ [n + Rx.szW (ks.take j) + 1 + Rx.sz (Rx.nth ks j)] ∧ Rx.szW (ks.take (j + 1)) = Rx.szW (ks.take j) + 2 + Rx.sz (Rx.nth ks j)) := fun j hj => by
    rw [Rx.take_nth hj, Rx.pre_snoc, Rx.jpos_snoc, Rx.szW_app]
    exact ⟨rfl, rfl, by simp [Rx.szW]; omega⟩
  have PL : Hid (∀ f j, (L ++ Rx.pre f n 0 (ks.take j)).length = n + Rx.szW (ks.take j)) := fun f j => by rw [List.length_append, hL, Rx.pre_len]
  have JL : Hid (∀ j, j ≤ ks.length → (Rx.jpos n (ks.take j)).length = j) := fun j hj => by rw [Rx.jpos_len, List.length_take]; omega
  have JG : Hid (∀ j, j < ks.length - 1 → ∃ p, (Rx.jpos n (ks.take (ks.length - 1)))[j]? = some p ∧ n ≤ p ∧ ∀ (f g : Nat → Nat) (e : Nat), g j = e → (∀ m, m ≠ j → g m = f m) → (Rx.pre f n 0 (ks.take (ks.length - 1))).set (p - n) (St.jump e) = Rx.pre g n 0 (ks.take (ks.length - 1)) ∧ (Rx.pre f n 0 (ks.take (ks.length - 1)))[p - n]? = some (St.jump (f j))) := fun j hj => by
    obtain ⟨p, h1, h2, h3, h4⟩ := Rx.jpos_get (ks.take (ks.length - 1)) n j (by rw [List.length_take]; omega)
    refine ⟨p, h1, h2, fun f g e hg hf => ?_⟩
    have := h4 f g 0 e (by rw [Nat.zero_add]; exact hg) (fun m hm => hf m (by omega))
    rw [Nat.zero_add] at this
    exact this
  have WE : Hid (∀ e, Rx.ways n e ks = Rx.pre (fun _ => e) n 0 (ks.take (ks.length - 1)) ++ Rx.lay (n + Rx.szW (ks.take (ks.length - 1))) (Rx.nth ks (ks.length - 1))) := fun e => Rx.ways_eq (by omega) n e
  have WL : Hid (∀ e, (Rx.ways n e ks).length = Rx.szL ks + 2 * (ks.length - 1)) := fun e => Rx.ways_len ks n e
  have CG : Hid (∀ f g : Nat → Nat, (∀ j, j < ks.length - 1 → f j = g j) → Rx.pre f n 0 (ks.take (ks.length - 1)) = Rx.pre g n 0 (ks.take (ks.length - 1))) := fun f g h => Rx.pre_congr _ n 0 fun j _ h2 => h j (by rw [List.length_take] at h2; omega)
  have H0 : Hid (Two base w (.slice A n cap) w (.slice A n cap) (.slice none 0 0) (L ++ Rx.pre (fun _ => 0) n 0 (ks.take 0)) (Rx.jpos n (ks.take 0))) := by
    refine ⟨Moved.refl _ _, ?_, ?_, fun g h => by cases h⟩
    · rw [List.take_zero, Rx.pre, List.append_nil]; exact hs
    · rw [List.take_zero, Rx.jpos]; exact Js.nil _ _
  obtain ⟨N, hN⟩ : ∃ N, ks.length = N + 1 := ⟨ks.length - 1, by omega⟩
  obtain ⟨S, hS⟩ : ∃ S, Rx.szL ks = S := ⟨_, rfl⟩
  have LAYL := Lib.hid (fun m t => Rx.lay_len t m)
  have hLL := Lib.hid hL
  rw [hN] at HC SUM LAST STEP JL JG WE WL CG TT hkn hkc hn ⊢
  rw [hS] at SUM LAST WL hn ⊢
  simp only [Nat.add_sub_cancel] at SUM LAST JG WE WL CG hn ⊢
  clear hT hL hc hk hs hS hq hp
  go_enter Tryz.func142, Tryz.ntmps142
  go_wp2_with fail
  go_loopw [0, 5, 19] (fun l j i wr => ∃ (k : Nat) (A1 : Option Addr) (m1 cap1 : Nat) (AJ : Option Addr) (capJ : Nat), k ≤ N ∧ l = .slice A1 m1 cap1 ∧ m1 = n + Rx.szW (ks.take k) ∧ j = .slice AJ k capJ ∧ i = .int .i64 (k : Int) ∧ Hid (Two base w (.slice A n cap) wr (.slice A1 m1 cap1) (.slice AJ k capJ) (L ++ Rx.pre (fun _ => 0) n 0 (ks.take k)) (Rx.jpos n (ks.take k)))) (fun _ _ i _ => N - (intOf i).toNat)
  case atStart => exact ⟨0, A, n, cap, none, 0, by omega, rfl, by simp [Rx.szW], rfl, rfl, H0.out⟩
  case round =>
    obtain ⟨k, A1, m1, cap1, AJ, capJ, hk, rfl, hm1, rfl, rfl, H⟩ := hrel
    clear H0
    by_cases hkN : k < N
    · have hkz : (k : Int) < (N : Int) := by omega
      obtain ⟨op, xa, xb, xc, xd, XA, xn, xcap, ⟨c0, c1, c2, c3, c4, c5⟩, X⟩ := HC.out wr _ H.out.moved k (by omega)
      have hsum := (SUM.out k (by omega)).2 (by omega)
      have hwr : w.heap.size ≤ wr.heap.size := H.out.moved.size
      have BX := Lib.hid (Boxed.of (by omega : base ≤ wr.heap.size) H.out.steps X)
      have LT := Lib.hid (fun W V => Boxed.later (W := W) (V := V) BX.out (by omega) H.out.steps.top H.out.steps.low)
      have P1 := Lib.hid (PL.out (fun _ => 0) k)
      have J1 := Lib.hid (JL.out k (by omega))
      have T1 := Lib.hid (TT.out k (by omega))
      obtain ⟨E1, E2, E3⟩ := STEP.out k (by omega)
      have EQ1 := Lib.hid E1
      have EQ2 := Lib.hid E2
      have EQ3 := Lib.hid E3
      have ZL := Lib.hid (LAYL.out (m1 + 1) (Rx.nth ks k))
      clear E1 E2 E3 X SUM LAST STEP JG WE WL CG PL JL LAYL HC TT
      obtain ⟨K, hK⟩ : ∃ K, Rx.szW (ks.take k) = K := ⟨_, rfl⟩
      obtain ⟨Z, hZ⟩ : ∃ Z, Rx.sz (Rx.nth ks k) = Z := ⟨_, rfl⟩
      rw [hK] at hm1 hsum EQ1 EQ2 EQ3 P1
      rw [hZ] at hsum EQ1 EQ2 EQ3 ZL
      rw [← hm1] at P1 EQ1 EQ2
      have hm2 : m1 + Z + 2 ≤ 1000 := by omega
      have HM := Lib.hid hm1
      clear hK hm1 hsum
      go_wp2_with (at_builtin; go_must (refine wpList_appS rfl (.tmp 25) (.tmp 29) rfl base (.slice A1 m1 cap1) _ m1 ⟨2, 0, 0, 0, 0, (m1 : Int) + 1, 0⟩ (wr.heap.size + 1) rfl rfl BX.out.size rfl BX.out.steps P1.out (by omega) (by have := BX.out.size; omega) ?_); (intro g1 cap1' w1 S1 M1); (have H1 := Lib.hid ((H.out.stepL BX.out.moved BX.out.steps).stepL M1 S1)); (obtain ⟨⟨q0, q1, q2, q3, q4, q5⟩, X1, Z1⟩ := LT.out _ _ M1); (replace X1 := Lib.hid X1); (clear M1 S1 c0 c1 c2 c3 c4 c5))
      refine (T1.out _ _ _ _ _ _ (by rw [List.length_append, P1.out]; rfl) (by rw [hZ]; omega) Z1 X1.out H1.out.steps).mono ?_
      rintro e w2 ⟨A2, m2, cap2, hm, rfl, S2, M2⟩
      rw [ZL.out] at hm
      subst hm
      have H2 := Lib.hid (H1.out.stepL M2 S2)
      have L2 : Hid ((L ++ Rx.pre (fun _ => 0) n 0 (ks.take k) ++ [(⟨2, 0, 0, 0, 0, (m1 : Int) + 1, 0⟩ : St)] ++ Rx.lay (m1 + 1) (Rx.nth ks k)).length = m1 + 1 + Z) := by show _ = _; rw [List.length_append, List.length_append, P1.out, ZL.out]; rfl
      have hw2 : base ≤ w2.heap.size ∧ w.heap.size ≤ w2.heap.size := by have := H2.out.moved.size; omega
      clear S2 M2 H1 q0 q1 q2 q3 q4 q5 T1 X1 LT BX
      go_wp2_with (first
        | (at_builtin; (refine wpList_appJ rfl (.tmp 34) (.tmp 37) rfl w.heap.size (.slice AJ k capJ) _ k (m1 + 1 + Z) _ w2.heap.size rfl rfl rfl (by go_num) H2.out.jumps J1.out (by omega) hw2.2 ?_); (intro g3 cap3 w3 S3 M3); (have H3 := Lib.hid (H2.out.stepJ M3 S3)); (clear S3 M3); (have hw3 : base ≤ w3.heap.size := by (have := H3.out.moved.size; omega)))
        | (at_builtin; go_must (refine wpList_appS rfl (.tmp 39) (.tmp 41) rfl base _ _ (m1 + 1 + Z) ⟨3, 0, 0, 0, 0, 0, 0⟩ w3.heap.size rfl rfl rfl rfl H3.out.steps L2.out (by omega) hw3 ?_); (intro g4 cap4 w4 S4 M4); go_must (have H4 := H3.out.stepL M4 S4); (simp only [List.append_assoc, List.cons_append, List.nil_append] at H4); (rw [← List.append_assoc] at H4); (replace H4 := Lib.hid H4); (clear S4 M4); go_must (obtain ⟨hc, _, hf, _⟩ := H4.out.steps.at P1.out); (dsimp only at hc)))
      obtain ⟨S5, M5⟩ := H4.out.steps.fixY P1.out ((m1 : Int) + 1 + Z + 1) (s' := St.split (m1 + 1) (m1 + 2 + Z)) (by simp [St.setY, St.split]; omega)
      have H5 := H4.out.stepL M5 S5
      refine ⟨⟨k + 1, some ⟨g4, 0, none⟩, m1 + 1 + Z + 1, cap4, some ⟨g3, 0, none⟩, cap3, by omega, rfl, by rw [EQ3.out]; have := HM.out; omega, rfl, by go_num, ?_⟩, by simp [intOf]; omega⟩
      rw [EQ1.out, EQ2.out, ← List.append_assoc]
      exact H5
    · obtain rfl : k = N := by omega
      have hkz : ¬ (k : Int) < (k : Int) := by omega
      obtain ⟨op, xa, xb, xc, xd, XA, xn, xcap, ⟨c0, c1, c2, c3, c4, c5⟩, X⟩ := HC.out wr _ H.out.moved k (by omega)
      replace X := Lib.hid X
      have hwr : base ≤ wr.heap.size := by have := H.out.moved.size; omega
      have P1 := Lib.hid (PL.out (fun _ => 0) k)
      have T1 := Lib.hid (TT.out k (by omega))
      have ZL := Lib.hid (LAYL.out m1 (Rx.nth ks k))
      have hlast := LAST.out
      clear SUM LAST STEP PL JL LAYL HC TT
      obtain ⟨K, hK⟩ : ∃ K, Rx.szW (ks.take k) = K := ⟨_, rfl⟩
      obtain ⟨Z, hZ⟩ : ∃ Z, Rx.sz (Rx.nth ks k) = Z := ⟨_, rfl⟩
      rw [hK] at hm1 hlast P1 WE
      rw [hZ] at hlast ZL
      rw [← hm1] at P1 WE
      have hm2 : m1 + Z ≤ 1000 := by omega
      have HM : Hid (n + (S + 2 * k) = m1 + Z) := by show _ = _; omega
      rw [HM.out]
      clear hK hm1 hlast hn
      go_wp2_with fail
      refine (T1.out _ _ _ _ _ _ P1.out (by rw [hZ]; omega) hwr X.out H.out.steps).mono ?_
      rintro e w2 ⟨A2, m2, cap2, hm, rfl, S2, M2⟩
      rw [ZL.out] at hm
      subst hm
      have H2 := Lib.hid (H.out.stepL M2 S2)
      clear S2 M2 H T1 X c0 c1 c2 c3 c4 c5
      have C0 : Hid (Rx.pre (fun _ => 0) n 0 (ks.take k) = Rx.pre (fun x => if x < 0 then m1 + Z else 0) n 0 (ks.take k)) := CG.out _ _ (fun _ _ => by simp)
      go_wp2_with fail
      go_loopw [58] (fun i wr => ∃ j : Nat, j ≤ k ∧ i = .int .i64 (j : Int) ∧ Hid (Two base w (.slice A n cap) wr (.slice A2 (m1 + Z) cap2) (.slice AJ k capJ) (L ++ Rx.pre (fun x => if x < j then m1 + Z else 0) n 0 (ks.take k) ++ Rx.lay m1 (Rx.nth ks k)) (Rx.jpos n (ks.take k)))) (fun i _ => k - (intOf i).toNat)
      case atStart => exact ⟨0, by omega, rfl, by rw [← C0.out]; exact H2.out⟩
      case round =>
        obtain ⟨j, hj, rfl, H⟩ := hrel
        clear H2 C0
        by_cases hjk : j < k
        · have hjz : (j : Int) < (k : Int) := by omega
          obtain ⟨p, p1, p2, p3⟩ := JG.out j hjk
          obtain ⟨r1, r2⟩ := p3 (fun x => if x < j then m1 + Z else 0) (fun x => if x < j + 1 then m1 + Z else 0) (m1 + Z) (by simp) (fun m hm => by
            by_cases h : m < j
            · rw [if_pos h, if_pos (by omega)]
            · rw [if_neg h, if_neg (by omega)])
          have hlen := H.out.jumps.1
          have hJp : 0 < (Rx.jpos n (ks.take k)).length := by
            rcases Nat.eq_zero_or_pos (Rx.jpos n (ks.take k)).length with h | h
            · rw [List.eq_nil_of_length_eq_zero h] at p1; cases p1
            · exact h
          obtain ⟨gj, capj, ej⟩ := H.out.jumps.form2 hJp
          injection ej with ej1 ej2 ej3
          subst ej1
          subst ej3
          clear ej2 hJp hlen
          have hSp : 0 < (L ++ Rx.pre (fun x => if x < j then m1 + Z else 0) n 0 (ks.take k) ++ Rx.lay m1 (Rx.nth ks k)).length := by
            rcases Nat.lt_or_ge (p - n) (Rx.pre (fun x => if x < j then m1 + Z else 0) n 0 (ks.take k)).length with h | h
            · rw [List.length_append, List.length_append]; omega
            · rw [List.getElem?_eq_none h] at r2; cases r2
          obtain ⟨gs, caps, es⟩ := H.out.steps.form2 hSp
          injection es with es1 es2 es3
          subst es1
          subst es3
          clear es2 hSp
          have cj := H.out.jumps.cell p1
          obtain ⟨c5, f5, hpm, S3, M3⟩ := H.out.steps.fixX hLL.out p2 r2 ((m1 : Int) + Z) (P' := Rx.pre (fun x => if x < j + 1 then m1 + Z else 0) n 0 (ks.take k)) r1
          have H3 := Lib.hid (H.out.stepL M3 S3)
          rw [if_neg (Nat.lt_irrefl j)] at c5
          dsimp only [St.jump] at c5
          clear S3 M3 H p1 p3 r1 r2 p2 JG WE WL CG
          go_wp2
          go_roundw
          case rel => exact ⟨j + 1, by omega, by go_num, H3.out⟩
          case measure => simp [intOf]; omega
        · obtain rfl : j = k := by omega
          have hjz : ¬ (j : Int) < (j : Int) := by omega
          have CE := Lib.hid (CG.out (fun x => if x < j then m1 + Z else 0) (fun _ => m1 + Z) (fun x hx => if_pos hx))
          clear JG
          go_wp2
          go_ret
          refine ⟨A2, m1 + Z, cap2, by rw [WL.out, HM.out], rfl, ?_, H.out.moved⟩
          rw [WE.out, HM.out, ← List.append_assoc, ← CE.out]
          exact H.out.steps

end Go.Proofs.YtlfcjjlgkcfkdaaGreatDoor
namespace Go.Proofs.YtlfcjjlgkcfkdaaGreatDoor
open Go.RowKit

set_option maxRecDepth 100000 in
set_option maxHeartbeats 8000000 in
theorem tree_any : ∀ (m : Nat) (t : Rx) (base : Nat), m ≤ 1000 → Rx.count t ≤ m → Rx.isRex t = true → Lays 126 base t := by
  intro m
  induction m with
  | zero => intro t base _ hs; have := Rx.count_pos t; omega
  | succ m ih =>
    intro t base hm hcnt hr tv L A n cap w hL hn hb hx hs
    cases hx with
    | node op a b c d ks XA xcap blk off V hcap hA hp hq hc hk =>
      have hx := RxIn.node (Q := fun b => b < base) (w := w) op a b c d ks XA xcap blk off V hcap hA hp hq hc hk
      rw [Rx.count] at hcnt
      obtain ⟨hall, hop⟩ := Rx.isRex_cases hr
      have hsmall := Rx.len_count ks
      have hlow := hs.low
      have IH : Hid (∀ j, j < ks.length → Lays 126 base (Rx.nth ks j)) := fun j hj => ih _ base (by omega) (by have := Rx.nth_count hj; omega) (Rx.isAll_nth hall hj)
      have BX := Lib.hid (Boxed.of hb hs hx)
      have HC0 : Hid (∀ W v', Moved w (.slice A n cap) W v' → ∀ j, j < ks.length → (∀ i, i < 6 → W.cell? ⟨blk, off + j * 6 + i, none⟩ = some (V j i)) ∧ RxIn (fun b => b < base) W (val6 (V j)) (Rx.nth ks j)) := fun W v' hm j hj => by
        have hB : Below base w W := hm.below hb hlow
        exact ⟨fun i hi => (hB.cell (hq (by omega))).trans (hc j i hj hi), (hk j hj).low hB⟩
      have HC : Hid (∀ W v', Moved w (.slice A n cap) W v' → ∀ j, j < ks.length → ∃ op a b c d XA xn xcap, (W.cell? ⟨blk, off + j * 6, none⟩ = some (.int .i64 op) ∧ W.cell? ⟨blk, off + j * 6 + 1, none⟩ = some (.int .u64 ((a : Nat) : Int)) ∧ W.cell? ⟨blk, off + j * 6 + 2, none⟩ = some (.int .u64 ((b : Nat) : Int)) ∧ W.cell? ⟨blk, off + j * 6 + 3, none⟩ = some (.int .u64 ((c : Nat) : Int)) ∧ W.cell? ⟨blk, off + j * 6 + 4, none⟩ = some (.int .u64 ((d : Nat) : Int)) ∧ W.cell? ⟨blk, off + j * 6 + 5, none⟩ = some (.slice XA xn xcap)) ∧ RxIn (fun b => b < base) W (.agg #[.int .i64 op, .int .u64 (a : Int), .int .u64 (b : Int), .int .u64 (c : Int), .int .u64 (d : Int), .slice XA xn xcap]) (Rx.nth ks j)) := fun W v' hm j hj => by
        obtain ⟨c', X⟩ := HC0.out W v' hm j hj
        obtain ⟨op, xa, xb, xc, xd, XA, xn, xcap, e⟩ := X.form
        obtain ⟨e0, e1, e2, e3, e4, e5⟩ := val6_eq e
        refine ⟨op, xa, xb, xc, xd, XA, xn, xcap, ⟨?_, ?_, ?_, ?_, ?_, ?_⟩, by rw [← e]; exact X⟩
        · rw [← e0]; exact c' 0 (by omega)
        · rw [← e1]; exact c' 1 (by omega)
        · rw [← e2]; exact c' 2 (by omega)
        · rw [← e3]; exact c' 3 (by omega)
        · rw [← e4]; exact c' 4 (by omega)
        · rw [← e5]; exact c' 5 (by omega)
      have HP := Lib.hid hp
      have HQ := Lib.hid hq
      have hkl : ks.length ≤ 1000 := by omega
      have hsz := Lib.hid hn
      have htop := hs.top
      have hLL := Lib.hid hL
      have HW : Hid (1 ≤ ks.length → ∀ W, Moved w (.slice A n cap) W (.slice A n cap) → base ≤ W.heap.size → Steps base W (.slice A n cap) L → n + (Rx.szL ks + 2 * (ks.length - 1)) ≤ 1000 → Calls Tryz.prog 142 #[.slice A n cap, .slice (some ⟨blk, off, none⟩) ks.length xcap] W (LayPost base W (.slice A n cap) n L (Rx.ways n (n + (Rx.szL ks + 2 * (ks.length - 1))) ks))) := fun h1 W hM hbW hS hnn =>
        ways6_any base ks (fun j hj => IH.out j hj) h1 hkl blk off xcap hcap V L A n cap W hL hnn hbW (hq (by omega)) (fun j i hj hi => (HC0.out W _ hM j hj).1 i hi) (fun j hj => (HC0.out W _ hM j hj).2) hS
      have STP : Hid (∀ j, j < ks.length → Rx.layL n (ks.take (j + 1)) = Rx.layL n (ks.take j) ++ Rx.lay (n + Rx.szL (ks.take j)) (Rx.nth ks j) ∧ Rx.szL (ks.take (j + 1)) = Rx.szL (ks.take j) + Rx.sz (Rx.nth ks j) ∧ Rx.szL (ks.take j) + Rx.sz (Rx.nth ks j) ≤ Rx.szL ks) := fun j hj => ⟨Rx.layL_take hj n, Rx.szL_take hj, by have h1 := Rx.szL_take hj; have h2 := Rx.szL_sum ks (j + 1); omega⟩
      have PL : Hid (∀ j, (L ++ Rx.layL n (ks.take j)).length = n + Rx.szL (ks.take j)) := fun j => by rw [List.length_append, hL, Rx.layL_len]
      have LAYL := Lib.hid (fun m t => Rx.lay_len t m)
      clear hp hq hc hk ih hA hs hr hall hL hx HC0 hn hcnt hsmall
      go_enter Tryz.func126, Tryz.ntmps126
      go_upto_region 1 with fail
      have Z0 : base ≤ (w.alloc (.cells #[.int .i64 op, .int .u64 (a : Int), .int .u64 (b : Int), .int .u64 (c : Int), .int .u64 (d : Int), .slice XA ks.length xcap] 135)).heap.size := by have := BX.out.size; omega
      generalize w.alloc (.cells #[.int .i64 op, .int .u64 (a : Int), .int .u64 (b : Int), .int .u64 (c : Int), .int .u64 (d : Int), .slice XA ks.length xcap] 135) = w0 at *
      obtain ⟨⟨q0, q1, q2, q3, q4, q5⟩, _, _⟩ := Boxed.later BX.out hb htop hlow (Moved.refl _ _)
      have BM := Lib.hid BX.out.moved
      rcases hop with ⟨rfl, rfl⟩ | h2 | ⟨h3, h1⟩ | ⟨hopx, h1⟩
      · clear HC IH HP HQ HW STP PL q5
        go_wp2_with (at_builtin; go_must (refine wpList_appS rfl (.tmp 11) (.tmp 15) rfl base (.slice A n cap) L n ⟨1, a, b, c, d, 0, 0⟩ w0.heap.size rfl rfl rfl rfl BX.out.steps hLL.out (by have := hsz.out; omega) Z0 ?_); (intro g1 cap1 w1 S1 M1))
        go_ret
        exact ⟨_, n + 1, cap1, rfl, rfl, S1, BX.out.moved.trans M1⟩
      · subst h2
        clear HW HQ q1 q2 q3 q4
        have F2 : Hid (Rx.lay n (.mk 2 a b c d ks) = Rx.layL n ks ∧ Rx.sz (.mk 2 a b c d ks) = Rx.szL ks) := ⟨by simp [Rx.lay], by simp [Rx.sz]⟩
        have hsz2 : n + Rx.szL ks ≤ 1000 := by have := hsz.out; rw [F2.out.2] at this; exact this
        have H0 : Hid (Steps base w0 (.slice A n cap) (L ++ Rx.layL n (ks.take 0)) ∧ Moved w (.slice A n cap) w0 (.slice A n cap)) := ⟨by rw [List.take_zero, Rx.layL, List.append_nil]; exact BX.out.steps, BM.out⟩
        have TK := Lib.hid (List.take_length (l := ks))
        obtain ⟨N, hN⟩ : ∃ N, ks.length = N := ⟨_, rfl⟩
        obtain ⟨S, hS⟩ : ∃ S, Rx.szL ks = S := ⟨_, rfl⟩
        rw [hS] at STP hsz2
        rw [hN] at STP HC IH HP hkl hcap TK q5 ⊢
        clear hS hsz BX BM
        go_wp2_with fail
        go_loopw [0, 50] (fun l i wr => ∃ (k : Nat) (A1 : Option Addr) (m1 cap1 : Nat), k ≤ N ∧ l = .slice A1 m1 cap1 ∧ m1 = n + Rx.szL (ks.take k) ∧ i = .int .i64 (k : Int) ∧ Hid (Steps base wr (.slice A1 m1 cap1) (L ++ Rx.layL n (ks.take k)) ∧ Moved w (.slice A n cap) wr (.slice A1 m1 cap1))) (fun _ i _ => N - (intOf i).toNat)
        case atStart => exact ⟨0, A, n, cap, by omega, rfl, by simp [Rx.szL], rfl, H0.out⟩
        case round =>
          obtain ⟨k, A1, m1, cap1, hk, rfl, hm1, rfl, H⟩ := hrel
          clear H0
          by_cases hkN : k < N
          · have hkz : (k : Int) < (N : Int) := by omega
            have hAe := HP.out (by omega)
            subst hAe
            obtain ⟨opk, ka, kb, kc, kd, KA, kn, kcap, ⟨c0, c1, c2, c3, c4, c5⟩, X⟩ := HC.out wr _ H.out.2 k (by omega)
            have hwr : base ≤ wr.heap.size := by have := H.out.2.size; omega
            have BK := Lib.hid (Boxed.of hwr H.out.1 X)
            obtain ⟨E1, E2, E3⟩ := STP.out k (by omega)
            have P1 := PL.out k
            have ZL := LAYL.out m1 (Rx.nth ks k)
            rw [← hm1] at E1 P1
            have E1h := Lib.hid E1
            have E2h := Lib.hid E2
            have ZLh := Lib.hid ZL
            have HM := Lib.hid hm1
            have T1 := Lib.hid (IH.out k (by omega) _ _ A1 m1 cap1 _ P1 (by omega) (by have := BK.out.size; omega) BK.out.tree BK.out.steps)
            clear X HC IH HP STP PL LAYL E1 E2 E3 P1 ZL hm1 TK
            go_wp2_with fail
            refine T1.out.mono ?_
            rintro e w2 ⟨A2, m2, cap2, hm, rfl, S2, M2⟩
            rw [ZLh.out] at hm
            subst hm
            have H2 : Hid (Steps base w2 (.slice A2 (m1 + Rx.sz (Rx.nth ks k)) cap2) (L ++ Rx.layL n (ks.take (k + 1))) ∧ Moved w (.slice A n cap) w2 (.slice A2 (m1 + Rx.sz (Rx.nth ks k)) cap2)) := ⟨by rw [E1h.out, ← List.append_assoc]; exact S2, H.out.2.trans (BK.out.moved.trans M2)⟩
            clear S2 M2 T1 BK H c0 c1 c2 c3 c4 c5
            go_wp2
            go_roundw
            case rel => exact ⟨k + 1, A2, _, cap2, by omega, rfl, by rw [E2h.out]; have := HM.out; omega, by go_num, H2.out⟩
            case measure => simp [intOf]; omega
          · obtain rfl : k = N := by omega
            have hkz : ¬ (k : Int) < (k : Int) := by omega
            have HM := Lib.hid hm1
            clear HC IH HP hm1
            go_wp2
            go_ret
            have hm1 := HM.out
            have hS := H.out.1
            have hl := PL.out k
            rw [TK.out] at hS hm1 hl
            exact ⟨A1, m1, cap1, by rw [F2.out.1, Rx.layL_len]; exact hm1, rfl, by rw [F2.out.1]; exact hS, H.out.2⟩
      · subst h3
        clear HC IH STP PL q1 q2 q3 q4
        have hAe := HP.out (by omega)
        subst hAe
        have F3 : Hid (Rx.lay n (.mk 3 a b c d ks) = Rx.ways n (n + (Rx.szL ks + 2 * (ks.length - 1))) ks ∧ Rx.sz (.mk 3 a b c d ks) = Rx.szL ks + 2 * (ks.length - 1)) := ⟨by simp [Rx.lay], by simp [Rx.sz]⟩
        have C1 := Lib.hid (HW.out h1 w0 BM.out Z0 BX.out.steps (by have := hsz.out; rw [F3.out.2] at this; exact this))
        clear HW HP HQ hsz BM
        generalize ks.length = N at *
        go_wp2_with fail
        refine C1.out.mono ?_
        rintro e w2 ⟨A2, m2, cap2, rfl, rfl, S2, M2⟩
        clear C1
        go_wp2
        go_ret
        exact ⟨_, _, cap2, by rw [F3.out.1], rfl, by rw [F3.out.1]; exact S2, BX.out.moved.trans M2⟩
      · clear HW HQ STP PL q1 q2 q3 q4
        rcases hopx with ho | ho | ho
        · subst ho
          obtain ⟨k0, rfl⟩ := List.length_eq_one_iff.1 h1
          obtain ⟨opk, ka, kb, kc, kd, KA, kn, kcap, ⟨c0, c1, c2, c3, c4, c5⟩, X⟩ := HC.out w0 _ BM.out 0 (by simp)
          rw [Nat.zero_mul, Nat.add_zero] at c0 c1 c2 c3 c4 c5
          have C1 := Lib.hid (star_any base k0 (IH.out 0 (by simp)) _ L A n cap w0 hLL.out (by have := hsz.out; simp [Rx.sz, Rx.szL] at this; omega) Z0 X BX.out.steps a b c d)
          have hAe := HP.out (by simp)
          subst hAe
          clear X HC IH HP
          go_wp2_with fail
          refine C1.out.mono ?_
          rintro e w2 ⟨A2, m2, cap2, rfl, rfl, S2, M2⟩
          clear C1
          go_wp2
          go_ret
          exact ⟨_, _, cap2, rfl, rfl, S2, BX.out.moved.trans M2⟩
        · subst ho
          obtain ⟨k0, rfl⟩ := List.length_eq_one_iff.1 h1
          obtain ⟨opk, ka, kb, kc, kd, KA, kn, kcap, ⟨c0, c1, c2, c3, c4, c5⟩, X⟩ := HC.out w0 _ BM.out 0 (by simp)
          rw [Nat.zero_mul, Nat.add_zero] at c0 c1 c2 c3 c4 c5
          have C1 := Lib.hid (plus_any base k0 (IH.out 0 (by simp)) _ L A n cap w0 hLL.out (by have := hsz.out; simp [Rx.sz, Rx.szL] at this; omega) Z0 X BX.out.steps a b c d)
          have hAe := HP.out (by simp)
          subst hAe
          clear X HC IH HP
          go_wp2_with fail
          refine C1.out.mono ?_
          rintro e w2 ⟨A2, m2, cap2, rfl, rfl, S2, M2⟩
          clear C1
          go_wp2
          go_ret
          exact ⟨_, _, cap2, rfl, rfl, S2, BX.out.moved.trans M2⟩
        · subst ho
          obtain ⟨k0, rfl⟩ := List.length_eq_one_iff.1 h1
          obtain ⟨opk, ka, kb, kc, kd, KA, kn, kcap, ⟨c0, c1, c2, c3, c4, c5⟩, X⟩ := HC.out w0 _ BM.out 0 (by simp)
          rw [Nat.zero_mul, Nat.add_zero] at c0 c1 c2 c3 c4 c5
          have C1 := Lib.hid (maybe_any base k0 (IH.out 0 (by simp)) _ L A n cap w0 hLL.out (by have := hsz.out; simp [Rx.sz, Rx.szL] at this; omega) Z0 X BX.out.steps a b c d)
          have hAe := HP.out (by simp)
          subst hAe
          clear X HC IH HP
          go_wp2_with fail
          refine C1.out.mono ?_
          rintro e w2 ⟨A2, m2, cap2, rfl, rfl, S2, M2⟩
          clear C1
          go_wp2
          go_ret
          exact ⟨_, _, cap2, rfl, rfl, S2, BX.out.moved.trans M2⟩

end Go.Proofs.YtlfcjjlgkcfkdaaGreatDoor
namespace Go.Proofs.YtlfcjjlgkcfkdaaGreatDoor
open Go.RowKit

/-- What Make makes of a tree. -/
def Rx.made (t : Rx) : Bool := decide (0 < Rx.size t) && decide (Rx.size t ≤ 40)
def MakeRes (w : World) (t : Rx) (e : Ending) (w' : World) : Prop :=
  Below w.heap.size w w' ∧ ((Rx.made t = true ∧ ∃ g cap, e = .returned (.tuple #[.slice (some ⟨g, 0, none⟩) (Rx.sz t + 1) cap, .bool true]) ∧ Steps w.heap.size w' (.slice (some ⟨g, 0, none⟩) (Rx.sz t + 1) cap) (progOf t)) ∨ (Rx.made t = false ∧ e = .returned (.tuple #[.slice none 0 0, .bool false])))
theorem Rx.size_yes {t : Rx} (h : Rx.made t = true) : Rx.isRex t = true ∧ Rx.sz t + 1 ≤ 40 ∧ Rx.size t = Rx.sz t + 1 := by
  simp only [Rx.made, Bool.and_eq_true, decide_eq_true_eq] at h
  obtain ⟨h1, h2⟩ := h
  unfold Rx.size at h1 h2 ⊢
  by_cases hr : Rx.isRex t = true
  · rw [if_pos hr] at h2 ⊢; exact ⟨hr, h2, rfl⟩
  · rw [if_neg hr] at h1; omega
theorem make_steps (n : Nat) (hn : n ≤ 40) (W : World) : ∃ cs : Array Value, cs.size = n * 7 ∧ (Instr.makeSlice 106 (.int .i64 0) (.int .i64 (n : Int))).run Tryz.prog W = .ok (.slice (some ⟨W.heap.size, 0, none⟩) 0 n) (W.alloc (.cells cs 163)) := by
  obtain ⟨i0, hi, hz0, hz1, hz2⟩ := info_parts Tryz.infoS
  have := run_make (P := Tryz.prog) W 106 163 i0 _ Tryz.underlying106 hi hz0 .i64 .i64 0 (n : Int) (by omega) (by omega) (by rw [hz2]; omega) (by omega)
  rw [hz1] at this
  exact ⟨_, size_madeCells _ _, this⟩

set_option maxRecDepth 100000 in
set_option maxHeartbeats 4000000 in
theorem make_any (t : Rx) (v : Value) (w : World) (hcnt : Rx.count t ≤ 1000) (h : IsRx w v t) : Calls Tryz.prog 105 #[v] w (MakeRes w t) := by
  obtain ⟨op, a, b, c, d, A, n, cap, rfl⟩ := h.six
  have B0 : Below w.heap.size w (w.alloc (.cells #[.int .i64 op, .int .u64 (a : Int), .int .u64 (b : Int), .int .u64 (c : Int), .int .u64 (d : Int), .slice A n cap] 135)) := (Below.refl _ _).alloc (Nat.le_refl _) _
  have BX := Lib.hid (fun W => box6 (w := w) (v0 := .int .i64 op) (v1 := .int .u64 (a : Int)) (v2 := .int .u64 (b : Int)) (v3 := .int .u64 (c : Int)) (v4 := .int .u64 (d : Int)) (v5 := .slice A n cap) (ty := 135) (W := W))
  have SZ0 : Hid (w.heap.size + 1 ≤ (w.alloc (.cells #[.int .i64 op, .int .u64 (a : Int), .int .u64 (b : Int), .int .u64 (c : Int), .int .u64 (d : Int), .slice A n cap] 135)).heap.size) := by show _ ≤ _; simp
  have CS := Lib.hid (size_any t _ _ hcnt (h.grown B0))
  have X := Lib.hid h.in
  have LL : Hid (Rx.made t = true → Lays 126 w.heap.size t) := fun hm => tree_any 1000 t _ (Nat.le_refl _) hcnt (Rx.size_yes hm).1
  have MY := Lib.hid (fun hm => Rx.size_yes (t := t) hm)
  obtain ⟨Z, hZ⟩ : ∃ Z, Rx.size t = Z := ⟨_, rfl⟩
  rw [hZ] at CS
  have MD : Hid (Rx.made t = (decide (0 < Z) && decide (Z ≤ 40))) := by show _ = _; rw [Rx.made, hZ]
  have hZH := Lib.hid hZ
  clear h B0 hcnt hZ
  go_enter Tryz.func105, Tryz.ntmps105
  go_wp2_with fail
  obtain ⟨w0, hw0⟩ : ∃ w0, w.alloc (.cells #[.int .i64 op, .int .u64 (a : Int), .int .u64 (b : Int), .int .u64 (c : Int), .int .u64 (d : Int), .slice A n cap] 135) = w0 := ⟨_, rfl⟩
  rw [hw0] at BX SZ0 CS ⊢
  clear hw0
  refine CS.out.mono ?_
  rintro e w1 ⟨rfl, b1⟩
  have D1 := Lib.hid (b1.mono SZ0.out)
  obtain ⟨⟨q0, q1, q2, q3, q4, q5⟩, BW⟩ := BX.out w1 D1.out
  have B1 := Lib.hid BW
  clear BW b1 CS D1
  by_cases hz0 : Z = 0
  · subst hz0
    have M0 : Hid (Rx.made t = false) := by show _ = _; rw [MD.out]; rfl
    clear X LL MY MD hZH
    clear q0 q1 q2 q3 q4 q5
    go_wp2
    go_ret2
    exact ⟨B1.out, .inr ⟨M0.out, rfl⟩⟩
  by_cases hz1 : 40 < Z
  · have hz2 : ((Z : Int) == 0) = false := by simp; omega
    have hz3 : (40 : Int) < (Z : Int) := by omega
    have M0 : Hid (Rx.made t = false) := by show _ = _; rw [MD.out]; simp; omega
    clear X LL MY MD hZH
    clear q0 q1 q2 q3 q4 q5
    go_wp2
    go_ret2
    exact ⟨B1.out, .inr ⟨M0.out, rfl⟩⟩
  have hz2 : ((Z : Int) == 0) = false := by simp; omega
  have hz3 : ¬ (40 : Int) < (Z : Int) := by omega
  have M1 : Hid (Rx.made t = true) := by show _ = _; rw [MD.out]; simp; omega
  have L1 := Lib.hid (LL.out M1.out)
  obtain ⟨_, y1, y2⟩ := MY.out M1.out
  have ZS := Lib.hid (hZH.out.symm.trans y2)
  have Y1 := Lib.hid y1
  have hw1 : w.heap.size ≤ w1.heap.size := B1.out.size
  have XB := Lib.hid (fun W (hW : Below w1.heap.size w1 W) => X.out.low (B1.out.trans (hW.mono hw1)))
  have LN : Hid ((Rx.lay 0 t).length = Rx.sz t) := Rx.lay_len t 0
  have PE : Hid (progOf t = Rx.lay 0 t ++ [St.mat]) := rfl
  clear LL MY MD hZH y1 y2 X
  go_wp2_with fail
  refine wp_region_held_drew (S := fun W => Below w1.heap.size w1 W) (by kernel_rfl) ((Below.refl _ _).drew) (fun hHeld => ?_)
  refine held_take 0 14 (v := (.int .i64 (Z : Int))) rfl rfl (by kernel_rfl) (by kernel_rfl) (by kernel_rfl) (by rfl) (fun _ _ _ h => h) (by assumption) ?_ ?_
  · intro W hW
    go_simp
  simp only [List.setIfInBounds_toArray, List.set_cons_zero, List.set_cons_succ]
  refine held_take 2 16 (v := (.agg #[.int .i64 op, .int .u64 (a : Int), .int .u64 (b : Int), .int .u64 (c : Int), .int .u64 (d : Int), .slice A n cap])) rfl rfl (by kernel_rfl) (by kernel_rfl) (by kernel_rfl) (by rfl) (fun _ _ _ h => h) (by assumption) ?_ ?_
  · intro W hW
    have e0 := (hW.cell (p := ⟨w.heap.size, 0, none⟩) (World.block_lt_of_cell? w1 _ q0)).trans q0
    have e1 := (hW.cell (p := ⟨w.heap.size, 1, none⟩) (World.block_lt_of_cell? w1 _ q1)).trans q1
    have e2 := (hW.cell (p := ⟨w.heap.size, 2, none⟩) (World.block_lt_of_cell? w1 _ q2)).trans q2
    have e3 := (hW.cell (p := ⟨w.heap.size, 3, none⟩) (World.block_lt_of_cell? w1 _ q3)).trans q3
    have e4 := (hW.cell (p := ⟨w.heap.size, 4, none⟩) (World.block_lt_of_cell? w1 _ q4)).trans q4
    have e5 := (hW.cell (p := ⟨w.heap.size, 5, none⟩) (World.block_lt_of_cell? w1 _ q5)).trans q5
    go_simp
  simp only [List.setIfInBounds_toArray, List.set_cons_zero, List.set_cons_succ]
  obtain ⟨cs, hcs, MK⟩ := make_steps Z (by omega) w1.drew
  have d1 : Below w1.heap.size w1 (w1.drew.alloc (.cells cs 163)) := ((Below.refl _ _).drew).alloc (Nat.le_refl _) _
  have S1 : Steps w.heap.size (w1.drew.alloc (.cells cs 163)) (.slice (some ⟨w1.heap.size, 0, none⟩) 0 Z) [] := World.ownsRow_made w1.drew cs Z hw1 (by unfold maxLen; omega) hcs
  refine held_op 1 rfl (by kernel_rfl) (by rfl) ?_
  refine wp_run (v := .slice (some ⟨w1.heap.size, 0, none⟩) 0 Z) (w' := w1.drew.alloc (.cells cs 163)) rfl (by go_simp) ⟨d1, ?_⟩
  simp only [List.setIfInBounds_toArray, List.set_cons_zero, List.set_cons_succ]
  generalize w1.drew.alloc (.cells cs 163) = w2 at *
  refine held_call 3 17 (f := 126) (args := #[.slice (some ⟨w1.heap.size, 0, none⟩) 0 Z, .agg #[.int .i64 op, .int .u64 (a : Int), .int .u64 (b : Int), .int .u64 (c : Int), .int .u64 (d : Int), .slice A n cap]]) rfl rfl (by kernel_rfl) (by rfl) (by go_simp) ?_
  refine (L1.out _ [] _ 0 Z w2 rfl (by have := Y1.out; omega) (by have := d1.size; omega) (XB.out w2 d1) S1).mono ?_
  rintro e w3 ⟨A3, m3, cap3, hm, rfl, S3, M3⟩
  rw [LN.out, Nat.zero_add] at hm
  subst hm
  rw [List.nil_append] at S3
  have d2 : Below w1.heap.size w1 w3 := d1.trans (M3.below d1.size (fun k hk => Nat.le_of_eq (Option.some.inj hk)))
  refine ⟨_, rfl, d2, ?_⟩
  simp only [List.setIfInBounds_toArray, List.set_cons_zero, List.set_cons_succ]
  refine held_take 4 5 (v := (.slice A3 (Rx.sz t) cap3)) rfl rfl (by kernel_rfl) (by kernel_rfl) (by kernel_rfl) (by rfl) (fun _ _ _ h => h) (by assumption) ?_ ?_
  · intro W hW
    go_simp
  simp only [List.setIfInBounds_toArray, List.set_cons_zero, List.set_cons_succ]
  refine wpAnyH_done (by kernel_rfl) ?_ _
  replace S3 := Lib.hid S3
  have B3 := Lib.hid (B1.out.trans (d2.mono hw1))
  have hw3 : w.heap.size ≤ w3.heap.size := B3.out.size
  clear hHeld MK hcs d1 d2 M3 S1 XB L1 q0 q1 q2 q3 q4 q5
  go_wp2_with (at_builtin; go_must (refine wpList_appS rfl (.tmp 18) (.tmp 20) rfl w.heap.size _ _ (Rx.sz t) St.mat w3.heap.size rfl rfl rfl (by simp [cells7, St.mat]) S3.out LN.out (by have := Y1.out; omega) hw3 ?_); (intro g4 cap4 w4 S4 M4); (replace S4 := Lib.hid S4); (replace M4 := Lib.hid M4))
  go_ret2
  exact ⟨B3.out.trans (M4.out.below hw3 S3.out.low), .inl ⟨M1.out, g4, cap4, rfl, by rw [PE.out]; exact S4.out⟩⟩

end Go.Proofs.YtlfcjjlgkcfkdaaGreatDoor
namespace Go.Proofs.YtlfcjjlgkcfkdaaGreatDoor
open Go.RowKit

/-- Steps lie in a row of memory. -/
def IsSt (w : World) (A : Option Addr) (L : List St) : Prop := 0 < L.length → ∃ b off, A = some ⟨b, off, none⟩ ∧ ∀ j i, j < L.length → i < 7 → w.cell? ⟨b, off + j * 7 + i, none⟩ = some (cellS (nthS L j) i)
theorem IsSt.grown {w w' : World} {A : Option Addr} {L : List St} (h : IsSt w A L) (hb : Below w.heap.size w w') : IsSt w' A L := fun hp => by
  obtain ⟨b, off, e, hc⟩ := h hp
  exact ⟨b, off, e, fun j i hj hi => (hb.cell (World.block_lt_of_cell? w _ (hc j i hj hi))).trans (hc j i hj hi)⟩
theorem IsSt.nil (w : World) (A : Option Addr) : IsSt w A [] := fun h => absurd h (by simp)
theorem Steps.is {base : Nat} {w : World} {A : Option Addr} {n cap : Nat} {L : List St} (h : Steps base w (.slice A n cap) L) : IsSt w A L := fun hp => by
  obtain ⟨g, cap', e⟩ := h.form2 hp
  injection e with e1 e2 e3
  subst e1
  exact ⟨g, 0, rfl, fun j i hj hi => by rw [Nat.zero_add]; exact h.cell hj hi⟩
/-- The seven cells of a step. -/
theorem IsSt.at {w : World} {A : Option Addr} {L : List St} (h : IsSt w A L) (hp : 0 < L.length) : ∃ b off, A = some ⟨b, off, none⟩ ∧ ∀ j, j < L.length → (w.cell? ⟨b, off + j * 7, none⟩ = some (.int .i64 (nthS L j).op) ∧ w.cell? ⟨b, off + j * 7 + 1, none⟩ = some (.int .u64 ((nthS L j).a : Int)) ∧ w.cell? ⟨b, off + j * 7 + 2, none⟩ = some (.int .u64 ((nthS L j).b : Int)) ∧ w.cell? ⟨b, off + j * 7 + 3, none⟩ = some (.int .u64 ((nthS L j).c : Int)) ∧ w.cell? ⟨b, off + j * 7 + 4, none⟩ = some (.int .u64 ((nthS L j).d : Int)) ∧ w.cell? ⟨b, off + j * 7 + 5, none⟩ = some (.int .i64 (nthS L j).x) ∧ w.cell? ⟨b, off + j * 7 + 6, none⟩ = some (.int .i64 (nthS L j).y)) := by
  obtain ⟨b, off, e, hc⟩ := h hp
  exact ⟨b, off, e, fun j hj => ⟨hc j 0 hj (by omega), hc j 1 hj (by omega), hc j 2 hj (by omega), hc j 3 hj (by omega), hc j 4 hj (by omega), hc j 5 hj (by omega), hc j 6 hj (by omega)⟩⟩
theorem all_step {L : List St} {n k : Nat} (h : k < L.length) : (L.drop k).all (fun s => s.ok n) = ((nthS L k).ok n && (L.drop (k + 1)).all (fun s => s.ok n)) := by rw [List.drop_eq_getElem_cons h, nthS_eq h]; rfl
theorem all_end {L : List St} {n k : Nat} (h : L.length ≤ k) : (L.drop k).all (fun s => s.ok n) = true := by rw [List.drop_of_length_le h]; rfl
theorem last_nth {L : List St} (h : 0 < L.length) : lastOp L = (nthS L (L.length - 1)).op := by
  unfold lastOp
  rw [nthS_eq (by omega)]
  cases L with
  | nil => simp at h
  | cons x r =>
    have : (x :: r) ≠ [] := by simp
    rw [List.getLastD_eq_getLast?, List.getLast?_eq_getElem?]
    simp
theorem set_neqA (a b c d : Nat) : ∀ W, (binOp .neq 132 (.agg #[.int .u64 (a : Int), .int .u64 (b : Int), .int .u64 (c : Int), .int .u64 (d : Int)]) (.agg #[.int .u64 0, .int .u64 0, .int .u64 0, .int .u64 0])).run Tryz.prog W = .ok (.bool (!(a == 0 && b == 0 && c == 0 && d == 0))) W := by
  intro W
  have := set_eql (a : Int) b c d 0 0 0 0 W
  rw [run_eql_struct] at this
  rw [run_neq_struct]
  generalize (Op.equalIn 10000 132 (.agg #[.int .u64 (a : Int), .int .u64 (b : Int), .int .u64 (c : Int), .int .u64 (d : Int)]) (.agg #[.int .u64 0, .int .u64 0, .int .u64 0, .int .u64 0])).run Tryz.prog W = r at *
  have e4 : (((a : Int) == 0 && (b : Int) == 0 && (c : Int) == 0 && (d : Int) == 0)) = (a == 0 && b == 0 && c == 0 && d == 0) := by rw [Bool.eq_iff_iff]; simp
  rw [e4] at this
  cases r with
  | ok q W' => simp [Result.andThen] at this ⊢; obtain ⟨h1, h2⟩ := this; exact ⟨by rw [h1], h2⟩
  | halt q W' => simp [Result.andThen] at this

set_option maxRecDepth 100000 in
theorem isIndex_any (z : Int) (n : Nat) (w : World) : Calls Tryz.prog 146 #[.int .i64 z, .int .i64 (n : Int)] w fun e w' => e = .returned (.bool (okIdx z n)) ∧ w' = w := by
  go_enter Tryz.func146, Tryz.ntmps146
  by_cases h1 : 0 ≤ z
  · have h0 : decide ((0 : Int) ≤ z) = true := decide_eq_true h1
    go_wp2
    go_ret
    exact ⟨by simp [okIdx, h1], rfl⟩
  · have h0 : decide ((0 : Int) ≤ z) = false := decide_eq_false h1
    go_wp2
    go_ret
    exact ⟨by simp only [okIdx, h0, Bool.false_and]; rfl, rfl⟩

set_option maxRecDepth 100000 in
set_option maxHeartbeats 4000000 in
theorem isStep_any (op : Int) (a b c d : Nat) (x y : Int) (n : Nat) (w : World) :
    Calls Tryz.prog 127 #[.agg #[.int .i64 op, .int .u64 (a : Int), .int .u64 (b : Int), .int .u64 (c : Int), .int .u64 (d : Int), .int .i64 x, .int .i64 y], .int .i64 (n : Int)] w fun e w' => e = .returned (.bool (St.ok ⟨op, a, b, c, d, x, y⟩ n)) ∧ Below w.heap.size w w' := by
  have B := Lib.hid (((Below.refl w.heap.size w)).alloc (Nat.le_refl _) (.cells #[.int .i64 op, .int .u64 (a : Int), .int .u64 (b : Int), .int .u64 (c : Int), .int .u64 (d : Int), .int .i64 x, .int .i64 y] 163))
  have NQ := set_neqA a b c d
  have OK0 : Hid (St.ok ⟨op, a, b, c, d, x, y⟩ n = if op = 1 then x == 0 && y == 0 else (a == 0 && b == 0 && c == 0 && d == 0) && (if op = 2 then okIdx x n && okIdx y n else if op = 3 then okIdx x n && y == 0 else if op = 4 then x == 0 && y == 0 else false)) := rfl
  obtain ⟨q, hq⟩ : ∃ q, (a == 0 && b == 0 && c == 0 && d == 0) = q := ⟨_, rfl⟩
  obtain ⟨xz, hxz⟩ : ∃ xz, (x == 0) = xz := ⟨_, rfl⟩
  obtain ⟨yz, hyz⟩ : ∃ yz, (y == 0) = yz := ⟨_, rfl⟩
  rw [hq] at NQ OK0
  rw [hxz, hyz] at OK0
  clear hq
  have IX := Lib.hid (fun W => isIndex_any x n W)
  have IY := Lib.hid (fun W => isIndex_any y n W)
  by_cases h1 : op = 1
  · subst h1
    have R : Hid (St.ok ⟨1, a, b, c, d, x, y⟩ n = (xz && yz)) := by show _ = _; rw [OK0.out]; rfl
    clear OK0 NQ IX IY
    go_enter Tryz.func127, Tryz.ntmps127
    cases xz
    · go_wp2
      go_ret
      exact ⟨by rw [R.out]; rfl, B.out⟩
    · go_wp2
      go_ret
      exact ⟨by rw [R.out]; rfl, B.out⟩
  have p1 : (op == 1) = false := by simpa using h1
  have OK1 : Hid (St.ok ⟨op, a, b, c, d, x, y⟩ n = (q && (if op = 2 then okIdx x n && okIdx y n else if op = 3 then okIdx x n && yz else if op = 4 then xz && yz else false))) := by show _ = _; rw [OK0.out, if_neg h1]
  clear OK0
  cases q
  · have R : Hid (St.ok ⟨op, a, b, c, d, x, y⟩ n = false) := by show _ = _; rw [OK1.out]; rfl
    clear OK1 h1 IX IY
    go_enter Tryz.func127, Tryz.ntmps127
    go_wp2
    go_ret
    exact ⟨by rw [R.out]; rfl, B.out⟩
  by_cases h2 : op = 2
  · subst h2
    obtain ⟨ix, hix⟩ : ∃ ix, okIdx x n = ix := ⟨_, rfl⟩
    obtain ⟨iy, hiy⟩ : ∃ iy, okIdx y n = iy := ⟨_, rfl⟩
    rw [hix] at OK1 IX
    rw [hiy] at OK1 IY
    have R : Hid (St.ok ⟨2, a, b, c, d, x, y⟩ n = (ix && iy)) := by show _ = _; rw [OK1.out]; rfl
    clear OK1 h1 hix hiy
    go_enter Tryz.func127, Tryz.ntmps127
    go_wp2_with fail
    refine (IX.out _).mono ?_
    rintro e w' ⟨rfl, rfl⟩
    cases ix
    · go_wp2
      go_ret
      exact ⟨by rw [R.out]; rfl, B.out⟩
    · go_wp2_with fail
      refine (IY.out _).mono ?_
      rintro e w' ⟨rfl, rfl⟩
      go_wp2
      go_ret
      exact ⟨by rw [R.out]; rfl, B.out⟩
  by_cases h3 : op = 3
  · subst h3
    obtain ⟨ix, hix⟩ : ∃ ix, okIdx x n = ix := ⟨_, rfl⟩
    rw [hix] at OK1 IX
    have R : Hid (St.ok ⟨3, a, b, c, d, x, y⟩ n = (ix && yz)) := by show _ = _; rw [OK1.out]; rfl
    clear OK1 h1 h2 hix
    go_enter Tryz.func127, Tryz.ntmps127
    go_wp2_with fail
    refine (IX.out _).mono ?_
    rintro e w' ⟨rfl, rfl⟩
    cases ix
    · go_wp2
      go_ret
      exact ⟨by rw [R.out]; rfl, B.out⟩
    · go_wp2
      go_ret
      exact ⟨by rw [R.out]; rfl, B.out⟩
  clear IX IY
  by_cases h4 : op = 4
  · subst h4
    have R : Hid (St.ok ⟨4, a, b, c, d, x, y⟩ n = (xz && yz)) := by show _ = _; rw [OK1.out]; rfl
    clear OK1 h1 h2 h3
    go_enter Tryz.func127, Tryz.ntmps127
    cases xz
    · go_wp2
      go_ret
      exact ⟨by rw [R.out]; rfl, B.out⟩
    · go_wp2
      go_ret
      exact ⟨by rw [R.out]; rfl, B.out⟩
  have p2 : (op == 2) = false := by simpa using h2
  have p3 : (op == 3) = false := by simpa using h3
  have p4 : (op == 4) = false := by simpa using h4
  have R : Hid (St.ok ⟨op, a, b, c, d, x, y⟩ n = false) := by show _ = _; rw [OK1.out, if_neg h2, if_neg h3, if_neg h4]; rfl
  clear OK1 h1 h2 h3 h4
  go_enter Tryz.func127, Tryz.ntmps127
  go_wp2
  go_ret
  exact ⟨by rw [R.out]; rfl, B.out⟩

set_option maxRecDepth 100000 in
set_option maxHeartbeats 4000000 in
theorem check_any (L : List St) (A : Option Addr) (N cap : Nat) (w : World) (hN : L.length = N) (hbig : N ≤ 1048576) (hcap : N ≤ cap) (h : IsSt w A L) :
    Calls Tryz.prog 106 #[.slice A N cap] w fun e w' => e = .returned (.bool (progOk L)) ∧ Below w.heap.size w w' := by
  have PO : Hid (progOk L = (decide (1 ≤ N) && decide (N ≤ 40) && L.all (fun s => s.ok N) && decide (lastOp L ≠ 1))) := by show _ = _; rw [progOk, hN]
  by_cases h0 : N < 1
  · obtain rfl : N = 0 := by omega
    have R : Hid (progOk L = false) := by show _ = _; rw [PO.out]; rfl
    clear PO h hN
    go_enter Tryz.func106, Tryz.ntmps106
    go_wp2
    go_ret
    exact ⟨by rw [R.out]; rfl, Below.refl _ _⟩
  have h0z : ¬ (N : Int) < 1 := by omega
  by_cases h40 : 40 < N
  · have h40z : (40 : Int) < (N : Int) := by omega
    have R : Hid (progOk L = false) := by show _ = _; rw [PO.out]; simp; omega
    clear PO h hN
    go_enter Tryz.func106, Tryz.ntmps106
    go_wp2
    go_ret
    exact ⟨by rw [R.out]; rfl, Below.refl _ _⟩
  have h40z : ¬ (40 : Int) < (N : Int) := by omega
  have PO1 : Hid (progOk L = (L.all (fun s => s.ok N) && decide (lastOp L ≠ 1))) := by show _ = _; rw [PO.out, decide_eq_true (show 1 ≤ N by omega), decide_eq_true (show N ≤ 40 by omega)]; rfl
  obtain ⟨blk, off, rfl, hc⟩ := h.at (by omega)
  have HC : Hid (∀ W, Below w.heap.size w W → ∀ j, j < N → (W.cell? ⟨blk, off + j * 7, none⟩ = some (.int .i64 (nthS L j).op) ∧ W.cell? ⟨blk, off + j * 7 + 1, none⟩ = some (.int .u64 ((nthS L j).a : Int)) ∧ W.cell? ⟨blk, off + j * 7 + 2, none⟩ = some (.int .u64 ((nthS L j).b : Int)) ∧ W.cell? ⟨blk, off + j * 7 + 3, none⟩ = some (.int .u64 ((nthS L j).c : Int)) ∧ W.cell? ⟨blk, off + j * 7 + 4, none⟩ = some (.int .u64 ((nthS L j).d : Int)) ∧ W.cell? ⟨blk, off + j * 7 + 5, none⟩ = some (.int .i64 (nthS L j).x) ∧ W.cell? ⟨blk, off + j * 7 + 6, none⟩ = some (.int .i64 (nthS L j).y))) := fun W hW j hj => by
    obtain ⟨c0, c1, c2, c3, c4, c5, c6⟩ := hc j (by omega)
    have hl : blk < w.heap.size := World.block_lt_of_cell? w _ c0
    exact ⟨(hW.cell (p := ⟨blk, _, none⟩) hl).trans c0, (hW.cell (p := ⟨blk, _, none⟩) hl).trans c1, (hW.cell (p := ⟨blk, _, none⟩) hl).trans c2, (hW.cell (p := ⟨blk, _, none⟩) hl).trans c3, (hW.cell (p := ⟨blk, _, none⟩) hl).trans c4, (hW.cell (p := ⟨blk, _, none⟩) hl).trans c5, (hW.cell (p := ⟨blk, _, none⟩) hl).trans c6⟩
  have DR : Hid (∀ k, k < N → (L.drop k).all (fun s => s.ok N) = ((nthS L k).ok N && (L.drop (k + 1)).all (fun s => s.ok N))) := fun k hk => all_step (by omega)
  have DE : Hid ((L.drop N).all (fun s => s.ok N) = true) := all_end (by omega)
  have LN : Hid (lastOp L = (nthS L (N - 1)).op) := by have := last_nth (L := L) (by omega); rw [hN] at this; exact this
  clear h hc PO hN
  go_enter Tryz.func106, Tryz.ntmps106
  go_wp2_with fail
  go_loopw [15] (fun i wr => ∃ k : Nat, k ≤ N ∧ i = .int .i64 (k : Int) ∧ Hid (Below w.heap.size w wr ∧ (L.drop k).all (fun s => s.ok N) = L.all (fun s => s.ok N))) (fun i _ => N - (intOf i).toNat)
  case atStart => exact ⟨0, by omega, rfl, Below.refl _ _, rfl⟩
  case round =>
    obtain ⟨k, hk, rfl, HI⟩ := hrel
    by_cases hkN : k < N
    · have hkz : (k : Int) < (N : Int) := by omega
      obtain ⟨c0, c1, c2, c3, c4, c5, c6⟩ := HC.out wr HI.out.1 k hkN
      have DK := Lib.hid (DR.out k hkN)
      obtain ⟨s, hs⟩ : ∃ s, nthS L k = s := ⟨_, rfl⟩
      rw [hs] at c0 c1 c2 c3 c4 c5 c6 DK
      clear hs HC DR LN
      obtain ⟨op, a, b, c, d, x, y⟩ := s
      dsimp only at c0 c1 c2 c3 c4 c5 c6
      have CS := Lib.hid (fun W => isStep_any op a b c d x y N W)
      have B6 : Hid (Below wr.heap.size wr (wr.alloc (.cells #[.int .i64 op, .int .u64 (a : Int), .int .u64 (b : Int), .int .u64 (c : Int), .int .u64 (d : Int), .int .i64 x, .int .i64 y] 163))) := (Below.refl _ _).alloc (Nat.le_refl _) _
      go_wp2_with fail
      refine (CS.out _).mono ?_
      rintro e w1 ⟨rfl, b1⟩
      have B1 := Lib.hid (HI.out.1.trans ((B6.out.trans (b1.mono B6.out.size)).mono HI.out.1.size))
      clear b1 B6 CS c0 c1 c2 c3 c4 c5 c6
      cases hok : St.ok ⟨op, a, b, c, d, x, y⟩ N
      · rw [hok] at DK
        have R : Hid (progOk L = false) := by show _ = _; rw [PO1.out, ← HI.out.2, DK.out]; rfl
        clear hok PO1
        go_wp2
        go_ret
        exact ⟨by rw [R.out]; rfl, B1.out⟩
      · rw [hok] at DK
        have H2 : Hid (Below w.heap.size w w1 ∧ (L.drop (k + 1)).all (fun s => s.ok N) = L.all (fun s => s.ok N)) := ⟨B1.out, by rw [← HI.out.2, DK.out]; rfl⟩
        clear hok PO1
        go_wp2
        go_roundw
        case rel => exact ⟨k + 1, by omega, by go_num, H2.out⟩
        case measure => simp [intOf]; omega
    · obtain rfl : k = N := by omega
      have hkz : ¬ (k : Int) < (k : Int) := by omega
      obtain ⟨c0, _, _, _, _, _, _⟩ := HC.out wr HI.out.1 (k - 1) (by omega)
      rw [← LN.out] at c0
      obtain ⟨m, hm⟩ : ∃ m, k = m + 1 := ⟨k - 1, by omega⟩
      subst hm
      rw [Nat.add_sub_cancel] at c0
      have R : Hid (progOk L = decide (lastOp L ≠ 1)) := by show _ = _; rw [PO1.out, ← HI.out.2, DE.out]; rfl
      clear HC DR DE LN PO1
      generalize lastOp L = lo at *
      go_wp2
      go_ret
      exact ⟨by rw [R.out]; by_cases h : lo = 1 <;> simp [h], HI.out.1⟩

end Go.Proofs.YtlfcjjlgkcfkdaaGreatDoor

