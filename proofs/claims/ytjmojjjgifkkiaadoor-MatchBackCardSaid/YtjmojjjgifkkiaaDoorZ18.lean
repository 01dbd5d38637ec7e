/-
  What the program's appendWays does, of what appendTree does to each kid. Conditions: at most 1000 steps, 1000 kids.
  What the program's appendTree does: the steps of a tree that may be, behind others. Conditions: at most 1000 steps, 1000 nodes.
-/
import Derived.Test.YtjmojjjgifkkiaaDoorProg
import Derived.Test.YtjmojjjgifkkiaaDoorZ01
import Derived.Test.YtjmojjjgifkkiaaDoorZ02
import Derived.Test.YtjmojjjgifkkiaaDoorZ03
import Derived.Test.YtjmojjjgifkkiaaDoorZ04
import Derived.Test.YtjmojjjgifkkiaaDoorZ06
import Derived.Test.YtjmojjjgifkkiaaDoorZ05
import Derived.Test.YtjmojjjgifkkiaaDoorZ08
import Derived.Test.YtjmojjjgifkkiaaDoorZ09
import Derived.Test.YtjmojjjgifkkiaaDoorZ10
import Derived.Test.YtjmojjjgifkkiaaDoorZ17
import Derived.Laws.MakeOwn
import Derived.Laws.OwnMore
import Derived.OwnWalk
import Derived.WalkKit
import Derived.WalkSpells
import Derived.WalkLawsBesides
import Derived.Lib.Hide
import Derived.Below
import Derived.BigQuiet
import Derived.Lib.QuietBelow
import Derived.Laws.StructEq
import Derived.KernelRfl
import Derived.Deep.QuietTactic
import Derived.Lib.Bytealg
import Derived.Laws.Externs
import Derived.Laws.AppendOwn
import Derived.Deep.LoopGhost
import Derived.Deep.RegionHeld3
import Derived.Laws.CopyOwn
import Derived.Deep.Cut
import Derived.StillTailTactics
import Derived.Maps.AppendAt
import Derived.Laws.ResultCell
namespace Go.Proofs.YtjmojjjgifkkiaaDoor
open Go.RowKit

/-- A row of steps and a row of places, each grown apart from the other. -/
structure Two (base : Nat) (w : World) (v : Value) (wr : World) (lv jv : Value) (L : List St) (js : List Nat) : Prop where
  moved : Moved w v wr lv
  steps : Steps base wr lv L
  jumps : Js w.heap.size wr jv js
  apart : Apt jv lv
theorem Two.stepL {base : Nat} {w wr W : World} {v lv jv lv' : Value} {L L' : List St} {js : List Nat} (h : Two base w v wr lv jv L js) (hm : Moved wr lv W lv') (hs : Steps base W lv' L') : Two base w v W lv' jv L' js := by
  obtain ⟨h1, h2⟩ := h.jumps.kept hm h.apart
  exact ⟨h.moved.trans hm, hs, h1, h2⟩
theorem Two.stepJ {base : Nat} {w wr W : World} {v lv jv jv' : Value} {L : List St} {js js' : List Nat} (h : Two base w v wr lv jv L js) (hm : Moved wr jv W jv') (hs : Js w.heap.size W jv' js') : Two base w v W lv jv' L js' := by
  obtain ⟨h1, h2⟩ := h.steps.kept hm h.apart.symm
  exact ⟨h.moved.aside hm h.jumps.low, h1, hs, h2.symm⟩
theorem Moved.tree {base : Nat} {w W : World} {v V tv : Value} {t : Rx} (hm : Moved w v W V) (hb : base ≤ w.heap.size) (hlow : ∀ k, v.ownBlock = some k → base ≤ k) (h : RxIn (fun b => b < base) w tv t) : RxIn (fun b => b < base) W tv t := h.low (hm.below hb hlow)

set_option maxRecDepth 100000 in
set_option maxHeartbeats 8000000 in
theorem ways6_any (base : Nat) (ks : List Rx) (hT : ∀ j, j < ks.length → Lays 82 base (Rx.nth ks j)) (hp : 1 ≤ ks.length) (hkn : ks.length ≤ 1000) (blk off kcap : Nat) (hkc : ks.length ≤ kcap) (V : Nat → Nat → Value) (L : List St) (A : Option Addr) (n cap : Nat) (w : World) (hL : L.length = n) (hn : n + (Rx.szL ks + 2 * (ks.length - 1)) ≤ 1000) (hb : base ≤ w.heap.size) (hq : blk < base)
    (hc : ∀ j i, j < ks.length → i < 6 → w.cell? ⟨blk, off + j * 6 + i, none⟩ = some (V j i)) (hk : ∀ j, j < ks.length → RxIn (fun b => b < base) w (val6 (V j)) (Rx.nth ks j)) (hs : Steps base w (.slice A n cap) L) :
    Calls Tryd.prog 97 #[.slice A n cap, .slice (some ⟨blk, off, none⟩) ks.length kcap] w (LayPost base w (.slice A n cap) n L (Rx.ways n (n + (Rx.szL ks + 2 * (ks.length - 1))) ks)) := by
  have hlow := hs.low
  have HC : Hid (∀ W v', Moved w (.slice A n cap) W v' → ∀ j, j < ks.length → ∃ op a b c d XA xn xcap, (W.cell? ⟨blk, off + j * 6, none⟩ = some (.int .i64 op) ∧ W.cell? ⟨blk, off + j * 6 + 1, none⟩ = some (.int .u64 ((a : Nat) : Int)) ∧ W.cell? ⟨blk, off + j * 6 + 2, none⟩ = some (.int .u64 ((b : Nat) : Int)) ∧ W.cell? ⟨blk, off + j * 6 + 3, none⟩ = some (.int .u64 ((c : Nat) : Int)) ∧ W.cell? ⟨blk, off + j * 6 + 4, none⟩ = some (.int .u64 ((d : Nat) : Int)) ∧ W.cell? ⟨blk, off + j * 6 + 5, none⟩ = some (.slice XA xn xcap)) ∧ RxIn (fun b => b < base) W (.agg #[.int .i64 op, .int .u64 (a : Int), .int .u64 (b : Int), .int .u64 (c : Int), .int .u64 (d : Int), .slice XA xn xcap]) (Rx.nth ks j)) := fun W v' hm j hj => by
    have hB : Below base w W := hm.below hb hlow
    have c : ∀ i, i < 6 → W.cell? ⟨blk, off + j * 6 + i, none⟩ = some (V j i) := fun i hi => (hB.cell hq).trans (hc j i hj hi)
    obtain ⟨op, xa, xb, xc, xd, XA, xn, xcap, e⟩ := (hk j hj).form
    obtain ⟨e0, e1, e2, e3, e4, e5⟩ := val6_eq e
    refine ⟨op, xa, xb, xc, xd, XA, xn, xcap, ⟨?_, ?_, ?_, ?_, ?_, ?_⟩, by rw [← e]; exact (hk j hj).low hB⟩
    · rw [← e0]; exact c 0 (by omega)
    · rw [← e1]; exact c 1 (by omega)
    · rw [← e2]; exact c 2 (by omega)
    · rw [← e3]; exact c 3 (by omega)
    · rw [← e4]; exact c 4 (by omega)
    · rw [← e5]; exact c 5 (by omega)
  have TT := Lib.hid hT
  have SUM : Hid (∀ j, j < ks.length → Rx.szW (ks.take j) + 2 + Rx.sz (Rx.nth ks j) ≤ Rx.szL ks + 2 * ks.length ∧ (j + 1 < ks.length → Rx.szW (ks.take j) + 2 + Rx.sz (Rx.nth ks j) ≤ Rx.szL ks + 2 * (ks.length - 1))) := fun j hj => by
    have h1 := Rx.szL_take hj
    have h2 := Rx.szL_sum ks (j + 1)
    have h3 : (ks.take j).length = j := by rw [List.length_take]; omega
    rw [Rx.szW_eq, h3]
    omega
  have LAST : Hid (Rx.szW (ks.take (ks.length - 1)) + Rx.sz (Rx.nth ks (ks.length - 1)) = Rx.szL ks + 2 * (ks.length - 1)) := by
    have h1 := Rx.szL_take (ks := ks) (j := ks.length - 1) (by omega)
    rw [show ks.length - 1 + 1 = ks.length by omega, List.take_length] at h1
    show _ = _
    have h3 : (ks.take (ks.length - 1)).length = ks.length - 1 := by rw [List.length_take]; omega
    rw [Rx.szW_eq, h3]
    omega
  have STEP : Hid (∀ j, j < ks.length → Rx.pre (fun _ => 0) n 0 (ks.take (j + 1)) = Rx.pre (fun _ => 0) n 0 (ks.take j) ++ St.split (n + Rx.szW (ks.take j) + 1) (n + Rx.szW (ks.take j) + 2 + Rx.sz (Rx.nth ks j)) :: (Rx.lay (n + Rx.szW (ks.take j) + 1) (Rx.nth ks j) ++ [St.jump 0]) ∧ Rx.jpos n (ks.take (j + 1)) = Rx.jpos n (ks.take j) ++ [n + Rx.szW (ks.take j) + 1 + Rx.sz (Rx.nth ks j)] ∧ Rx.szW (ks.take (j + 1)) = Rx.szW (ks.take j) + 2 + Rx.sz (Rx.nth ks j)) := fun j hj => by
    rw [Rx.take_nth hj, Rx.pre_snoc, Rx.jpos_snoc, Rx.szW_app]
    exact ⟨rfl, rfl, by simp [Rx.szW]; omega⟩
  have PL : Hid (∀ f j, (L ++ Rx.pre f n 0 (ks.take j)).length = n + Rx.szW (ks.take j)) := fun f j => by rw [List.length_append, hL, Rx.pre_len]
  have JL : Hid (∀ j, j ≤ ks.length → (Rx.jpos n (ks.take j)).length = j) := fun j hj => by rw [Rx.jpos_len, List.length_take]; omega
  have JG : Hid (∀ j, j < ks.length - 1 → ∃ p, (Rx.jpos n (ks.take (ks.length - 1)))[j]? = some p ∧ n ≤ p ∧ ∀ (f g : Nat → Nat) (e : Nat), g j = e → (∀ m, m ≠ j → g m = f m) → (Rx.pre f n 0 (ks.take (ks.length - 1))).set (p - n) (St.jump e) = Rx.pre g n 0 (ks.take (ks.length - 1)) ∧ (Rx.pre f n 0 (ks.take (ks.length - 1)))[p - n]? = some (St.jump (f j))) := fun j hj => by
    obtain ⟨p, h1, h2, h3, h4⟩ := Rx.jpos_get (ks.take (ks.length - 1)) n j (by rw [List.length_take]; omega)
    refine ⟨p, h1, h2, fun f g e hg hf => ?_⟩
    have := h4 f g 0 e (by rw [Nat.zero_add]; exact hg) (fun m hm => hf m (by omega))
    rw [Nat.zero_add] at this
    exact this
  have WE : Hid (∀ e, Rx.ways n e ks = Rx.pre (fun _ => e) n 0 (ks.take (ks.length - 1)) ++ Rx.lay (n + Rx.szW (ks.take (ks.length - 1))) (Rx.nth ks (ks.length - 1))) := fun e => Rx.ways_eq (by omega) n e
  have WL : Hid (∀ e, (Rx.ways n e ks).length = Rx.szL ks + 2 * (ks.length - 1)) := fun e => Rx.ways_len ks n e
  have CG : Hid (∀ f g : Nat → Nat, (∀ j, j < ks.length - 1 → f j = g j) → Rx.pre f n 0 (ks.take (ks.length - 1)) = Rx.pre g n 0 (ks.take (ks.length - 1))) := fun f g h => Rx.pre_congr _ n 0 fun j _ h2 => h j (by rw [List.length_take] at h2; omega)
  have H0 : Hid (Two base w (.slice A n cap) w (.slice A n cap) (.slice none 0 0) (L ++ Rx.pre (fun _ => 0) n 0 (ks.take 0)) (Rx.jpos n (ks.take 0))) := by
    refine ⟨Moved.refl _ _, ?_, ?_, fun g h => by cases h⟩
    · rw [List.take_zero, Rx.pre, List.append_nil]; exact hs
    · rw [List.take_zero, Rx.jpos]; exact Js.nil _ _
  obtain ⟨N, hN⟩ : ∃ N, ks.length = N + 1 := ⟨ks.length - 1, by omega⟩
  obtain ⟨S, hS⟩ : ∃ S, Rx.szL ks = S := ⟨_, rfl⟩
  have LAYL := Lib.hid (fun m t => Rx.lay_len t m)
  have hLL := Lib.hid hL
  rw [hN] at HC SUM LAST STEP JL JG WE WL CG TT hkn hkc hn ⊢
  rw [hS] at SUM LAST WL hn ⊢
  simp only [Nat.add_sub_cancel] at SUM LAST JG WE WL CG hn ⊢
  clear hT hL hc hk hs hS hq hp
  go_enter Tryd.func97, Tryd.ntmps97
  go_wp2_with fail
  go_loopw [0, 5, 19] (fun l j i wr => ∃ (k : Nat) (A1 : Option Addr) (m1 cap1 : Nat) (AJ : Option Addr) (capJ : Nat), k ≤ N ∧ l = .slice A1 m1 cap1 ∧ m1 = n + Rx.szW (ks.take k) ∧ j = .slice AJ k capJ ∧ i = .int .i64 (k : Int) ∧ Hid (Two base w (.slice A n cap) wr (.slice A1 m1 cap1) (.slice AJ k capJ) (L ++ Rx.pre (fun _ => 0) n 0 (ks.take k)) (Rx.jpos n (ks.take k)))) (fun _ _ i _ => N - (intOf i).toNat)
  case atStart => exact ⟨0, A, n, cap, none, 0, by omega, rfl, by simp [Rx.szW], rfl, rfl, H0.out⟩
  case round =>
    obtain ⟨k, A1, m1, cap1, AJ, capJ, hk, rfl, hm1, rfl, rfl, H⟩ := hrel
    clear H0
    by_cases hkN : k < N
    · have hkz : (k : Int) < (N : Int) := by omega
      obtain ⟨op, xa, xb, xc, xd, XA, xn, xcap, ⟨c0, c1, c2, c3, c4, c5⟩, X⟩ := HC.out wr _ H.out.moved k (by omega)
      have hsum := (SUM.out k (by omega)).2 (by omega)
      have hwr : w.heap.size ≤ wr.heap.size := H.out.moved.size
      have BX := Lib.hid (Boxed.of (by omega : base ≤ wr.heap.size) H.out.steps X)
      have LT := Lib.hid (fun W V => Boxed.later (W := W) (V := V) BX.out (by omega) H.out.steps.top H.out.steps.low)
      have P1 := Lib.hid (PL.out (fun _ => 0) k)
      have J1 := Lib.hid (JL.out k (by omega))
      have T1 := Lib.hid (TT.out k (by omega))
      obtain ⟨E1, E2, E3⟩ := STEP.out k (by omega)
      have EQ1 := Lib.hid E1
      have EQ2 := Lib.hid E2
      have EQ3 := Lib.hid E3
      have ZL := Lib.hid (LAYL.out (m1 + 1) (Rx.nth ks k))
      clear E1 E2 E3 X SUM LAST STEP JG WE WL CG PL JL LAYL HC TT
      obtain ⟨K, hK⟩ : ∃ K, Rx.szW (ks.take k) = K := ⟨_, rfl⟩
      obtain ⟨Z, hZ⟩ : ∃ Z, Rx.sz (Rx.nth ks k) = Z := ⟨_, rfl⟩
      rw [hK] at hm1 hsum EQ1 EQ2 EQ3 P1
      rw [hZ] at hsum EQ1 EQ2 EQ3 ZL
      rw [← hm1] at P1 EQ1 EQ2
      have hm2 : m1 + Z + 2 ≤ 1000 := by omega
      have HM := Lib.hid hm1
      clear hK hm1 hsum
      go_wp2_with (at_builtin; go_must (refine wpList_appS rfl (.tmp 25) (.tmp 29) rfl base (.slice A1 m1 cap1) _ m1 ⟨2, 0, 0, 0, 0, (m1 : Int) + 1, 0⟩ (wr.heap.size + 1) rfl rfl BX.out.size rfl BX.out.steps P1.out (by omega) (by have := BX.out.size; omega) ?_); (intro g1 cap1' w1 S1 M1); (have H1 := Lib.hid ((H.out.stepL BX.out.moved BX.out.steps).stepL M1 S1)); (obtain ⟨⟨q0, q1, q2, q3, q4, q5⟩, X1, Z1⟩ := LT.out _ _ M1); (replace X1 := Lib.hid X1); (clear M1 S1 c0 c1 c2 c3 c4 c5))
      refine (T1.out _ _ _ _ _ _ (by rw [List.length_append, P1.out]; rfl) (by rw [hZ]; omega) Z1 X1.out H1.out.steps).mono ?_
      rintro e w2 ⟨A2, m2, cap2, hm, rfl, S2, M2⟩
      rw [ZL.out] at hm
      subst hm
      have H2 := Lib.hid (H1.out.stepL M2 S2)
      have L2 : Hid ((L ++ Rx.pre (fun _ => 0) n 0 (ks.take k) ++ [(⟨2, 0, 0, 0, 0, (m1 : Int) + 1, 0⟩ : St)] ++ Rx.lay (m1 + 1) (Rx.nth ks k)).length = m1 + 1 + Z) := by show _ = _; rw [List.length_append, List.length_append, P1.out, ZL.out]; rfl
      have hw2 : base ≤ w2.heap.size ∧ w.heap.size ≤ w2.heap.size := by have := H2.out.moved.size; omega
      clear S2 M2 H1 q0 q1 q2 q3 q4 q5 T1 X1 LT BX
      go_wp2_with (first
        | (at_builtin; (refine wpList_appJ rfl (.tmp 34) (.tmp 37) rfl w.heap.size (.slice AJ k capJ) _ k (m1 + 1 + Z) _ w2.heap.size rfl rfl rfl (by go_num) H2.out.jumps J1.out (by omega) hw2.2 ?_); (intro g3 cap3 w3 S3 M3); (have H3 := Lib.hid (H2.out.stepJ M3 S3)); (clear S3 M3); (have hw3 : base ≤ w3.heap.size := by (have := H3.out.moved.size; omega)))
        | (at_builtin; go_must (refine wpList_appS rfl (.tmp 39) (.tmp 41) rfl base _ _ (m1 + 1 + Z) ⟨3, 0, 0, 0, 0, 0, 0⟩ w3.heap.size rfl rfl rfl rfl H3.out.steps L2.out (by omega) hw3 ?_); (intro g4 cap4 w4 S4 M4); go_must (have H4 := H3.out.stepL M4 S4); (simp only [List.append_assoc, List.cons_append, List.nil_append] at H4); (rw [← List.append_assoc] at H4); (replace H4 := Lib.hid H4); (clear S4 M4); go_must (obtain ⟨hc, _, hf, _⟩ := H4.out.steps.at P1.out); (dsimp only at hc)))
      obtain ⟨S5, M5⟩ := H4.out.steps.fixY P1.out ((m1 : Int) + 1 + Z + 1) (s' := St.split (m1 + 1) (m1 + 2 + Z)) (by simp [St.setY, St.split]; omega)
      have H5 := H4.out.stepL M5 S5
      refine ⟨⟨k + 1, some ⟨g4, 0, none⟩, m1 + 1 + Z + 1, cap4, some ⟨g3, 0, none⟩, cap3, by omega, rfl, by rw [EQ3.out]; have := HM.out; omega, rfl, by go_num, ?_⟩, by simp [intOf]; omega⟩
      rw [EQ1.out, EQ2.out, ← List.append_assoc]
      exact H5
    · obtain rfl : k = N := by omega
      have hkz : ¬ (k : Int) < (k : Int) := by omega
      obtain ⟨op, xa, xb, xc, xd, XA, xn, xcap, ⟨c0, c1, c2, c3, c4, c5⟩, X⟩ := HC.out wr _ H.out.moved k (by omega)
      replace X := Lib.hid X
      have hwr : base ≤ wr.heap.size := by have := H.out.moved.size; omega
      have P1 := Lib.hid (PL.out (fun _ => 0) k)
      have T1 := Lib.hid (TT.out k (by omega))
      have ZL := Lib.hid (LAYL.out m1 (Rx.nth ks k))
      have hlast := LAST.out
      clear SUM LAST STEP PL JL LAYL HC TT
      obtain ⟨K, hK⟩ : ∃ K, Rx.szW (ks.take k) = K := ⟨_, rfl⟩
      obtain ⟨Z, hZ⟩ : ∃ Z, Rx.sz (Rx.nth ks k) = Z := ⟨_, rfl⟩
      rw [hK] at hm1 hlast P1 WE
      rw [hZ] at hlast ZL
      rw [← hm1] at P1 WE
      have hm2 : m1 + Z ≤ 1000 := by omega
      have HM : Hid (n + (S + 2 * k) = m1 + Z) := by show _ = _; omega
      rw [HM.out]
      clear hK hm1 hlast hn
      go_wp2_with fail
      refine (T1.out _ _ _ _ _ _ P1.out (by rw [hZ]; omega) hwr X.out H.out.steps).mono ?_
      rintro e w2 ⟨A2, m2, cap2, hm, rfl, S2, M2⟩
      rw [ZL.out] at hm
      subst hm
      have H2 := Lib.hid (H.out.stepL M2 S2)
      clear S2 M2 H T1 X c0 c1 c2 c3 c4 c5
      have C0 : Hid (Rx.pre (fun _ => 0) n 0 (ks.take k) = Rx.pre (fun x => if x < 0 then m1 + Z else 0) n 0 (ks.take k)) := CG.out _ _ (fun _ _ => by simp)
      go_wp2_with fail
      go_loopw [58] (fun i wr => ∃ j : Nat, j ≤ k ∧ i = .int .i64 (j : Int) ∧ Hid (Two base w (.slice A n cap) wr (.slice A2 (m1 + Z) cap2) (.slice AJ k capJ) (L ++ Rx.pre (fun x => if x < j then m1 + Z else 0) n 0 (ks.take k) ++ Rx.lay m1 (Rx.nth ks k)) (Rx.jpos n (ks.take k)))) (fun i _ => k - (intOf i).toNat)
      case atStart => exact ⟨0, by omega, rfl, by rw [← C0.out]; exact H2.out⟩
      case round =>
        obtain ⟨j, hj, rfl, H⟩ := hrel
        clear H2 C0
        by_cases hjk : j < k
        · have hjz : (j : Int) < (k : Int) := by omega
          obtain ⟨p, p1, p2, p3⟩ := JG.out j hjk
          obtain ⟨r1, r2⟩ := p3 (fun x => if x < j then m1 + Z else 0) (fun x => if x < j + 1 then m1 + Z else 0) (m1 + Z) (by simp) (fun m hm => by
            by_cases h : m < j
            · rw [if_pos h, if_pos (by omega)]
            · rw [if_neg h, if_neg (by omega)])
          have hlen := H.out.jumps.1
          have hJp : 0 < (Rx.jpos n (ks.take k)).length := by
            rcases Nat.eq_zero_or_pos (Rx.jpos n (ks.take k)).length with h | h
            · rw [List.eq_nil_of_length_eq_zero h] at p1; cases p1
            · exact h
          obtain ⟨gj, capj, ej⟩ := H.out.jumps.form2 hJp
          injection ej with ej1 ej2 ej3
          subst ej1
          subst ej3
          clear ej2 hJp hlen
          have hSp : 0 < (L ++ Rx.pre (fun x => if x < j then m1 + Z else 0) n 0 (ks.take k) ++ Rx.lay m1 (Rx.nth ks k)).length := by
            rcases Nat.lt_or_ge (p - n) (Rx.pre (fun x => if x < j then m1 + Z else 0) n 0 (ks.take k)).length with h | h
            · rw [List.length_append, List.length_append]; omega
            · rw [List.getElem?_eq_none h] at r2; cases r2
          obtain ⟨gs, caps, es⟩ := H.out.steps.form2 hSp
          injection es with es1 es2 es3
          subst es1
          subst es3
          clear es2 hSp
          have cj := H.out.jumps.cell p1
          obtain ⟨c5, f5, hpm, S3, M3⟩ := H.out.steps.fixX hLL.out p2 r2 ((m1 : Int) + Z) (P' := Rx.pre (fun x => if x < j + 1 then m1 + Z else 0) n 0 (ks.take k)) r1
          have H3 := Lib.hid (H.out.stepL M3 S3)
          rw [if_neg (Nat.lt_irrefl j)] at c5
          dsimp only [St.jump] at c5
          clear S3 M3 H p1 p3 r1 r2 p2 JG WE WL CG
          go_wp2
          go_roundw
          case rel => exact ⟨j + 1, by omega, by go_num, H3.out⟩
          case measure => simp [intOf]; omega
        · obtain rfl : j = k := by omega
          have hjz : ¬ (j : Int) < (j : Int) := by omega
          have CE := Lib.hid (CG.out (fun x => if x < j then m1 + Z else 0) (fun _ => m1 + Z) (fun x hx => if_pos hx))
          clear JG
          go_wp2
          go_ret
          refine ⟨A2, m1 + Z, cap2, by rw [WL.out, HM.out], rfl, ?_, H.out.moved⟩
          rw [WE.out, HM.out, ← List.append_assoc, ← CE.out]
          exact H.out.steps

end Go.Proofs.YtjmojjjgifkkiaaDoor
namespace Go.Proofs.YtjmojjjgifkkiaaDoor
open Go.RowKit

set_option maxRecDepth 100000 in
set_option maxHeartbeats 8000000 in
theorem tree_any : ∀ (m : Nat) (t : Rx) (base : Nat), m ≤ 1000 → Rx.count t ≤ m → Rx.isRex t = true → Lays 82 base t := by
  intro m
  induction m with
  | zero => intro t base _ hs; have := Rx.count_pos t; omega
  | succ m ih =>
    intro t base hm hcnt hr tv L A n cap w hL hn hb hx hs
    cases hx with
    | node op a b c d ks XA xcap blk off V hcap hA hp hq hc hk =>
      have hx := RxIn.node (Q := fun b => b < base) (w := w) op a b c d ks XA xcap blk off V hcap hA hp hq hc hk
      rw [Rx.count] at hcnt
      obtain ⟨hall, hop⟩ := Rx.isRex_cases hr
      have hsmall := Rx.len_count ks
      have hlow := hs.low
      have IH : Hid (∀ j, j < ks.length → Lays 82 base (Rx.nth ks j)) := fun j hj => ih _ base (by omega) (by have := Rx.nth_count hj; omega) (Rx.isAll_nth hall hj)
      have BX := Lib.hid (Boxed.of hb hs hx)
      have HC0 : Hid (∀ W v', Moved w (.slice A n cap) W v' → ∀ j, j < ks.length → (∀ i, i < 6 → W.cell? ⟨blk, off + j * 6 + i, none⟩ = some (V j i)) ∧ RxIn (fun b => b < base) W (val6 (V j)) (Rx.nth ks j)) := fun W v' hm j hj => by
        have hB : Below base w W := hm.below hb hlow
        exact ⟨fun i hi => (hB.cell (hq (by omega))).trans (hc j i hj hi), (hk j hj).low hB⟩
      have HC : Hid (∀ W v', Moved w (.slice A n cap) W v' → ∀ j, j < ks.length → ∃ op a b c d XA xn xcap, (W.cell? ⟨blk, off + j * 6, none⟩ = some (.int .i64 op) ∧ W.cell? ⟨blk, off + j * 6 + 1, none⟩ = some (.int .u64 ((a : Nat) : Int)) ∧ W.cell? ⟨blk, off + j * 6 + 2, none⟩ = some (.int .u64 ((b : Nat) : Int)) ∧ W.cell? ⟨blk, off + j * 6 + 3, none⟩ = some (.int .u64 ((c : Nat) : Int)) ∧ W.cell? ⟨blk, off + j * 6 + 4, none⟩ = some (.int .u64 ((d : Nat) : Int)) ∧ W.cell? ⟨blk, off + j * 6 + 5, none⟩ = some (.slice XA xn xcap)) ∧ RxIn (fun b => b < base) W (.agg #[.int .i64 op, .int .u64 (a : Int), .int .u64 (b : Int), .int .u64 (c : Int), .int .u64 (d : Int), .slice XA xn xcap]) (Rx.nth ks j)) := fun W v' hm j hj => by
        obtain ⟨c', X⟩ := HC0.out W v' hm j hj
        obtain ⟨op, xa, xb, xc, xd, XA, xn, xcap, e⟩ := X.form
        obtain ⟨e0, e1, e2, e3, e4, e5⟩ := val6_eq e
        refine ⟨op, xa, xb, xc, xd, XA, xn, xcap, ⟨?_, ?_, ?_, ?_, ?_, ?_⟩, by rw [← e]; exact X⟩
        · rw [← e0]; exact c' 0 (by omega)
        · rw [← e1]; exact c' 1 (by omega)
        · rw [← e2]; exact c' 2 (by omega)
        · rw [← e3]; exact c' 3 (by omega)
        · rw [← e4]; exact c' 4 (by omega)
        · rw [← e5]; exact c' 5 (by omega)
      have HP := Lib.hid hp
      have HQ := Lib.hid hq
      have hkl : ks.length ≤ 1000 := by omega
      have hsz := Lib.hid hn
      have htop := hs.top
      have hLL := Lib.hid hL
      have HW : Hid (1 ≤ ks.length → ∀ W, Moved w (.slice A n cap) W (.slice A n cap) → base ≤ W.heap.size → Steps base W (.slice A n cap) L → n + (Rx.szL ks + 2 * (ks.length - 1)) ≤ 1000 → Calls Tryd.prog 97 #[.slice A n cap, .slice (some ⟨blk, off, none⟩) ks.length xcap] W (LayPost base W (.slice A n cap) n L (Rx.ways n (n + (Rx.szL ks + 2 * (ks.length - 1))) ks))) := fun h1 W hM hbW hS hnn =>
        ways6_any base ks (fun j hj => IH.out j hj) h1 hkl blk off xcap hcap V L A n cap W hL hnn hbW (hq (by omega)) (fun j i hj hi => (HC0.out W _ hM j hj).1 i hi) (fun j hj => (HC0.out W _ hM j hj).2) hS
      have STP : Hid (∀ j, j < ks.length → Rx.layL n (ks.take (j + 1)) = Rx.layL n (ks.take j) ++ Rx.lay (n + Rx.szL (ks.take j)) (Rx.nth ks j) ∧ Rx.szL (ks.take (j + 1)) = Rx.szL (ks.take j) + Rx.sz (Rx.nth ks j) ∧ Rx.szL (ks.take j) + Rx.sz (Rx.nth ks j) ≤ Rx.szL ks) := fun j hj => ⟨Rx.layL_take hj n, Rx.szL_take hj, by have h1 := Rx.szL_take hj; have h2 := Rx.szL_sum ks (j + 1); omega⟩
      have PL : Hid (∀ j, (L ++ Rx.layL n (ks.take j)).length = n + Rx.szL (ks.take j)) := fun j => by rw [List.length_append, hL, Rx.layL_len]
      have LAYL := Lib.hid (fun m t => Rx.lay_len t m)
      clear hp hq hc hk ih hA hs hr hall hL hx HC0 hn hcnt hsmall
      go_enter Tryd.func82, Tryd.ntmps82
      go_upto_region 1 with fail
      have Z0 : base ≤ (w.alloc (.cells #[.int .i64 op, .int .u64 (a : Int), .int .u64 (b : Int), .int .u64 (c : Int), .int .u64 (d : Int), .slice XA ks.length xcap] 60)).heap.size := by have := BX.out.size; omega
      generalize w.alloc (.cells #[.int .i64 op, .int .u64 (a : Int), .int .u64 (b : Int), .int .u64 (c : Int), .int .u64 (d : Int), .slice XA ks.length xcap] 60) = w0 at *
      obtain ⟨⟨q0, q1, q2, q3, q4, q5⟩, _, _⟩ := Boxed.later BX.out hb htop hlow (Moved.refl _ _)
      have BM := Lib.hid BX.out.moved
      rcases hop with ⟨rfl, rfl⟩ | h2 | ⟨h3, h1⟩ | ⟨hopx, h1⟩
      · clear HC IH HP HQ HW STP PL q5
        go_wp2_with (at_builtin; go_must (refine wpList_appS rfl (.tmp 11) (.tmp 15) rfl base (.slice A n cap) L n ⟨1, a, b, c, d, 0, 0⟩ w0.heap.size rfl rfl rfl rfl BX.out.steps hLL.out (by have := hsz.out; omega) Z0 ?_); (intro g1 cap1 w1 S1 M1))
        go_ret
        exact ⟨_, n + 1, cap1, rfl, rfl, S1, BX.out.moved.trans M1⟩
      · subst h2
        clear HW HQ q1 q2 q3 q4
        have F2 : Hid (Rx.lay n (.mk 2 a b c d ks) = Rx.layL n ks ∧ Rx.sz (.mk 2 a b c d ks) = Rx.szL ks) := ⟨by simp [Rx.lay], by simp [Rx.sz]⟩
        have hsz2 : n + Rx.szL ks ≤ 1000 := by have := hsz.out; rw [F2.out.2] at this; exact this
        have H0 : Hid (Steps base w0 (.slice A n cap) (L ++ Rx.layL n (ks.take 0)) ∧ Moved w (.slice A n cap) w0 (.slice A n cap)) := ⟨by rw [List.take_zero, Rx.layL, List.append_nil]; exact BX.out.steps, BM.out⟩
        have TK := Lib.hid (List.take_length (l := ks))
        obtain ⟨N, hN⟩ : ∃ N, ks.length = N := ⟨_, rfl⟩
        obtain ⟨S, hS⟩ : ∃ S, Rx.szL ks = S := ⟨_, rfl⟩
        rw [hS] at STP hsz2
        rw [hN] at STP HC IH HP hkl hcap TK q5 ⊢
        clear hS hsz BX BM
        go_wp2_with fail
        go_loopw [0, 50] (fun l i wr => ∃ (k : Nat) (A1 : Option Addr) (m1 cap1 : Nat), k ≤ N ∧ l = .slice A1 m1 cap1 ∧ m1 = n + Rx.szL (ks.take k) ∧ i = .int .i64 (k : Int) ∧ Hid (Steps base wr (.slice A1 m1 cap1) (L ++ Rx.layL n (ks.take k)) ∧ Moved w (.slice A n cap) wr (.slice A1 m1 cap1))) (fun _ i _ => N - (intOf i).toNat)
        case atStart => exact ⟨0, A, n, cap, by omega, rfl, by simp [Rx.szL], rfl, H0.out⟩
        case round =>
          obtain ⟨k, A1, m1, cap1, hk, rfl, hm1, rfl, H⟩ := hrel
          clear H0
          by_cases hkN : k < N
          · have hkz : (k : Int) < (N : Int) := by omega
            have hAe := HP.out (by omega)
            subst hAe
            obtain ⟨opk, ka, kb, kc, kd, KA, kn, kcap, ⟨c0, c1, c2, c3, c4, c5⟩, X⟩ := HC.out wr _ H.out.2 k (by omega)
            have hwr : base ≤ wr.heap.size := by have := H.out.2.size; omega
            have BK := Lib.hid (Boxed.of hwr H.out.1 X)
            obtain ⟨E1, E2, E3⟩ := STP.out k (by omega)
            have P1 := PL.out k
            have ZL := LAYL.out m1 (Rx.nth ks k)
            rw [← hm1] at E1 P1
            have E1h := Lib.hid E1
            have E2h := Lib.hid E2
            have ZLh := Lib.hid ZL
            have HM := Lib.hid hm1
            have T1 := Lib.hid (IH.out k (by omega) _ _ A1 m1 cap1 _ P1 (by omega) (by have := BK.out.size; omega) BK.out.tree BK.out.steps)
            clear X HC IH HP STP PL LAYL E1 E2 E3 P1 ZL hm1 TK
            go_wp2_with fail
            refine T1.out.mono ?_
            rintro e w2 ⟨A2, m2, cap2, hm, rfl, S2, M2⟩
            rw [ZLh.out] at hm
            subst hm
            have H2 : Hid (Steps base w2 (.slice A2 (m1 + Rx.sz (Rx.nth ks k)) cap2) (L ++ Rx.layL n (ks.take (k + 1))) ∧ Moved w (.slice A n cap) w2 (.slice A2 (m1 + Rx.sz (Rx.nth ks k)) cap2)) := ⟨by rw [E1h.out, ← List.append_assoc]; exact S2, H.out.2.trans (BK.out.moved.trans M2)⟩
            clear S2 M2 T1 BK H c0 c1 c2 c3 c4 c5
            go_wp2
            go_roundw
            case rel => exact ⟨k + 1, A2, _, cap2, by omega, rfl, by rw [E2h.out]; have := HM.out; omega, by go_num, H2.out⟩
            case measure => simp [intOf]; omega
          · obtain rfl : k = N := by omega
            have hkz : ¬ (k : Int) < (k : Int) := by omega
            have HM := Lib.hid hm1
            clear HC IH HP hm1
            go_wp2
            go_ret
            have hm1 := HM.out
            have hS := H.out.1
            have hl := PL.out k
            rw [TK.out] at hS hm1 hl
            exact ⟨A1, m1, cap1, by rw [F2.out.1, Rx.layL_len]; exact hm1, rfl, by rw [F2.out.1]; exact hS, H.out.2⟩
      · subst h3
        clear HC IH STP PL q1 q2 q3 q4
        have hAe := HP.out (by omega)
        subst hAe
        have F3 : Hid (Rx.lay n (.mk 3 a b c d ks) = Rx.ways n (n + (Rx.szL ks + 2 * (ks.length - 1))) ks ∧ Rx.sz (.mk 3 a b c d ks) = Rx.szL ks + 2 * (ks.length - 1)) := ⟨by simp [Rx.lay], by simp [Rx.sz]⟩
        have C1 := Lib.hid (HW.out h1 w0 BM.out Z0 BX.out.steps (by have := hsz.out; rw [F3.out.2] at this; exact this))
        clear HW HP HQ hsz BM
        generalize ks.length = N at *
        go_wp2_with fail
        refine C1.out.mono ?_
        rintro e w2 ⟨A2, m2, cap2, rfl, rfl, S2, M2⟩
        clear C1
        go_wp2
        go_ret
        exact ⟨_, _, cap2, by rw [F3.out.1], rfl, by rw [F3.out.1]; exact S2, BX.out.moved.trans M2⟩
      · clear HW HQ STP PL q1 q2 q3 q4
        rcases hopx with ho | ho | ho
        · subst ho
          obtain ⟨k0, rfl⟩ := List.length_eq_one_iff.1 h1
          obtain ⟨opk, ka, kb, kc, kd, KA, kn, kcap, ⟨c0, c1, c2, c3, c4, c5⟩, X⟩ := HC.out w0 _ BM.out 0 (by simp)
          rw [Nat.zero_mul, Nat.add_zero] at c0 c1 c2 c3 c4 c5
          have C1 := Lib.hid (star_any base k0 (IH.out 0 (by simp)) _ L A n cap w0 hLL.out (by have := hsz.out; simp [Rx.sz, Rx.szL] at this; omega) Z0 X BX.out.steps a b c d)
          have hAe := HP.out (by simp)
          subst hAe
          clear X HC IH HP
          go_wp2_with fail
          refine C1.out.mono ?_
          rintro e w2 ⟨A2, m2, cap2, rfl, rfl, S2, M2⟩
          clear C1
          go_wp2
          go_ret
          exact ⟨_, _, cap2, rfl, rfl, S2, BX.out.moved.trans M2⟩
        · subst ho
          obtain ⟨k0, rfl⟩ := List.length_eq_one_iff.1 h1
          obtain ⟨opk, ka, kb, kc, kd, KA, kn, kcap, ⟨c0, c1, c2, c3, c4, c5⟩, X⟩ := HC.out w0 _ BM.out 0 (by simp)
          rw [Nat.zero_mul, Nat.add_zero] at c0 c1 c2 c3 c4 c5
          have C1 := Lib.hid (plus_any base k0 (IH.out 0 (by simp)) _ L A n cap w0 hLL.out (by have := hsz.out; simp [Rx.sz, Rx.szL] at this; omega) Z0 X BX.out.steps a b c d)
          have hAe := HP.out (by simp)
          subst hAe
          clear X HC IH HP
          go_wp2_with fail
          refine C1.out.mono ?_
          rintro e w2 ⟨A2, m2, cap2, rfl, rfl, S2, M2⟩
          clear C1
          go_wp2
          go_ret
          exact ⟨_, _, cap2, rfl, rfl, S2, BX.out.moved.trans M2⟩
        · subst ho
          obtain ⟨k0, rfl⟩ := List.length_eq_one_iff.1 h1
          obtain ⟨opk, ka, kb, kc, kd, KA, kn, kcap, ⟨c0, c1, c2, c3, c4, c5⟩, X⟩ := HC.out w0 _ BM.out 0 (by simp)
          rw [Nat.zero_mul, Nat.add_zero] at c0 c1 c2 c3 c4 c5
          have C1 := Lib.hid (maybe_any base k0 (IH.out 0 (by simp)) _ L A n cap w0 hLL.out (by have := hsz.out; simp [Rx.sz, Rx.szL] at this; omega) Z0 X BX.out.steps a b c d)
          have hAe := HP.out (by simp)
          subst hAe
          clear X HC IH HP
          go_wp2_with fail
          refine C1.out.mono ?_
          rintro e w2 ⟨A2, m2, cap2, rfl, rfl, S2, M2⟩
          clear C1
          go_wp2
          go_ret
          exact ⟨_, _, cap2, rfl, rfl, S2, BX.out.moved.trans M2⟩

end Go.Proofs.YtjmojjjgifkkiaaDoor
