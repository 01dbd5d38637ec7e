/-
  What the program's appendTree does: the steps of a tree that may be, behind others. Conditions: at most 1000 steps, 1000 nodes.
-/
import Derived.Test.YtonfmbnankihbaaDoorProg
import Derived.Test.YtonfmbnankihbaaDoorZ01
import Derived.Test.YtonfmbnankihbaaDoorZ02
import Derived.Test.YtonfmbnankihbaaDoorZ03
import Derived.Test.YtonfmbnankihbaaDoorZ06
import Derived.Test.YtonfmbnankihbaaDoorZ07
import Derived.Test.YtonfmbnankihbaaDoorZ09
import Derived.Test.YtonfmbnankihbaaDoorZ11
import Derived.Test.YtonfmbnankihbaaDoorZ12
import Derived.Test.YtonfmbnankihbaaDoorZ13
import Derived.Test.YtonfmbnankihbaaDoorZ14
import Derived.Test.YtonfmbnankihbaaDoorZ30
import Derived.Test.YtonfmbnankihbaaDoorZ31
import Derived.StillTailTactics
import Derived.WalkKit
import Derived.WalkSpells
import Derived.WalkLawsBesides
import Derived.Lib.Hide
import Derived.Below
import Derived.BigQuiet
import Derived.Lib.QuietBelow
import Derived.Laws.StructEq
import Derived.KernelRfl
import Derived.Deep.RegionHeld3
import Derived.Deep.LoopGhost
import Derived.Maps.AppendAt
import Derived.Laws.MakeOwn
import Derived.Laws.OwnMore
import Derived.OwnWalk
import Derived.Laws.AppendOwn
import Derived.Laws.CopyOwn
import Derived.Deep.QuietTactic
import Derived.Lib.Bytealg
import Derived.Laws.Externs
import Derived.Laws.ResultCell
import Derived.Deep.Cut
namespace Go.Proofs.YtonfmbnankihbaaDoor
open Go.RowKit

set_option maxRecDepth 100000 in
set_option maxHeartbeats 8000000 in
theorem tree_any : ∀ (m : Nat) (t : Rx) (base : Nat), m ≤ 1000 → Rx.count t ≤ m → Rx.isRex t = true → Lays 33 base t := by
  intro m
  induction m with
  | zero => intro t base _ hs; have := Rx.count_pos t; omega
  | succ m ih =>
    intro t base hm hcnt hr tv L A n cap w hL hn hb hx hs
    cases hx with
    | node op a b c d ks XA xcap blk off V hcap hA hp hq hc hk =>
      have hx := RxIn.node (Q := fun b => b < base) (w := w) op a b c d ks XA xcap blk off V hcap hA hp hq hc hk
      rw [Rx.count] at hcnt
      obtain ⟨hall, hop⟩ := Rx.isRex_cases hr
      have hsmall := Rx.len_count ks
      have hlow := hs.low
      have IH : Hid (∀ j, j < ks.length → Lays 33 base (Rx.nth ks j)) := fun j hj => ih _ base (by omega) (by have := Rx.nth_count hj; omega) (Rx.isAll_nth hall hj)
      have BX := Lib.hid (Boxed.of hb hs hx)
      have HC0 : Hid (∀ W v', Moved w (.slice A n cap) W v' → ∀ j, j < ks.length → (∀ i, i < 6 → W.cell? ⟨blk, off + j * 6 + i, none⟩ = some (V j i)) ∧ RxIn (fun b => b < base) W (val6 (V j)) (Rx.nth ks j)) := fun W v' hm j hj => by
        have hB : Below base w W := hm.below hb hlow
        exact ⟨fun i hi => (hB.cell (hq (by omega))).trans (hc j i hj hi), (hk j hj).low hB⟩
      have HC : Hid (∀ W v', Moved w (.slice A n cap) W v' → ∀ j, j < ks.length → ∃ op a b c d XA xn xcap, (W.cell? ⟨blk, off + j * 6, none⟩ = some (.int .i64 op) ∧ W.cell? ⟨blk, off + j * 6 + 1, none⟩ = some (.int .u64 ((a : Nat) : Int)) ∧ W.cell? ⟨blk, off + j * 6 + 2, none⟩ = some (.int .u64 ((b : Nat) : Int)) ∧ W.cell? ⟨blk, off + j * 6 + 3, none⟩ = some (.int .u64 ((c : Nat) : Int)) ∧ W.cell? ⟨blk, off + j * 6 + 4, none⟩ = some (.int .u64 ((d : Nat) : Int)) ∧ W.cell? ⟨blk, off + j * 6 + 5, none⟩ = some (.slice XA xn xcap)) ∧ RxIn (fun b => b < base) W (.agg #[.int .i64 op, .int .u64 (a : Int), .int .u64 (b : Int), .int .u64 (c : Int), .int .u64 (d : Int), .slice XA xn xcap]) (Rx.nth ks j)) := fun W v' hm j hj => by
        obtain ⟨c', X⟩ := HC0.out W v' hm j hj
        obtain ⟨op, xa, xb, xc, xd, XA, xn, xcap, e⟩ := X.form
        obtain ⟨e0, e1, e2, e3, e4, e5⟩ := val6_eq e
        refine ⟨op, xa, xb, xc, xd, XA, xn, xcap, ⟨?_, ?_, ?_, ?_, ?_, ?_⟩, by rw [← e]; exact X⟩
        · rw [← e0]; exact c' 0 (by omega)
        · rw [← e1]; exact c' 1 (by omega)
        · rw [← e2]; exact c' 2 (by omega)
        · rw [← e3]; exact c' 3 (by omega)
        · rw [← e4]; exact c' 4 (by omega)
        · rw [← e5]; exact c' 5 (by omega)
      have HP := Lib.hid hp
      have HQ := Lib.hid hq
      have hkl : ks.length ≤ 1000 := by omega
      have hsz := Lib.hid hn
      have htop := hs.top
      have hLL := Lib.hid hL
      have HW : Hid (1 ≤ ks.length → ∀ W, Moved w (.slice A n cap) W (.slice A n cap) → base ≤ W.heap.size → Steps base W (.slice A n cap) L → n + (Rx.szL ks + 2 * (ks.length - 1)) ≤ 1000 → Calls Tryd.prog 46 #[.slice A n cap, .slice (some ⟨blk, off, none⟩) ks.length xcap] W (LayPost base W (.slice A n cap) n L (Rx.ways n (n + (Rx.szL ks + 2 * (ks.length - 1))) ks))) := fun h1 W hM hbW hS hnn =>
        ways6_any base ks (fun j hj => IH.out j hj) h1 hkl blk off xcap hcap V L A n cap W hL hnn hbW (hq (by omega)) (fun j i hj hi => (HC0.out W _ hM j hj).1 i hi) (fun j hj => (HC0.out W _ hM j hj).2) hS
      have STP : Hid (∀ j, j < ks.length → Rx.layL n (ks.take (j + 1)) = Rx.layL n (ks.take j) ++ Rx.lay (n + Rx.szL (ks.take j)) (Rx.nth ks j) ∧ Rx.szL (ks.take (j + 1)) = Rx.szL (ks.take j) + Rx.sz (Rx.nth ks j) ∧ Rx.szL (ks.take j) + Rx.sz (Rx.nth ks j) ≤ Rx.szL ks) := fun j hj => ⟨Rx.layL_take hj n, Rx.szL_take hj, by have h1 := Rx.szL_take hj; have h2 := Rx.szL_sum ks (j + 1); omega⟩
      have PL : Hid (∀ j, (L ++ Rx.layL n (ks.take j)).length = n + Rx.szL (ks.take j)) := fun j => by rw [List.length_append, hL, Rx.layL_len]
      have LAYL := Lib.hid (fun m t => Rx.lay_len t m)
      clear hp hq hc hk ih hA hs hr hall hL hx HC0 hn hcnt hsmall
      go_enter Tryd.func33, Tryd.ntmps33
      go_upto_region 1 with fail
      have Z0 : base ≤ (w.alloc (.cells #[.int .i64 op, .int .u64 (a : Int), .int .u64 (b : Int), .int .u64 (c : Int), .int .u64 (d : Int), .slice XA ks.length xcap] 34)).heap.size := by have := BX.out.size; omega
      generalize w.alloc (.cells #[.int .i64 op, .int .u64 (a : Int), .int .u64 (b : Int), .int .u64 (c : Int), .int .u64 (d : Int), .slice XA ks.length xcap] 34) = w0 at *
      obtain ⟨⟨q0, q1, q2, q3, q4, q5⟩, _, _⟩ := Boxed.later BX.out hb htop hlow (Moved.refl _ _)
      have BM := Lib.hid BX.out.moved
      rcases hop with ⟨rfl, rfl⟩ | h2 | ⟨h3, h1⟩ | ⟨hopx, h1⟩
      · clear HC IH HP HQ HW STP PL q5
        go_wp2_with (at_builtin; go_must (refine wpList_appS rfl (.tmp 11) (.tmp 15) rfl base (.slice A n cap) L n ⟨1, a, b, c, d, 0, 0⟩ w0.heap.size rfl rfl rfl rfl BX.out.steps hLL.out (by have := hsz.out; omega) Z0 ?_); (intro g1 cap1 w1 S1 M1))
        go_ret
        exact ⟨_, n + 1, cap1, rfl, rfl, S1, BX.out.moved.trans M1⟩
      · subst h2
        clear HW HQ q1 q2 q3 q4
        have F2 : Hid (Rx.lay n (.mk 2 a b c d ks) = Rx.layL n ks ∧ Rx.sz (.mk 2 a b c d ks) = Rx.szL ks) := ⟨by simp [Rx.lay], by simp [Rx.sz]⟩
        have hsz2 : n + Rx.szL ks ≤ 1000 := by have := hsz.out; rw [F2.out.2] at this; exact this
        have H0 : Hid (Steps base w0 (.slice A n cap) (L ++ Rx.layL n (ks.take 0)) ∧ Moved w (.slice A n cap) w0 (.slice A n cap)) := ⟨by rw [List.take_zero, Rx.layL, List.append_nil]; exact BX.out.steps, BM.out⟩
        have TK := Lib.hid (List.take_length (l := ks))
        obtain ⟨N, hN⟩ : ∃ N, ks.length = N := ⟨_, rfl⟩
        obtain ⟨S, hS⟩ : ∃ S, Rx.szL ks = S := ⟨_, rfl⟩
        rw [hS] at STP hsz2
        rw [hN] at STP HC IH HP hkl hcap TK q5 ⊢
        clear hS hsz BX BM
        go_wp2_with fail
        go_loopw [0, 50] (fun l i wr => ∃ (k : Nat) (A1 : Option Addr) (m1 cap1 : Nat), k ≤ N ∧ l = .slice A1 m1 cap1 ∧ m1 = n + Rx.szL (ks.take k) ∧ i = .int .i64 (k : Int) ∧ Hid (Steps base wr (.slice A1 m1 cap1) (L ++ Rx.layL n (ks.take k)) ∧ Moved w (.slice A n cap) wr (.slice A1 m1 cap1))) (fun _ i _ => N - (intOf i).toNat)
        case atStart => exact ⟨0, A, n, cap, by omega, rfl, by simp [Rx.szL], rfl, H0.out⟩
        case round =>
          obtain ⟨k, A1, m1, cap1, hk, rfl, hm1, rfl, H⟩ := hrel
          clear H0
          by_cases hkN : k < N
          · have hkz : (k : Int) < (N : Int) := by omega
            have hAe := HP.out (by omega)
            subst hAe
            obtain ⟨opk, ka, kb, kc, kd, KA, kn, kcap, ⟨c0, c1, c2, c3, c4, c5⟩, X⟩ := HC.out wr _ H.out.2 k (by omega)
            have hwr : base ≤ wr.heap.size := by have := H.out.2.size; omega
            have BK := Lib.hid (Boxed.of hwr H.out.1 X)
            obtain ⟨E1, E2, E3⟩ := STP.out k (by omega)
            have P1 := PL.out k
            have ZL := LAYL.out m1 (Rx.nth ks k)
            rw [← hm1] at E1 P1
            have E1h := Lib.hid E1
            have E2h := Lib.hid E2
            have ZLh := Lib.hid ZL
            have HM := Lib.hid hm1
            have T1 := Lib.hid (IH.out k (by omega) _ _ A1 m1 cap1 _ P1 (by omega) (by have := BK.out.size; omega) BK.out.tree BK.out.steps)
            clear X HC IH HP STP PL LAYL E1 E2 E3 P1 ZL hm1 TK
            go_wp2_with fail
            refine T1.out.mono ?_
            rintro e w2 ⟨A2, m2, cap2, hm, rfl, S2, M2⟩
            rw [ZLh.out] at hm
            subst hm
            have H2 : Hid (Steps base w2 (.slice A2 (m1 + Rx.sz (Rx.nth ks k)) cap2) (L ++ Rx.layL n (ks.take (k + 1))) ∧ Moved w (.slice A n cap) w2 (.slice A2 (m1 + Rx.sz (Rx.nth ks k)) cap2)) := ⟨by rw [E1h.out, ← List.append_assoc]; exact S2, H.out.2.trans (BK.out.moved.trans M2)⟩
            clear S2 M2 T1 BK H c0 c1 c2 c3 c4 c5
            go_wp2
            go_roundw
            case rel => exact ⟨k + 1, A2, _, cap2, by omega, rfl, by rw [E2h.out]; have := HM.out; omega, by go_num, H2.out⟩
            case measure => simp [intOf]; omega
          · obtain rfl : k = N := by omega
            have hkz : ¬ (k : Int) < (k : Int) := by omega
            have HM := Lib.hid hm1
            clear HC IH HP hm1
            go_wp2
            go_ret
            have hm1 := HM.out
            have hS := H.out.1
            have hl := PL.out k
            rw [TK.out] at hS hm1 hl
            exact ⟨A1, m1, cap1, by rw [F2.out.1, Rx.layL_len]; exact hm1, rfl, by rw [F2.out.1]; exact hS, H.out.2⟩
      · subst h3
        clear HC IH STP PL q1 q2 q3 q4
        have hAe := HP.out (by omega)
        subst hAe
        have F3 : Hid (Rx.lay n (.mk 3 a b c d ks) = Rx.ways n (n + (Rx.szL ks + 2 * (ks.length - 1))) ks ∧ Rx.sz (.mk 3 a b c d ks) = Rx.szL ks + 2 * (ks.length - 1)) := ⟨by simp [Rx.lay], by simp [Rx.sz]⟩
        have C1 := Lib.hid (HW.out h1 w0 BM.out Z0 BX.out.steps (by have := hsz.out; rw [F3.out.2] at this; exact this))
        clear HW HP HQ hsz BM
        generalize ks.length = N at *
        go_wp2_with fail
        refine C1.out.mono ?_
        rintro e w2 ⟨A2, m2, cap2, rfl, rfl, S2, M2⟩
        clear C1
        go_wp2
        go_ret
        exact ⟨_, _, cap2, by rw [F3.out.1], rfl, by rw [F3.out.1]; exact S2, BX.out.moved.trans M2⟩
      · clear HW HQ STP PL q1 q2 q3 q4
        rcases hopx with ho | ho | ho
        · subst ho
          obtain ⟨k0, rfl⟩ := List.length_eq_one_iff.1 h1
          obtain ⟨opk, ka, kb, kc, kd, KA, kn, kcap, ⟨c0, c1, c2, c3, c4, c5⟩, X⟩ := HC.out w0 _ BM.out 0 (by simp)
          rw [Nat.zero_mul, Nat.add_zero] at c0 c1 c2 c3 c4 c5
          have C1 := Lib.hid (star_any base k0 (IH.out 0 (by simp)) _ L A n cap w0 hLL.out (by have := hsz.out; simp [Rx.sz, Rx.szL] at this; omega) Z0 X BX.out.steps a b c d)
          have hAe := HP.out (by simp)
          subst hAe
          clear X HC IH HP
          go_wp2_with fail
          refine C1.out.mono ?_
          rintro e w2 ⟨A2, m2, cap2, rfl, rfl, S2, M2⟩
          clear C1
          go_wp2
          go_ret
          exact ⟨_, _, cap2, rfl, rfl, S2, BX.out.moved.trans M2⟩
        · subst ho
          obtain ⟨k0, rfl⟩ := List.length_eq_one_iff.1 h1
          obtain ⟨opk, ka, kb, kc, kd, KA, kn, kcap, ⟨c0, c1, c2, c3, c4, c5⟩, X⟩ := HC.out w0 _ BM.out 0 (by simp)
          rw [Nat.zero_mul, Nat.add_zero] at c0 c1 c2 c3 c4 c5
          have C1 := Lib.hid (plus_any base k0 (IH.out 0 (by simp)) _ L A n cap w0 hLL.out (by have := hsz.out; simp [Rx.sz, Rx.szL] at this; omega) Z0 X BX.out.steps a b c d)
          have hAe := HP.out (by simp)
          subst hAe
          clear X HC IH HP
          go_wp2_with fail
          refine C1.out.mono ?_
          rintro e w2 ⟨A2, m2, cap2, rfl, rfl, S2, M2⟩
          clear C1
          go_wp2
          go_ret
          exact ⟨_, _, cap2, rfl, rfl, S2, BX.out.moved.trans M2⟩
        · subst ho
          obtain ⟨k0, rfl⟩ := List.length_eq_one_iff.1 h1
          obtain ⟨opk, ka, kb, kc, kd, KA, kn, kcap, ⟨c0, c1, c2, c3, c4, c5⟩, X⟩ := HC.out w0 _ BM.out 0 (by simp)
          rw [Nat.zero_mul, Nat.add_zero] at c0 c1 c2 c3 c4 c5
          have C1 := Lib.hid (maybe_any base k0 (IH.out 0 (by simp)) _ L A n cap w0 hLL.out (by have := hsz.out; simp [Rx.sz, Rx.szL] at this; omega) Z0 X BX.out.steps a b c d)
          have hAe := HP.out (by simp)
          subst hAe
          clear X HC IH HP
          go_wp2_with fail
          refine C1.out.mono ?_
          rintro e w2 ⟨A2, m2, cap2, rfl, rfl, S2, M2⟩
          clear C1
          go_wp2
          go_ret
          exact ⟨_, _, cap2, rfl, rfl, S2, BX.out.moved.trans M2⟩

end Go.Proofs.YtonfmbnankihbaaDoor
