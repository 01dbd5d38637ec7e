/-
  What the reference's lay does: the steps of a tree that may be, behind others. Conditions: at most 1000 steps, 1000 nodes.
-/
import Derived.Test.YtjnikeiboefnbaaProg
import Derived.Test.YtjnikeiboefnbaaEa
import Derived.Test.YtjnikeiboefnbaaEd
import Derived.Test.YtjnikeiboefnbaaEm
import Derived.Test.YtjnikeiboefnbaaEf
import Derived.Test.YtjnikeiboefnbaaJa
import Derived.Test.YtjnikeiboefnbaaJb
import Derived.Test.YtjnikeiboefnbaaHa
import Derived.Test.YtjnikeiboefnbaaHd
import Derived.Test.YtjnikeiboefnbaaHe
import Derived.Test.YtjnikeiboefnbaaJd
import Derived.Test.YtjnikeiboefnbaaJe
import Derived.Test.YtjnikeiboefnbaaJf
import Derived.Test.YtjnikeiboefnbaaJg
import Derived.Test.YtjnikeiboefnbaaJh
import Derived.Test.YtjnikeiboefnbaaHi
import Derived.Test.YtjnikeiboefnbaaUa
import Derived.Test.YtjnikeiboefnbaaUb
import Derived.Test.YtjnikeiboefnbaaUc
import Derived.Test.YtjnikeiboefnbaaUd
import Derived.Laws.AppendOwn
import Derived.Maps.AppendAt
import Derived.Deep.LoopGhost
import Derived.Deep.QuietTactic
import Derived.BigQuiet
import Derived.Lib.Bytealg
import Derived.Laws.Externs
import Derived.Laws.CopyOwn
import Derived.Laws.MakeOwn
import Derived.Laws.OwnMore
import Derived.OwnWalk
import Derived.StillTailTactics
import Derived.WalkKit
import Derived.WalkSpells
import Derived.WalkLawsBesides
import Derived.Lib.Hide
import Derived.Below
import Derived.Lib.QuietBelow
import Derived.Laws.StructEq
import Derived.KernelRfl
import Derived.Deep.RegionHeld3
import Derived.Deep.Cut
import Derived.Laws.ResultCell
namespace Go.Proofs.Ytjnikeiboefnbaa
open Go.RowKit

/-- A row of steps on its way. -/
structure Run (base : Nat) (w : World) (v : Value) (W : World) (V : Value) (L : List St) : Prop where
  steps : Steps base W V L
  moved : Moved w v W V
theorem Run.step {base : Nat} {w W W' : World} {v V V' : Value} {L L' : List St} (h : Run base w v W V L) (hm : Moved W V W' V') (hs : Steps base W' V' L') : Run base w v W' V' L' := ⟨hs, h.moved.trans hm⟩
theorem Run.grow {base : Nat} {w W W' : World} {v V : Value} {L : List St} (h : Run base w v W V L) (hb : Below W.heap.size W W') : Run base w v W' V L := ⟨h.steps.grow hb, h.moved.grow hb⟩

set_option maxRecDepth 100000 in
set_option maxHeartbeats 8000000 in
theorem rlay_any : ∀ (m : Nat) (t : Rx) (base : Nat), m ≤ 1000 → Rx.count t ≤ m → Rx.isRex t = true → Lays 23 base t := by
  intro m
  induction m with
  | zero => intro t base _ hs; have := Rx.count_pos t; omega
  | succ m ih =>
    intro t base hm hcnt hr tv L A n cap w hL hn hb hx hs
    cases hx with
    | node op a b c d ks XA xcap blk off V hcap hA hp hq hc hk =>
      have hx := RxIn.node (Q := fun b => b < base) (w := w) op a b c d ks XA xcap blk off V hcap hA hp hq hc hk
      rw [Rx.count] at hcnt
      obtain ⟨hall, hop⟩ := Rx.isRex_cases hr
      have hsmall := Rx.len_count ks
      have hlow := hs.low
      have IH : Hid (∀ j, j < ks.length → Lays 23 base (Rx.nth ks j)) := fun j hj => ih _ base (by omega) (by have := Rx.nth_count hj; omega) (Rx.isAll_nth hall hj)
      have BX := Lib.hid (Boxed.of hb hs hx)
      have HC0 : Hid (∀ W v', Moved w (.slice A n cap) W v' → ∀ j, j < ks.length → (∀ i, i < 6 → W.cell? ⟨blk, off + j * 6 + i, none⟩ = some (V j i)) ∧ RxIn (fun b => b < base) W (val6 (V j)) (Rx.nth ks j)) := fun W v' hm j hj => by
        have hB : Below base w W := hm.below hb hlow
        exact ⟨fun i hi => (hB.cell (hq (by omega))).trans (hc j i hj hi), (hk j hj).low hB⟩
      have HC : Hid (∀ W v', Moved w (.slice A n cap) W v' → ∀ j, j < ks.length → ∃ op a b c d XA xn xcap, (W.cell? ⟨blk, off + j * 6, none⟩ = some (.int .i64 op) ∧ W.cell? ⟨blk, off + j * 6 + 1, none⟩ = some (.int .u64 ((a : Nat) : Int)) ∧ W.cell? ⟨blk, off + j * 6 + 2, none⟩ = some (.int .u64 ((b : Nat) : Int)) ∧ W.cell? ⟨blk, off + j * 6 + 3, none⟩ = some (.int .u64 ((c : Nat) : Int)) ∧ W.cell? ⟨blk, off + j * 6 + 4, none⟩ = some (.int .u64 ((d : Nat) : Int)) ∧ W.cell? ⟨blk, off + j * 6 + 5, none⟩ = some (.slice XA xn xcap)) ∧ RxIn (fun b => b < base) W (.agg #[.int .i64 op, .int .u64 (a : Int), .int .u64 (b : Int), .int .u64 (c : Int), .int .u64 (d : Int), .slice XA xn xcap]) (Rx.nth ks j)) := fun W v' hm j hj => by
        obtain ⟨c', X⟩ := HC0.out W v' hm j hj
        obtain ⟨op, xa, xb, xc, xd, XA, xn, xcap, e⟩ := X.form
        obtain ⟨e0, e1, e2, e3, e4, e5⟩ := val6_eq e
        refine ⟨op, xa, xb, xc, xd, XA, xn, xcap, ⟨?_, ?_, ?_, ?_, ?_, ?_⟩, by rw [← e]; exact X⟩
        · rw [← e0]; exact c' 0 (by omega)
        · rw [← e1]; exact c' 1 (by omega)
        · rw [← e2]; exact c' 2 (by omega)
        · rw [← e3]; exact c' 3 (by omega)
        · rw [← e4]; exact c' 4 (by omega)
        · rw [← e5]; exact c' 5 (by omega)
      have HP := Lib.hid hp
      have HQ := Lib.hid hq
      have hkl : ks.length ≤ 1000 := by omega
      have hsz := Lib.hid hn
      have htop := hs.top
      have hLL := Lib.hid hL
      have SZ : Hid (∀ W v', Moved w (.slice A n cap) W v' → ∀ j, j < ks.length → ∀ v, RxIn (fun b => b < base) W v (Rx.nth ks j) → Calls Try.prog 26 #[v] W fun e w' => e = .returned (.int .i64 (Rx.sz (Rx.nth ks j) : Int)) ∧ Below W.heap.size W w') := fun W v' hm j hj v hX => rsize_any 1000 _ v W (Nat.le_refl _) (by have := Rx.nth_count hj; omega) (Rx.isAll_nth hall hj) hX.is
      have SX : Hid (∀ W, RxIn (fun b => b < base) W (.agg #[.int .i64 op, .int .u64 (a : Int), .int .u64 (b : Int), .int .u64 (c : Int), .int .u64 (d : Int), .slice XA ks.length xcap]) (.mk op a b c d ks) → Calls Try.prog 26 #[.agg #[.int .i64 op, .int .u64 (a : Int), .int .u64 (b : Int), .int .u64 (c : Int), .int .u64 (d : Int), .slice XA ks.length xcap]] W fun e w' => e = .returned (.int .i64 (Rx.sz (.mk op a b c d ks) : Int)) ∧ Below W.heap.size W w') := fun W hX => rsize_any 1000 _ _ W (Nat.le_refl _) (by rw [Rx.count]; omega) hr hX.is
      have STP : Hid (∀ j, j < ks.length → Rx.layL n (ks.take (j + 1)) = Rx.layL n (ks.take j) ++ Rx.lay (n + Rx.szL (ks.take j)) (Rx.nth ks j) ∧ Rx.szL (ks.take (j + 1)) = Rx.szL (ks.take j) + Rx.sz (Rx.nth ks j) ∧ Rx.szL (ks.take j) + Rx.sz (Rx.nth ks j) ≤ Rx.szL ks) := fun j hj => ⟨Rx.layL_take hj n, Rx.szL_take hj, by have h1 := Rx.szL_take hj; have h2 := Rx.szL_sum ks (j + 1); omega⟩
      have PL : Hid (∀ j, (L ++ Rx.layL n (ks.take j)).length = n + Rx.szL (ks.take j)) := fun j => by rw [List.length_append, hL, Rx.layL_len]
      have LAYL := Lib.hid (fun m t => Rx.lay_len t m)
      clear hp hq hc hk ih hA hs hr hall hL hx HC0 hn hcnt hsmall
      go_enter Try.func23, Try.ntmps23
      go_upto_region 1 with fail
      have Z0 : base ≤ (w.alloc (.cells #[.int .i64 op, .int .u64 (a : Int), .int .u64 (b : Int), .int .u64 (c : Int), .int .u64 (d : Int), .slice XA ks.length xcap] 26)).heap.size := by have := BX.out.size; omega
      generalize w.alloc (.cells #[.int .i64 op, .int .u64 (a : Int), .int .u64 (b : Int), .int .u64 (c : Int), .int .u64 (d : Int), .slice XA ks.length xcap] 26) = w0 at *
      have LT := Lib.hid (fun W V => Boxed.later (W := W) (V := V) BX.out hb htop hlow)
      have HD : Hid (∀ W v', Moved w0 (.slice A n cap) W v' → Moved w (.slice A n cap) W v') := fun W v' h => BX.out.moved.trans h
      have R0 : Hid (Run base w0 (.slice A n cap) w0 (.slice A n cap) L) := ⟨BX.out.steps, Moved.refl _ _⟩
      obtain ⟨⟨q0, q1, q2, q3, q4, q5⟩, _, _⟩ := LT.out _ _ (Moved.refl _ _)
      rcases hop with ⟨rfl, rfl⟩ | h2 | ⟨h3, h1⟩ | ⟨hopx, h1⟩
      · clear HC IH HP HQ STP PL q5 LT SZ SX HD
        go_wp2_with (at_builtin; go_must (refine wpList_appS rfl (.tmp 16) (.tmp 20) rfl base (.slice A n cap) L n ⟨1, a, b, c, d, 0, 0⟩ w0.heap.size rfl rfl rfl rfl BX.out.steps hLL.out (by have := hsz.out; omega) Z0 ?_); (intro g1 cap1 w1 S1 M1))
        go_ret
        exact ⟨_, n + 1, cap1, rfl, rfl, S1, BX.out.moved.trans M1⟩
      · subst h2
        clear HQ q1 q2 q3 q4 SZ SX
        have F2 : Hid (Rx.lay n (.mk 2 a b c d ks) = Rx.layL n ks ∧ Rx.sz (.mk 2 a b c d ks) = Rx.szL ks) := ⟨by simp [Rx.lay], by simp [Rx.sz]⟩
        have hsz2 : n + Rx.szL ks ≤ 1000 := by have := hsz.out; rw [F2.out.2] at this; exact this
        have H0 : Hid (Run base w0 (.slice A n cap) w0 (.slice A n cap) (L ++ Rx.layL n (ks.take 0))) := by rw [List.take_zero, Rx.layL, List.append_nil]; exact R0.out
        have TK := Lib.hid (List.take_length (l := ks))
        obtain ⟨N, hN⟩ : ∃ N, ks.length = N := ⟨_, rfl⟩
        obtain ⟨S, hS⟩ : ∃ S, Rx.szL ks = S := ⟨_, rfl⟩
        rw [hS] at STP hsz2
        rw [hN] at STP HC IH HP hkl hcap TK q5 LT ⊢
        clear hS hsz R0 q5
        go_wp2_with fail
        go_loopw [0, 6] (fun l i wr => ∃ (k : Nat) (A1 : Option Addr) (m1 cap1 : Nat), k ≤ N ∧ l = .slice A1 m1 cap1 ∧ m1 = n + Rx.szL (ks.take k) ∧ i = .int .i64 (k : Int) ∧ Hid (Run base w0 (.slice A n cap) wr (.slice A1 m1 cap1) (L ++ Rx.layL n (ks.take k)))) (fun _ i _ => N - (intOf i).toNat)
        case atStart => exact ⟨0, A, n, cap, by omega, rfl, by simp [Rx.szL], rfl, H0.out⟩
        case round =>
          obtain ⟨k, A1, m1, cap1, hk, rfl, hm1, rfl, H⟩ := hrel
          obtain ⟨⟨q0, q1, q2, q3, q4, q5⟩, _, hwr⟩ := LT.out _ _ H.out.moved
          clear H0 q0 q1 q2 q3 q4
          by_cases hkN : k < N
          · have hkz : (k : Int) < (N : Int) := by omega
            have hAe := HP.out (by omega)
            subst hAe
            obtain ⟨opk, ka, kb, kc, kd, KA, kn, kcap, ⟨c0, c1, c2, c3, c4, c5⟩, X⟩ := HC.out wr _ (HD.out _ _ H.out.moved) k (by omega)
            obtain ⟨E1, E2, E3⟩ := STP.out k (by omega)
            have P1 := PL.out k
            have ZL := LAYL.out m1 (Rx.nth ks k)
            rw [← hm1] at E1 P1
            have E1h := Lib.hid E1
            have E2h := Lib.hid E2
            have ZLh := Lib.hid ZL
            have HM := Lib.hid hm1
            have T1 := Lib.hid (IH.out k (by omega) _ _ A1 m1 cap1 _ P1 (by omega) hwr X H.out.steps)
            clear X HC IH HP STP PL LAYL E1 E2 E3 P1 ZL hm1 TK LT HD
            go_wp2_with fail
            refine T1.out.mono ?_
            rintro e w2 ⟨A2, m2, cap2, hm, rfl, S2, M2⟩
            rw [ZLh.out] at hm
            subst hm
            have H2 : Hid (Run base w0 (.slice A n cap) w2 (.slice A2 (m1 + Rx.sz (Rx.nth ks k)) cap2) (L ++ Rx.layL n (ks.take (k + 1)))) := H.out.step M2 (by rw [E1h.out, ← List.append_assoc]; exact S2)
            clear S2 M2 T1 H c0 c1 c2 c3 c4 c5 q5
            go_wp2
            go_roundw
            case rel => exact ⟨k + 1, A2, _, cap2, by omega, rfl, by rw [E2h.out]; have := HM.out; omega, by go_num, H2.out⟩
            case measure => simp [intOf]; omega
          · obtain rfl : k = N := by omega
            have hkz : ¬ (k : Int) < (k : Int) := by omega
            have HM := Lib.hid hm1
            clear HC IH HP hm1
            go_wp2
            go_ret
            have hm1 := HM.out
            have hS := H.out.steps
            rw [TK.out] at hS hm1
            exact ⟨A1, m1, cap1, by rw [F2.out.1, Rx.layL_len]; exact hm1, rfl, by rw [F2.out.1]; exact hS, BX.out.moved.trans H.out.moved⟩
      · subst h3
        clear q0 q1 q2 q3 q4 q5 STP PL
        have hAe := HP.out (by omega)
        subst hAe
        obtain ⟨N, hN⟩ : ∃ N, ks.length = N + 1 := ⟨ks.length - 1, by omega⟩
        obtain ⟨T, hT⟩ : ∃ T, Rx.szL ks + 2 * N = T := ⟨_, rfl⟩
        have F3 : Hid (Rx.lay n (.mk 3 a b c d ks) = Rx.ways n (n + T) ks ∧ Rx.sz (.mk 3 a b c d ks) = T) := ⟨by simp [Rx.lay, hN, hT], by simp [Rx.sz, hN, hT]⟩
        have hnT : n + T ≤ 1000 := by have := hsz.out; rw [F3.out.2] at this; exact this
        have SUM : Hid (∀ j, j < N → Rx.szW (ks.take j) + 2 + Rx.sz (Rx.nth ks j) ≤ T) := fun j hj => by
          have h1 := Rx.szL_take (ks := ks) (j := j) (by omega)
          have h2 := Rx.szL_sum ks (j + 1)
          have h3 : (ks.take j).length = j := by rw [List.length_take]; omega
          rw [Rx.szW_eq, h3]
          omega
        have LAST : Hid (Rx.szW (ks.take N) + Rx.sz (Rx.nth ks N) = T) := by
          have h1 := Rx.szL_take (ks := ks) (j := N) (by omega)
          rw [show N + 1 = ks.length by omega, List.take_length] at h1
          show _ = _
          have h3 : (ks.take N).length = N := by rw [List.length_take]; omega
          rw [Rx.szW_eq, h3]
          omega
        have STEP : Hid (∀ j, j < N → Rx.pre (fun _ => n + T) n 0 (ks.take (j + 1)) = Rx.pre (fun _ => n + T) n 0 (ks.take j) ++ St.split (n + Rx.szW (ks.take j) + 1) (n + Rx.szW (ks.take j) + 2 + Rx.sz (Rx.nth ks j)) :: (Rx.lay (n + Rx.szW (ks.take j) + 1) (Rx.nth ks j) ++ [St.jump (n + T)]) ∧ Rx.szW (ks.take (j + 1)) = Rx.szW (ks.take j) + 2 + Rx.sz (Rx.nth ks j)) := fun j hj => by
          rw [Rx.take_nth (by omega), Rx.pre_snoc, Rx.szW_app]
          exact ⟨rfl, by simp [Rx.szW]; omega⟩
        have PW : Hid (∀ j, (L ++ Rx.pre (fun _ => n + T) n 0 (ks.take j)).length = n + Rx.szW (ks.take j)) := fun j => by rw [List.length_append, hLL.out, Rx.pre_len]
        have WE : Hid (Rx.ways n (n + T) ks = Rx.pre (fun _ => n + T) n 0 (ks.take N) ++ Rx.lay (n + Rx.szW (ks.take N)) (Rx.nth ks N)) := by
          have := Rx.ways_eq (ks := ks) (by omega) n (n + T)
          rw [hN, Nat.add_sub_cancel] at this
          exact this
        have C0 := Lib.hid (SX.out w0 BX.out.tree)
        rw [F3.out.2] at C0
        rw [hN] at IH HC HP HQ hkl hcap LT SZ C0 ⊢
        clear SX HP HQ hsz hN hT h1
        obtain ⟨⟨q0, q1, q2, q3, q4, q5⟩, _, _⟩ := LT.out _ _ (Moved.refl _ _)
        go_wp2_with fail
        refine C0.out.mono ?_
        rintro e w1 ⟨rfl, b1⟩
        have R1 := Lib.hid (R0.out.grow b1)
        have H0 : Hid (Run base w0 (.slice A n cap) w1 (.slice A n cap) (L ++ Rx.pre (fun _ => n + T) n 0 (ks.take 0))) := by rw [List.take_zero, Rx.pre, List.append_nil]; exact R1.out
        clear b1 C0 q0 q1 q2 q3 q4 q5 R0 R1
        go_wp2_with fail
        go_loopw [0, 8] (fun l i wr => ∃ (k : Nat) (A1 : Option Addr) (m1 cap1 : Nat), k ≤ N ∧ l = .slice A1 m1 cap1 ∧ m1 = n + Rx.szW (ks.take k) ∧ i = .int .i64 (k : Int) ∧ Hid (Run base w0 (.slice A n cap) wr (.slice A1 m1 cap1) (L ++ Rx.pre (fun _ => n + T) n 0 (ks.take k)))) (fun _ i _ => N - (intOf i).toNat)
        case atStart => exact ⟨0, A, n, cap, by omega, rfl, by simp [Rx.szW], rfl, H0.out⟩
        case round =>
          obtain ⟨k, A1, m1, cap1, hk, rfl, hm1, rfl, H⟩ := hrel
          obtain ⟨⟨q0, q1, q2, q3, q4, q5⟩, _, hwr⟩ := LT.out _ _ H.out.moved
          clear H0 q0 q1 q2 q3 q4
          obtain ⟨opk, ka, kb, kc, kd, KA, kn, kcap, ⟨c0, c1, c2, c3, c4, c5⟩, X⟩ := HC.out wr _ (HD.out _ _ H.out.moved) k (by omega)
          have T1 := Lib.hid (IH.out k (by omega))
          have P1 := Lib.hid (PW.out k)
          obtain ⟨K, hK⟩ : ∃ K, Rx.szW (ks.take k) = K := ⟨_, rfl⟩
          obtain ⟨Z, hZ⟩ : ∃ Z, Rx.sz (Rx.nth ks k) = Z := ⟨_, rfl⟩
          by_cases hkN : k < N
          · have hkz : (k : Int) < (N : Int) := by omega
            have CS := Lib.hid (SZ.out wr _ (HD.out _ _ H.out.moved) k (by omega) _ X)
            have hsum := SUM.out k hkN
            obtain ⟨E1, E2⟩ := STEP.out k hkN
            have ZL := Lib.hid (LAYL.out (m1 + 1) (Rx.nth ks k))
            rw [hZ] at CS ZL E1 E2 hsum
            rw [hK] at hm1 P1 E1 E2 hsum
            rw [← hm1] at P1 E1
            have EQ1 := Lib.hid E1
            have EQ2 := Lib.hid E2
            have hm2 : m1 + Z + 2 ≤ 1000 := by omega
            have HM := Lib.hid hm1
            clear E1 E2 SUM LAST STEP PW WE LAYL IH SZ X hsum hm1 hK
            go_wp2_with fail
            refine CS.out.mono ?_
            rintro e w1 ⟨rfl, b1⟩
            have H1 := Lib.hid (H.out.grow b1)
            obtain ⟨⟨_, _, _, _, _, q5'⟩, _, hw1⟩ := LT.out _ _ H1.out.moved
            clear b1 CS H q5 c0 c1 c2 c3 c4 c5 hwr
            have q5 := q5'
            clear q5'
            go_wp2_with (at_builtin; go_must (refine wpList_appS rfl (.tmp 55) (.tmp 68) rfl base (.slice A1 m1 cap1) _ m1 (St.split (m1 + 1) (m1 + 2 + Z)) w1.heap.size rfl rfl rfl (by simp [cells7, St.split]) H1.out.steps P1.out (by omega) hw1 ?_); (intro g2 cap2 w2 S2 M2); (have H2 := Lib.hid (H1.out.step M2 S2)); (clear M2 S2 q5); (obtain ⟨⟨_, _, _, _, _, q5⟩, _, hw2⟩ := LT.out _ _ H2.out.moved); (obtain ⟨opk, ka, kb, kc, kd, KA, kn, kcap, ⟨c0, c1, c2, c3, c4, c5⟩, X⟩ := HC.out w2 _ (HD.out _ _ H2.out.moved) k (by omega)); (replace X := Lib.hid X))
            refine (T1.out _ _ _ _ _ _ (by rw [List.length_append, P1.out]; rfl) (by rw [hZ]; omega) hw2 X.out H2.out.steps).mono ?_
            rintro e w3 ⟨A3, m3, cap3, hm, rfl, S3, M3⟩
            rw [ZL.out] at hm
            subst hm
            have H3 := Lib.hid (H2.out.step M3 S3)
            have L3 : Hid ((L ++ Rx.pre (fun _ => n + T) n 0 (ks.take k) ++ [St.split (m1 + 1) (m1 + 2 + Z)] ++ Rx.lay (m1 + 1) (Rx.nth ks k)).length = m1 + 1 + Z) := by show _ = _; rw [List.length_append, List.length_append, P1.out, ZL.out]; rfl
            have hw3 : base ≤ w3.heap.size := by have := M3.size; omega
            clear S3 M3 T1 X H2 H1 c0 c1 c2 c3 c4 c5 q5
            go_wp2_with (at_builtin; go_must (refine wpList_appS rfl (.tmp 76) (.tmp 79) rfl base _ _ (m1 + 1 + Z) (St.jump (n + T)) w3.heap.size rfl rfl rfl (by simp [cells7, St.jump]) H3.out.steps L3.out (by omega) hw3 ?_); (intro g4 cap4 w4 S4 M4); (have H4 := H3.out.step M4 S4); (simp only [List.append_assoc, List.cons_append, List.nil_append] at H4); (replace H4 := Lib.hid H4); (clear M4 S4))
            refine ⟨⟨k + 1, some ⟨g4, 0, none⟩, m1 + 1 + Z + 1, cap4, by omega, rfl, by rw [EQ2.out]; have := HM.out; omega, by go_num, ?_⟩, by simp [intOf]; omega⟩
            rw [EQ1.out]
            exact H4.out
          · obtain rfl : k = N := by omega
            have hkz : ¬ (k : Int) < (k : Int) := by omega
            have hlast := LAST.out
            have ZL := Lib.hid (LAYL.out m1 (Rx.nth ks k))
            rw [hZ] at ZL hlast
            rw [hK] at hm1 P1 WE hlast
            rw [← hm1] at P1 WE
            have HM : Hid (n + T = m1 + Z) := by show _ = _; omega
            have hm2 : m1 + Z ≤ 1000 := by omega
            have WL : Hid ((Rx.ways n (n + T) ks).length = T) := by have := Rx.lay_len (.mk 3 a b c d ks) n; rw [F3.out.1, F3.out.2] at this; exact this
            have T2 := Lib.hid (T1.out _ _ _ _ cap1 _ P1.out (by rw [hZ]; omega) hwr X H.out.steps)
            clear hm1 hlast SUM LAST STEP PW LAYL IH SZ X T1 HC hK
            go_wp2_with fail
            refine T2.out.mono ?_
            rintro e w2 ⟨A2, m2, cap2, hm, rfl, S2, M2⟩
            rw [ZL.out] at hm
            subst hm
            clear T2 c0 c1 c2 c3 c4 c5 q5
            go_wp2
            go_ret
            refine ⟨A2, m1 + Z, cap2, by rw [F3.out.1, WL.out]; have := HM.out; omega, rfl, ?_, BX.out.moved.trans (H.out.moved.trans M2)⟩
            rw [F3.out.1, WE.out, ← List.append_assoc]
            exact S2
      · clear STP PL q1 q2 q3 q4 SX
        obtain ⟨k0, rfl⟩ := List.length_eq_one_iff.1 h1
        have hAe := HP.out (by simp)
        subst hAe
        have HC0 : Hid (∀ W v', Moved w0 (.slice A n cap) W v' → ∃ op a b c d XA xn xcap, (W.cell? ⟨blk, off, none⟩ = some (.int .i64 op) ∧ W.cell? ⟨blk, off + 1, none⟩ = some (.int .u64 ((a : Nat) : Int)) ∧ W.cell? ⟨blk, off + 2, none⟩ = some (.int .u64 ((b : Nat) : Int)) ∧ W.cell? ⟨blk, off + 3, none⟩ = some (.int .u64 ((c : Nat) : Int)) ∧ W.cell? ⟨blk, off + 4, none⟩ = some (.int .u64 ((d : Nat) : Int)) ∧ W.cell? ⟨blk, off + 5, none⟩ = some (.slice XA xn xcap)) ∧ RxIn (fun b => b < base) W (.agg #[.int .i64 op, .int .u64 (a : Int), .int .u64 (b : Int), .int .u64 (c : Int), .int .u64 (d : Int), .slice XA xn xcap]) k0) := fun W v' hm => by
          have := HC.out W v' (HD.out W v' hm) 0 (by simp)
          rw [Nat.zero_mul, Nat.add_zero] at this
          exact this
        have T1 := Lib.hid (IH.out 0 (by simp))
        have SZ0 := Lib.hid (fun W v' hm => SZ.out W v' hm 0 (by simp))
        obtain ⟨Z, hZ⟩ : ∃ Z, Rx.sz k0 = Z := ⟨_, rfl⟩
        have n0 : Rx.nth [k0] 0 = k0 := rfl
        rw [n0] at T1 SZ0
        rw [hZ] at SZ0
        have ZL := Lib.hid (fun m => LAYL.out m k0)
        rw [hZ] at ZL
        clear HC HP HQ IH SZ LAYL n0
        simp only [List.length_singleton] at *
        rcases hopx with ho | ho | ho
        · subst ho
          have FN : Hid (Rx.lay n (.mk 4 a b c d [k0]) = [St.split (n + 1) (n + 2 + Z)] ++ Rx.lay (n + 1) k0 ++ [St.jump n] ∧ (Rx.lay n (.mk 4 a b c d [k0])).length = Z + 2) := ⟨by simp [Rx.lay, Rx.layL, Rx.szL, hZ], by rw [Rx.lay_len]; simp [Rx.sz, Rx.szL, hZ]⟩
          have hnZ : n + Z + 2 ≤ 1000 := by have := hsz.out; simp [Rx.sz, Rx.szL, hZ] at this; omega
          obtain ⟨opk, ka, kb, kc, kd, KA, kn, kcap, ⟨c0, c1, c2, c3, c4, c5⟩, X⟩ := HC0.out w0 _ (Moved.refl _ _)
          have CS := Lib.hid (SZ0.out w0 _ BX.out.moved _ X)
          clear X hsz
          go_wp2_with fail
          refine CS.out.mono ?_
          rintro e w1 ⟨rfl, b1⟩
          have H1 := Lib.hid (R0.out.grow b1)
          clear b1 CS q0 q5 c0 c1 c2 c3 c4 c5
          obtain ⟨⟨_, _, _, _, _, q5⟩, _, hw1⟩ := LT.out _ _ H1.out.moved
          go_wp2_with (at_builtin; go_must (refine wpList_appS rfl (.tmp 93) (.tmp 105) rfl base (.slice A n cap) _ n (St.split (n + 1) (n + 2 + Z)) w1.heap.size rfl rfl rfl (by simp [cells7, St.split]) H1.out.steps hLL.out (by omega) hw1 ?_); (intro g2 cap2 w2 S2 M2); (have H2 := Lib.hid (H1.out.step M2 S2)); (clear M2 S2 q5); (obtain ⟨⟨_, _, _, _, _, q5⟩, _, hw2⟩ := LT.out _ _ H2.out.moved); (obtain ⟨opk, ka, kb, kc, kd, KA, kn, kcap, ⟨c0, c1, c2, c3, c4, c5⟩, X⟩ := HC0.out w2 _ H2.out.moved); (replace X := Lib.hid X))
          refine (T1.out _ _ _ _ _ _ (by rw [List.length_append, hLL.out]; rfl) (by rw [hZ]; omega) hw2 X.out H2.out.steps).mono ?_
          rintro e w3 ⟨A3, m3, cap3, hm, rfl, S3, M3⟩
          rw [ZL.out] at hm
          subst hm
          have H3 := Lib.hid (H2.out.step M3 S3)
          have L3 : Hid ((L ++ [St.split (n + 1) (n + 2 + Z)] ++ Rx.lay (n + 1) k0).length = n + 1 + Z) := by show _ = _; rw [List.length_append, List.length_append, hLL.out, ZL.out]; rfl
          have hw3 : base ≤ w3.heap.size := by have := M3.size; omega
          clear S3 M3 T1 X H2 H1 c0 c1 c2 c3 c4 c5 q5
          go_wp2_with (at_builtin; go_must (refine wpList_appS rfl (.tmp 112) (.tmp 115) rfl base _ _ (n + 1 + Z) (St.jump n) w3.heap.size rfl rfl rfl (by simp [cells7, St.jump]) H3.out.steps L3.out (by omega) hw3 ?_); (intro g4 cap4 w4 S4 M4); (have H4 := Lib.hid (H3.out.step M4 S4)); (clear M4 S4))
          go_ret
          refine ⟨_, n + 1 + Z + 1, cap4, by rw [FN.out.2]; omega, rfl, ?_, BX.out.moved.trans H4.out.moved⟩
          rw [FN.out.1, ← List.append_assoc, ← List.append_assoc]
          exact H4.out.steps
        · subst ho
          have FN : Hid (Rx.lay n (.mk 5 a b c d [k0]) = Rx.lay n k0 ++ [St.split n (n + Z + 1)] ∧ (Rx.lay n (.mk 5 a b c d [k0])).length = Z + 1) := ⟨by simp [Rx.lay, Rx.layL, Rx.szL, hZ], by rw [Rx.lay_len]; simp [Rx.sz, Rx.szL, hZ]⟩
          have hnZ : n + Z + 1 ≤ 1000 := by have := hsz.out; simp [Rx.sz, Rx.szL, hZ] at this; omega
          obtain ⟨opk, ka, kb, kc, kd, KA, kn, kcap, ⟨c0, c1, c2, c3, c4, c5⟩, X⟩ := HC0.out w0 _ (Moved.refl _ _)
          have T2 := Lib.hid (T1.out _ _ _ _ cap _ hLL.out (by rw [hZ]; omega) Z0 X BX.out.steps)
          clear X hsz SZ0 T1 HC0
          go_wp2_with fail
          refine T2.out.mono ?_
          rintro e w2 ⟨A2, m2, cap2, hm, rfl, S2, M2⟩
          rw [ZL.out] at hm
          subst hm
          have H2 := Lib.hid (R0.out.step M2 S2)
          have L2 : Hid ((L ++ Rx.lay n k0).length = n + Z) := by show _ = _; rw [List.length_append, hLL.out, ZL.out]
          have hw2 : base ≤ w2.heap.size := by have := M2.size; omega
          clear S2 M2 T2 c0 c1 c2 c3 c4 c5 q5 q0
          go_wp2_with (at_builtin; go_must (refine wpList_appS rfl (.tmp 125) (.tmp 131) rfl base _ _ (n + Z) (St.split n (n + Z + 1)) w2.heap.size rfl rfl rfl (by simp [cells7, St.split]) H2.out.steps L2.out (by omega) hw2 ?_); (intro g4 cap4 w4 S4 M4); (have H4 := Lib.hid (H2.out.step M4 S4)); (clear M4 S4))
          go_ret
          refine ⟨_, n + Z + 1, cap4, by rw [FN.out.2]; omega, rfl, ?_, BX.out.moved.trans H4.out.moved⟩
          rw [FN.out.1, ← List.append_assoc]
          exact H4.out.steps
        · subst ho
          have FN : Hid (Rx.lay n (.mk 6 a b c d [k0]) = [St.split (n + 1) (n + 1 + Z)] ++ Rx.lay (n + 1) k0 ∧ (Rx.lay n (.mk 6 a b c d [k0])).length = Z + 1) := ⟨by simp [Rx.lay, Rx.layL, Rx.szL, hZ], by rw [Rx.lay_len]; simp [Rx.sz, Rx.szL, hZ]⟩
          have hnZ : n + Z + 1 ≤ 1000 := by have := hsz.out; simp [Rx.sz, Rx.szL, hZ] at this; omega
          obtain ⟨opk, ka, kb, kc, kd, KA, kn, kcap, ⟨c0, c1, c2, c3, c4, c5⟩, X⟩ := HC0.out w0 _ (Moved.refl _ _)
          have CS := Lib.hid (SZ0.out w0 _ BX.out.moved _ X)
          clear X hsz
          go_wp2_with fail
          refine CS.out.mono ?_
          rintro e w1 ⟨rfl, b1⟩
          have H1 := Lib.hid (R0.out.grow b1)
          clear b1 CS q0 q5 c0 c1 c2 c3 c4 c5
          obtain ⟨⟨_, _, _, _, _, q5⟩, _, hw1⟩ := LT.out _ _ H1.out.moved
          go_wp2_with (at_builtin; go_must (refine wpList_appS rfl (.tmp 133) (.tmp 145) rfl base (.slice A n cap) _ n (St.split (n + 1) (n + 1 + Z)) w1.heap.size rfl rfl rfl (by simp [cells7, St.split]) H1.out.steps hLL.out (by omega) hw1 ?_); (intro g2 cap2 w2 S2 M2); (have H2 := Lib.hid (H1.out.step M2 S2)); (clear M2 S2 q5); (obtain ⟨⟨_, _, _, _, _, q5⟩, _, hw2⟩ := LT.out _ _ H2.out.moved); (obtain ⟨opk, ka, kb, kc, kd, KA, kn, kcap, ⟨c0, c1, c2, c3, c4, c5⟩, X⟩ := HC0.out w2 _ H2.out.moved); (replace X := Lib.hid X))
          refine (T1.out _ _ _ _ _ _ (by rw [List.length_append, hLL.out]; rfl) (by rw [hZ]; omega) hw2 X.out H2.out.steps).mono ?_
          rintro e w3 ⟨A3, m3, cap3, hm, rfl, S3, M3⟩
          rw [ZL.out] at hm
          subst hm
          clear c0 c1 c2 c3 c4 c5 q5 T1
          go_wp2
          go_ret
          refine ⟨A3, n + 1 + Z, cap3, by rw [FN.out.2]; omega, rfl, ?_, BX.out.moved.trans (H2.out.moved.trans M3)⟩
          rw [FN.out.1, ← List.append_assoc]
          exact S3

end Go.Proofs.Ytjnikeiboefnbaa
