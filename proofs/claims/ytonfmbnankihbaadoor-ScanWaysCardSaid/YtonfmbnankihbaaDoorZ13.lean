/-
  What the program's isNode and Is do: may a tree be? Conditions: at most 1000 nodes.
-/
import Derived.Test.YtonfmbnankihbaaDoorProg
import Derived.Test.YtonfmbnankihbaaDoorZ01
import Derived.Test.YtonfmbnankihbaaDoorZ03
import Derived.Test.YtonfmbnankihbaaDoorZ02
import Derived.Deep.RegionHeld3
import Derived.Laws.MakeOwn
import Derived.Laws.OwnMore
import Derived.OwnWalk
import Derived.WalkKit
import Derived.WalkSpells
import Derived.WalkLawsBesides
import Derived.Lib.Hide
import Derived.Below
import Derived.BigQuiet
import Derived.Lib.QuietBelow
import Derived.Laws.StructEq
import Derived.KernelRfl
namespace Go.Proofs.YtonfmbnankihbaaDoor
open Go.RowKit Go.Sort

theorem set_neq4 (a b c d a' b' c' d' : Int) : ∀ W, (binOp .neq 31 (.agg #[.int .u64 a, .int .u64 b, .int .u64 c, .int .u64 d]) (.agg #[.int .u64 a', .int .u64 b', .int .u64 c', .int .u64 d'])).run Tryd.prog W = .ok (.bool (!(a == a' && b == b' && c == c' && d == d'))) W := by
  intro W
  have h := set_eql a b c d a' b' c' d' W
  rw [run_eql_struct] at h
  rw [run_neq_struct]
  cases hx : (Op.equalIn 10000 31 (.agg #[.int .u64 a, .int .u64 b, .int .u64 c, .int .u64 d]) (.agg #[.int .u64 a', .int .u64 b', .int .u64 c', .int .u64 d'])).run Tryd.prog W with
  | ok x w' =>
    rw [hx] at h
    simp only [Result.andThen] at h ⊢
    injection h with h1 h2
    injection h1 with h1
    rw [h1, h2]
  | _ => rw [hx] at h; simp [Result.andThen] at h
/-- May a node be, whatever its kids are? -/
def nodeB (op : Int) (a b c d N : Nat) : Bool := if op = 1 then N == 0 else (a == 0 && b == 0 && c == 0 && d == 0) && Rx.may op N

set_option maxRecDepth 100000 in
set_option maxHeartbeats 4000000 in
theorem isNode_any (op : Int) (a b c d N cap : Nat) (A : Option Addr) (w : World) (hN : N ≤ 1000) :
    Calls Tryd.prog 50 #[.agg #[.int .i64 op, .int .u64 (a : Int), .int .u64 (b : Int), .int .u64 (c : Int), .int .u64 (d : Int), .slice A N cap]] w fun e w' => e = .returned (.bool (nodeB op a b c d N)) ∧ Below w.heap.size w w' := by
  have BW0 : Hid (Below w.heap.size w (w.alloc (.cells #[.int .i64 op, .int .u64 (a : Int), .int .u64 (b : Int), .int .u64 (c : Int), .int .u64 (d : Int), .slice A N cap] 34))) := (Below.refl _ _).alloc (Nat.le_refl _) _
  have e0 : ((N : Int) == 0) = (N == 0) := by rw [Bool.eq_iff_iff]; simp
  have e1 : ((N : Int) == 1) = (N == 1) := by rw [Bool.eq_iff_iff]; simp; omega
  have e2 : (decide ((N : Int) ≥ 1)) = decide (1 ≤ N) := by rw [Bool.eq_iff_iff]; simp; omega
  have E0 := Lib.hid e0
  have E1 := Lib.hid e1
  have E2 := Lib.hid e2
  clear e0 e1 e2
  have EQ := set_neq4 (a : Int) b c d 0 0 0 0
  have ez : ((a : Int) == 0 && (b : Int) == 0 && (c : Int) == 0 && (d : Int) == 0) = (a == 0 && b == 0 && c == 0 && d == 0) := by rw [Bool.eq_iff_iff]; simp
  rw [ez] at EQ
  clear ez
  by_cases o1 : op = 1
  · subst o1
    have RX : Hid (nodeB 1 a b c d N = (N == 0)) := rfl
    clear EQ
    go_enter Tryd.func50, Tryd.ntmps50
    go_wp2
    go_ret
    exact ⟨by rw [RX.out, ← E0.out]; rfl, BW0.out⟩
  have RX0 : Hid (nodeB op a b c d N = ((a == 0 && b == 0 && c == 0 && d == 0) && Rx.may op N)) := by show _ = _; unfold nodeB; rw [if_neg o1]
  have p1 : (op == 1) = false := by simpa using o1
  cases hz : (a == 0 && b == 0 && c == 0 && d == 0)
  · rw [hz] at EQ RX0
    simp only [Bool.not_false, Bool.false_and] at EQ RX0
    clear hz o1
    go_enter Tryd.func50, Tryd.ntmps50
    go_wp2
    go_ret
    exact ⟨by rw [RX0.out]; rfl, BW0.out⟩
  rw [hz] at EQ RX0
  simp only [Bool.not_true, Bool.true_and] at EQ RX0
  clear hz
  by_cases o2 : op = 2
  · subst o2
    clear o1 p1
    go_enter Tryd.func50, Tryd.ntmps50
    go_wp2
    go_ret
    exact ⟨by rw [RX0.out]; rfl, BW0.out⟩
  by_cases o3 : op = 3
  · subst o3
    have R : Hid (Rx.may 3 N = decide (1 ≤ N)) := by show _ = _; simp [Rx.may]
    clear o1 p1 o2
    go_enter Tryd.func50, Tryd.ntmps50
    go_wp2
    go_ret
    exact ⟨by rw [RX0.out, R.out, ← E2.out]; rfl, BW0.out⟩
  by_cases o4 : op = 4
  · subst o4
    have R : Hid (Rx.may 4 N = (N == 1)) := by show _ = _; simp [Rx.may]
    clear o1 p1 o2 o3
    go_enter Tryd.func50, Tryd.ntmps50
    go_wp2
    go_ret
    exact ⟨by rw [RX0.out, R.out, ← E1.out]; rfl, BW0.out⟩
  by_cases o5 : op = 5
  · subst o5
    have R : Hid (Rx.may 5 N = (N == 1)) := by show _ = _; simp [Rx.may]
    clear o1 p1 o2 o3 o4
    go_enter Tryd.func50, Tryd.ntmps50
    go_wp2
    go_ret
    exact ⟨by rw [RX0.out, R.out, ← E1.out]; rfl, BW0.out⟩
  by_cases o6 : op = 6
  · subst o6
    have R : Hid (Rx.may 6 N = (N == 1)) := by show _ = _; simp [Rx.may]
    clear o1 p1 o2 o3 o4 o5
    go_enter Tryd.func50, Tryd.ntmps50
    go_wp2
    go_ret
    exact ⟨by rw [RX0.out, R.out, ← E1.out]; rfl, BW0.out⟩
  have R : Hid (Rx.may op N = false) := by show _ = _; simp [Rx.may, o2, o3, o4, o5, o6]
  have p2 : (op == 2) = false := by simpa using o2
  have p3 : (op == 3) = false := by simpa using o3
  have p4 : (op == 4) = false := by simpa using o4
  have p5 : (op == 5) = false := by simpa using o5
  have p6 : (op == 6) = false := by simpa using o6
  clear o1 o2 o3 o4 o5 o6
  go_enter Tryd.func50, Tryd.ntmps50
  go_wp2
  go_ret
  exact ⟨by rw [RX0.out, R.out]; rfl, BW0.out⟩

/-- The cells of a node are what they are. -/
theorem IsRx.form {w : World} {V : Nat → Value} {t : Rx} (h : IsRx w (val6 V) t) : ∃ (op : Int) (a b c d : Nat) (A : Option Addr) (n cap : Nat), V 0 = .int .i64 op ∧ V 1 = .int .u64 (a : Int) ∧ V 2 = .int .u64 (b : Int) ∧ V 3 = .int .u64 (c : Int) ∧ V 4 = .int .u64 (d : Int) ∧ V 5 = .slice A n cap := by
  generalize hv : val6 V = v at h
  cases h with
  | node op a b c d ks A cap blk off V' hcap hA hp hc hk =>
    unfold val6 at hv
    injection hv with hv
    simp only [Array.mk.injEq, List.cons.injEq, and_true] at hv
    obtain ⟨h0, h1, h2, h3, h4, h5⟩ := hv
    exact ⟨op, a, b, c, d, A, ks.length, cap, h0, h1, h2, h3, h4, h5⟩
set_option maxRecDepth 100000 in
set_option maxHeartbeats 4000000 in
theorem is_any : ∀ (n : Nat) (t : Rx) (v : Value) (w : World), n ≤ 1000 → Rx.count t ≤ n → IsRx w v t → Calls Tryd.prog 34 #[v] w fun e w' => e = .returned (.bool (Rx.isRex t)) ∧ Below w.heap.size w w' := by
  intro n
  induction n with
  | zero => intro t v w _ hs; have := Rx.count_pos t; omega
  | succ n ih =>
    intro t v w hn hs h
    cases h with
    | node op a b c d ks A cap blk off V hcap hA hp hc hk =>
      rw [Rx.count] at hs
      have hsmall := Rx.len_count ks
      have IH : Hid (∀ j, j < ks.length → ∀ W, Below w.heap.size w W → Calls Tryd.prog 34 #[val6 (V j)] W fun e w' => e = .returned (.bool (Rx.isRex (Rx.nth ks j))) ∧ Below W.heap.size W w') := fun j hj W hW => ih _ _ W (by omega) (by have := Rx.nth_count hj; omega) ((hk j hj).grown hW)
      have HC : Hid (∀ W, Below w.heap.size w W → ∀ j i, j < ks.length → i < 6 → W.cell? ⟨blk, off + j * 6 + i, none⟩ = some (V j i)) := fun W hW j i hj hi => (hW.cell (World.block_lt_of_cell? w _ (hc j i hj hi))).trans (hc j i hj hi)
      have HP := Lib.hid hp
      have DR := Lib.hid (fun k => Rx.all_step (ks := ks) (k := k))
      have DE := Lib.hid (Rx.all_end (Nat.le_refl ks.length))
      have CN := Lib.hid (fun W => isNode_any op a b c d ks.length cap A W (by omega))
      have RX0 : Hid (Rx.isRex (.mk op a b c d ks) = (nodeB op a b c d ks.length && Rx.isAll ks)) := by
        show _ = _
        rw [Rx.isRex, nodeB]
        split
        · cases hk : ks with
          | nil => simp [Rx.isAll]
          | cons y r => simp
        · rw [Bool.eq_iff_iff]; simp only [Bool.and_eq_true]; constructor
          · rintro ⟨⟨h1, h2⟩, h3⟩; exact ⟨⟨h3, h1⟩, h2⟩
          · rintro ⟨⟨h3, h1⟩, h2⟩; exact ⟨⟨h1, h2⟩, h3⟩
      have FM := Lib.hid (fun j hj => (hk j hj).form)
      clear hp hc hk ih hA
      obtain ⟨N, hN⟩ : ∃ N, ks.length = N := ⟨_, rfl⟩
      rw [hN] at FM hcap IH HC HP DR DE CN RX0 hsmall ⊢
      have hN1 : N ≤ 1000 := by omega
      clear hN hs hsmall hcap
      have BX := Lib.hid (fun W => box6 (w := w) (v0 := .int .i64 op) (v1 := .int .u64 (a : Int)) (v2 := .int .u64 (b : Int)) (v3 := .int .u64 (c : Int)) (v4 := .int .u64 (d : Int)) (v5 := .slice A N cap) (ty := 34) (W := W))
      have SZ0 : Hid (w.heap.size + 1 ≤ (w.alloc (.cells #[.int .i64 op, .int .u64 (a : Int), .int .u64 (b : Int), .int .u64 (c : Int), .int .u64 (d : Int), .slice A N cap] 34)).heap.size) := by show _ ≤ _; simp
      go_enter Tryd.func34, Tryd.ntmps34
      go_wp2_with fail
      obtain ⟨w0, hw0⟩ : ∃ w0, w.alloc (.cells #[.int .i64 op, .int .u64 (a : Int), .int .u64 (b : Int), .int .u64 (c : Int), .int .u64 (d : Int), .slice A N cap] 34) = w0 := ⟨_, rfl⟩
      rw [hw0] at BX SZ0 ⊢
      clear hw0
      refine (CN.out w0).mono ?_
      rintro e w2 ⟨rfl, b2⟩
      have d2 : Hid (Below (w.heap.size + 1) w0 w2) := b2.mono SZ0.out
      obtain ⟨⟨_, _, _, _, _, q5⟩, BW⟩ := BX.out w2 d2.out
      have BWH := Lib.hid BW
      clear BW b2 CN
      cases hnd : nodeB op a b c d N
      · have R : Hid (Rx.isRex (.mk op a b c d ks) = false) := by show _ = _; rw [RX0.out, hnd]; rfl
        clear hnd RX0
        go_wp2
        go_ret
        exact ⟨by rw [R.out]; rfl, BWH.out⟩
      have R : Hid (Rx.isRex (.mk op a b c d ks) = Rx.isAll ks) := by show _ = _; rw [RX0.out, hnd]; rfl
      clear hnd RX0
      go_wp2
      clear q5
      go_loopw [11] (fun i wr => ∃ k : Nat, k ≤ N ∧ i = .int .i64 (k : Int) ∧ Hid (Below (w.heap.size + 1) w0 wr ∧ Rx.isAll (ks.drop k) = Rx.isAll ks)) (fun i _ => N - (intOf i).toNat)
      case atStart => exact ⟨0, by omega, rfl, d2.out, rfl⟩
      case round =>
        clear d2 BWH
        obtain ⟨k, hk, rfl, HI⟩ := hrel
        obtain ⟨_, BW⟩ := BX.out wr HI.out.1
        have BWH := Lib.hid BW
        have A1 := Lib.hid HI.out.1
        have A2 := Lib.hid HI.out.2
        clear BW HI
        by_cases hkn : k < N
        · have hkz : (k : Int) < (N : Int) := by omega
          have hAe := HP.out (by omega)
          subst hAe
          have c0 := HC.out wr BWH.out k 0 hkn (by omega)
          have c1 := HC.out wr BWH.out k 1 hkn (by omega)
          have c2 := HC.out wr BWH.out k 2 hkn (by omega)
          have c3 := HC.out wr BWH.out k 3 hkn (by omega)
          have c4 := HC.out wr BWH.out k 4 hkn (by omega)
          have c5 := HC.out wr BWH.out k 5 hkn (by omega)
          simp only [Nat.add_zero] at c0
          have SZ : w.heap.size + 1 ≤ wr.heap.size := by have := A1.out.size; have := SZ0.out; omega
          have CK : Hid (∀ W, Below wr.heap.size wr W → Calls Tryd.prog 34 #[val6 (V k)] W fun e w' => e = .returned (.bool (Rx.isRex (Rx.nth ks k))) ∧ Below W.heap.size W w') := fun W hW => IH.out k hkn W (BWH.out.trans (hW.mono (by omega)))
          obtain ⟨op', a', b', c', d', A', n', cap', x0, x1, x2, x3, x4, x5⟩ := FM.out k hkn
          unfold val6 at CK
          rw [x0, x1, x2, x3, x4, x5] at CK
          rw [x0] at c0
          rw [x1] at c1
          rw [x2] at c2
          rw [x3] at c3
          rw [x4] at c4
          rw [x5] at c5
          clear HC IH FM x0 x1 x2 x3 x4 x5
          have DK := Lib.hid (DR.out k hkn)
          have B6 : Hid (Below wr.heap.size wr (wr.alloc (.cells #[.int .i64 op', .int .u64 (a' : Int), .int .u64 (b' : Int), .int .u64 (c' : Int), .int .u64 (d' : Int), .slice A' n' cap'] 34))) := (Below.refl _ _).alloc (Nat.le_refl _) _
          have CKB := Lib.hid (CK.out _ B6.out)
          clear CK
          go_wp2_with fail
          clear c0 c1 c2 c3 c4 c5
          refine CKB.out.mono ?_
          rintro e w' ⟨rfl, b'⟩
          have b7 := Lib.hid (B6.out.trans (b'.mono B6.out.size))
          clear b' CKB B6
          cases hq : Rx.isRex (Rx.nth ks k)
          · rw [hq] at DK
            have R2 : Hid (Rx.isRex (.mk op a b c d ks) = false) := by show _ = _; rw [R.out, ← A2.out, DK.out]; rfl
            have B := Lib.hid (BWH.out.trans (b7.out.mono (by omega)))
            clear hq b7
            go_wp2
            go_ret
            exact ⟨by rw [R2.out]; rfl, B.out⟩
          · rw [hq] at DK
            have B : Hid (Below (w.heap.size + 1) w0 w' ∧ Rx.isAll (ks.drop (k + 1)) = Rx.isAll ks) := ⟨A1.out.trans (b7.out.mono (by omega)), by rw [← A2.out, DK.out]; rfl⟩
            clear hq b7
            go_wp2
            go_roundw
            case rel => exact ⟨k + 1, by omega, by go_num, B⟩
            case measure => simp [intOf]; omega
        · obtain rfl : k = N := by omega
          have hkz : ¬ (k : Int) < (k : Int) := by omega
          have R2 : Hid (Rx.isRex (.mk op a b c d ks) = true) := by show _ = _; rw [R.out, ← A2.out, DE.out]
          clear HC IH FM
          go_wp2
          go_ret
          exact ⟨by rw [R2.out]; rfl, BWH.out⟩

end Go.Proofs.YtonfmbnankihbaaDoor
