/-
  What the program's count and the reference's size do: how many steps a tree has. Conditions: at most 1000 nodes, the tree may be.
  Plain mathematics of the program's way through a text: a part that was read up to a place says where matches end; another byte keeps that true. No conditions.
  What the reference's Ends does: the places at which a match of a tree may end, in order; none of what may not be. Conditions: at most 1000 nodes, 100 places; words have 64 bits.
  Plain mathematics of chapter 7: running a tree's steps over a text comes to their end just where a match of the tree ends. No conditions.
-/
import Derived.Test.YtlfcjjlgkcfkdaaGreatDoorProg
import Derived.Test.YtlfcjjlgkcfkdaaGreatDoorZ01
import Derived.Test.YtlfcjjlgkcfkdaaGreatDoorZ02
import Derived.Test.YtlfcjjlgkcfkdaaGreatDoorZ03
import Derived.Test.YtlfcjjlgkcfkdaaGreatDoorZ08
import Derived.Test.YtlfcjjlgkcfkdaaGreatDoorZ05
import Derived.Test.YtlfcjjlgkcfkdaaGreatDoorZ04
import Derived.Test.YtlfcjjlgkcfkdaaGreatDoorZ07
import Derived.Deep.RegionHeld3
import Derived.WalkKit
import Derived.WalkSpells
import Derived.WalkLawsBesides
import Derived.Lib.Hide
import Derived.Below
import Derived.BigQuiet
import Derived.Lib.QuietBelow
import Derived.Laws.StructEq
import Derived.KernelRfl
import Derived.Laws.MakeOwn
import Derived.Laws.OwnMore
import Derived.OwnWalk
import Derived.Laws.CopyOwn
import Derived.Laws.AppendOwn
import Derived.Deep.QuietTactic
import Derived.Lib.Bytealg
import Derived.Laws.Externs
import Derived.Maps.AppendAt
import Derived.StillTailTactics
import Derived.Laws.ResultCell
import Derived.Deep.LoopGhost
namespace Go.Proofs.YtlfcjjlgkcfkdaaGreatDoor
open Go.RowKit

theorem IsRx.six {w : World} {v : Value} {t : Rx} (h : IsRx w v t) : ∃ op a b c d A n cap, v = .agg #[.int .i64 op, .int .u64 ((a : Nat) : Int), .int .u64 ((b : Nat) : Int), .int .u64 ((c : Nat) : Int), .int .u64 ((d : Nat) : Int), .slice A n cap] := by
  cases h with
  | node op a b c d ks A cap blk off V hcap hA hp hc hk => exact ⟨op, a, b, c, d, A, _, cap, rfl⟩
theorem Rx.may_one {op : Int} {n : Nat} (h : Rx.may op n = true) : op = 2 ∨ (op = 3 ∧ 1 ≤ n) ∨ ((op = 4 ∨ op = 5 ∨ op = 6) ∧ n = 1) := by
  simp [Rx.may] at h
  rcases h with (h | h) | h
  · exact .inl h
  · exact .inr (.inl h)
  · exact .inr (.inr ⟨by omega, h.2⟩)
/-- What a tree that may be looks like. -/
theorem Rx.isRex_cases {op : Int} {a b c d : Nat} {ks : List Rx} (h : Rx.isRex (.mk op a b c d ks) = true) : Rx.isAll ks = true ∧ ((op = 1 ∧ ks = []) ∨ op = 2 ∨ (op = 3 ∧ 1 ≤ ks.length) ∨ ((op = 4 ∨ op = 5 ∨ op = 6) ∧ ks.length = 1)) := by
  rw [Rx.isRex] at h
  split at h
  · rename_i h1
    have h0 : ks = [] := by simpa using h
    exact ⟨by rw [h0]; rfl, .inl ⟨h1, h0⟩⟩
  · simp only [Bool.and_eq_true] at h
    exact ⟨h.1.2, .inr (Rx.may_one h.1.1)⟩
theorem Rx.isAll_nth : ∀ {ks : List Rx} {j : Nat}, Rx.isAll ks = true → j < ks.length → Rx.isRex (Rx.nth ks j) = true
  | k :: r, 0, h, _ => by rw [Rx.isAll, Bool.and_eq_true] at h; exact h.1
  | k :: r, j + 1, h, hj => by rw [Rx.isAll, Bool.and_eq_true] at h; exact Rx.isAll_nth (ks := r) h.2 (by simpa using hj)

set_option maxRecDepth 100000 in
set_option maxHeartbeats 4000000 in
theorem count_any : ∀ (n : Nat) (t : Rx) (v : Value) (w : World), n ≤ 1000 → Rx.count t ≤ n → Rx.isRex t = true → IsRx w v t → Calls Tryz.prog 141 #[v] w fun e w' => e = .returned (.int .i64 (Rx.sz t : Int)) ∧ Below w.heap.size w w' := by
  intro n
  induction n with
  | zero => intro t v w _ hs; have := Rx.count_pos t; omega
  | succ n ih =>
    intro t v w hn hs hr h
    cases h with
    | node op a b c d ks A cap blk off V hcap hA hp hc hk =>
      have hsz := Rx.sz_le (.mk op a b c d ks)
      have hszL := Rx.szL_le ks
      rw [Rx.count] at hs hsz
      obtain ⟨hall, hop⟩ := Rx.isRex_cases hr
      have hsmall := Rx.len_count ks
      have IH : Hid (∀ j, j < ks.length → ∀ W, Below w.heap.size w W → Calls Tryz.prog 141 #[val6 (V j)] W fun e w' => e = .returned (.int .i64 (Rx.sz (Rx.nth ks j) : Int)) ∧ Below W.heap.size W w') := fun j hj W hW => ih _ _ W (by omega) (by have := Rx.nth_count hj; omega) (Rx.isAll_nth hall hj) ((hk j hj).grown hW)
      have HC : Hid (∀ W, Below w.heap.size w W → ∀ j i, j < ks.length → i < 6 → W.cell? ⟨blk, off + j * 6 + i, none⟩ = some (V j i)) := fun W hW j i hj hi => (hW.cell (World.block_lt_of_cell? w _ (hc j i hj hi))).trans (hc j i hj hi)
      have HP := Lib.hid hp
      have FM := Lib.hid (fun j hj => (hk j hj).form)
      have STP := Lib.hid (fun j (hj : j < ks.length) => Rx.szL_take hj)
      have SUM := Lib.hid (fun j => Rx.szL_sum ks j)
      have ALL := Lib.hid (Rx.szL_all (Nat.le_refl ks.length))
      have SZ : Hid (∀ z : Nat, (op = 1 ∧ z = 1 ∨ op = 2 ∧ z = Rx.szL ks ∨ op = 3 ∧ z = Rx.szL ks + 2 * (ks.length - 1) ∨ op = 4 ∧ z = Rx.szL ks + 2 ∨ op = 5 ∧ z = Rx.szL ks + 1 ∨ op = 6 ∧ z = Rx.szL ks + 1) → Rx.sz (.mk op a b c d ks) = z) := fun z hz => by
        rcases hz with ⟨rfl, rfl⟩ | ⟨rfl, rfl⟩ | ⟨rfl, rfl⟩ | ⟨rfl, rfl⟩ | ⟨rfl, rfl⟩ | ⟨rfl, rfl⟩ <;> simp [Rx.sz]
      have Z0 : ks = [] → Rx.szL ks = 0 := fun e => by rw [e]; rfl
      have N0 : ks = [] → ks.length = 0 := fun e => by rw [e]; rfl
      have hop2 : (op = 1 ∧ ks.length = 0 ∧ Rx.szL ks = 0) ∨ op = 2 ∨ (op = 3 ∧ 1 ≤ ks.length) ∨ ((op = 4 ∨ op = 5 ∨ op = 6) ∧ ks.length = 1) := by
        rcases hop with ⟨h1, h2⟩ | h
        · exact .inl ⟨h1, N0 h2, Z0 h2⟩
        · exact .inr h
      clear hp hc hk ih hA hop Z0 N0 hr hall
      obtain ⟨N, hN⟩ : ∃ N, ks.length = N := ⟨_, rfl⟩
      obtain ⟨S, hS⟩ : ∃ S, Rx.szL ks = S := ⟨_, rfl⟩
      obtain ⟨Z, hZ⟩ : ∃ Z, Rx.sz (.mk op a b c d ks) = Z := ⟨_, rfl⟩
      rw [hN] at FM hcap IH HC HP STP SZ hop2 hsmall ALL hszL ⊢
      rw [hS] at SZ hop2 SUM ALL hszL
      rw [hZ] at SZ hsz ⊢
      have hN1 : N ≤ 1000 := by omega
      have hS1 : S ≤ 8000 := by omega
      clear hN hs hsmall hcap hS hsz hszL hZ
      have BX := Lib.hid (fun W => box6 (w := w) (v0 := .int .i64 op) (v1 := .int .u64 (a : Int)) (v2 := .int .u64 (b : Int)) (v3 := .int .u64 (c : Int)) (v4 := .int .u64 (d : Int)) (v5 := .slice A N cap) (ty := 135) (W := W))
      have SZ0 : Hid (w.heap.size + 1 ≤ (w.alloc (.cells #[.int .i64 op, .int .u64 (a : Int), .int .u64 (b : Int), .int .u64 (c : Int), .int .u64 (d : Int), .slice A N cap] 135)).heap.size) := by show _ ≤ _; simp
      go_enter Tryz.func141, Tryz.ntmps141
      go_wp2
      obtain ⟨w0, hw0⟩ : ∃ w0, w.alloc (.cells #[.int .i64 op, .int .u64 (a : Int), .int .u64 (b : Int), .int .u64 (c : Int), .int .u64 (d : Int), .slice A N cap] 135) = w0 := ⟨_, rfl⟩
      rw [hw0] at BX SZ0 ⊢
      clear hw0
      have HOP := Lib.hid hop2
      clear hop2
      go_loopw [3, 9] (fun acc i wr => ∃ k : Nat, k ≤ N ∧ acc = .int .i64 (Rx.szL (ks.take k) : Int) ∧ i = .int .i64 (k : Int) ∧ Hid (Below (w.heap.size + 1) w0 wr)) (fun _ i _ => N - (intOf i).toNat)
      case atStart => exact ⟨0, by omega, rfl, rfl, Below.refl _ _⟩
      case round =>
        obtain ⟨k, hk, rfl, rfl, HI⟩ := hrel
        obtain ⟨⟨q0, q1, q2, q3, q4, q5⟩, BW⟩ := BX.out wr HI.out
        have BWH := Lib.hid BW
        clear BW
        have hsk := SUM.out k
        obtain ⟨S1, hS1e⟩ : ∃ S1, Rx.szL (ks.take k) = S1 := ⟨_, rfl⟩
        have STK := Lib.hid (STP.out k)
        rw [hS1e] at hsk STK ⊢
        by_cases hkn : k < N
        · clear q0 q1 q2 q3 q4
          have hkz : (k : Int) < (N : Int) := by omega
          have hAe := HP.out (by omega)
          subst hAe
          have c0 := HC.out wr BWH.out k 0 hkn (by omega)
          have c1 := HC.out wr BWH.out k 1 hkn (by omega)
          have c2 := HC.out wr BWH.out k 2 hkn (by omega)
          have c3 := HC.out wr BWH.out k 3 hkn (by omega)
          have c4 := HC.out wr BWH.out k 4 hkn (by omega)
          have c5 := HC.out wr BWH.out k 5 hkn (by omega)
          simp only [Nat.add_zero] at c0
          have CK : Hid (∀ W, Below wr.heap.size wr W → Calls Tryz.prog 141 #[val6 (V k)] W fun e w' => e = .returned (.int .i64 (Rx.sz (Rx.nth ks k) : Int)) ∧ Below W.heap.size W w') := fun W hW => IH.out k hkn W (BWH.out.trans (hW.mono (by have := HI.out.size; have := SZ0.out; omega)))
          obtain ⟨op', a', b', c', d', A', n', cap', x0, x1, x2, x3, x4, x5⟩ := FM.out k hkn
          unfold val6 at CK
          rw [x0, x1, x2, x3, x4, x5] at CK
          rw [x0] at c0
          rw [x1] at c1
          rw [x2] at c2
          rw [x3] at c3
          rw [x4] at c4
          rw [x5] at c5
          clear HC IH FM x0 x1 x2 x3 x4 x5
          have ST := Lib.hid (STK.out hkn)
          have hle : S1 + Rx.sz (Rx.nth ks k) ≤ S := by have := SUM.out (k + 1); rw [ST.out] at this; exact this
          obtain ⟨zk, hzk⟩ : ∃ zk, Rx.sz (Rx.nth ks k) = zk := ⟨_, rfl⟩
          rw [hzk] at ST hle CK
          clear hzk STK STP
          have B6 : Hid (Below wr.heap.size wr (wr.alloc (.cells #[.int .i64 op', .int .u64 (a' : Int), .int .u64 (b' : Int), .int .u64 (c' : Int), .int .u64 (d' : Int), .slice A' n' cap'] 135))) := (Below.refl _ _).alloc (Nat.le_refl _) _
          have CKB := Lib.hid (CK.out _ B6.out)
          clear CK
          go_wp2_with fail
          clear c0 c1 c2 c3 c4 c5
          refine CKB.out.mono ?_
          rintro e w' ⟨rfl, b'⟩
          have B := Lib.hid (HI.out.trans ((B6.out.trans (b'.mono B6.out.size)).mono (by have := HI.out.size; have := SZ0.out; omega)))
          clear B6
          clear b' CKB q5
          go_wp2
          go_roundw
          case rel => exact ⟨k + 1, by omega, by rw [ST.out]; go_num, by go_num, B.out⟩
          case measure => simp [intOf]; omega
        · obtain rfl : k = N := by omega
          have hkz : ¬ (k : Int) < (k : Int) := by omega
          have hS2 : S1 = S := by rw [← ALL.out, hS1e]
          subst hS2
          clear HC IH FM STP SUM ALL STK hS1e q1 q2 q3 q4
          have hop := HOP.out
          rcases hop with ⟨rfl, rfl, rfl⟩ | rfl | ⟨rfl, h1⟩ | ⟨rfl | rfl | rfl, rfl⟩
          · have R := Lib.hid (SZ.out 1 (by simp))
            clear SZ HOP
            go_wp2
            go_ret
            exact ⟨by rw [R.out]; rfl, BWH.out⟩
          · have R := Lib.hid (SZ.out S1 (by simp))
            clear SZ HOP
            go_wp2
            go_ret
            exact ⟨by rw [R.out]; rfl, BWH.out⟩
          · have R := Lib.hid (SZ.out (S1 + 2 * (k - 1)) (by simp))
            clear SZ HOP
            go_wp2
            go_ret
            exact ⟨by rw [R.out]; go_num, BWH.out⟩
          · have R := Lib.hid (SZ.out (S1 + 2) (by simp))
            clear SZ HOP
            go_wp2
            go_ret
            exact ⟨by rw [R.out]; go_num, BWH.out⟩
          · have R := Lib.hid (SZ.out (S1 + 1) (by simp))
            clear SZ HOP
            go_wp2
            go_ret
            exact ⟨by rw [R.out]; go_num, BWH.out⟩
          · have R := Lib.hid (SZ.out (S1 + 1) (by simp))
            clear SZ HOP
            go_wp2
            go_ret
            exact ⟨by rw [R.out]; go_num, BWH.out⟩
set_option maxRecDepth 100000 in
set_option maxHeartbeats 4000000 in
theorem rsize_any : ∀ (n : Nat) (t : Rx) (v : Value) (w : World), n ≤ 1000 → Rx.count t ≤ n → Rx.isRex t = true → IsRx w v t → Calls Tryz.prog 133 #[v] w fun e w' => e = .returned (.int .i64 (Rx.sz t : Int)) ∧ Below w.heap.size w w' := by
  intro n
  induction n with
  | zero => intro t v w _ hs; have := Rx.count_pos t; omega
  | succ n ih =>
    intro t v w hn hs hr h
    cases h with
    | node op a b c d ks A cap blk off V hcap hA hp hc hk =>
      have hsz := Rx.sz_le (.mk op a b c d ks)
      have hszL := Rx.szL_le ks
      rw [Rx.count] at hs hsz
      obtain ⟨hall, hop⟩ := Rx.isRex_cases hr
      have hsmall := Rx.len_count ks
      have IH : Hid (∀ j, j < ks.length → ∀ W, Below w.heap.size w W → Calls Tryz.prog 133 #[val6 (V j)] W fun e w' => e = .returned (.int .i64 (Rx.sz (Rx.nth ks j) : Int)) ∧ Below W.heap.size W w') := fun j hj W hW => ih _ _ W (by omega) (by have := Rx.nth_count hj; omega) (Rx.isAll_nth hall hj) ((hk j hj).grown hW)
      have HC : Hid (∀ W, Below w.heap.size w W → ∀ j i, j < ks.length → i < 6 → W.cell? ⟨blk, off + j * 6 + i, none⟩ = some (V j i)) := fun W hW j i hj hi => (hW.cell (World.block_lt_of_cell? w _ (hc j i hj hi))).trans (hc j i hj hi)
      have HP := Lib.hid hp
      have FM := Lib.hid (fun j hj => (hk j hj).form)
      have STP := Lib.hid (fun j (hj : j < ks.length) => Rx.szL_take hj)
      have SUM := Lib.hid (fun j => Rx.szL_sum ks j)
      have ALL := Lib.hid (Rx.szL_all (Nat.le_refl ks.length))
      have SZ : Hid (∀ z : Nat, (op = 1 ∧ z = 1 ∨ op = 2 ∧ z = Rx.szL ks ∨ op = 3 ∧ z = Rx.szL ks + 2 * (ks.length - 1) ∨ op = 4 ∧ z = Rx.szL ks + 2 ∨ op = 5 ∧ z = Rx.szL ks + 1 ∨ op = 6 ∧ z = Rx.szL ks + 1) → Rx.sz (.mk op a b c d ks) = z) := fun z hz => by
        rcases hz with ⟨rfl, rfl⟩ | ⟨rfl, rfl⟩ | ⟨rfl, rfl⟩ | ⟨rfl, rfl⟩ | ⟨rfl, rfl⟩ | ⟨rfl, rfl⟩ <;> simp [Rx.sz]
      have Z0 : ks = [] → Rx.szL ks = 0 := fun e => by rw [e]; rfl
      have N0 : ks = [] → ks.length = 0 := fun e => by rw [e]; rfl
      have hop2 : (op = 1 ∧ ks.length = 0 ∧ Rx.szL ks = 0) ∨ op = 2 ∨ (op = 3 ∧ 1 ≤ ks.length) ∨ ((op = 4 ∨ op = 5 ∨ op = 6) ∧ ks.length = 1) := by
        rcases hop with ⟨h1, h2⟩ | h
        · exact .inl ⟨h1, N0 h2, Z0 h2⟩
        · exact .inr h
      clear hp hc hk ih hA hop Z0 N0 hr hall
      obtain ⟨N, hN⟩ : ∃ N, ks.length = N := ⟨_, rfl⟩
      obtain ⟨S, hS⟩ : ∃ S, Rx.szL ks = S := ⟨_, rfl⟩
      obtain ⟨Z, hZ⟩ : ∃ Z, Rx.sz (.mk op a b c d ks) = Z := ⟨_, rfl⟩
      rw [hN] at FM hcap IH HC HP STP SZ hop2 hsmall ALL hszL ⊢
      rw [hS] at SZ hop2 SUM ALL hszL
      rw [hZ] at SZ hsz ⊢
      have hN1 : N ≤ 1000 := by omega
      have hS1 : S ≤ 8000 := by omega
      clear hN hs hsmall hcap hS hsz hszL hZ
      have BX := Lib.hid (fun W => box6 (w := w) (v0 := .int .i64 op) (v1 := .int .u64 (a : Int)) (v2 := .int .u64 (b : Int)) (v3 := .int .u64 (c : Int)) (v4 := .int .u64 (d : Int)) (v5 := .slice A N cap) (ty := 135) (W := W))
      have SZ0 : Hid (w.heap.size + 1 ≤ (w.alloc (.cells #[.int .i64 op, .int .u64 (a : Int), .int .u64 (b : Int), .int .u64 (c : Int), .int .u64 (d : Int), .slice A N cap] 135)).heap.size) := by show _ ≤ _; simp
      go_enter Tryz.func133, Tryz.ntmps133
      go_wp2
      obtain ⟨w0, hw0⟩ : ∃ w0, w.alloc (.cells #[.int .i64 op, .int .u64 (a : Int), .int .u64 (b : Int), .int .u64 (c : Int), .int .u64 (d : Int), .slice A N cap] 135) = w0 := ⟨_, rfl⟩
      rw [hw0] at BX SZ0 ⊢
      clear hw0
      have HOP := Lib.hid hop2
      clear hop2
      go_loopw [3, 4] (fun acc i wr => ∃ k : Nat, k ≤ N ∧ acc = .int .i64 (Rx.szL (ks.take k) : Int) ∧ i = .int .i64 (k : Int) ∧ Hid (Below (w.heap.size + 1) w0 wr)) (fun _ i _ => N - (intOf i).toNat)
      case atStart => exact ⟨0, by omega, rfl, rfl, Below.refl _ _⟩
      case round =>
        obtain ⟨k, hk, rfl, rfl, HI⟩ := hrel
        obtain ⟨⟨q0, q1, q2, q3, q4, q5⟩, BW⟩ := BX.out wr HI.out
        have BWH := Lib.hid BW
        clear BW
        have hsk := SUM.out k
        obtain ⟨S1, hS1e⟩ : ∃ S1, Rx.szL (ks.take k) = S1 := ⟨_, rfl⟩
        have STK := Lib.hid (STP.out k)
        rw [hS1e] at hsk STK ⊢
        by_cases hkn : k < N
        · clear q0 q1 q2 q3 q4
          have hkz : (k : Int) < (N : Int) := by omega
          have hAe := HP.out (by omega)
          subst hAe
          have c0 := HC.out wr BWH.out k 0 hkn (by omega)
          have c1 := HC.out wr BWH.out k 1 hkn (by omega)
          have c2 := HC.out wr BWH.out k 2 hkn (by omega)
          have c3 := HC.out wr BWH.out k 3 hkn (by omega)
          have c4 := HC.out wr BWH.out k 4 hkn (by omega)
          have c5 := HC.out wr BWH.out k 5 hkn (by omega)
          simp only [Nat.add_zero] at c0
          have CK : Hid (∀ W, Below wr.heap.size wr W → Calls Tryz.prog 133 #[val6 (V k)] W fun e w' => e = .returned (.int .i64 (Rx.sz (Rx.nth ks k) : Int)) ∧ Below W.heap.size W w') := fun W hW => IH.out k hkn W (BWH.out.trans (hW.mono (by have := HI.out.size; have := SZ0.out; omega)))
          obtain ⟨op', a', b', c', d', A', n', cap', x0, x1, x2, x3, x4, x5⟩ := FM.out k hkn
          unfold val6 at CK
          rw [x0, x1, x2, x3, x4, x5] at CK
          rw [x0] at c0
          rw [x1] at c1
          rw [x2] at c2
          rw [x3] at c3
          rw [x4] at c4
          rw [x5] at c5
          clear HC IH FM x0 x1 x2 x3 x4 x5
          have ST := Lib.hid (STK.out hkn)
          have hle : S1 + Rx.sz (Rx.nth ks k) ≤ S := by have := SUM.out (k + 1); rw [ST.out] at this; exact this
          obtain ⟨zk, hzk⟩ : ∃ zk, Rx.sz (Rx.nth ks k) = zk := ⟨_, rfl⟩
          rw [hzk] at ST hle CK
          clear hzk STK STP
          have CKB := Lib.hid (CK.out _ (Below.refl _ _))
          clear CK
          go_wp2_with fail
          clear c0 c1 c2 c3 c4 c5
          refine CKB.out.mono ?_
          rintro e w' ⟨rfl, b'⟩
          have B := Lib.hid (HI.out.trans (b'.mono (by have := HI.out.size; have := SZ0.out; omega)))
          clear b' CKB q5
          go_wp2
          go_roundw
          case rel => exact ⟨k + 1, by omega, by rw [ST.out]; go_num, by go_num, B.out⟩
          case measure => simp [intOf]; omega
        · obtain rfl : k = N := by omega
          have hkz : ¬ (k : Int) < (k : Int) := by omega
          have hS2 : S1 = S := by rw [← ALL.out, hS1e]
          subst hS2
          clear HC IH FM STP SUM ALL STK hS1e q1 q2 q3 q4
          have hop := HOP.out
          rcases hop with ⟨rfl, rfl, rfl⟩ | rfl | ⟨rfl, h1⟩ | ⟨rfl | rfl | rfl, rfl⟩
          · have R := Lib.hid (SZ.out 1 (by simp))
            clear SZ HOP
            go_wp2
            go_ret
            exact ⟨by rw [R.out]; rfl, BWH.out⟩
          · have R := Lib.hid (SZ.out S1 (by simp))
            clear SZ HOP
            go_wp2
            go_ret
            exact ⟨by rw [R.out]; rfl, BWH.out⟩
          · have R := Lib.hid (SZ.out (S1 + 2 * (k - 1)) (by simp))
            clear SZ HOP
            go_wp2
            go_ret
            exact ⟨by rw [R.out]; go_num, BWH.out⟩
          · have R := Lib.hid (SZ.out (S1 + 2) (by simp))
            clear SZ HOP
            go_wp2
            go_ret
            exact ⟨by rw [R.out]; go_num, BWH.out⟩
          · have R := Lib.hid (SZ.out (S1 + 1) (by simp))
            clear SZ HOP
            go_wp2
            go_ret
            exact ⟨by rw [R.out]; go_num, BWH.out⟩
          · have R := Lib.hid (SZ.out (S1 + 1) (by simp))
            clear SZ HOP
            go_wp2
            go_ret
            exact ⟨by rw [R.out]; go_num, BWH.out⟩

/-- How many steps the program of a tree has. -/
def Rx.size (t : Rx) : Nat := if Rx.isRex t = true then Rx.sz t + 1 else 0
set_option maxRecDepth 100000 in
set_option maxHeartbeats 4000000 in
theorem size_any (t : Rx) (v : Value) (w : World) (hn : Rx.count t ≤ 1000) (h : IsRx w v t) : Calls Tryz.prog 125 #[v] w fun e w' => e = .returned (.int .i64 (Rx.size t : Int)) ∧ Below w.heap.size w w' := by
  obtain ⟨op, a, b, c, d, A, n, cap, rfl⟩ := h.six
  have hsz := Rx.sz_le t
  have BX := Lib.hid (fun W => box6 (w := w) (v0 := .int .i64 op) (v1 := .int .u64 (a : Int)) (v2 := .int .u64 (b : Int)) (v3 := .int .u64 (c : Int)) (v4 := .int .u64 (d : Int)) (v5 := .slice A n cap) (ty := 135) (W := W))
  have B0 : Below w.heap.size w (w.alloc (.cells #[.int .i64 op, .int .u64 (a : Int), .int .u64 (b : Int), .int .u64 (c : Int), .int .u64 (d : Int), .slice A n cap] 135)) := (Below.refl _ _).alloc (Nat.le_refl _) _
  have SZ0 : Hid (w.heap.size + 1 ≤ (w.alloc (.cells #[.int .i64 op, .int .u64 (a : Int), .int .u64 (b : Int), .int .u64 (c : Int), .int .u64 (d : Int), .slice A n cap] 135)).heap.size) := by show _ ≤ _; simp
  have CI := Lib.hid (is_any 1000 t _ _ (Nat.le_refl _) hn (h.grown B0))
  have CC : Hid (∀ W, Below w.heap.size w W → Rx.isRex t = true → Calls Tryz.prog 141 #[.agg #[.int .i64 op, .int .u64 (a : Int), .int .u64 (b : Int), .int .u64 (c : Int), .int .u64 (d : Int), .slice A n cap]] W fun e w' => e = .returned (.int .i64 (Rx.sz t : Int)) ∧ Below W.heap.size W w') := fun W hW hr => count_any 1000 t _ W (Nat.le_refl _) hn hr (h.grown hW)
  clear h B0
  obtain ⟨Z, hZ⟩ : ∃ Z, Rx.sz t = Z := ⟨_, rfl⟩
  have ZS : Hid (Rx.size t = if Rx.isRex t = true then Z + 1 else 0) := by show _ = _; rw [Rx.size, hZ]
  rw [hZ] at hsz CC
  have hz : Z ≤ 10000 := by omega
  clear hZ hsz hn
  go_enter Tryz.func125, Tryz.ntmps125
  go_wp2_with fail
  obtain ⟨w0, hw0⟩ : ∃ w0, w.alloc (.cells #[.int .i64 op, .int .u64 (a : Int), .int .u64 (b : Int), .int .u64 (c : Int), .int .u64 (d : Int), .slice A n cap] 135) = w0 := ⟨_, rfl⟩
  rw [hw0] at BX SZ0 CI ⊢
  clear hw0
  refine CI.out.mono ?_
  rintro e w1 ⟨rfl, b1⟩
  have D1 := Lib.hid (b1.mono SZ0.out)
  obtain ⟨⟨q0, q1, q2, q3, q4, q5⟩, BW⟩ := BX.out w1 D1.out
  have B1 := Lib.hid BW
  clear BW b1 CI
  cases hr : Rx.isRex t
  · have R : Hid (Rx.size t = 0) := by show _ = _; rw [ZS.out, hr]; rfl
    clear ZS CC q0 q1 q2 q3 q4 q5
    go_wp2
    go_ret
    exact ⟨by rw [R.out]; rfl, B1.out⟩
  · have R : Hid (Rx.size t = Z + 1) := by show _ = _; rw [ZS.out, hr]; rfl
    have C2 := Lib.hid (CC.out w1 B1.out hr)
    clear ZS CC
    go_wp2_with fail
    refine C2.out.mono ?_
    rintro e w2 ⟨rfl, b2⟩
    have B2 := Lib.hid (B1.out.trans (b2.mono B1.out.size))
    clear b2 C2 q0 q1 q2 q3 q4 q5
    go_wp2
    go_ret
    exact ⟨by rw [R.out]; go_num, B2.out⟩
set_option maxRecDepth 100000 in
set_option maxHeartbeats 4000000 in
theorem rsizeT_any (t : Rx) (v : Value) (w : World) (hn : Rx.count t ≤ 1000) (h : IsRx w v t) : Calls Tryz.prog 121 #[v] w fun e w' => e = .returned (.int .i64 (Rx.size t : Int)) ∧ Below w.heap.size w w' := by
  obtain ⟨op, a, b, c, d, A, n, cap, rfl⟩ := h.six
  have hsz := Rx.sz_le t
  have BX := Lib.hid (fun W => box6 (w := w) (v0 := .int .i64 op) (v1 := .int .u64 (a : Int)) (v2 := .int .u64 (b : Int)) (v3 := .int .u64 (c : Int)) (v4 := .int .u64 (d : Int)) (v5 := .slice A n cap) (ty := 135) (W := W))
  have B0 : Below w.heap.size w (w.alloc (.cells #[.int .i64 op, .int .u64 (a : Int), .int .u64 (b : Int), .int .u64 (c : Int), .int .u64 (d : Int), .slice A n cap] 135)) := (Below.refl _ _).alloc (Nat.le_refl _) _
  have SZ0 : Hid (w.heap.size + 1 ≤ (w.alloc (.cells #[.int .i64 op, .int .u64 (a : Int), .int .u64 (b : Int), .int .u64 (c : Int), .int .u64 (d : Int), .slice A n cap] 135)).heap.size) := by show _ ≤ _; simp
  have CI := Lib.hid (risrex_any 1000 t _ _ (Nat.le_refl _) hn (h.grown B0))
  have CC : Hid (∀ W, Below w.heap.size w W → Rx.isRex t = true → Calls Tryz.prog 133 #[.agg #[.int .i64 op, .int .u64 (a : Int), .int .u64 (b : Int), .int .u64 (c : Int), .int .u64 (d : Int), .slice A n cap]] W fun e w' => e = .returned (.int .i64 (Rx.sz t : Int)) ∧ Below W.heap.size W w') := fun W hW hr => rsize_any 1000 t _ W (Nat.le_refl _) hn hr (h.grown hW)
  clear h B0
  obtain ⟨Z, hZ⟩ : ∃ Z, Rx.sz t = Z := ⟨_, rfl⟩
  have ZS : Hid (Rx.size t = if Rx.isRex t = true then Z + 1 else 0) := by show _ = _; rw [Rx.size, hZ]
  rw [hZ] at hsz CC
  have hz : Z ≤ 10000 := by omega
  clear hZ hsz hn
  go_enter Tryz.func121, Tryz.ntmps121
  go_wp2_with fail
  obtain ⟨w0, hw0⟩ : ∃ w0, w.alloc (.cells #[.int .i64 op, .int .u64 (a : Int), .int .u64 (b : Int), .int .u64 (c : Int), .int .u64 (d : Int), .slice A n cap] 135) = w0 := ⟨_, rfl⟩
  rw [hw0] at BX SZ0 CI ⊢
  clear hw0
  refine CI.out.mono ?_
  rintro e w1 ⟨rfl, b1⟩
  have D1 := Lib.hid (b1.mono SZ0.out)
  obtain ⟨⟨q0, q1, q2, q3, q4, q5⟩, BW⟩ := BX.out w1 D1.out
  have B1 := Lib.hid BW
  clear BW b1 CI
  cases hr : Rx.isRex t
  · have R : Hid (Rx.size t = 0) := by show _ = _; rw [ZS.out, hr]; rfl
    clear ZS CC q0 q1 q2 q3 q4 q5
    go_wp2
    go_ret
    exact ⟨by rw [R.out]; rfl, B1.out⟩
  · have R : Hid (Rx.size t = Z + 1) := by show _ = _; rw [ZS.out, hr]; rfl
    have C2 := Lib.hid (CC.out w1 B1.out hr)
    clear ZS CC
    go_wp2_with fail
    refine C2.out.mono ?_
    rintro e w2 ⟨rfl, b2⟩
    have B2 := Lib.hid (B1.out.trans (b2.mono B1.out.size))
    clear b2 C2 q0 q1 q2 q3 q4 q5
    go_wp2
    go_ret
    exact ⟨by rw [R.out]; go_num, B2.out⟩

end Go.Proofs.YtlfcjjlgkcfkdaaGreatDoor
namespace Go.Proofs.YtlfcjjlgkcfkdaaGreatDoor
open Rx
namespace Pt
variable (S : List Nat)
mutual
/-- Begun at the places B and read up to place i, it says what is so. -/
def good : Pt → (Nat → Prop) → Nat → Prop
  | .mk op a b c d _ em _ la ks, B, i =>
    (∀ j, em = true ↔ mt S (.mk op a b c d (shL ks)) j j) ∧ (la = true ↔ ∃ b', b' < i ∧ B b' ∧ mt S (.mk op a b c d (shL ks)) b' i) ∧
    (if op = 1 then True else if op = 2 then goodSeq ks B i else if op = 4 ∨ op = 5 then goodAll ks (fun j => ∃ b', b' ≤ j ∧ B b' ∧ Star (mtHd S (shL ks)) b' j) i else goodAll ks B i)
def goodAll : List Pt → (Nat → Prop) → Nat → Prop
  | [], _, _ => True
  | k :: r, B, i => good k B i ∧ goodAll r B i
def goodSeq : List Pt → (Nat → Prop) → Nat → Prop
  | [], _, _ => True
  | k :: r, B, i => good k B i ∧ goodSeq r (fun j => ∃ b', b' ≤ j ∧ B b' ∧ mt S (sh k) b' j) i
end
variable {S}
theorem star_cons {R : Nat → Nat → Prop} {i m j : Nat} (r : R i m) (h : Star R m j) : Star R i j := by
  induction h with
  | refl => exact (Star.refl i).tail r
  | tail _ r2 ih => exact ih.tail r2
end Pt

end Go.Proofs.YtlfcjjlgkcfkdaaGreatDoor
namespace Go.Proofs.YtlfcjjlgkcfkdaaGreatDoor
open Go.RowKit Go.Sort

/-- Numbers as cells. -/
def iz (l : List Nat) : List Value := l.map fun k : Nat => Value.int .i64 (k : Int)
theorem iz_app (a b : List Nat) : iz (a ++ b) = iz a ++ iz b := by simp [iz]
/-- The places up to k at which a match may end. -/
def endsTo (S : List Nat) (t : Rx) (at_ k : Nat) : List Nat := (List.range k).filter (Rx.aft S t fun j => j == at_)
theorem endsTo_yes {S : List Nat} {t : Rx} {a k : Nat} (h : Rx.aft S t (fun j => j == a) k = true) : endsTo S t a (k + 1) = endsTo S t a k ++ [k] := by
  simp [endsTo, List.range_succ, List.filter_append, h]
theorem endsTo_no {S : List Nat} {t : Rx} {a k : Nat} (h : Rx.aft S t (fun j => j == a) k = false) : endsTo S t a (k + 1) = endsTo S t a k := by
  simp [endsTo, List.range_succ, List.filter_append, h]
theorem endsTo_len (S : List Nat) (t : Rx) (a k : Nat) : (endsTo S t a k).length ≤ k := Nat.le_trans (List.length_filter_le _ _) (by simp)
/-- What Ends is to tell. -/
def ends (S : List Nat) (t : Rx) (z : Int) : List Nat := if Rx.isRex t = true ∧ 0 ≤ z ∧ z ≤ (S.length : Int) then endsTo S t z.toNat (S.length + 1) else []
def MadeInts (w : World) (l : List Nat) (e : Ending) (w' : World) : Prop := ∃ v, e = .returned v ∧ w'.ownsRow w.heap.size 3 1 v l.length (iz l) ∧ Below w.heap.size w w'
theorem Tryz.infoZ : (Tryz.prog.info? 3).map (fun i => (i.zero, i.size, i.bytes)) = some (some (.int .i64 0), 1, 8) := by kernel_rfl
theorem one_iz (k : Nat) : ∀ u ∈ [Value.int .i64 (k : Int)], u.oneCell' = true := by
  intro u hu
  simp only [List.mem_singleton] at hu
  subst hu
  rfl

set_option maxRecDepth 100000 in
set_option maxHeartbeats 2000000 in
theorem rends_none (t : Rx) (v : Value) (z : Int) (s : ByteArray) (w : World) (hcnt : Rx.count t ≤ 1000) (h : IsRx w v t) (hno : ¬ (Rx.isRex t = true ∧ 0 ≤ z ∧ z ≤ (s.size : Int))) :
    Calls Tryz.prog 123 #[v, .string s, .int .i64 z] w fun e w' => e = .returned (.slice none 0 0) ∧ Below w.heap.size w w' := by
  have h0 := h
  cases h with
  | node op a b c d ks A cap blk off V hcap hA hp hc hk =>
    have BX := box6 (w := w) (v0 := .int .i64 op) (v1 := .int .u64 (a : Int)) (v2 := .int .u64 (b : Int)) (v3 := .int .u64 (c : Int)) (v4 := .int .u64 (d : Int)) (v5 := .slice A ks.length cap) (ty := 135) (W := _) (Below.refl _ _)
    have CI := Lib.hid (risrex_any 1000 _ _ _ (Nat.le_refl _) hcnt (h0.grown BX.2))
    have BW := Lib.hid BX.2
    clear BX hcap hA hp hc hk h0 hcnt
    generalize ks.length = N at *
    cases hr : Rx.isRex (.mk op a b c d ks)
    · rw [hr] at CI
      clear hr hno
      go_enter Tryz.func123, Tryz.ntmps123
      go_wp2_with fail
      refine CI.out.mono ?_
      rintro e w2 ⟨rfl, b2⟩
      have B := Lib.hid (BW.out.trans (b2.mono BW.out.size))
      clear CI b2 BW
      go_wp2
      go_ret
      exact ⟨rfl, B.out⟩
    · rw [hr] at CI hno
      clear hr
      by_cases hz : z < 0
      · clear hno
        go_enter Tryz.func123, Tryz.ntmps123
        go_wp2_with fail
        refine CI.out.mono ?_
        rintro e w2 ⟨rfl, b2⟩
        have B := Lib.hid (BW.out.trans (b2.mono BW.out.size))
        clear CI b2 BW
        go_wp2
        go_ret
        exact ⟨rfl, B.out⟩
      · have hzd : decide (z > (s.size : Int)) = true := decide_eq_true (by
          rcases Int.lt_or_le (s.size : Int) z with h | h
          · exact h
          · exact absurd ⟨rfl, by omega, h⟩ hno)
        clear hno
        go_enter Tryz.func123, Tryz.ntmps123
        go_wp2_with fail
        refine CI.out.mono ?_
        rintro e w2 ⟨rfl, b2⟩
        have B := Lib.hid (BW.out.trans (b2.mono BW.out.size))
        clear CI b2 BW
        go_wp2
        go_ret
        exact ⟨rfl, B.out⟩

end Go.Proofs.YtlfcjjlgkcfkdaaGreatDoor
namespace Go.Proofs.YtlfcjjlgkcfkdaaGreatDoor
namespace Sc
def has (s : St) (c : Nat) : Bool := hasB s.a s.b s.c s.d c
/-- A step taken without a byte. -/
def EMv (P : List St) (p q : Nat) : Prop := p < P.length ∧ (((nthS P p).op = 2 ∧ ((q : Int) = (nthS P p).x ∨ (q : Int) = (nthS P p).y)) ∨ ((nthS P p).op = 3 ∧ (q : Int) = (nthS P p).x))
/-- A step taken with a byte. -/
def BMv (P : List St) (S : List Nat) (p i : Nat) : Prop := p < P.length ∧ (nthS P p).op = 1 ∧ i < S.length ∧ has (nthS P p) (S.getD i 0) = true
def Mv (P : List St) (S : List Nat) (p i q j : Nat) : Prop := (EMv P p q ∧ j = i) ∨ (BMv P S p i ∧ q = p + 1 ∧ j = i + 1)
/-- So many steps. -/
def Pth (P : List St) (S : List Nat) : Nat → Nat → Nat → Nat → Nat → Prop
  | 0, p, i, q, j => p = q ∧ i = j
  | m + 1, p, i, q, j => ∃ p' i', Mv P S p i p' i' ∧ Pth P S m p' i' q j
theorem Pth.trans {P : List St} {S : List Nat} : ∀ {m n p i q j r k : Nat}, Pth P S m p i q j → Pth P S n q j r k → Pth P S (m + n) p i r k
  | 0, n, p, i, q, j, r, k, ⟨e1, e2⟩, h => by subst e1 e2; rw [Nat.zero_add]; exact h
  | m + 1, n, p, i, q, j, r, k, ⟨p', i', h1, h2⟩, h => by rw [Nat.add_right_comm]; exact ⟨p', i', h1, Pth.trans h2 h⟩
theorem Pth.one {P : List St} {S : List Nat} {p i q j : Nat} (h : Mv P S p i q j) : Pth P S 1 p i q j := ⟨q, j, h, rfl, rfl⟩
/-- Steps lie in a program from an index on. -/
def In (P : List St) (n : Nat) (L : List St) : Prop := ∀ k, k < L.length → n + k < P.length ∧ nthS P (n + k) = nthS L k
theorem nthS_left {L M : List St} {k : Nat} (h : k < L.length) : nthS (L ++ M) k = nthS L k := by simp [nthS, List.getD, List.getElem?_append_left h]
theorem nthS_right {L M : List St} {k : Nat} : nthS (L ++ M) (L.length + k) = nthS M k := by simp [nthS, List.getD, List.getElem?_append_right]
theorem In.left {P : List St} {n : Nat} {L M : List St} (h : In P n (L ++ M)) : In P n L := fun k hk => by
  have := h k (by rw [List.length_append]; omega)
  rw [nthS_left hk] at this; exact this
theorem In.right {P : List St} {n m : Nat} {L M : List St} (h : In P n (L ++ M)) (hm : L.length = m) : In P (n + m) M := fun k hk => by
  subst hm
  have := h (L.length + k) (by rw [List.length_append]; omega)
  rw [nthS_right] at this
  rw [Nat.add_assoc]; exact this
theorem In.head {P : List St} {n : Nat} {s : St} {M : List St} (h : In P n (s :: M)) : n < P.length ∧ nthS P n = s := h 0 (by simp)
theorem In.tail {P : List St} {n : Nat} {s : St} {M : List St} (h : In P n (s :: M)) : In P (n + 1) M := In.right (L := [s]) h rfl
theorem split_mv {P : List St} {S : List Nat} {n x y : Nat} (h : n < P.length ∧ nthS P n = St.split x y) (i q j : Nat) : Mv P S n i q j ↔ j = i ∧ (q = x ∨ q = y) := by
  obtain ⟨h1, h2⟩ := h
  unfold Mv EMv BMv
  rw [h2]
  simp only [St.split]
  constructor
  · rintro (⟨⟨_, h⟩, e⟩ | ⟨⟨_, h, _⟩, _⟩)
    · refine ⟨e, ?_⟩
      rcases h with ⟨_, h | h⟩ | ⟨h, _⟩
      · exact .inl (by omega)
      · exact .inr (by omega)
      · omega
    · omega
  · rintro ⟨e, h⟩
    exact .inl ⟨⟨h1, .inl ⟨trivial, h.elim (fun e => .inl (by omega)) (fun e => .inr (by omega))⟩⟩, e⟩
theorem jump_mv {P : List St} {S : List Nat} {n x : Nat} (h : n < P.length ∧ nthS P n = St.jump x) (i q j : Nat) : Mv P S n i q j ↔ j = i ∧ q = x := by
  obtain ⟨h1, h2⟩ := h
  unfold Mv EMv BMv
  rw [h2]
  simp only [St.jump]
  constructor
  · rintro (⟨⟨_, h⟩, e⟩ | ⟨⟨_, h, _⟩, _⟩)
    · refine ⟨e, ?_⟩
      rcases h with ⟨h, _⟩ | ⟨_, h⟩
      · omega
      · omega
    · omega
  · rintro ⟨e, h⟩
    exact .inl ⟨⟨h1, .inr ⟨trivial, by omega⟩⟩, e⟩
theorem byte_mv {P : List St} {S : List Nat} {n a b c d : Nat} (h : n < P.length ∧ nthS P n = St.byte a b c d) (i q j : Nat) : Mv P S n i q j ↔ i < S.length ∧ hasB a b c d (S.getD i 0) = true ∧ q = n + 1 ∧ j = i + 1 := by
  obtain ⟨h1, h2⟩ := h
  unfold Mv EMv BMv has
  rw [h2]
  simp only [St.byte]
  constructor
  · rintro (⟨⟨_, h⟩, e⟩ | ⟨⟨_, _, h2, h3⟩, h4, h5⟩)
    · omega
    · exact ⟨h2, h3, h4, h5⟩
  · rintro ⟨h2, h3, h4, h5⟩
    exact .inr ⟨⟨h1, trivial, h2, h3⟩, h4, h5⟩

/-- Repeated, if one pass leads back. -/
theorem star_path {P : List St} {S : List Nat} {n : Nat} {R : Nat → Nat → Prop} (h : ∀ i j, R i j → ∃ m, Pth P S m n i n j) {i j : Nat} (hs : Rx.Star R i j) : ∃ m, Pth P S m n i n j := by
  induction hs with
  | refl => exact ⟨0, rfl, rfl⟩
  | tail _ r ih =>
    obtain ⟨m1, h1⟩ := ih
    obtain ⟨m2, h2⟩ := h _ _ r
    exact ⟨_, h1.trans h2⟩
theorem star_cons {R : Nat → Nat → Prop} {i j k : Nat} (h : R i j) (hs : Rx.Star R j k) : Rx.Star R i k := by
  induction hs with
  | refl => exact .tail (.refl i) h
  | tail _ r ih => exact .tail ih r
mutual
/-- Where a match ends its steps come to their end. -/
theorem reaches {P : List St} {S : List Nat} : ∀ (t : Rx) (n : Nat), Rx.isRex t = true → In P n (Rx.lay n t) → ∀ i j, Rx.mt S t i j → ∃ m, Pth P S m n i (n + Rx.sz t) j
  | .mk op a b c d ks, n, hr, hin, i, j, h => by
    obtain ⟨hall, hop⟩ := Rx.isRex_cases hr
    rcases hop with ⟨rfl, rfl⟩ | rfl | ⟨rfl, h1⟩ | ⟨ho, h1⟩
    · simp only [Rx.mt, if_true] at h
      simp only [Rx.lay, if_true] at hin
      simp only [Rx.sz, if_true]
      obtain ⟨e1, e2, e3⟩ := h
      exact ⟨1, Pth.one ((byte_mv hin.head i _ _).2 ⟨e1, e3, rfl, e2⟩)⟩
    · simp [Rx.mt] at h
      simp [Rx.lay] at hin
      simp [Rx.sz]
      exact reachesL ks n hall hin i j h
    · simp [Rx.mt] at h
      simp [Rx.lay] at hin
      simp [Rx.sz]
      exact reachesW ks n _ hall h1 rfl hin i j h
    · have hk := reachesL (P := P) (S := S) ks
      rcases ho with rfl | rfl | rfl
      · simp [Rx.mt] at h
        simp [Rx.lay] at hin
        simp [Rx.sz]
        have hS := hin.head
        have hL := hin.tail.left
        have hJ := (hin.tail.right (Rx.layL_len ks (n + 1))).head
        have one : ∀ i j, Rx.mtHd S ks i j → ∃ m, Pth P S m n i n j := fun i j hm => by
          obtain ⟨m, hm⟩ := hk (n + 1) hall hL i j (by
            obtain ⟨k0, rfl⟩ := List.length_eq_one_iff.1 h1
            exact ⟨j, hm, rfl⟩)
          exact ⟨_, (Pth.one ((split_mv hS i (n + 1) i).2 ⟨rfl, .inl rfl⟩)).trans (hm.trans (Pth.one ((jump_mv hJ j n j).2 ⟨rfl, rfl⟩)))⟩
        obtain ⟨m, hm⟩ := star_path one h
        exact ⟨_, hm.trans (Pth.one ((split_mv hS j _ j).2 ⟨rfl, .inr (by omega)⟩))⟩
      · simp [Rx.mt] at h
        simp [Rx.lay] at hin
        simp [Rx.sz]
        have hL := hin.left
        have hS := (hin.right (Rx.layL_len ks n)).head
        have pass : ∀ i j, Rx.mtHd S ks i j → ∃ m, Pth P S m n i (n + Rx.szL ks) j := fun i j hm => hk n hall hL i j (by
          obtain ⟨k0, rfl⟩ := List.length_eq_one_iff.1 h1
          exact ⟨j, hm, rfl⟩)
        obtain ⟨x, hx, hs⟩ := h
        obtain ⟨m0, p0⟩ := pass i x hx
        have one : ∀ i j, Rx.mtHd S ks i j → ∃ m, Pth P S m (n + Rx.szL ks) i (n + Rx.szL ks) j := fun i j hm => by
          obtain ⟨m, hm⟩ := pass i j hm
          exact ⟨_, (Pth.one ((split_mv hS i n i).2 ⟨rfl, .inl rfl⟩)).trans hm⟩
        obtain ⟨m, hm⟩ := star_path one hs
        exact ⟨_, p0.trans (hm.trans (Pth.one ((split_mv hS j _ j).2 ⟨rfl, .inr (by omega)⟩)))⟩
      · simp [Rx.mt] at h
        simp [Rx.lay] at hin
        simp [Rx.sz]
        have hS := hin.head
        have hL := hin.tail
        rcases h with rfl | h
        · exact ⟨_, Pth.one ((split_mv hS i _ i).2 ⟨rfl, .inr (by omega)⟩)⟩
        · obtain ⟨m, hm⟩ := hk (n + 1) hall hL i j (by
            obtain ⟨k0, rfl⟩ := List.length_eq_one_iff.1 h1
            exact ⟨j, h, rfl⟩)
          have e : n + 1 + Rx.szL ks = n + (Rx.szL ks + 1) := by omega
          rw [e] at hm
          exact ⟨_, (Pth.one ((split_mv hS i (n + 1) i).2 ⟨rfl, .inl rfl⟩)).trans hm⟩
theorem reachesL {P : List St} {S : List Nat} : ∀ (ks : List Rx) (n : Nat), Rx.isAll ks = true → In P n (Rx.layL n ks) → ∀ i j, Rx.mtSeq S ks i j → ∃ m, Pth P S m n i (n + Rx.szL ks) j
  | [], n, _, _, i, j, h => ⟨0, by simp [Rx.szL], h⟩
  | k :: r, n, ha, hin, i, j, h => by
    rw [Rx.isAll, Bool.and_eq_true] at ha
    obtain ⟨x, h1, h2⟩ := h
    rw [Rx.layL] at hin
    obtain ⟨m1, p1⟩ := reaches k n ha.1 hin.left i x h1
    obtain ⟨m2, p2⟩ := reachesL r (n + Rx.sz k) ha.2 (hin.right (Rx.lay_len k n)) x j h2
    rw [Rx.szL, ← Nat.add_assoc]
    exact ⟨_, p1.trans p2⟩
theorem reachesW {P : List St} {S : List Nat} : ∀ (ks : List Rx) (n e : Nat), Rx.isAll ks = true → 1 ≤ ks.length → n + (Rx.szL ks + 2 * (ks.length - 1)) = e → In P n (Rx.ways n e ks) → ∀ i j, Rx.mtAlt S ks i j → ∃ m, Pth P S m n i e j
  | k :: r, n, e, ha, _, he, hin, i, j, h => by
    rw [Rx.isAll, Bool.and_eq_true] at ha
    rw [Rx.ways] at hin
    rcases r with _ | ⟨k2, r2⟩
    · rw [if_pos (by rfl)] at hin
      have e2 : n + Rx.sz k = e := by simp [Rx.szL] at he; omega
      rw [← e2]
      rcases h with h | h
      · exact reaches k n ha.1 hin i j h
      · cases h
    · rw [if_neg (by simp)] at hin
      have hS := hin.head
      have hL := hin.tail.left
      have hR := hin.tail.right (Rx.lay_len k (n + 1))
      rcases h with h | h
      · obtain ⟨m, hm⟩ := reaches k (n + 1) ha.1 hL i j h
        exact ⟨_, (Pth.one ((split_mv hS i (n + 1) i).2 ⟨rfl, .inl rfl⟩)).trans (hm.trans (Pth.one ((jump_mv hR.head j e j).2 ⟨rfl, rfl⟩)))⟩
      · have hW := hR.tail
        have e3 : n + 1 + Rx.sz k + 1 = n + 2 + Rx.sz k := by omega
        rw [e3] at hW
        obtain ⟨m, hm⟩ := reachesW (k2 :: r2) (n + 2 + Rx.sz k) e ha.2 (by simp) (by simp only [Rx.szL, List.length_cons] at he ⊢; omega) hW i j h
        exact ⟨_, (Pth.one ((split_mv hS i _ i).2 ⟨rfl, .inr rfl⟩)).trans hm⟩
end
end Sc

end Go.Proofs.YtlfcjjlgkcfkdaaGreatDoor

