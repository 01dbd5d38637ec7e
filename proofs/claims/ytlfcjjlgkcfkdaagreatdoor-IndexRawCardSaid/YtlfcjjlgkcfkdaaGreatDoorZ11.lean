/-
  What the program's way and ways do, of what group does. Conditions: at most 40 bytes.
  Plain mathematics of chapter 5: a pattern's tree may be, has few nodes, its words have 64 bits. No conditions.
  What the program's group and Parse do. No conditions.
  Slices of ints in a walk; what the reference's SameInts and Has do. Conditions: lengths fit.
-/
import Derived.Test.YtlfcjjlgkcfkdaaGreatDoorProg
import Derived.Test.YtlfcjjlgkcfkdaaGreatDoorZ01
import Derived.Test.YtlfcjjlgkcfkdaaGreatDoorZ02
import Derived.Test.YtlfcjjlgkcfkdaaGreatDoorZ03
import Derived.Test.YtlfcjjlgkcfkdaaGreatDoorZ04
import Derived.Test.YtlfcjjlgkcfkdaaGreatDoorZ05
import Derived.Test.YtlfcjjlgkcfkdaaGreatDoorZ07
import Derived.Test.YtlfcjjlgkcfkdaaGreatDoorZ09
import Derived.Test.YtlfcjjlgkcfkdaaGreatDoorZ06
import Derived.Test.YtlfcjjlgkcfkdaaGreatDoorZ08
import Derived.Test.YtlfcjjlgkcfkdaaGreatDoorZ10
import Derived.Deep.RegionHeld3
import Derived.WalkKit
import Derived.WalkSpells
import Derived.WalkLawsBesides
import Derived.Lib.Hide
import Derived.Below
import Derived.BigQuiet
import Derived.Lib.QuietBelow
import Derived.Laws.StructEq
import Derived.KernelRfl
import Derived.Laws.MakeOwn
import Derived.Laws.OwnMore
import Derived.OwnWalk
import Derived.Laws.CopyOwn
import Derived.Laws.AppendOwn
import Derived.Deep.QuietTactic
import Derived.Lib.Bytealg
import Derived.Laws.Externs
import Derived.Maps.AppendAt
import Derived.StillTailTactics
import Derived.Laws.ResultCell
import Derived.Deep.LoopGhost
namespace Go.Proofs.YtlfcjjlgkcfkdaaGreatDoor
open Go.RowKit Go.Sort
open Pz

theorem items_lt {s : ByteArray} : ∀ {m i j : Nat} {W V : Nat → Nat}, items (txt8 s) m W i = some (V, j) → i < j
  | 0, i, j, W, V, h => by cases h
  | m + 1, i, j, W, V, h => by
    by_cases h9 : pk (txt8 s) i = 93
    · rw [items, if_pos h9] at h; simp at h; omega
    · rw [items_step h9] at h
      cases hq : item (txt8 s) i with
      | none => rw [hq] at h; cases h
      | some q =>
        obtain ⟨lo, hi, k⟩ := q
        rw [hq] at h
        have := item_lt hq
        have := items_lt (m := m) h
        omega
theorem class_lt {s : ByteArray} {i j : Nat} {t : Rx} (h : class1 (txt8 s) 42 i = some (t, j)) : i < j := by
  rw [class_eq _ _ _ _ _ rfl rfl] at h
  generalize hk : (if pk (txt8 s) i = 94 then i + 1 else i) = i2 at h
  have hi : i ≤ i2 := by rw [← hk]; split <;> omega
  cases hq : item (txt8 s) i2 with
  | none => rw [hq] at h; cases h
  | some q =>
    obtain ⟨lo, hi, k⟩ := q
    rw [hq] at h
    have l1 := item_lt hq
    simp only [cont] at h
    cases hc : items (txt8 s) 42 (join none4 (span none4 lo (hi + 1 - lo))) k with
    | none => rw [hc] at h; cases h
    | some p =>
      obtain ⟨V, m⟩ := p
      rw [hc] at h
      have := items_lt hc
      simp [clsOf] at h
      omega
/-- No part ends ahead of its beginning. -/
def Ahead (G : Nat → Option (Rx × Nat)) : Prop := ∀ i t j, G i = some (t, j) → i ≤ j
theorem atom_lt {s : ByteArray} {G : Nat → Option (Rx × Nat)} (hG : Ahead G) {i j : Nat} {t : Rx} (h : atom (txt8 s) 42 G i = some (t, j)) : i < j := by
  unfold atom at h
  split at h
  · have := hG _ _ _ h; omega
  · split at h
    · have := class_lt h; omega
    · split at h
      · simp at h; omega
      · split at h
        · cases h
        · rename_i c j' h1
          have := byte1_lt h1
          simp at h; omega
theorem factor_lt {s : ByteArray} {G : Nat → Option (Rx × Nat)} (hG : Ahead G) {i j : Nat} {t : Rx} (h : factor (txt8 s) 42 G i = some (t, j)) : i < j := by
  unfold factor at h
  split at h
  · cases h
  · rename_i x k h1
    have := atom_lt hG h1
    split at h
    · simp at h; omega
    · split at h
      · simp at h; omega
      · split at h <;> (simp at h; omega)
theorem way_le {s : ByteArray} {G : Nat → Option (Rx × Nat)} (hG : Ahead G) {t : Rx} : ∀ {m : Nat} {l : List Rx} {i j : Nat}, way (txt8 s) 42 G m l i = some (t, j) → i ≤ j
  | 0, l, i, j, h => by cases h
  | m + 1, l, i, j, h => by
    rw [way] at h
    split at h
    · simp at h; omega
    · split at h
      · cases h
      · rename_i x k h1
        have := factor_lt hG h1
        have := way_le hG (m := m) h
        omega
theorem ways_le {s : ByteArray} {G : Nat → Option (Rx × Nat)} (hG : Ahead G) {t : Rx} : ∀ {m : Nat} {l : List Rx} {i j : Nat}, Pz.ways (txt8 s) 42 G m l i = some (t, j) → i ≤ j
  | 0, l, i, j, h => by cases h
  | m + 1, l, i, j, h => by
    rw [Pz.ways] at h
    split at h
    · cases h
    · rename_i x k h1
      have := way_le hG h1
      split at h
      · have := ways_le hG (m := m) h; omega
      · simp at h; omega
theorem group_le {s : ByteArray} : ∀ D, Ahead (group (txt8 s) 42 D)
  | 0 => fun i t j h => by cases h
  | D + 1 => fun i t j h => by
    rw [group] at h
    split at h
    · cases h
    · rename_i x k h1
      have := ways_le (group_le (s := s) D) h1
      split at h
      · simp at h; omega
      · cases h
/-- What the loops of way and ways keep: the kids so far. -/
def WInv (w : World) (P : Nat) (s : ByteArray) (d : Nat) (F : Nat → List Rx → Nat → Option (Rx × Nat)) (r : Option (Rx × Nat)) (m : Nat) (kv : Value) (wr : World) : Prop :=
  ∃ j l, At w P s j d zero6 135 wr ∧ Kids (w.heap.size + 1) wr kv l ∧ F m l j = r ∧ s.size < j + m ∧ l.length + m ≤ 42
theorem Kids.stp {P base : Nat} {w w' : World} {v : Value} {ts : List Rx} (h : Kids base w v ts) (hs : Stp P w w') (hP : P < base) : Kids base w' v ts := h.frame hs.size (fun b h1 h2 => hs.block b h2 (by omega))
theorem Kids.under {base : Nat} {w w' : World} {v : Value} {ts : List Rx} (h : Kids base w v ts) (hb : Below w.heap.size w w') : Kids base w' v ts := h.frame hb.size (fun b _ h2 => hb.block b h2)
theorem Kids.form2 {base : Nat} {w : World} {v : Value} {ts : List Rx} (h : Kids base w v ts) : ∃ A n cap, v = .slice A n cap := by
  obtain ⟨A, cap, e, _⟩ := h.form
  exact ⟨A, _, cap, e⟩
/-- The cells of a node by their place. -/
def v6f (op : Int) (a b c d : Nat) (A : Option Addr) (n cap : Nat) : Nat → Value := fun i => (c6 op a b c d A n cap).getD i Go.undef
theorem v6f_one (op : Int) (a b c d : Nat) (A : Option Addr) (n cap : Nat) : ∀ i, i < 6 → (v6f op a b c d A n cap i).oneCell' = true := fun i hi => by
  match i, hi with
  | 0, _ => rfl
  | 1, _ => rfl
  | 2, _ => rfl
  | 3, _ => rfl
  | 4, _ => rfl
  | 5, _ => rfl
/-- Ahead of an append of a new kid: the node in a variable, and in a literal's row. -/
theorem app_ready {w0 wr W1 : World} {P base : Nat} {kv : Value} {l : List Rx} {x : Rx} {op : Int} {a b c d : Nat} {A : Option Addr} {n cap : Nat} (hk : Kids base wr kv l) (hs : Stp P wr W1) (hP : P < base) (hbase : base ≤ wr.heap.size) (hx : RxIn (fun b => wr.heap.size ≤ b) W1 (.agg (c6 op a b c d A n cap)) x) (h2 : w0 = (W1.alloc (.cells (c6 op a b c d A n cap) 135)).alloc (.cells (c6 op a b c d A n cap) 135)) :
    Kids base w0 kv l ∧ (∀ i, i < 6 → w0.cell? ⟨W1.heap.size + 1, i, none⟩ = some (v6f op a b c d A n cap i)) ∧ RxIn (fun b => base ≤ b ∧ b < w0.heap.size ∧ kv.ownBlock ≠ some b) w0 (val6 (v6f op a b c d A n cap)) x ∧ base ≤ w0.heap.size ∧ Below W1.heap.size W1 w0 := by
  subst h2
  obtain ⟨e1, e2, z, B⟩ := alloc2 W1 (.cells (c6 op a b c d A n cap) 135) (.cells (c6 op a b c d A n cap) 135)
  generalize (W1.alloc (.cells (c6 op a b c d A n cap) 135)).alloc (.cells (c6 op a b c d A n cap) 135) = w0 at *
  have hs1 := hs.size
  refine ⟨(hk.stp hs hP).under B, fun i hi => ?_, ?_, by omega, B⟩
  · obtain ⟨q0, q1, q2, q3, q4, q5⟩ := Row6.cells e2
    match i, hi with
    | 0, _ => exact q0
    | 1, _ => exact q1
    | 2, _ => exact q2
    | 3, _ => exact q3
    | 4, _ => exact q4
    | 5, _ => exact q5
  · have h2 : RxIn (fun b => wr.heap.size ≤ b ∧ b < W1.heap.size) W1 (val6 (v6f op a b c d A n cap)) x := RxIn.frame (show RxIn (fun b => wr.heap.size ≤ b) W1 (val6 (v6f op a b c d A n cap)) x from hx) (fun _ _ => rfl) (fun b h1 h2 => ⟨h2, h1⟩)
    refine h2.frame (fun b hq => B.block b hq.2) (fun b _ hq => ⟨by omega, by omega, fun e => ?_⟩)
    have := (hk.low b e).2
    omega
theorem mem_no {c : Nat} (h : c < 256) (h1 : ¬ c = 124) (h2 : ¬ c = 41) : mem sW c = false := by rw [mem_W c h]; simp [h1, h2]
theorem mem_yes {c : Nat} (h : c < 256) (h1 : c = 124 ∨ c = 41) : mem sW c = true := by rw [mem_W c h]; simp [h1]
set_option maxRecDepth 100000 in
set_option maxHeartbeats 8000000 in
theorem way_any (P d : Nat) (s : ByteArray) (G : Nat → Option (Rx × Nat)) (hA : Ahead G) (hG : Tells 164 P s d G) : Tells 137 P s d (way (txt8 s) 42 G 42 []) := by
  intro i w h
  have H0 := At.start h zero6 135
  have hsm := h.sm
  obtain ⟨r, hr⟩ : ∃ r, way (txt8 s) 42 G 42 [] i = r := ⟨_, rfl⟩
  have W0 : Hid (WInv w P s d (way (txt8 s) 42 G) r 42 (.slice none 0 0) (w.alloc (.cells zero6 135))) := ⟨i, [], H0, Kids.nil _ _, hr, by omega, by simp⟩
  have hPw := h.lt
  clear h H0
  rw [hr]
  have HR := Lib.hid hr
  clear hr
  unfold zero6 at W0
  have FC := Lib.hid (factor_any P d s G hG)
  have FL := Lib.hid (fun i t j => factor_lt (s := s) hA (i := i) (j := j) (t := t))
  clear hG hA
  go_enter Tryz.func137, Tryz.ntmps137
  go_wp2
  generalize w.alloc (.cells #[.int .i64 0, .int .u64 0, .int .u64 0, .int .u64 0, .int .u64 0, .slice none 0 0] 135) = w3 at W0 ⊢
  go_loopg [4] 42 (fun m kv wr => ∃ A n cap, kv = .slice A n cap ∧ Hid (WInv w P s d (way (txt8 s) 42 G) r m kv wr))
  case atStart => exact ⟨_, _, _, rfl, W0⟩
  case round =>
    clear W0
    obtain ⟨A0, n0, cap0, rfl, HI⟩ := hrel
    obtain ⟨j, l, H, K, hF, hj, hl⟩ := HI
    have H := Lib.hid H
    have K := Lib.hid K
    obtain ⟨m, rfl⟩ : ∃ m, gk = m + 1 := ⟨gk - 1, by have := H.out.pa.le; omega⟩
    rw [way] at hF
    have c0 := H.out.pa.c0
    have c1 := H.out.pa.c1
    have hle := H.out.pa.le
    obtain ⟨L, hL⟩ : ∃ L, s.size = L := ⟨_, rfl⟩
    by_cases hlt : j < L
    · have hltz : (j : Int) < (L : Int) := by omega
      have hb : pk (txt8 s) j < 256 := pk_byte (by omega)
      by_cases hx : pk (txt8 s) j = 124 ∨ pk (txt8 s) j = 41
      · have NX : Hid (∀ W (h : Par W P s j d), Calls Tryz.prog 151 #[.pointer (some ⟨P, 0, none⟩), .string sW] W fun e w' => e = .returned (.bool true) ∧ ∃ n, w' = W.drewN n) := fun W h => by have := next_any P j d sW s W h; rw [mem_yes hb hx, decide_eq_true (by omega : j < s.size)] at this; exact this
        rw [if_pos (.inr hx)] at hF
        have R := Lib.hid hF.symm
        clear hF hx hb
        go_wp2_with fail
        go_quiet ((go_at_call 151; exact Calls.quiet_of (NX.out _ (H.out.pa.drew _))))
        replace H := Lib.hid (H.out.drew nq)
        replace K := Lib.hid (K.out.under (drewN_below (Below.refl _ wr) nq))
        have JN := Lib.hid (fun W (hW : Kids (w.heap.size + 1) W (.slice A0 n0 cap0) l) => joined_any 2 l _ A0 n0 cap0 W hW (by omega))
        go_wp2_with fail
        refine (JN.out _ K.out).mono ?_
        rintro e W4 ⟨op, a, b, c, d1, A, n, cap, rfl, RX, B1⟩
        replace H := Lib.hid (H.out.grow B1)
        have RX := Lib.hid RX
        clear B1 JN K
        go_wp2_with (refine wpList_store_row rfl 135 (.tmp 2) (.tmp 35) rfl w.heap.size #[.int .i64 op, .int .u64 (a : Int), .int .u64 (b : Int), .int .u64 (c : Int), .int .u64 (d1 : Int), .slice A n cap] rfl rfl 135 _ H.out.r Tryz.size6 rfl (by simp [Value.oneCell']) ?_)
        exact bodyPost_ret (run_ct rfl _ _ _ w.heap.size #[.int .i64 op, .int .u64 (a : Int), .int .u64 (b : Int), .int .u64 (c : Int), .int .u64 (d1 : Int), .slice A n cap] (.bool true) rfl rfl (run_loadVar_row _ _ _ _ _ _ _ (H.out.fin _).2.2 Tryz.underlying135 rfl Tryz.size6)) rfl (pres_some R.out H.out RX.out)
      · have NX : Hid (∀ W (h : Par W P s j d), Calls Tryz.prog 151 #[.pointer (some ⟨P, 0, none⟩), .string sW] W fun e w' => e = .returned (.bool false) ∧ ∃ n, w' = W.drewN n) := fun W h => by have := next_any P j d sW s W h; rw [mem_no hb (fun e => hx (.inl e)) (fun e => hx (.inr e)), Bool.and_false] at this; exact this
        rw [if_neg (fun e => by rcases e with e | e; omega; exact hx e)] at hF
        clear hx hb
        cases hf : factor (txt8 s) 42 G j with
        | none =>
          rw [hf] at hF
          have R := Lib.hid hF.symm
          have HF := Lib.hid hf
          clear hF hf
          go_wp2_with fail
          go_quiet ((go_at_call 151; exact Calls.quiet_of (NX.out _ (H.out.pa.drew _))))
          replace H := Lib.hid (H.out.drew nq)
          replace K := Lib.hid (K.out.under (drewN_below (Below.refl _ wr) nq))
          go_wp2_with fail
          refine (FC.out j _ H.out.pa).mono ?_
          intro e W1 hp
          obtain ⟨rfl, S1, j1, P1⟩ := hp.no HF.out
          replace H := Lib.hid (H.out.step S1 P1)
          clear S1 P1 hp
          replace H := Lib.hid (H.out.grow ((Below.refl _ _).alloc (Nat.le_refl _) (.cells #[.int .i64 0, .int .u64 0, .int .u64 0, .int .u64 0, .int .u64 0, .slice none 0 0] 135)))
          go_wp2_with (refine wpList_store_row rfl 135 (.tmp 2) (.tmp 29) rfl w.heap.size #[.int .i64 0, .int .u64 0, .int .u64 0, .int .u64 0, .int .u64 0, .slice none 0 0] rfl rfl 135 _ H.out.r Tryz.size6 rfl (by simp [Value.oneCell']) ?_)
          exact bodyPost_ret (run_ct rfl _ _ _ w.heap.size #[.int .i64 0, .int .u64 0, .int .u64 0, .int .u64 0, .int .u64 0, .slice none 0 0] (.bool false) rfl rfl (run_loadVar_row _ _ _ _ _ _ _ (H.out.fin _).2.2 Tryz.underlying135 rfl Tryz.size6)) rfl (pres_none R.out H.out)
        | some q =>
          obtain ⟨x, k⟩ := q
          rw [hf] at hF
          have R := Lib.hid hF
          have hjk := FL.out _ _ _ hf
          have HF := Lib.hid hf
          clear hF hf
          go_wp2_with fail
          go_quiet ((go_at_call 151; exact Calls.quiet_of (NX.out _ (H.out.pa.drew _))))
          replace H := Lib.hid (H.out.drew nq)
          replace K := Lib.hid (K.out.under (drewN_below (Below.refl _ wr) nq))
          have hbig := H.out.big
          go_wp2_with fail
          refine (FC.out j _ H.out.pa).mono ?_
          intro e W1 hp
          obtain ⟨op, a, b, c, d1, A, n, cap, rfl, RX, S1, P1⟩ := hp.yes HF.out
          have AR := Lib.hid (app_ready K.out S1 (by omega) hbig RX rfl)
          replace H := Lib.hid ((H.out.step S1 P1).grow AR.out.2.2.2.2)
          clear S1 P1 hp RX K hbig
          go_wp2_with ((refine wpList_appR rfl (.tmp 30) (.tmp 32) rfl (w.heap.size + 1) (.slice A0 n0 cap0) l (W1.heap.size + 1) rfl rfl AR.out.1 (v6f op a b c d1 A n cap) x AR.out.2.1 (v6f_one _ _ _ _ _ _ _ _) AR.out.2.2.1 (by omega) AR.out.2.2.2.1 ?_); (intro v' w' K2 G2); (replace H := Lib.hid (H.out.grown G2 (fun k hk => by have := (AR.out.1.low k hk).1; omega))); (obtain ⟨A2, n2, cap2, rfl⟩ := K2.form2); (replace K2 := Lib.hid K2); (clear G2 AR))
          go_roundg m
          case measure => omega
          case rel => exact ⟨_, _, _, rfl, ⟨k, l ++ [x], H.out, K2.out, R.out, by omega, by simp; omega⟩⟩
    · have hltz : ¬ (j : Int) < (L : Int) := by omega
      rw [if_pos (.inl (pk_end (by omega)))] at hF
      have R := Lib.hid hF.symm
      clear hF
      go_wp2_with fail
      go_quiet (fail)
      replace H := Lib.hid (H.out.drew nq)
      replace K := Lib.hid (K.out.under (drewN_below (Below.refl _ wr) nq))
      have JN := Lib.hid (fun W (hW : Kids (w.heap.size + 1) W (.slice A0 n0 cap0) l) => joined_any 2 l _ A0 n0 cap0 W hW (by omega))
      go_wp2_with fail
      refine (JN.out _ K.out).mono ?_
      rintro e W4 ⟨op, a, b, c, d1, A, n, cap, rfl, RX, B1⟩
      replace H := Lib.hid (H.out.grow B1)
      have RX := Lib.hid RX
      clear B1 JN K
      go_wp2_with (refine wpList_store_row rfl 135 (.tmp 2) (.tmp 35) rfl w.heap.size #[.int .i64 op, .int .u64 (a : Int), .int .u64 (b : Int), .int .u64 (c : Int), .int .u64 (d1 : Int), .slice A n cap] rfl rfl 135 _ H.out.r Tryz.size6 rfl (by simp [Value.oneCell']) ?_)
      exact bodyPost_ret (run_ct rfl _ _ _ w.heap.size #[.int .i64 op, .int .u64 (a : Int), .int .u64 (b : Int), .int .u64 (c : Int), .int .u64 (d1 : Int), .slice A n cap] (.bool true) rfl rfl (run_loadVar_row _ _ _ _ _ _ _ (H.out.fin _).2.2 Tryz.underlying135 rfl Tryz.size6)) rfl (pres_some R.out H.out RX.out)

set_option maxRecDepth 100000 in
set_option maxHeartbeats 8000000 in
theorem ways_any (P d : Nat) (s : ByteArray) (G : Nat → Option (Rx × Nat)) (hA : Ahead G) (hG : Tells 164 P s d G) : Tells 124 P s d (Pz.ways (txt8 s) 42 G 42 []) := by
  intro i w h
  have H0 := At.start h zero6 135
  have hsm := h.sm
  obtain ⟨r, hr⟩ : ∃ r, Pz.ways (txt8 s) 42 G 42 [] i = r := ⟨_, rfl⟩
  have W0 : Hid (WInv w P s d (Pz.ways (txt8 s) 42 G) r 42 (.slice none 0 0) (w.alloc (.cells zero6 135))) := ⟨i, [], H0, Kids.nil _ _, hr, by omega, by simp⟩
  have hPw := h.lt
  clear h H0
  rw [hr]
  have HR := Lib.hid hr
  clear hr
  unfold zero6 at W0
  have FC := Lib.hid (way_any P d s G hA hG)
  have FL := Lib.hid (fun i t j => way_le (s := s) hA (m := 42) (l := []) (i := i) (j := j) (t := t))
  clear hG hA
  go_enter Tryz.func124, Tryz.ntmps124
  go_wp2
  generalize w.alloc (.cells #[.int .i64 0, .int .u64 0, .int .u64 0, .int .u64 0, .int .u64 0, .slice none 0 0] 135) = w3 at W0 ⊢
  go_loopg [4] 42 (fun m kv wr => ∃ A n cap, kv = .slice A n cap ∧ Hid (WInv w P s d (Pz.ways (txt8 s) 42 G) r m kv wr))
  case atStart => exact ⟨_, _, _, rfl, W0⟩
  case round =>
    clear W0
    obtain ⟨A0, n0, cap0, rfl, HI⟩ := hrel
    obtain ⟨j, l, H, K, hF, hj, hl⟩ := HI
    have H := Lib.hid H
    have K := Lib.hid K
    obtain ⟨m, rfl⟩ : ∃ m, gk = m + 1 := ⟨gk - 1, by have := H.out.pa.le; omega⟩
    rw [Pz.ways] at hF
    cases hf : way (txt8 s) 42 G 42 [] j with
    | none =>
      rw [hf] at hF
      have R := Lib.hid hF.symm
      have HF := Lib.hid hf
      clear hF hf
      go_wp2_with fail
      refine (FC.out j _ H.out.pa).mono ?_
      intro e W1 hp
      obtain ⟨rfl, S1, j1, P1⟩ := hp.no HF.out
      replace H := Lib.hid (H.out.step S1 P1)
      clear S1 P1 hp
      replace H := Lib.hid (H.out.grow ((Below.refl _ _).alloc (Nat.le_refl _) (.cells #[.int .i64 0, .int .u64 0, .int .u64 0, .int .u64 0, .int .u64 0, .slice none 0 0] 135)))
      go_wp2_with (refine wpList_store_row rfl 135 (.tmp 2) (.tmp 14) rfl w.heap.size #[.int .i64 0, .int .u64 0, .int .u64 0, .int .u64 0, .int .u64 0, .slice none 0 0] rfl rfl 135 _ H.out.r Tryz.size6 rfl (by simp [Value.oneCell']) ?_)
      exact bodyPost_ret (run_ct rfl _ _ _ w.heap.size #[.int .i64 0, .int .u64 0, .int .u64 0, .int .u64 0, .int .u64 0, .slice none 0 0] (.bool false) rfl rfl (run_loadVar_row _ _ _ _ _ _ _ (H.out.fin _).2.2 Tryz.underlying135 rfl Tryz.size6)) rfl (pres_none R.out H.out)
    | some q =>
      obtain ⟨x, k⟩ := q
      rw [hf] at hF
      have hjk := FL.out _ _ _ hf
      have HF := Lib.hid hf
      have hF : (if pk (txt8 s) k = 124 then Pz.ways (txt8 s) 42 G m (l ++ [x]) (k + 1) else some (joined 3 (l ++ [x]), k)) = r := hF
      by_cases hx : pk (txt8 s) k = 124
      · have C1 := Lib.hid (fun W => skip_yes (P := P) (d := d) hx (by omega) W)
        rw [if_pos hx] at hF
        have R := Lib.hid hF
        clear hF hf hx
        have hbig := H.out.big
        go_wp2_with fail
        refine (FC.out j _ H.out.pa).mono ?_
        intro e W1 hp
        obtain ⟨op, a, b, c, d1, A, n, cap, rfl, RX, S1, P1⟩ := hp.yes HF.out
        have AR := Lib.hid (app_ready K.out S1 (by omega) hbig RX rfl)
        replace H := Lib.hid ((H.out.step S1 P1).grow AR.out.2.2.2.2)
        clear S1 P1 hp RX K hbig
        go_wp2_with ((refine wpList_appR rfl (.tmp 15) (.tmp 17) rfl (w.heap.size + 1) (.slice A0 n0 cap0) l (W1.heap.size + 1) rfl rfl AR.out.1 (v6f op a b c d1 A n cap) x AR.out.2.1 (v6f_one _ _ _ _ _ _ _ _) AR.out.2.2.1 (by omega) AR.out.2.2.2.1 ?_); (intro v' w' K2 G2); (replace H := Lib.hid (H.out.grown G2 (fun k hk => by have := (AR.out.1.low k hk).1; omega))); (obtain ⟨A2, n2, cap2, rfl⟩ := K2.form2); (replace K2 := Lib.hid K2); (clear G2 AR))
        refine (C1.out _ H.out.pa).mono ?_
        rintro e W5 ⟨rfl, S1, P1⟩
        replace K2 := Lib.hid (K2.out.stp S1 (by omega))
        replace H := Lib.hid (H.out.step S1 P1)
        clear S1 P1
        go_wp2
        go_roundg m
        case measure => omega
        case rel => exact ⟨_, _, _, rfl, ⟨k + 1, l ++ [x], H.out, K2.out, R.out, by omega, by simp; omega⟩⟩
      · have C1 := Lib.hid (fun W => skip_no (P := P) (d := d) hx (by omega) W)
        rw [if_neg hx] at hF
        have R := Lib.hid hF.symm
        clear hF hf hx
        have hbig := H.out.big
        go_wp2_with fail
        refine (FC.out j _ H.out.pa).mono ?_
        intro e W1 hp
        obtain ⟨op, a, b, c, d1, A, n, cap, rfl, RX, S1, P1⟩ := hp.yes HF.out
        have AR := Lib.hid (app_ready K.out S1 (by omega) hbig RX rfl)
        replace H := Lib.hid ((H.out.step S1 P1).grow AR.out.2.2.2.2)
        clear S1 P1 hp RX K hbig
        go_wp2_with ((refine wpList_appR rfl (.tmp 15) (.tmp 17) rfl (w.heap.size + 1) (.slice A0 n0 cap0) l (W1.heap.size + 1) rfl rfl AR.out.1 (v6f op a b c d1 A n cap) x AR.out.2.1 (v6f_one _ _ _ _ _ _ _ _) AR.out.2.2.1 (by omega) AR.out.2.2.2.1 ?_); (intro v' w' K2 G2); (replace H := Lib.hid (H.out.grown G2 (fun k hk => by have := (AR.out.1.low k hk).1; omega))); (obtain ⟨A2, n2, cap2, rfl⟩ := K2.form2); (replace K2 := Lib.hid K2); (clear G2 AR))
        refine (C1.out _ H.out.pa).mono ?_
        rintro e W5 ⟨rfl, S1, P1⟩
        replace K2 := Lib.hid (K2.out.stp S1 (by omega))
        replace H := Lib.hid (H.out.step S1 P1)
        clear S1 P1
        have hl2 : (l ++ [x]).length ≤ 1000 := by simp; omega
        have JN := Lib.hid (joined_any 3 (l ++ [x]) _ A2 n2 cap2 _ K2.out hl2)
        go_wp2_with fail
        refine JN.out.mono ?_
        rintro e W4 ⟨op', a', b', c', d1', A', n', cap', rfl, RX, B1⟩
        replace H := Lib.hid (H.out.grow B1)
        have RX := Lib.hid RX
        clear B1 JN K2
        go_wp2_with (refine wpList_store_row rfl 135 (.tmp 2) (.tmp 23) rfl w.heap.size #[.int .i64 op', .int .u64 (a' : Int), .int .u64 (b' : Int), .int .u64 (c' : Int), .int .u64 (d1' : Int), .slice A' n' cap'] rfl rfl 135 _ H.out.r Tryz.size6 rfl (by simp [Value.oneCell']) ?_)
        exact bodyPost_ret (run_ct rfl _ _ _ w.heap.size #[.int .i64 op', .int .u64 (a' : Int), .int .u64 (b' : Int), .int .u64 (c' : Int), .int .u64 (d1' : Int), .slice A' n' cap'] (.bool true) rfl rfl (run_loadVar_row _ _ _ _ _ _ _ (H.out.fin _).2.2 Tryz.underlying135 rfl Tryz.size6)) rfl (pres_some R.out H.out RX.out)

end Go.Proofs.YtlfcjjlgkcfkdaaGreatDoor
namespace Go.Proofs.YtlfcjjlgkcfkdaaGreatDoor
open Pz

/-- A tree that may be, of at most so many nodes. -/
structure Good (t : Rx) (n : Nat) : Prop where
  rex : Rx.isRex t = true
  fit : Rx.fit t
  count : Rx.count t ≤ n
theorem Good.mono {t : Rx} {m n : Nat} (h : Good t m) (hn : m ≤ n) : Good t n := ⟨h.rex, h.fit, Nat.le_trans h.count hn⟩
/-- Trees that may be, of at most so many nodes together. -/
structure GoodL (l : List Rx) (n : Nat) : Prop where
  rex : Rx.isAll l = true
  fit : Rx.fitL l
  count : Rx.countL l ≤ n
theorem isAll_app : ∀ (l : List Rx) (x : Rx), Rx.isAll (l ++ [x]) = (Rx.isAll l && Rx.isRex x)
  | [], x => by simp [Rx.isAll]
  | k :: r, x => by rw [List.cons_append, Rx.isAll, Rx.isAll, isAll_app r x, Bool.and_assoc]
theorem fitL_app : ∀ (l : List Rx) (x : Rx), Rx.fitL (l ++ [x]) ↔ Rx.fitL l ∧ Rx.fit x
  | [], x => by simp [Rx.fitL]
  | k :: r, x => by rw [List.cons_append, Rx.fitL, Rx.fitL, fitL_app r x, and_assoc]
theorem countL_app : ∀ (l : List Rx) (x : Rx), Rx.countL (l ++ [x]) = Rx.countL l + Rx.count x
  | [], x => by simp [Rx.countL]
  | k :: r, x => by rw [List.cons_append, Rx.countL, Rx.countL, countL_app r x]; omega
theorem GoodL.nil : GoodL [] 0 := ⟨by simp [Rx.isAll], by simp [Rx.fitL], by simp [Rx.countL]⟩
theorem GoodL.app {l : List Rx} {x : Rx} {m n : Nat} (h : GoodL l m) (hx : Good x n) : GoodL (l ++ [x]) (m + n) :=
  ⟨by rw [isAll_app, h.rex, hx.rex]; rfl, (fitL_app l x).2 ⟨h.fit, hx.fit⟩, by rw [countL_app]; have := h.count; have := hx.count; omega⟩
theorem fit0 : Fit4 0 0 0 0 := ⟨by omega, by omega, by omega, by omega⟩
theorem GoodL.joined {l : List Rx} {n : Nat} {op : Int} (h : GoodL l n) (ho : op = 2 ∨ (op = 3 ∧ 1 ≤ l.length)) : Good (joined op l) (n + 1) := by
  by_cases h1 : l.length = 1
  · obtain ⟨x, rfl⟩ := List.length_eq_one_iff.1 h1
    have h2 := h.rex
    have h3 := h.fit
    have h4 := h.count
    simp only [Rx.isAll, Bool.and_true] at h2
    simp only [Rx.fitL, and_true] at h3
    simp only [Rx.countL] at h4
    exact ⟨h2, h3, by show Rx.count x ≤ _; omega⟩
  · rw [joined_two h1]
    refine ⟨?_, ?_, by rw [Rx.count]; have := h.count; omega⟩
    · rw [Rx.isRex]
      rcases ho with rfl | ⟨rfl, hl⟩
      · rw [if_neg (by decide), h.rex]; simp [Rx.may]
      · rw [if_neg (by decide), h.rex]; simp [Rx.may]; omega
    · rw [Rx.fit]; exact ⟨fit0, h.fit⟩
theorem set_good {W : Nat → Nat} (h : Fits4 W) : Good (setOf W) 1 := ⟨by simp [setOf, Rx.isRex], by unfold setOf; rw [Rx.fit, Rx.fitL]; exact ⟨⟨h 0, h 1, h 2, h 3⟩, trivial⟩, by simp [setOf, Rx.count, Rx.countL]⟩
theorem rep_good {x : Rx} {n : Nat} {op : Int} (h : Good x n) (ho : op = 4 ∨ op = 5 ∨ op = 6) : Good (rep op x) (n + 1) := by
  refine ⟨?_, ?_, by unfold rep; rw [Rx.count, Rx.countL, Rx.countL]; have := h.count; omega⟩
  · unfold rep
    rw [Rx.isRex, Rx.isAll, Rx.isAll, h.rex]
    rcases ho with rfl | rfl | rfl <;> simp [Rx.may]
  · unfold rep; rw [Rx.fit, Rx.fitL, Rx.fitL]; exact ⟨fit0, h.fit, trivial⟩
theorem items_fits {s : ByteArray} : ∀ {m i j : Nat} {W V : Nat → Nat}, Fits4 W → items (txt8 s) m W i = some (V, j) → Fits4 V
  | 0, i, j, W, V, _, h => by cases h
  | m + 1, i, j, W, V, hW, h => by
    by_cases h9 : pk (txt8 s) i = 93
    · rw [items, if_pos h9] at h
      injection h with h
      injection h with h1 h2
      rw [← h1]; exact hW
    · rw [items_step h9] at h
      cases hq : item (txt8 s) i with
      | none => rw [hq] at h; cases h
      | some q =>
        obtain ⟨lo, hi, k⟩ := q
        rw [hq] at h
        exact items_fits (m := m) (join_fits hW (span_fits none4_fits _ _)) h
theorem class_good {s : ByteArray} {i j : Nat} {t : Rx} (h : class1 (txt8 s) 42 i = some (t, j)) : Good t 1 := by
  rw [class_eq _ _ _ _ _ rfl rfl] at h
  generalize (if pk (txt8 s) i = 94 then i + 1 else i) = i2 at h
  cases hq : item (txt8 s) i2 with
  | none => rw [hq] at h; cases h
  | some q =>
    obtain ⟨lo, hi, k⟩ := q
    rw [hq] at h
    simp only [cont] at h
    cases hc : items (txt8 s) 42 (join none4 (span none4 lo (hi + 1 - lo))) k with
    | none => rw [hc] at h; cases h
    | some p =>
      obtain ⟨V, m⟩ := p
      rw [hc] at h
      have hV := items_fits (join_fits none4_fits (span_fits none4_fits _ _)) hc
      injection h with h
      injection h with h1 h2
      rw [← h1]
      split
      · exact set_good (neg_fits V)
      · exact set_good hV
/-- What is told of the groups within. -/
def GoodG (G : Nat → Option (Rx × Nat)) : Prop := ∀ i t j, G i = some (t, j) → Good t (3 * (j - i))
theorem atom_good {s : ByteArray} {G : Nat → Option (Rx × Nat)} (hA : Ahead G) (hG : GoodG G) {i j : Nat} {t : Rx} (h : atom (txt8 s) 42 G i = some (t, j)) : Good t (3 * (j - i)) := by
  have lt := atom_lt hA h
  unfold atom at h
  split at h
  · exact (hG _ _ _ h).mono (by omega)
  · split at h
    · exact (class_good h).mono (by omega)
    · split at h
      · injection h with h; injection h with h1 h2; rw [← h1]; exact (set_good (neg_fits _)).mono (by omega)
      · split at h
        · cases h
        · injection h with h; injection h with h1 h2; rw [← h1]; exact (set_good (put_fits none4_fits _)).mono (by omega)
theorem factor_good {s : ByteArray} {G : Nat → Option (Rx × Nat)} (hA : Ahead G) (hG : GoodG G) {i j : Nat} {t : Rx} (h : factor (txt8 s) 42 G i = some (t, j)) : Good t (3 * (j - i)) := by
  unfold factor at h
  split at h
  · cases h
  · rename_i x k h1
    have l1 := atom_lt hA h1
    have g1 := atom_good hA hG h1
    split at h
    · injection h with h; injection h with h2 h3; rw [← h2, ← h3]; exact (rep_good g1 (by simp)).mono (by omega)
    · split at h
      · injection h with h; injection h with h2 h3; rw [← h2, ← h3]; exact (rep_good g1 (by simp)).mono (by omega)
      · split at h
        · injection h with h; injection h with h2 h3; rw [← h2, ← h3]; exact (rep_good g1 (by simp)).mono (by omega)
        · injection h with h; injection h with h2 h3; rw [← h2, ← h3]; exact g1
theorem way_good {s : ByteArray} {G : Nat → Option (Rx × Nat)} (hA : Ahead G) (hG : GoodG G) {t : Rx} : ∀ {m : Nat} {l : List Rx} {i j n : Nat}, GoodL l n → way (txt8 s) 42 G m l i = some (t, j) → Good t (n + 3 * (j - i) + 1)
  | 0, l, i, j, n, _, h => by cases h
  | m + 1, l, i, j, n, hl, h => by
    rw [way] at h
    split at h
    · injection h with h; injection h with h1 h2; rw [← h1]; exact (hl.joined (.inl rfl)).mono (by omega)
    · split at h
      · cases h
      · rename_i x k h1
        have l1 := factor_lt hA h1
        have g1 := factor_good hA hG h1
        have l2 := way_le hA (m := m) h
        exact (way_good hA hG (m := m) (hl.app g1) h).mono (by omega)
theorem ways_good {s : ByteArray} {G : Nat → Option (Rx × Nat)} (hA : Ahead G) (hG : GoodG G) {t : Rx} : ∀ {m : Nat} {l : List Rx} {i j n : Nat}, GoodL l n → Pz.ways (txt8 s) 42 G m l i = some (t, j) → Good t (n + 3 * (j - i) + 2)
  | 0, l, i, j, n, _, h => by cases h
  | m + 1, l, i, j, n, hl, h => by
    rw [Pz.ways] at h
    split at h
    · cases h
    · rename_i x k h1
      have l1 := way_le hA h1
      have g1 := way_good hA hG GoodL.nil h1
      split at h
      · have l2 := ways_le hA (m := m) h
        exact (ways_good hA hG (m := m) (hl.app g1) h).mono (by omega)
      · injection h with h; injection h with h2 h3
        rw [← h2, ← h3]
        exact ((hl.app g1).joined (.inr ⟨rfl, by simp⟩)).mono (by omega)
theorem group_good {s : ByteArray} : ∀ D, GoodG (group (txt8 s) 42 D)
  | 0 => fun i t j h => by cases h
  | D + 1 => fun i t j h => by
    rw [group] at h
    split at h
    · cases h
    · rename_i x k h1
      have l1 := ways_le (group_le (s := s) D) h1
      have g1 := ways_good (group_le (s := s) D) (group_good D) GoodL.nil h1
      split at h
      · injection h with h; injection h with h2 h3; rw [← h2, ← h3]; exact g1.mono (by omega)
      · cases h
theorem pk_is {s : ByteArray} {i c : Nat} (h : pk (txt8 s) i = c) (hc : c ≠ 256) : i + 1 ≤ s.size := pk_in (by rw [h]; exact hc)
theorem items_in {s : ByteArray} : ∀ {m i j : Nat} {W V : Nat → Nat}, items (txt8 s) m W i = some (V, j) → j ≤ s.size
  | 0, i, j, W, V, h => by cases h
  | m + 1, i, j, W, V, h => by
    by_cases h9 : pk (txt8 s) i = 93
    · rw [items, if_pos h9] at h; have := pk_is h9 (by omega); simp at h; omega
    · rw [items_step h9] at h
      cases hq : item (txt8 s) i with
      | none => rw [hq] at h; cases h
      | some q =>
        obtain ⟨lo, hi, k⟩ := q
        rw [hq] at h
        exact items_in (m := m) h
theorem class_in {s : ByteArray} {i j : Nat} {t : Rx} (h : class1 (txt8 s) 42 i = some (t, j)) : j ≤ s.size := by
  rw [class_eq _ _ _ _ _ rfl rfl] at h
  generalize (if pk (txt8 s) i = 94 then i + 1 else i) = i2 at h
  cases hq : item (txt8 s) i2 with
  | none => rw [hq] at h; cases h
  | some q =>
    obtain ⟨lo, hi, k⟩ := q
    rw [hq] at h
    simp only [cont] at h
    cases hc : items (txt8 s) 42 (join none4 (span none4 lo (hi + 1 - lo))) k with
    | none => rw [hc] at h; cases h
    | some p =>
      obtain ⟨V, m⟩ := p
      rw [hc] at h
      have := items_in hc
      simp [clsOf] at h
      omega
/-- No part ends behind the text. -/
def InG (s : ByteArray) (G : Nat → Option (Rx × Nat)) : Prop := ∀ i t j, G i = some (t, j) → j ≤ s.size
theorem atom_in {s : ByteArray} {G : Nat → Option (Rx × Nat)} (hG : InG s G) {i j : Nat} {t : Rx} (h : atom (txt8 s) 42 G i = some (t, j)) : j ≤ s.size := by
  unfold atom at h
  split at h
  · exact hG _ _ _ h
  · split at h
    · exact class_in h
    · split at h
      · rename_i h46
        have := pk_is h46 (by omega)
        simp at h; omega
      · split at h
        · cases h
        · rename_i c j' h1
          have := byte1_lt h1
          simp at h; omega
theorem factor_in {s : ByteArray} {G : Nat → Option (Rx × Nat)} (hG : InG s G) {i j : Nat} {t : Rx} (h : factor (txt8 s) 42 G i = some (t, j)) : j ≤ s.size := by
  unfold factor at h
  split at h
  · cases h
  · rename_i x k h1
    have := atom_in hG h1
    split at h
    · rename_i h2; have := pk_is h2 (by omega); simp at h; omega
    · split at h
      · rename_i h2; have := pk_is h2 (by omega); simp at h; omega
      · split at h
        · rename_i h2; have := pk_is h2 (by omega); simp at h; omega
        · simp at h; omega
theorem way_in {s : ByteArray} {G : Nat → Option (Rx × Nat)} (hG : InG s G) {t : Rx} : ∀ {m : Nat} {l : List Rx} {i j : Nat}, i ≤ s.size → way (txt8 s) 42 G m l i = some (t, j) → j ≤ s.size
  | 0, l, i, j, _, h => by cases h
  | m + 1, l, i, j, hi, h => by
    rw [way] at h
    split at h
    · simp at h; omega
    · split at h
      · cases h
      · rename_i x k h1
        exact way_in hG (m := m) (factor_in hG h1) h
theorem ways_in {s : ByteArray} {G : Nat → Option (Rx × Nat)} (hG : InG s G) {t : Rx} : ∀ {m : Nat} {l : List Rx} {i j : Nat}, i ≤ s.size → Pz.ways (txt8 s) 42 G m l i = some (t, j) → j ≤ s.size
  | 0, l, i, j, _, h => by cases h
  | m + 1, l, i, j, hi, h => by
    rw [Pz.ways] at h
    split at h
    · cases h
    · rename_i x k h1
      have := way_in hG hi h1
      split at h
      · rename_i h2
        exact ways_in hG (m := m) (pk_is h2 (by omega)) h
      · simp at h; omega
theorem group_in {s : ByteArray} : ∀ D, InG s (group (txt8 s) 42 D)
  | 0 => fun i t j h => by cases h
  | D + 1 => fun i t j h => by
    rw [group] at h
    split at h
    · cases h
    · rename_i x k h1
      split at h
      · rename_i h2; have := pk_is h2 (by omega); simp at h; omega
      · cases h
theorem parse_good {s : ByteArray} {t : Rx} (h : parse (txt8 s) = some t) : Good t 1000 := by
  unfold parse at h
  split at h
  · cases h
  · split at h
    · cases h
    · rename_i h0 _ x k h1
      rw [txt8_len] at h0 h
      have g1 := ways_good (group_le (s := s) 8) (group_good 8) GoodL.nil h1
      split at h
      · cases h
      · injection h with h
        rw [← h]
        have := ways_in (group_in (s := s) 8) (by omega) h1
        exact g1.mono (by omega)

end Go.Proofs.YtlfcjjlgkcfkdaaGreatDoor
namespace Go.Proofs.YtlfcjjlgkcfkdaaGreatDoor
open Go.RowKit Go.Sort
open Pz

set_option maxRecDepth 100000 in
set_option maxHeartbeats 8000000 in
theorem group_zero (P : Nat) (s : ByteArray) : Tells 164 P s 8 (group (txt8 s) 42 0) := by
  intro i w h
  have H := Lib.hid (At.start h zero6 135)
  have R : Hid (group (txt8 s) 42 0 i = none) := rfl
  clear h
  unfold zero6 at H
  have c2 : _ = some (Value.int .i64 8) := H.out.pa.c2
  go_enter Tryz.func164, Tryz.ntmps164
  go_wp2_with (refine wpList_store_row rfl 135 (.tmp 2) (.tmp 11) rfl w.heap.size #[.int .i64 0, .int .u64 0, .int .u64 0, .int .u64 0, .int .u64 0, .slice none 0 0] rfl rfl 135 _ H.out.r Tryz.size6 rfl (by simp [Value.oneCell']) ?_)
  exact bodyPost_ret (run_ct rfl _ _ _ w.heap.size #[.int .i64 0, .int .u64 0, .int .u64 0, .int .u64 0, .int .u64 0, .slice none 0 0] (.bool false) rfl rfl (run_loadVar_row _ _ _ _ _ _ _ (H.out.fin _).2.2 Tryz.underlying135 rfl Tryz.size6)) rfl (pres_none R.out H.out)
theorem At.start2 {w : World} {P i d : Nat} {s : ByteArray} (h : Par w P s i d) (d2 : Nat) (row : Array Value) (ty : TypeId) : At w P s i d2 row ty ((w.setCell ⟨P, 2, none⟩ (.int .i64 (d2 : Int))).alloc (.cells row ty)) := by
  have hb : Below (w.setCell ⟨P, 2, none⟩ (.int .i64 (d2 : Int))).heap.size _ _ := (Below.refl _ (w.setCell ⟨P, 2, none⟩ (.int .i64 (d2 : Int)))).alloc (Nat.le_refl _) (.cells row ty)
  have e := heap_alloc_new (w.setCell ⟨P, 2, none⟩ (.int .i64 (d2 : Int))) (.cells row ty)
  rw [show (w.setCell ⟨P, 2, none⟩ (.int .i64 (d2 : Int))).heap.size = w.heap.size by simp] at e
  exact ⟨(Stp.put _ _ _).trans (Stp.of hb), (h.put2 d2).grown hb, h.lt, e⟩
/-- A variable is laid, and behind it the parser's depth is written: the walk has it the other way round. -/
theorem At.deep {w W : World} {P i d : Nat} {s : ByteArray} {row : Array Value} {ty : TypeId} (h : At w P s i d row ty W) (d2 : Nat) (o : Obj) : At w P s i d2 row ty ((W.setCell ⟨P, 2, none⟩ (.int .i64 (d2 : Int))).alloc o) :=
  (h.step (Stp.put _ _ _) (h.pa.put2 d2)).grow ((Below.refl _ _).alloc (Nat.le_refl _) _)
set_option maxRecDepth 100000 in
set_option maxHeartbeats 8000000 in
theorem group_succ (P d D : Nat) (s : ByteArray) (hd : d < 8) (hW : Tells 124 P s (d + 1) (Pz.ways (txt8 s) 42 (group (txt8 s) 42 D) 42 [])) : Tells 164 P s d (group (txt8 s) 42 (D + 1)) := by
  intro i w h
  have H := Lib.hid (At.start h zero6 135)
  have WC := Lib.hid hW
  have h0 := h
  clear h hW
  unfold zero6 at H
  have e1 : group (txt8 s) 42 (D + 1) i = match Pz.ways (txt8 s) 42 (group (txt8 s) 42 D) 42 [] i with
    | none => none
    | some (x, j) => if pk (txt8 s) j = 41 then some (x, j + 1) else none := rfl
  have c2 := H.out.pa.c2
  have f2 := H.out.pa.fr 2
  have hd8 : ((d : Int) == 8) = false := by simp; omega
  obtain ⟨d2, hd2⟩ : ∃ d2, d + 1 = d2 := ⟨_, rfl⟩
  rw [hd2] at WC
  have hw1 : IntKind.i64.wrap ((d : Int) + 1) = (d2 : Int) := by rw [IntKind.wrap_i64]; omega
  have hw2 : IntKind.i64.wrap ((d2 : Int) - 1) = (d : Int) := by rw [IntKind.wrap_i64]; omega
  have hw3 : (d : Int) + 1 = (d2 : Int) := by omega
  have hw4 : (d2 : Int) - 1 = (d : Int) := by omega
  clear hd2
  replace H := Lib.hid (At.start2 h0 d2 #[.int .i64 0, .int .u64 0, .int .u64 0, .int .u64 0, .int .u64 0, .slice none 0 0] 135)
  clear h0
  cases hf : Pz.ways (txt8 s) 42 (group (txt8 s) 42 D) 42 [] i with
  | none =>
    have R : Hid (group (txt8 s) 42 (D + 1) i = none) := by show _ = _; rw [e1, hf]
    have HF := Lib.hid hf
    clear hf e1
    go_enter Tryz.func164, Tryz.ntmps164
    have hlt := H.out.lt
    go_wp2_with fail
    clear c2 f2 hd8
    refine (WC.out i _ H.out.pa).mono ?_
    intro e W1 hp
    obtain ⟨rfl, S1, j1, P1⟩ := hp.no HF.out
    have c2 := P1.c2
    have f2 := P1.fr 2
    have hPl := P1.lt
    replace H := Lib.hid ((H.out.step S1 P1).deep d (.cells #[.int .i64 0, .int .u64 0, .int .u64 0, .int .u64 0, .int .u64 0, .slice none 0 0] 135))
    clear S1 P1 hp
    go_wp2_with (refine wpList_store_row rfl 135 (.tmp 2) (.tmp 38) rfl w.heap.size #[.int .i64 0, .int .u64 0, .int .u64 0, .int .u64 0, .int .u64 0, .slice none 0 0] rfl rfl 135 _ H.out.r Tryz.size6 rfl (by simp [Value.oneCell']) ?_)
    exact bodyPost_ret (run_ct rfl _ _ _ w.heap.size #[.int .i64 0, .int .u64 0, .int .u64 0, .int .u64 0, .int .u64 0, .slice none 0 0] (.bool false) rfl rfl (run_loadVar_row _ _ _ _ _ _ _ (H.out.fin _).2.2 Tryz.underlying135 rfl Tryz.size6)) rfl (pres_none R.out H.out)
  | some q =>
    obtain ⟨x, j⟩ := q
    have HF := Lib.hid hf
    by_cases h41 : pk (txt8 s) j = 41
    · have C1 := Lib.hid (fun W => skip_yes (P := P) (d := d) h41 (by omega) W)
      have R : Hid (group (txt8 s) 42 (D + 1) i = some (x, j + 1)) := by show _ = _; rw [e1, hf]; exact if_pos h41
      clear hf e1 h41
      go_enter Tryz.func164, Tryz.ntmps164
      have hbig := H.out.big
      have hlt := H.out.lt
      go_wp2_with fail
      clear c2 f2 hd8
      refine (WC.out i _ H.out.pa).mono ?_
      intro e W1 hp
      obtain ⟨op, a, b, c, d1, A, n, cap, rfl, RX, S1, P1⟩ := hp.yes HF.out
      have c2 := P1.c2
      have f2 := P1.fr 2
      have hgP := P1.lt
      have B6 : Below W1.heap.size (W1.setCell ⟨P, 2, none⟩ (.int .i64 (d : Int))) ((W1.setCell ⟨P, 2, none⟩ (.int .i64 (d : Int))).alloc (.cells #[.int .i64 op, .int .u64 (a : Int), .int .u64 (b : Int), .int .u64 (c : Int), .int .u64 (d1 : Int), .slice A n cap] 135)) := (Below.refl _ _).alloc (by simp) _
      have X6 : Hid (Row6 ((W1.setCell ⟨P, 2, none⟩ (.int .i64 (d : Int))).alloc (.cells #[.int .i64 op, .int .u64 (a : Int), .int .u64 (b : Int), .int .u64 (c : Int), .int .u64 (d1 : Int), .slice A n cap] 135)) W1.heap.size #[.int .i64 op, .int .u64 (a : Int), .int .u64 (b : Int), .int .u64 (c : Int), .int .u64 (d1 : Int), .slice A n cap]) := by
        have h := heap_alloc_new (W1.setCell ⟨P, 2, none⟩ (.int .i64 (d : Int))) (.cells #[.int .i64 op, .int .u64 (a : Int), .int .u64 (b : Int), .int .u64 (c : Int), .int .u64 (d1 : Int), .slice A n cap] 135)
        rw [show (W1.setCell ⟨P, 2, none⟩ (.int .i64 (d : Int))).heap.size = W1.heap.size by simp] at h
        exact h
      have ST : Stp P W1 _ := Stp.put W1 2 (.int .i64 (d : Int))
      replace RX : Hid (RxIn (fun b => w.heap.size + 1 ≤ b) ((W1.setCell ⟨P, 2, none⟩ (.int .i64 (d : Int))).alloc (.cells #[.int .i64 op, .int .u64 (a : Int), .int .u64 (b : Int), .int .u64 (c : Int), .int .u64 (d1 : Int), .slice A n cap] 135)) (.agg (c6 op a b c d1 A n cap)) x) := ((RX.under (Below.refl _ _) hbig).stp ST (by omega) (Nat.le_refl _)).under ((Below.refl _ _).alloc (Nat.le_refl _) _) (Nat.le_refl _)
      replace H := Lib.hid ((H.out.step S1 P1).deep d (.cells #[.int .i64 op, .int .u64 (a : Int), .int .u64 (b : Int), .int .u64 (c : Int), .int .u64 (d1 : Int), .slice A n cap] 135))
      clear S1 P1 B6 hp hbig ST
      go_wp2_with fail
      clear c2 f2
      generalize (W1.setCell ⟨P, 2, none⟩ (.int .i64 (d : Int))).alloc (.cells #[.int .i64 op, .int .u64 (a : Int), .int .u64 (b : Int), .int .u64 (c : Int), .int .u64 (d1 : Int), .slice A n cap] 135) = W2 at *
      generalize W1.heap.size = g at *
      refine (C1.out _ H.out.pa).mono ?_
      rintro e W3 ⟨rfl, S1, P1⟩
      replace X6 := Lib.hid (X6.out.stp S1 hgP)
      replace RX := Lib.hid (RX.out.stp S1 (by omega) (Nat.le_refl _))
      replace H := Lib.hid (H.out.step S1 P1)
      clear S1 P1
      obtain ⟨x0, x1, x2, x3, x4, x5⟩ := X6.out.cells
      go_wp2_with (refine wpList_store_row rfl 135 (.tmp 2) (.tmp 39) rfl w.heap.size #[.int .i64 op, .int .u64 (a : Int), .int .u64 (b : Int), .int .u64 (c : Int), .int .u64 (d1 : Int), .slice A n cap] rfl rfl 135 _ H.out.r Tryz.size6 rfl (by simp [Value.oneCell']) ?_)
      exact bodyPost_ret (run_ct rfl _ _ _ w.heap.size #[.int .i64 op, .int .u64 (a : Int), .int .u64 (b : Int), .int .u64 (c : Int), .int .u64 (d1 : Int), .slice A n cap] (.bool true) rfl rfl (run_loadVar_row _ _ _ _ _ _ _ (H.out.fin _).2.2 Tryz.underlying135 rfl Tryz.size6)) rfl (pres_some R.out H.out RX.out)
    · have C1 := Lib.hid (fun W => skip_no (P := P) (d := d) h41 (by omega) W)
      have R : Hid (group (txt8 s) 42 (D + 1) i = none) := by show _ = _; rw [e1, hf]; exact if_neg h41
      clear hf e1 h41
      go_enter Tryz.func164, Tryz.ntmps164
      have hbig := H.out.big
      have hlt := H.out.lt
      go_wp2_with fail
      clear c2 f2 hd8
      refine (WC.out i _ H.out.pa).mono ?_
      intro e W1 hp
      obtain ⟨op, a, b, c, d1, A, n, cap, rfl, RX, S1, P1⟩ := hp.yes HF.out
      have c2 := P1.c2
      have f2 := P1.fr 2
      have hgP := P1.lt
      have B6 : Below W1.heap.size (W1.setCell ⟨P, 2, none⟩ (.int .i64 (d : Int))) ((W1.setCell ⟨P, 2, none⟩ (.int .i64 (d : Int))).alloc (.cells #[.int .i64 op, .int .u64 (a : Int), .int .u64 (b : Int), .int .u64 (c : Int), .int .u64 (d1 : Int), .slice A n cap] 135)) := (Below.refl _ _).alloc (by simp) _
      have X6 : Hid (Row6 ((W1.setCell ⟨P, 2, none⟩ (.int .i64 (d : Int))).alloc (.cells #[.int .i64 op, .int .u64 (a : Int), .int .u64 (b : Int), .int .u64 (c : Int), .int .u64 (d1 : Int), .slice A n cap] 135)) W1.heap.size #[.int .i64 op, .int .u64 (a : Int), .int .u64 (b : Int), .int .u64 (c : Int), .int .u64 (d1 : Int), .slice A n cap]) := by
        have h := heap_alloc_new (W1.setCell ⟨P, 2, none⟩ (.int .i64 (d : Int))) (.cells #[.int .i64 op, .int .u64 (a : Int), .int .u64 (b : Int), .int .u64 (c : Int), .int .u64 (d1 : Int), .slice A n cap] 135)
        rw [show (W1.setCell ⟨P, 2, none⟩ (.int .i64 (d : Int))).heap.size = W1.heap.size by simp] at h
        exact h
      have ST : Stp P W1 _ := Stp.put W1 2 (.int .i64 (d : Int))
      replace RX : Hid (RxIn (fun b => w.heap.size + 1 ≤ b) ((W1.setCell ⟨P, 2, none⟩ (.int .i64 (d : Int))).alloc (.cells #[.int .i64 op, .int .u64 (a : Int), .int .u64 (b : Int), .int .u64 (c : Int), .int .u64 (d1 : Int), .slice A n cap] 135)) (.agg (c6 op a b c d1 A n cap)) x) := ((RX.under (Below.refl _ _) hbig).stp ST (by omega) (Nat.le_refl _)).under ((Below.refl _ _).alloc (Nat.le_refl _) _) (Nat.le_refl _)
      replace H := Lib.hid ((H.out.step S1 P1).deep d (.cells #[.int .i64 op, .int .u64 (a : Int), .int .u64 (b : Int), .int .u64 (c : Int), .int .u64 (d1 : Int), .slice A n cap] 135))
      clear S1 P1 B6 hp hbig ST
      go_wp2_with fail
      clear c2 f2
      generalize (W1.setCell ⟨P, 2, none⟩ (.int .i64 (d : Int))).alloc (.cells #[.int .i64 op, .int .u64 (a : Int), .int .u64 (b : Int), .int .u64 (c : Int), .int .u64 (d1 : Int), .slice A n cap] 135) = W2 at *
      generalize W1.heap.size = g at *
      refine (C1.out _ H.out.pa).mono ?_
      rintro e W3 ⟨rfl, S1, P1⟩
      replace X6 := Lib.hid (X6.out.stp S1 hgP)
      replace RX := Lib.hid (RX.out.stp S1 (by omega) (Nat.le_refl _))
      replace H := Lib.hid (H.out.step S1 P1)
      clear S1 P1
      go_wp2_with (refine wpList_store_row rfl 135 (.tmp 2) (.tmp 38) rfl w.heap.size #[.int .i64 0, .int .u64 0, .int .u64 0, .int .u64 0, .int .u64 0, .slice none 0 0] rfl rfl 135 _ H.out.r Tryz.size6 rfl (by simp [Value.oneCell']) ?_)
      exact bodyPost_ret (run_ct rfl _ _ _ w.heap.size #[.int .i64 0, .int .u64 0, .int .u64 0, .int .u64 0, .int .u64 0, .slice none 0 0] (.bool false) rfl rfl (run_loadVar_row _ _ _ _ _ _ _ (H.out.fin _).2.2 Tryz.underlying135 rfl Tryz.size6)) rfl (pres_none R.out H.out)
theorem group_any (P : Nat) (s : ByteArray) : ∀ D d, d + D = 8 → Tells 164 P s d (group (txt8 s) 42 D)
  | 0, d, h => by
    obtain rfl : d = 8 := by omega
    exact group_zero P s
  | D + 1, d, h => group_succ P d D s (by omega) (ways_any P (d + 1) s _ (group_le D) (group_any P s D (d + 1) (by omega)))
/-- What Parse hands back. -/
def ParseRes (w : World) (r : Option Rx) (e : Ending) (w' : World) : Prop :=
  Below w.heap.size w w' ∧ ((∃ t v, r = some t ∧ e = .returned (.tuple #[v, .bool true]) ∧ RxIn (fun b => w.heap.size ≤ b) w' v t) ∨ (r = none ∧ e = .returned (.tuple #[.agg zero6, .bool false])))
theorem below_row {w W : World} (h : Below w.heap.size w W) (cs : Array Value) : Below w.heap.size w (W.setRow w.heap.size cs) :=
  ⟨h.os, h.tape, h.output, by rw [setRow_size]; exact h.size, fun k hk => (setRow_other _ _ _ _ (by omega)).trans (h.block k hk)⟩
set_option maxRecDepth 100000 in
set_option maxHeartbeats 8000000 in
theorem parse_any (s : ByteArray) (hs : s.size ≤ 1099511627776) (w : World) : Calls Tryz.prog 104 #[.string s] w (ParseRes w (parse (txt8 s))) := by
  obtain ⟨L, hL⟩ : ∃ L, s.size = L := ⟨_, rfl⟩
  by_cases h40 : 40 < L
  · have hz : decide ((L : Int) > 40) = true := decide_eq_true (by omega)
    have R : Hid (parse (txt8 s) = none) := by show _ = _; unfold parse; rw [txt8_len, if_pos (by omega)]
    have B := Lib.hid ((Below.refl w.heap.size w).alloc (Nat.le_refl _) (.cells #[.int .i64 0, .int .u64 0, .int .u64 0, .int .u64 0, .int .u64 0, .slice none 0 0] 135))
    have HH := Lib.hid (heap_alloc_new w (.cells #[.int .i64 0, .int .u64 0, .int .u64 0, .int .u64 0, .int .u64 0, .slice none 0 0] 135))
    clear h40
    go_enter Tryz.func104, Tryz.ntmps104
    go_wp2
    exact bodyPost_ret (run_ct rfl _ _ _ w.heap.size #[.int .i64 0, .int .u64 0, .int .u64 0, .int .u64 0, .int .u64 0, .slice none 0 0] (.bool false) rfl rfl (run_loadVar_row _ _ _ _ _ _ _ HH.out Tryz.underlying135 rfl Tryz.size6)) rfl ⟨B.out, .inr ⟨R.out, rfl⟩⟩
  · have hz : decide ((L : Int) > 40) = false := decide_eq_false (by omega)
    have WC := Lib.hid (fun P => ways_any P 0 s _ (group_le 8) (group_any P s 8 0 rfl))
    obtain ⟨e1, e2, z, B⟩ := alloc2 w (.cells #[.int .i64 0, .int .u64 0, .int .u64 0, .int .u64 0, .int .u64 0, .slice none 0 0] 135) (.cells #[.string s, .int .i64 0, .int .i64 0] 159)
    have PA : Hid (Par ((w.alloc (.cells #[.int .i64 0, .int .u64 0, .int .u64 0, .int .u64 0, .int .u64 0, .slice none 0 0] 135)).alloc (.cells #[.string s, .int .i64 0, .int .i64 0] 159)) (w.heap.size + 1) s 0 0) := by
      generalize (w.alloc (.cells #[.int .i64 0, .int .u64 0, .int .u64 0, .int .u64 0, .int .u64 0, .slice none 0 0] 135)).alloc (.cells #[.string s, .int .i64 0, .int .i64 0] 159) = W at *
      refine ⟨?_, ?_, ?_, fun j => by rw [World.frozen?, e2]; simp, by omega, by omega⟩ <;> (rw [cell_of_row _ _ _ _ _ _ e2]; rfl)
    have E1 := Lib.hid e1
    have ZZ := Lib.hid z
    have BB := Lib.hid B
    clear e1 e2 z B
    have e1 : parse (txt8 s) = match Pz.ways (txt8 s) 42 (group (txt8 s) 42 8) 42 [] 0 with
      | none => none
      | some (x, j) => if j < s.size then none else some x := by
      unfold parse
      rw [txt8_len, if_neg (by omega)]
      cases Pz.ways (txt8 s) 42 (group (txt8 s) 42 8) 42 [] 0 <;> rfl
    cases hf : Pz.ways (txt8 s) 42 (group (txt8 s) 42 8) 42 [] 0 with
    | none =>
      have R : Hid (parse (txt8 s) = none) := by show _ = _; rw [e1, hf]
      have HF := Lib.hid hf
      clear hf e1 h40
      go_enter Tryz.func104, Tryz.ntmps104
      go_wp2_with fail
      refine (WC.out _ 0 _ PA.out).mono ?_
      intro e W1 hp
      obtain ⟨rfl, S1, j1, P1⟩ := hp.no HF.out
      have r1 := (S1.block w.heap.size (by rw [ZZ.out]; omega) (by omega)).trans E1.out
      have b1 := BB.out.trans (S1.below (B := w.heap.size) (by omega) (by rw [ZZ.out]; omega))
      have B6 : Below W1.heap.size W1 (W1.alloc (.cells #[.int .i64 0, .int .u64 0, .int .u64 0, .int .u64 0, .int .u64 0, .slice none 0 0] 135)) := (Below.refl _ _).alloc (Nat.le_refl _) _
      have R2 := Lib.hid ((B6.block w.heap.size (Array.getElem?_eq_some_iff.1 r1).1).trans r1)
      have b2 := Lib.hid (b1.trans (B6.mono b1.size))
      clear S1 P1 hp B6 r1 b1 E1 ZZ BB PA WC
      go_wp2_with (refine wpList_store_row rfl 135 (.tmp 2) (.tmp 26) rfl w.heap.size #[.int .i64 0, .int .u64 0, .int .u64 0, .int .u64 0, .int .u64 0, .slice none 0 0] rfl rfl 135 _ R2.out Tryz.size6 rfl (by simp [Value.oneCell']) ?_)
      exact bodyPost_ret (run_ct rfl _ _ _ w.heap.size #[.int .i64 0, .int .u64 0, .int .u64 0, .int .u64 0, .int .u64 0, .slice none 0 0] (.bool false) rfl rfl (run_loadVar_row _ _ _ _ _ _ _ (setRow_heap _ _ _ _ _ _ R2.out) Tryz.underlying135 rfl Tryz.size6)) rfl ⟨below_row b2.out _, .inr ⟨R.out, rfl⟩⟩
    | some q =>
      obtain ⟨x, j⟩ := q
      have HF := Lib.hid hf
      have R1 : Hid (parse (txt8 s) = if j < L then none else some x) := by show _ = _; rw [e1, hf, ← hL]
      clear hf e1 h40
      go_enter Tryz.func104, Tryz.ntmps104
      go_wp2_with fail
      refine (WC.out _ 0 _ PA.out).mono ?_
      intro e W1 hp
      obtain ⟨op, a, b, c, d1, A, n, cap, rfl, RX, S1, P1⟩ := hp.yes HF.out
      have r1 := (S1.block w.heap.size (by rw [ZZ.out]; omega) (by omega)).trans E1.out
      have b1 := BB.out.trans (S1.below (B := w.heap.size) (by omega) (by rw [ZZ.out]; omega))
      have B6 : Below W1.heap.size W1 (W1.alloc (.cells #[.int .i64 op, .int .u64 (a : Int), .int .u64 (b : Int), .int .u64 (c : Int), .int .u64 (d1 : Int), .slice A n cap] 135)) := (Below.refl _ _).alloc (Nat.le_refl _) _
      have X6 : Row6 (W1.alloc (.cells #[.int .i64 op, .int .u64 (a : Int), .int .u64 (b : Int), .int .u64 (c : Int), .int .u64 (d1 : Int), .slice A n cap] 135)) W1.heap.size #[.int .i64 op, .int .u64 (a : Int), .int .u64 (b : Int), .int .u64 (c : Int), .int .u64 (d1 : Int), .slice A n cap] := heap_alloc_new W1 _
      have hPl : w.heap.size + 1 < W1.heap.size := P1.lt
      have c1 := (P1.grown B6).c1
      have R2 := Lib.hid ((B6.block w.heap.size (Array.getElem?_eq_some_iff.1 r1).1).trans r1)
      have RX2 := Lib.hid (RX.under B6 (B' := w.heap.size + 1) (by rw [ZZ.out]; omega))
      have b2 := Lib.hid (b1.trans (B6.mono b1.size))
      obtain ⟨x0, x1, x2, x3, x4, x5⟩ := X6.cells
      clear S1 P1 hp B6 r1 b1 E1 ZZ BB PA WC RX X6
      by_cases hjl : j < L
      · have hjz : (j : Int) < (L : Int) := by omega
        have R : Hid (parse (txt8 s) = none) := by show _ = _; rw [R1.out, if_pos hjl]
        clear R1 hjl
        go_wp2_with (refine wpList_store_row rfl 135 (.tmp 2) (.tmp 26) rfl w.heap.size #[.int .i64 0, .int .u64 0, .int .u64 0, .int .u64 0, .int .u64 0, .slice none 0 0] rfl rfl 135 _ R2.out Tryz.size6 rfl (by simp [Value.oneCell']) ?_)
        exact bodyPost_ret (run_ct rfl _ _ _ w.heap.size #[.int .i64 0, .int .u64 0, .int .u64 0, .int .u64 0, .int .u64 0, .slice none 0 0] (.bool false) rfl rfl (run_loadVar_row _ _ _ _ _ _ _ (setRow_heap _ _ _ _ _ _ R2.out) Tryz.underlying135 rfl Tryz.size6)) rfl ⟨below_row b2.out _, .inr ⟨R.out, rfl⟩⟩
      · have hjz : ¬ (j : Int) < (L : Int) := by omega
        have R : Hid (parse (txt8 s) = some x) := by show _ = _; rw [R1.out, if_neg hjl]
        clear R1 hjl
        go_wp2_with (refine wpList_store_row rfl 135 (.tmp 2) (.tmp 27) rfl w.heap.size #[.int .i64 op, .int .u64 (a : Int), .int .u64 (b : Int), .int .u64 (c : Int), .int .u64 (d1 : Int), .slice A n cap] rfl rfl 135 _ R2.out Tryz.size6 rfl (by simp [Value.oneCell']) ?_)
        exact bodyPost_ret (run_ct rfl _ _ _ w.heap.size #[.int .i64 op, .int .u64 (a : Int), .int .u64 (b : Int), .int .u64 (c : Int), .int .u64 (d1 : Int), .slice A n cap] (.bool true) rfl rfl (run_loadVar_row _ _ _ _ _ _ _ (setRow_heap _ _ _ _ _ _ R2.out) Tryz.underlying135 rfl Tryz.size6)) rfl ⟨below_row b2.out _, .inl ⟨x, _, R.out, rfl, RX2.out.frame (fun b hb => setRow_other _ _ _ _ (by omega)) (fun b _ hb => by omega)⟩⟩

end Go.Proofs.YtlfcjjlgkcfkdaaGreatDoor
namespace Go.Proofs.YtlfcjjlgkcfkdaaGreatDoor
open Go.RowKit

/-- Ints as cells. -/
def zs (l : List Int) : List Value := l.map fun k => Value.int .i64 k
def zn (l : List Nat) : List Int := l.map fun k : Nat => (k : Int)
theorem zs_len (l : List Int) : (zs l).length = l.length := by simp [zs]
theorem zs_app (a b : List Int) : zs (a ++ b) = zs a ++ zs b := by simp [zs]
theorem zn_len (l : List Nat) : (zn l).length = l.length := by simp [zn]
theorem iz_zs (l : List Nat) : iz l = zs (zn l) := by simp [iz, zs, zn]
/-- The slice at address a reads as these ints. -/
def IsZ (w : World) (a : Option Addr) (l : List Int) : Prop := 0 < l.length → ∃ b off, a = some ⟨b, off, none⟩ ∧ ∀ j, j < l.length → w.cell? ⟨b, off + j, none⟩ = some (.int .i64 (l.getD j 0))
theorem IsZ.drewN {w : World} {a : Option Addr} {l : List Int} (h : IsZ w a l) (n : Nat) : IsZ (w.drewN n) a l := h
theorem IsZ.below {w w' : World} {a : Option Addr} {l : List Int} (h : IsZ w a l) (hb : Below w.heap.size w w') : IsZ w' a l := by
  intro hp
  obtain ⟨b, off, e, hc⟩ := h hp
  exact ⟨b, off, e, fun j hj => (hb.cell (World.block_lt_of_cell? w _ (hc j hj))).trans (hc j hj)⟩
theorem IsZ.nil (w : World) (a : Option Addr) : IsZ w a [] := fun h => absurd h (by simp)
theorem zeq_of_getD {xs ys : List Int} (hl : xs.length = ys.length) (h : ∀ j, j < xs.length → xs.getD j 0 = ys.getD j 0) : xs = ys := by
  refine List.ext_getElem hl fun j h1 h2 => ?_
  have := h j h1
  simpa [List.getD, List.getElem?_eq_getElem h1, List.getElem?_eq_getElem h2] using this
/-- A slice of ints that one owns reads so. -/
theorem own_z {w : World} {base n : Nat} {v : Value} {l : List Int} (h : w.ownsRow base 3 1 v n (zs l)) : ∃ A c, v = .slice A n c ∧ n ≤ c ∧ (A = none → c = 0) ∧ IsZ w A l ∧ l.length = n := by
  have hl : l.length = n := by have := h.1; rw [zs_len] at this; omega
  rcases h.2 with ⟨rfl, rfl⟩ | ⟨g, cap, cur, rfl, _, hg, hc, _⟩
  · exact ⟨none, 0, rfl, Nat.le_refl _, fun _ => rfl, fun hp => by omega, hl⟩
  · refine ⟨_, cap, rfl, hc, (fun e => by cases e), fun _ => ⟨g, 0, rfl, fun j hj => ?_⟩, hl⟩
    have e : (zs l)[j]? = some (.int .i64 (l.getD j 0)) := by simp [zs, List.getD, List.getElem?_eq_getElem hj]
    have := h.cells (g := g) rfl j _ e
    rw [Nat.zero_add]
    have e2 : (⟨g, 0, none⟩ : Addr).add j = ⟨g, j, none⟩ := by unfold Addr.add; split <;> simp_all
    rwa [e2] at this
set_option maxRecDepth 100000 in
set_option maxHeartbeats 400000 in
theorem same_any (xs ys : List Int) (A B : Option Addr) (nx ny ca cb : Nat) (w : World) (ex : xs.length = nx) (ey : ys.length = ny) (hx : nx ≤ 1099511627776) (hy : ny ≤ 1099511627776) (ha : IsZ w A xs) (hb : IsZ w B ys) :
    Calls Tryz.prog 11 #[.slice A nx ca, .slice B ny cb] w fun e w' => e = .returned (.bool (decide (xs = ys))) ∧ ∃ n, w' = w.drewN n := by
  have HA := Lib.hid ha
  have HB := Lib.hid hb
  clear ha hb
  by_cases hl : nx = ny
  · subst hl
    have HE : Hid ((∀ j, j < nx → xs.getD j 0 = ys.getD j 0) → xs = ys) := fun h => zeq_of_getD (by omega) (by rw [ex]; exact h)
    have HL := Lib.hid (And.intro ex ey)
    clear ex ey
    go_enter Tryz.func11, Tryz.ntmps11
    go_wp2
    go_loopw [5] (fun i wr => ∃ k : Nat, k ≤ nx ∧ i = .int .i64 (k : Int) ∧ (∀ j, j < k → xs.getD j 0 = ys.getD j 0) ∧ ∃ q, wr = w.drewN q) (fun i _ => nx - (intOf i).toNat)
    case atStart => exact ⟨0, by omega, rfl, fun j hj => by omega, 0, rfl⟩
    case round =>
      obtain ⟨k, hk, rfl, hall, hq⟩ := hrel
      have HQ := Lib.hid hq
      clear hq
      have HALL := Lib.hid hall
      clear hall
      by_cases hkn : k < nx
      · obtain ⟨b1, o1, rfl, h1⟩ := HA.out (by rw [HL.out.1]; omega)
        obtain ⟨b2, o2, rfl, h2⟩ := HB.out (by rw [HL.out.2]; omega)
        have c1 : wr.cell? ⟨b1, o1 + k, none⟩ = some (.int .i64 (xs.getD k 0)) := by obtain ⟨q, rfl⟩ := HQ.out; exact h1 k (by rw [HL.out.1]; exact hkn)
        have c2 : wr.cell? ⟨b2, o2 + k, none⟩ = some (.int .i64 (ys.getD k 0)) := by obtain ⟨q, rfl⟩ := HQ.out; exact h2 k (by rw [HL.out.2]; exact hkn)
        clear h1 h2
        by_cases e : xs.getD k 0 = ys.getD k 0
        · rw [e] at c1
          have HE2 := Lib.hid e
          clear e
          generalize ys.getD k 0 = y at c1 c2
          go_wp2
          go_quiet (fail)
          go_wp2
          go_roundw
          case rel => exact ⟨k + 1, by omega, by go_num, fun j hj => by
            by_cases hjk : j < k
            · exact HALL.out j hjk
            · obtain rfl : j = k := by omega
              exact HE2.out, by obtain ⟨q, rfl⟩ := HQ.out; exact ⟨q + nq, World.drewN_drewN _ _ _⟩⟩
          case measure => simp [intOf]; omega
        · have HNE : Hid (decide (xs = ys) = false) := by show _ = _; rw [decide_eq_false_iff_not]; intro h; exact e (by rw [h])
          have ne2 : (xs.getD k 0 != ys.getD k 0) = true := by simpa using e
          clear e
          generalize xs.getD k 0 = x at *
          generalize ys.getD k 0 = y at *
          go_wp2
          go_quiet (fail)
          go_wp2
          go_ret
          exact ⟨by rw [HNE.out]; rfl, by obtain ⟨q, rfl⟩ := HQ.out; exact ⟨q + nq, World.drewN_drewN _ _ _⟩⟩
      · obtain rfl : k = nx := by omega
        have HT : Hid (decide (xs = ys) = true) := by show _ = _; rw [decide_eq_true_iff]; exact HE.out HALL.out
        go_wp2
        go_ret
        exact ⟨by rw [HT.out]; rfl, HQ.out⟩
  · have HNE : Hid (decide (xs = ys) = false) := by show _ = _; rw [decide_eq_false_iff_not]; intro h; exact hl (by rw [← ex, ← ey, h])
    have ne2 : ((nx : Int) != (ny : Int)) = true := by simp; omega
    clear ex ey hl
    go_enter Tryz.func11, Tryz.ntmps11
    go_wp2
    go_ret
    exact ⟨by rw [HNE.out]; rfl, 0, rfl⟩
end Go.Proofs.YtlfcjjlgkcfkdaaGreatDoor

