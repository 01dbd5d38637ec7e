/-
  What the program's way and ways do, of what group does. Conditions: at most 40 bytes.
  Plain mathematics of chapter 5: a pattern's tree may be, has few nodes, its words have 64 bits. No conditions.
-/
import Derived.Test.YtjmojjjgifkkiaaDoorProg
import Derived.Test.YtjmojjjgifkkiaaDoorZ01
import Derived.Test.YtjmojjjgifkkiaaDoorZ02
import Derived.Test.YtjmojjjgifkkiaaDoorZ03
import Derived.Test.YtjmojjjgifkkiaaDoorZ04
import Derived.Test.YtjmojjjgifkkiaaDoorZ06
import Derived.Test.YtjmojjjgifkkiaaDoorZ07
import Derived.Test.YtjmojjjgifkkiaaDoorZ05
import Derived.Test.YtjmojjjgifkkiaaDoorZ11
import Derived.Test.YtjmojjjgifkkiaaDoorZ08
import Derived.Test.YtjmojjjgifkkiaaDoorZ09
import Derived.Test.YtjmojjjgifkkiaaDoorZ14
import Derived.Laws.MakeOwn
import Derived.Laws.OwnMore
import Derived.OwnWalk
import Derived.Deep.QuietTactic
import Derived.BigQuiet
import Derived.Lib.Bytealg
import Derived.Laws.Externs
import Derived.Laws.AppendOwn
import Derived.Deep.LoopGhost
import Derived.Deep.RegionHeld3
import Derived.Laws.CopyOwn
import Derived.StillTailTactics
import Derived.Laws.ResultCell
import Derived.Maps.AppendAt
import Derived.WalkKit
import Derived.WalkSpells
import Derived.WalkLawsBesides
import Derived.Lib.Hide
import Derived.Below
import Derived.Lib.QuietBelow
import Derived.Laws.StructEq
import Derived.KernelRfl
namespace Go.Proofs.YtjmojjjgifkkiaaDoor
open Go.RowKit Go.Sort
open Pz

theorem items_lt {s : ByteArray} : ∀ {m i j : Nat} {W V : Nat → Nat}, items (txt8 s) m W i = some (V, j) → i < j
  | 0, i, j, W, V, h => by cases h
  | m + 1, i, j, W, V, h => by
    by_cases h9 : pk (txt8 s) i = 93
    · rw [items, if_pos h9] at h; simp at h; omega
    · rw [items_step h9] at h
      cases hq : item (txt8 s) i with
      | none => rw [hq] at h; cases h
      | some q =>
        obtain ⟨lo, hi, k⟩ := q
        rw [hq] at h
        have := item_lt hq
        have := items_lt (m := m) h
        omega
theorem class_lt {s : ByteArray} {i j : Nat} {t : Rx} (h : class1 (txt8 s) 42 i = some (t, j)) : i < j := by
  rw [class_eq _ _ _ _ _ rfl rfl] at h
  generalize hk : (if pk (txt8 s) i = 94 then i + 1 else i) = i2 at h
  have hi : i ≤ i2 := by rw [← hk]; split <;> omega
  cases hq : item (txt8 s) i2 with
  | none => rw [hq] at h; cases h
  | some q =>
    obtain ⟨lo, hi, k⟩ := q
    rw [hq] at h
    have l1 := item_lt hq
    simp only [cont] at h
    cases hc : items (txt8 s) 42 (join none4 (span none4 lo (hi + 1 - lo))) k with
    | none => rw [hc] at h; cases h
    | some p =>
      obtain ⟨V, m⟩ := p
      rw [hc] at h
      have := items_lt hc
      simp [clsOf] at h
      omega
/-- No part ends ahead of its beginning. -/
def Ahead (G : Nat → Option (Rx × Nat)) : Prop := ∀ i t j, G i = some (t, j) → i ≤ j
theorem atom_lt {s : ByteArray} {G : Nat → Option (Rx × Nat)} (hG : Ahead G) {i j : Nat} {t : Rx} (h : atom (txt8 s) 42 G i = some (t, j)) : i < j := by
  unfold atom at h
  split at h
  · have := hG _ _ _ h; omega
  · split at h
    · have := class_lt h; omega
    · split at h
      · simp at h; omega
      · split at h
        · cases h
        · rename_i c j' h1
          have := byte1_lt h1
          simp at h; omega
theorem factor_lt {s : ByteArray} {G : Nat → Option (Rx × Nat)} (hG : Ahead G) {i j : Nat} {t : Rx} (h : factor (txt8 s) 42 G i = some (t, j)) : i < j := by
  unfold factor at h
  split at h
  · cases h
  · rename_i x k h1
    have := atom_lt hG h1
    split at h
    · simp at h; omega
    · split at h
      · simp at h; omega
      · split at h <;> (simp at h; omega)
theorem way_le {s : ByteArray} {G : Nat → Option (Rx × Nat)} (hG : Ahead G) {t : Rx} : ∀ {m : Nat} {l : List Rx} {i j : Nat}, way (txt8 s) 42 G m l i = some (t, j) → i ≤ j
  | 0, l, i, j, h => by cases h
  | m + 1, l, i, j, h => by
    rw [way] at h
    split at h
    · simp at h; omega
    · split at h
      · cases h
      · rename_i x k h1
        have := factor_lt hG h1
        have := way_le hG (m := m) h
        omega
theorem ways_le {s : ByteArray} {G : Nat → Option (Rx × Nat)} (hG : Ahead G) {t : Rx} : ∀ {m : Nat} {l : List Rx} {i j : Nat}, Pz.ways (txt8 s) 42 G m l i = some (t, j) → i ≤ j
  | 0, l, i, j, h => by cases h
  | m + 1, l, i, j, h => by
    rw [Pz.ways] at h
    split at h
    · cases h
    · rename_i x k h1
      have := way_le hG h1
      split at h
      · have := ways_le hG (m := m) h; omega
      · simp at h; omega
theorem group_le {s : ByteArray} : ∀ D, Ahead (group (txt8 s) 42 D)
  | 0 => fun i t j h => by cases h
  | D + 1 => fun i t j h => by
    rw [group] at h
    split at h
    · cases h
    · rename_i x k h1
      have := ways_le (group_le (s := s) D) h1
      split at h
      · simp at h; omega
      · cases h
/-- What the loops of way and ways keep: the kids so far. -/
def WInv (w : World) (P : Nat) (s : ByteArray) (d : Nat) (F : Nat → List Rx → Nat → Option (Rx × Nat)) (r : Option (Rx × Nat)) (m : Nat) (kv : Value) (wr : World) : Prop :=
  ∃ j l, At w P s j d zero6 60 wr ∧ Kids (w.heap.size + 1) wr kv l ∧ F m l j = r ∧ s.size < j + m ∧ l.length + m ≤ 42
theorem Kids.stp {P base : Nat} {w w' : World} {v : Value} {ts : List Rx} (h : Kids base w v ts) (hs : Stp P w w') (hP : P < base) : Kids base w' v ts := h.frame hs.size (fun b h1 h2 => hs.block b h2 (by omega))
theorem Kids.under {base : Nat} {w w' : World} {v : Value} {ts : List Rx} (h : Kids base w v ts) (hb : Below w.heap.size w w') : Kids base w' v ts := h.frame hb.size (fun b _ h2 => hb.block b h2)
theorem Kids.form2 {base : Nat} {w : World} {v : Value} {ts : List Rx} (h : Kids base w v ts) : ∃ A n cap, v = .slice A n cap := by
  obtain ⟨A, cap, e, _⟩ := h.form
  exact ⟨A, _, cap, e⟩
/-- The cells of a node by their place. -/
def v6f (op : Int) (a b c d : Nat) (A : Option Addr) (n cap : Nat) : Nat → Value := fun i => (c6 op a b c d A n cap).getD i Go.undef
theorem v6f_one (op : Int) (a b c d : Nat) (A : Option Addr) (n cap : Nat) : ∀ i, i < 6 → (v6f op a b c d A n cap i).oneCell' = true := fun i hi => by
  match i, hi with
  | 0, _ => rfl
  | 1, _ => rfl
  | 2, _ => rfl
  | 3, _ => rfl
  | 4, _ => rfl
  | 5, _ => rfl
/-- Ahead of an append of a new kid: the node in a variable, and in a literal's row. -/
theorem app_ready {w0 wr W1 : World} {P base : Nat} {kv : Value} {l : List Rx} {x : Rx} {op : Int} {a b c d : Nat} {A : Option Addr} {n cap : Nat} (hk : Kids base wr kv l) (hs : Stp P wr W1) (hP : P < base) (hbase : base ≤ wr.heap.size) (hx : RxIn (fun b => wr.heap.size ≤ b) W1 (.agg (c6 op a b c d A n cap)) x) (h2 : w0 = (W1.alloc (.cells (c6 op a b c d A n cap) 60)).alloc (.cells (c6 op a b c d A n cap) 60)) :
    Kids base w0 kv l ∧ (∀ i, i < 6 → w0.cell? ⟨W1.heap.size + 1, i, none⟩ = some (v6f op a b c d A n cap i)) ∧ RxIn (fun b => base ≤ b ∧ b < w0.heap.size ∧ kv.ownBlock ≠ some b) w0 (val6 (v6f op a b c d A n cap)) x ∧ base ≤ w0.heap.size ∧ Below W1.heap.size W1 w0 := by
  subst h2
  obtain ⟨e1, e2, z, B⟩ := alloc2 W1 (.cells (c6 op a b c d A n cap) 60) (.cells (c6 op a b c d A n cap) 60)
  generalize (W1.alloc (.cells (c6 op a b c d A n cap) 60)).alloc (.cells (c6 op a b c d A n cap) 60) = w0 at *
  have hs1 := hs.size
  refine ⟨(hk.stp hs hP).under B, fun i hi => ?_, ?_, by omega, B⟩
  · obtain ⟨q0, q1, q2, q3, q4, q5⟩ := Row6.cells e2
    match i, hi with
    | 0, _ => exact q0
    | 1, _ => exact q1
    | 2, _ => exact q2
    | 3, _ => exact q3
    | 4, _ => exact q4
    | 5, _ => exact q5
  · have h2 : RxIn (fun b => wr.heap.size ≤ b ∧ b < W1.heap.size) W1 (val6 (v6f op a b c d A n cap)) x := RxIn.frame (show RxIn (fun b => wr.heap.size ≤ b) W1 (val6 (v6f op a b c d A n cap)) x from hx) (fun _ _ => rfl) (fun b h1 h2 => ⟨h2, h1⟩)
    refine h2.frame (fun b hq => B.block b hq.2) (fun b _ hq => ⟨by omega, by omega, fun e => ?_⟩)
    have := (hk.low b e).2
    omega
theorem mem_no {c : Nat} (h : c < 256) (h1 : ¬ c = 124) (h2 : ¬ c = 41) : mem sW c = false := by rw [mem_W c h]; simp [h1, h2]
theorem mem_yes {c : Nat} (h : c < 256) (h1 : c = 124 ∨ c = 41) : mem sW c = true := by rw [mem_W c h]; simp [h1]
set_option maxRecDepth 100000 in
set_option maxHeartbeats 8000000 in
theorem way_any (P d : Nat) (s : ByteArray) (G : Nat → Option (Rx × Nat)) (hA : Ahead G) (hG : Tells 115 P s d G) : Tells 86 P s d (way (txt8 s) 42 G 42 []) := by
  intro i w h
  have H0 := At.start h zero6 60
  have hsm := h.sm
  obtain ⟨r, hr⟩ : ∃ r, way (txt8 s) 42 G 42 [] i = r := ⟨_, rfl⟩
  have W0 : Hid (WInv w P s d (way (txt8 s) 42 G) r 42 (.slice none 0 0) (w.alloc (.cells zero6 60))) := ⟨i, [], H0, Kids.nil _ _, hr, by omega, by simp⟩
  have hPw := h.lt
  clear h H0
  rw [hr]
  have HR := Lib.hid hr
  clear hr
  unfold zero6 at W0
  have FC := Lib.hid (factor_any P d s G hG)
  have FL := Lib.hid (fun i t j => factor_lt (s := s) hA (i := i) (j := j) (t := t))
  clear hG hA
  go_enter Tryd.func86, Tryd.ntmps86
  go_wp2
  generalize w.alloc (.cells #[.int .i64 0, .int .u64 0, .int .u64 0, .int .u64 0, .int .u64 0, .slice none 0 0] 60) = w3 at W0 ⊢
  go_loopg [4] 42 (fun m kv wr => ∃ A n cap, kv = .slice A n cap ∧ Hid (WInv w P s d (way (txt8 s) 42 G) r m kv wr))
  case atStart => exact ⟨_, _, _, rfl, W0⟩
  case round =>
    clear W0
    obtain ⟨A0, n0, cap0, rfl, HI⟩ := hrel
    obtain ⟨j, l, H, K, hF, hj, hl⟩ := HI
    have H := Lib.hid H
    have K := Lib.hid K
    obtain ⟨m, rfl⟩ : ∃ m, gk = m + 1 := ⟨gk - 1, by have := H.out.pa.le; omega⟩
    rw [way] at hF
    have c0 := H.out.pa.c0
    have c1 := H.out.pa.c1
    have hle := H.out.pa.le
    obtain ⟨L, hL⟩ : ∃ L, s.size = L := ⟨_, rfl⟩
    by_cases hlt : j < L
    · have hltz : (j : Int) < (L : Int) := by omega
      have hb : pk (txt8 s) j < 256 := pk_byte (by omega)
      by_cases hx : pk (txt8 s) j = 124 ∨ pk (txt8 s) j = 41
      · have NX : Hid (∀ W (h : Par W P s j d), Calls Tryd.prog 102 #[.pointer (some ⟨P, 0, none⟩), .string sW] W fun e w' => e = .returned (.bool true) ∧ ∃ n, w' = W.drewN n) := fun W h => by have := next_any P j d sW s W h; rw [mem_yes hb hx, decide_eq_true (by omega : j < s.size)] at this; exact this
        rw [if_pos (.inr hx)] at hF
        have R := Lib.hid hF.symm
        clear hF hx hb
        go_wp2_with fail
        go_quiet ((go_at_call 102; exact Calls.quiet_of (NX.out _ (H.out.pa.drew _))))
        replace H := Lib.hid (H.out.drew nq)
        replace K := Lib.hid (K.out.under (drewN_below (Below.refl _ wr) nq))
        have JN := Lib.hid (fun W (hW : Kids (w.heap.size + 1) W (.slice A0 n0 cap0) l) => joined_any 2 l _ A0 n0 cap0 W hW (by omega))
        go_wp2_with fail
        refine (JN.out _ K.out).mono ?_
        rintro e W4 ⟨op, a, b, c, d1, A, n, cap, rfl, RX, B1⟩
        replace H := Lib.hid (H.out.grow B1)
        have RX := Lib.hid RX
        clear B1 JN K
        go_wp2_with (refine wpList_store_row rfl 60 (.tmp 2) (.tmp 35) rfl w.heap.size #[.int .i64 op, .int .u64 (a : Int), .int .u64 (b : Int), .int .u64 (c : Int), .int .u64 (d1 : Int), .slice A n cap] rfl rfl 60 _ H.out.r Tryd.size6 rfl (by simp [Value.oneCell']) ?_)
        exact bodyPost_ret (run_ct rfl _ _ _ w.heap.size #[.int .i64 op, .int .u64 (a : Int), .int .u64 (b : Int), .int .u64 (c : Int), .int .u64 (d1 : Int), .slice A n cap] (.bool true) rfl rfl (run_loadVar_row _ _ _ _ _ _ _ (H.out.fin _).2.2 Tryd.underlying60 rfl Tryd.size6)) rfl (pres_some R.out H.out RX.out)
      · have NX : Hid (∀ W (h : Par W P s j d), Calls Tryd.prog 102 #[.pointer (some ⟨P, 0, none⟩), .string sW] W fun e w' => e = .returned (.bool false) ∧ ∃ n, w' = W.drewN n) := fun W h => by have := next_any P j d sW s W h; rw [mem_no hb (fun e => hx (.inl e)) (fun e => hx (.inr e)), Bool.and_false] at this; exact this
        rw [if_neg (fun e => by rcases e with e | e; omega; exact hx e)] at hF
        clear hx hb
        cases hf : factor (txt8 s) 42 G j with
        | none =>
          rw [hf] at hF
          have R := Lib.hid hF.symm
          have HF := Lib.hid hf
          clear hF hf
          go_wp2_with fail
          go_quiet ((go_at_call 102; exact Calls.quiet_of (NX.out _ (H.out.pa.drew _))))
          replace H := Lib.hid (H.out.drew nq)
          replace K := Lib.hid (K.out.under (drewN_below (Below.refl _ wr) nq))
          go_wp2_with fail
          refine (FC.out j _ H.out.pa).mono ?_
          intro e W1 hp
          obtain ⟨rfl, S1, j1, P1⟩ := hp.no HF.out
          replace H := Lib.hid (H.out.step S1 P1)
          clear S1 P1 hp
          replace H := Lib.hid (H.out.grow ((Below.refl _ _).alloc (Nat.le_refl _) (.cells #[.int .i64 0, .int .u64 0, .int .u64 0, .int .u64 0, .int .u64 0, .slice none 0 0] 60)))
          go_wp2_with (refine wpList_store_row rfl 60 (.tmp 2) (.tmp 29) rfl w.heap.size #[.int .i64 0, .int .u64 0, .int .u64 0, .int .u64 0, .int .u64 0, .slice none 0 0] rfl rfl 60 _ H.out.r Tryd.size6 rfl (by simp [Value.oneCell']) ?_)
          exact bodyPost_ret (run_ct rfl _ _ _ w.heap.size #[.int .i64 0, .int .u64 0, .int .u64 0, .int .u64 0, .int .u64 0, .slice none 0 0] (.bool false) rfl rfl (run_loadVar_row _ _ _ _ _ _ _ (H.out.fin _).2.2 Tryd.underlying60 rfl Tryd.size6)) rfl (pres_none R.out H.out)
        | some q =>
          obtain ⟨x, k⟩ := q
          rw [hf] at hF
          have R := Lib.hid hF
          have hjk := FL.out _ _ _ hf
          have HF := Lib.hid hf
          clear hF hf
          go_wp2_with fail
          go_quiet ((go_at_call 102; exact Calls.quiet_of (NX.out _ (H.out.pa.drew _))))
          replace H := Lib.hid (H.out.drew nq)
          replace K := Lib.hid (K.out.under (drewN_below (Below.refl _ wr) nq))
          have hbig := H.out.big
          go_wp2_with fail
          refine (FC.out j _ H.out.pa).mono ?_
          intro e W1 hp
          obtain ⟨op, a, b, c, d1, A, n, cap, rfl, RX, S1, P1⟩ := hp.yes HF.out
          have AR := Lib.hid (app_ready K.out S1 (by omega) hbig RX rfl)
          replace H := Lib.hid ((H.out.step S1 P1).grow AR.out.2.2.2.2)
          clear S1 P1 hp RX K hbig
          go_wp2_with ((refine wpList_appR rfl (.tmp 30) (.tmp 32) rfl (w.heap.size + 1) (.slice A0 n0 cap0) l (W1.heap.size + 1) rfl rfl AR.out.1 (v6f op a b c d1 A n cap) x AR.out.2.1 (v6f_one _ _ _ _ _ _ _ _) AR.out.2.2.1 (by omega) AR.out.2.2.2.1 ?_); (intro v' w' K2 G2); (replace H := Lib.hid (H.out.grown G2 (fun k hk => by have := (AR.out.1.low k hk).1; omega))); (obtain ⟨A2, n2, cap2, rfl⟩ := K2.form2); (replace K2 := Lib.hid K2); (clear G2 AR))
          go_roundg m
          case measure => omega
          case rel => exact ⟨_, _, _, rfl, ⟨k, l ++ [x], H.out, K2.out, R.out, by omega, by simp; omega⟩⟩
    · have hltz : ¬ (j : Int) < (L : Int) := by omega
      rw [if_pos (.inl (pk_end (by omega)))] at hF
      have R := Lib.hid hF.symm
      clear hF
      go_wp2_with fail
      go_quiet (fail)
      replace H := Lib.hid (H.out.drew nq)
      replace K := Lib.hid (K.out.under (drewN_below (Below.refl _ wr) nq))
      have JN := Lib.hid (fun W (hW : Kids (w.heap.size + 1) W (.slice A0 n0 cap0) l) => joined_any 2 l _ A0 n0 cap0 W hW (by omega))
      go_wp2_with fail
      refine (JN.out _ K.out).mono ?_
      rintro e W4 ⟨op, a, b, c, d1, A, n, cap, rfl, RX, B1⟩
      replace H := Lib.hid (H.out.grow B1)
      have RX := Lib.hid RX
      clear B1 JN K
      go_wp2_with (refine wpList_store_row rfl 60 (.tmp 2) (.tmp 35) rfl w.heap.size #[.int .i64 op, .int .u64 (a : Int), .int .u64 (b : Int), .int .u64 (c : Int), .int .u64 (d1 : Int), .slice A n cap] rfl rfl 60 _ H.out.r Tryd.size6 rfl (by simp [Value.oneCell']) ?_)
      exact bodyPost_ret (run_ct rfl _ _ _ w.heap.size #[.int .i64 op, .int .u64 (a : Int), .int .u64 (b : Int), .int .u64 (c : Int), .int .u64 (d1 : Int), .slice A n cap] (.bool true) rfl rfl (run_loadVar_row _ _ _ _ _ _ _ (H.out.fin _).2.2 Tryd.underlying60 rfl Tryd.size6)) rfl (pres_some R.out H.out RX.out)

set_option maxRecDepth 100000 in
set_option maxHeartbeats 8000000 in
theorem ways_any (P d : Nat) (s : ByteArray) (G : Nat → Option (Rx × Nat)) (hA : Ahead G) (hG : Tells 115 P s d G) : Tells 69 P s d (Pz.ways (txt8 s) 42 G 42 []) := by
  intro i w h
  have H0 := At.start h zero6 60
  have hsm := h.sm
  obtain ⟨r, hr⟩ : ∃ r, Pz.ways (txt8 s) 42 G 42 [] i = r := ⟨_, rfl⟩
  have W0 : Hid (WInv w P s d (Pz.ways (txt8 s) 42 G) r 42 (.slice none 0 0) (w.alloc (.cells zero6 60))) := ⟨i, [], H0, Kids.nil _ _, hr, by omega, by simp⟩
  have hPw := h.lt
  clear h H0
  rw [hr]
  have HR := Lib.hid hr
  clear hr
  unfold zero6 at W0
  have FC := Lib.hid (way_any P d s G hA hG)
  have FL := Lib.hid (fun i t j => way_le (s := s) hA (m := 42) (l := []) (i := i) (j := j) (t := t))
  clear hG hA
  go_enter Tryd.func69, Tryd.ntmps69
  go_wp2
  generalize w.alloc (.cells #[.int .i64 0, .int .u64 0, .int .u64 0, .int .u64 0, .int .u64 0, .slice none 0 0] 60) = w3 at W0 ⊢
  go_loopg [4] 42 (fun m kv wr => ∃ A n cap, kv = .slice A n cap ∧ Hid (WInv w P s d (Pz.ways (txt8 s) 42 G) r m kv wr))
  case atStart => exact ⟨_, _, _, rfl, W0⟩
  case round =>
    clear W0
    obtain ⟨A0, n0, cap0, rfl, HI⟩ := hrel
    obtain ⟨j, l, H, K, hF, hj, hl⟩ := HI
    have H := Lib.hid H
    have K := Lib.hid K
    obtain ⟨m, rfl⟩ : ∃ m, gk = m + 1 := ⟨gk - 1, by have := H.out.pa.le; omega⟩
    rw [Pz.ways] at hF
    cases hf : way (txt8 s) 42 G 42 [] j with
    | none =>
      rw [hf] at hF
      have R := Lib.hid hF.symm
      have HF := Lib.hid hf
      clear hF hf
      go_wp2_with fail
      refine (FC.out j _ H.out.pa).mono ?_
      intro e W1 hp
      obtain ⟨rfl, S1, j1, P1⟩ := hp.no HF.out
      replace H := Lib.hid (H.out.step S1 P1)
      clear S1 P1 hp
      replace H := Lib.hid (H.out.grow ((Below.refl _ _).alloc (Nat.le_refl _) (.cells #[.int .i64 0, .int .u64 0, .int .u64 0, .int .u64 0, .int .u64 0, .slice none 0 0] 60)))
      go_wp2_with (refine wpList_store_row rfl 60 (.tmp 2) (.tmp 14) rfl w.heap.size #[.int .i64 0, .int .u64 0, .int .u64 0, .int .u64 0, .int .u64 0, .slice none 0 0] rfl rfl 60 _ H.out.r Tryd.size6 rfl (by simp [Value.oneCell']) ?_)
      exact bodyPost_ret (run_ct rfl _ _ _ w.heap.size #[.int .i64 0, .int .u64 0, .int .u64 0, .int .u64 0, .int .u64 0, .slice none 0 0] (.bool false) rfl rfl (run_loadVar_row _ _ _ _ _ _ _ (H.out.fin _).2.2 Tryd.underlying60 rfl Tryd.size6)) rfl (pres_none R.out H.out)
    | some q =>
      obtain ⟨x, k⟩ := q
      rw [hf] at hF
      have hjk := FL.out _ _ _ hf
      have HF := Lib.hid hf
      have hF : (if pk (txt8 s) k = 124 then Pz.ways (txt8 s) 42 G m (l ++ [x]) (k + 1) else some (joined 3 (l ++ [x]), k)) = r := hF
      by_cases hx : pk (txt8 s) k = 124
      · have C1 := Lib.hid (fun W => skip_yes (P := P) (d := d) hx (by omega) W)
        rw [if_pos hx] at hF
        have R := Lib.hid hF
        clear hF hf hx
        have hbig := H.out.big
        go_wp2_with fail
        refine (FC.out j _ H.out.pa).mono ?_
        intro e W1 hp
        obtain ⟨op, a, b, c, d1, A, n, cap, rfl, RX, S1, P1⟩ := hp.yes HF.out
        have AR := Lib.hid (app_ready K.out S1 (by omega) hbig RX rfl)
        replace H := Lib.hid ((H.out.step S1 P1).grow AR.out.2.2.2.2)
        clear S1 P1 hp RX K hbig
        go_wp2_with ((refine wpList_appR rfl (.tmp 15) (.tmp 17) rfl (w.heap.size + 1) (.slice A0 n0 cap0) l (W1.heap.size + 1) rfl rfl AR.out.1 (v6f op a b c d1 A n cap) x AR.out.2.1 (v6f_one _ _ _ _ _ _ _ _) AR.out.2.2.1 (by omega) AR.out.2.2.2.1 ?_); (intro v' w' K2 G2); (replace H := Lib.hid (H.out.grown G2 (fun k hk => by have := (AR.out.1.low k hk).1; omega))); (obtain ⟨A2, n2, cap2, rfl⟩ := K2.form2); (replace K2 := Lib.hid K2); (clear G2 AR))
        refine (C1.out _ H.out.pa).mono ?_
        rintro e W5 ⟨rfl, S1, P1⟩
        replace K2 := Lib.hid (K2.out.stp S1 (by omega))
        replace H := Lib.hid (H.out.step S1 P1)
        clear S1 P1
        go_wp2
        go_roundg m
        case measure => omega
        case rel => exact ⟨_, _, _, rfl, ⟨k + 1, l ++ [x], H.out, K2.out, R.out, by omega, by simp; omega⟩⟩
      · have C1 := Lib.hid (fun W => skip_no (P := P) (d := d) hx (by omega) W)
        rw [if_neg hx] at hF
        have R := Lib.hid hF.symm
        clear hF hf hx
        have hbig := H.out.big
        go_wp2_with fail
        refine (FC.out j _ H.out.pa).mono ?_
        intro e W1 hp
        obtain ⟨op, a, b, c, d1, A, n, cap, rfl, RX, S1, P1⟩ := hp.yes HF.out
        have AR := Lib.hid (app_ready K.out S1 (by omega) hbig RX rfl)
        replace H := Lib.hid ((H.out.step S1 P1).grow AR.out.2.2.2.2)
        clear S1 P1 hp RX K hbig
        go_wp2_with ((refine wpList_appR rfl (.tmp 15) (.tmp 17) rfl (w.heap.size + 1) (.slice A0 n0 cap0) l (W1.heap.size + 1) rfl rfl AR.out.1 (v6f op a b c d1 A n cap) x AR.out.2.1 (v6f_one _ _ _ _ _ _ _ _) AR.out.2.2.1 (by omega) AR.out.2.2.2.1 ?_); (intro v' w' K2 G2); (replace H := Lib.hid (H.out.grown G2 (fun k hk => by have := (AR.out.1.low k hk).1; omega))); (obtain ⟨A2, n2, cap2, rfl⟩ := K2.form2); (replace K2 := Lib.hid K2); (clear G2 AR))
        refine (C1.out _ H.out.pa).mono ?_
        rintro e W5 ⟨rfl, S1, P1⟩
        replace K2 := Lib.hid (K2.out.stp S1 (by omega))
        replace H := Lib.hid (H.out.step S1 P1)
        clear S1 P1
        have hl2 : (l ++ [x]).length ≤ 1000 := by simp; omega
        have JN := Lib.hid (joined_any 3 (l ++ [x]) _ A2 n2 cap2 _ K2.out hl2)
        go_wp2_with fail
        refine JN.out.mono ?_
        rintro e W4 ⟨op', a', b', c', d1', A', n', cap', rfl, RX, B1⟩
        replace H := Lib.hid (H.out.grow B1)
        have RX := Lib.hid RX
        clear B1 JN K2
        go_wp2_with (refine wpList_store_row rfl 60 (.tmp 2) (.tmp 23) rfl w.heap.size #[.int .i64 op', .int .u64 (a' : Int), .int .u64 (b' : Int), .int .u64 (c' : Int), .int .u64 (d1' : Int), .slice A' n' cap'] rfl rfl 60 _ H.out.r Tryd.size6 rfl (by simp [Value.oneCell']) ?_)
        exact bodyPost_ret (run_ct rfl _ _ _ w.heap.size #[.int .i64 op', .int .u64 (a' : Int), .int .u64 (b' : Int), .int .u64 (c' : Int), .int .u64 (d1' : Int), .slice A' n' cap'] (.bool true) rfl rfl (run_loadVar_row _ _ _ _ _ _ _ (H.out.fin _).2.2 Tryd.underlying60 rfl Tryd.size6)) rfl (pres_some R.out H.out RX.out)

end Go.Proofs.YtjmojjjgifkkiaaDoor
namespace Go.Proofs.YtjmojjjgifkkiaaDoor
open Pz

/-- A tree that may be, of at most so many nodes. -/
structure Good (t : Rx) (n : Nat) : Prop where
  rex : Rx.isRex t = true
  fit : Rx.fit t
  count : Rx.count t ≤ n
theorem Good.mono {t : Rx} {m n : Nat} (h : Good t m) (hn : m ≤ n) : Good t n := ⟨h.rex, h.fit, Nat.le_trans h.count hn⟩
/-- Trees that may be, of at most so many nodes together. -/
structure GoodL (l : List Rx) (n : Nat) : Prop where
  rex : Rx.isAll l = true
  fit : Rx.fitL l
  count : Rx.countL l ≤ n
theorem isAll_app : ∀ (l : List Rx) (x : Rx), Rx.isAll (l ++ [x]) = (Rx.isAll l && Rx.isRex x)
  | [], x => by simp [Rx.isAll]
  | k :: r, x => by rw [List.cons_append, Rx.isAll, Rx.isAll, isAll_app r x, Bool.and_assoc]
theorem fitL_app : ∀ (l : List Rx) (x : Rx), Rx.fitL (l ++ [x]) ↔ Rx.fitL l ∧ Rx.fit x
  | [], x => by simp [Rx.fitL]
  | k :: r, x => by rw [List.cons_append, Rx.fitL, Rx.fitL, fitL_app r x, and_assoc]
theorem countL_app : ∀ (l : List Rx) (x : Rx), Rx.countL (l ++ [x]) = Rx.countL l + Rx.count x
  | [], x => by simp [Rx.countL]
  | k :: r, x => by rw [List.cons_append, Rx.countL, Rx.countL, countL_app r x]; omega
theorem GoodL.nil : GoodL [] 0 := ⟨by simp [Rx.isAll], by simp [Rx.fitL], by simp [Rx.countL]⟩
theorem GoodL.app {l : List Rx} {x : Rx} {m n : Nat} (h : GoodL l m) (hx : Good x n) : GoodL (l ++ [x]) (m + n) :=
  ⟨by rw [isAll_app, h.rex, hx.rex]; rfl, (fitL_app l x).2 ⟨h.fit, hx.fit⟩, by rw [countL_app]; have := h.count; have := hx.count; omega⟩
theorem fit0 : Fit4 0 0 0 0 := ⟨by omega, by omega, by omega, by omega⟩
theorem GoodL.joined {l : List Rx} {n : Nat} {op : Int} (h : GoodL l n) (ho : op = 2 ∨ (op = 3 ∧ 1 ≤ l.length)) : Good (joined op l) (n + 1) := by
  by_cases h1 : l.length = 1
  · obtain ⟨x, rfl⟩ := List.length_eq_one_iff.1 h1
    have h2 := h.rex
    have h3 := h.fit
    have h4 := h.count
    simp only [Rx.isAll, Bool.and_true] at h2
    simp only [Rx.fitL, and_true] at h3
    simp only [Rx.countL] at h4
    exact ⟨h2, h3, by show Rx.count x ≤ _; omega⟩
  · rw [joined_two h1]
    refine ⟨?_, ?_, by rw [Rx.count]; have := h.count; omega⟩
    · rw [Rx.isRex]
      rcases ho with rfl | ⟨rfl, hl⟩
      · rw [if_neg (by decide), h.rex]; simp [Rx.may]
      · rw [if_neg (by decide), h.rex]; simp [Rx.may]; omega
    · rw [Rx.fit]; exact ⟨fit0, h.fit⟩
theorem set_good {W : Nat → Nat} (h : Fits4 W) : Good (setOf W) 1 := ⟨by simp [setOf, Rx.isRex], by unfold setOf; rw [Rx.fit, Rx.fitL]; exact ⟨⟨h 0, h 1, h 2, h 3⟩, trivial⟩, by simp [setOf, Rx.count, Rx.countL]⟩
theorem rep_good {x : Rx} {n : Nat} {op : Int} (h : Good x n) (ho : op = 4 ∨ op = 5 ∨ op = 6) : Good (rep op x) (n + 1) := by
  refine ⟨?_, ?_, by unfold rep; rw [Rx.count, Rx.countL, Rx.countL]; have := h.count; omega⟩
  · unfold rep
    rw [Rx.isRex, Rx.isAll, Rx.isAll, h.rex]
    rcases ho with rfl | rfl | rfl <;> simp [Rx.may]
  · unfold rep; rw [Rx.fit, Rx.fitL, Rx.fitL]; exact ⟨fit0, h.fit, trivial⟩
theorem items_fits {s : ByteArray} : ∀ {m i j : Nat} {W V : Nat → Nat}, Fits4 W → items (txt8 s) m W i = some (V, j) → Fits4 V
  | 0, i, j, W, V, _, h => by cases h
  | m + 1, i, j, W, V, hW, h => by
    by_cases h9 : pk (txt8 s) i = 93
    · rw [items, if_pos h9] at h
      injection h with h
      injection h with h1 h2
      rw [← h1]; exact hW
    · rw [items_step h9] at h
      cases hq : item (txt8 s) i with
      | none => rw [hq] at h; cases h
      | some q =>
        obtain ⟨lo, hi, k⟩ := q
        rw [hq] at h
        exact items_fits (m := m) (join_fits hW (span_fits none4_fits _ _)) h
theorem class_good {s : ByteArray} {i j : Nat} {t : Rx} (h : class1 (txt8 s) 42 i = some (t, j)) : Good t 1 := by
  rw [class_eq _ _ _ _ _ rfl rfl] at h
  generalize (if pk (txt8 s) i = 94 then i + 1 else i) = i2 at h
  cases hq : item (txt8 s) i2 with
  | none => rw [hq] at h; cases h
  | some q =>
    obtain ⟨lo, hi, k⟩ := q
    rw [hq] at h
    simp only [cont] at h
    cases hc : items (txt8 s) 42 (join none4 (span none4 lo (hi + 1 - lo))) k with
    | none => rw [hc] at h; cases h
    | some p =>
      obtain ⟨V, m⟩ := p
      rw [hc] at h
      have hV := items_fits (join_fits none4_fits (span_fits none4_fits _ _)) hc
      injection h with h
      injection h with h1 h2
      rw [← h1]
      split
      · exact set_good (neg_fits V)
      · exact set_good hV
/-- What is told of the groups within. -/
def GoodG (G : Nat → Option (Rx × Nat)) : Prop := ∀ i t j, G i = some (t, j) → Good t (3 * (j - i))
theorem atom_good {s : ByteArray} {G : Nat → Option (Rx × Nat)} (hA : Ahead G) (hG : GoodG G) {i j : Nat} {t : Rx} (h : atom (txt8 s) 42 G i = some (t, j)) : Good t (3 * (j - i)) := by
  have lt := atom_lt hA h
  unfold atom at h
  split at h
  · exact (hG _ _ _ h).mono (by omega)
  · split at h
    · exact (class_good h).mono (by omega)
    · split at h
      · injection h with h; injection h with h1 h2; rw [← h1]; exact (set_good (neg_fits _)).mono (by omega)
      · split at h
        · cases h
        · injection h with h; injection h with h1 h2; rw [← h1]; exact (set_good (put_fits none4_fits _)).mono (by omega)
theorem factor_good {s : ByteArray} {G : Nat → Option (Rx × Nat)} (hA : Ahead G) (hG : GoodG G) {i j : Nat} {t : Rx} (h : factor (txt8 s) 42 G i = some (t, j)) : Good t (3 * (j - i)) := by
  unfold factor at h
  split at h
  · cases h
  · rename_i x k h1
    have l1 := atom_lt hA h1
    have g1 := atom_good hA hG h1
    split at h
    · injection h with h; injection h with h2 h3; rw [← h2, ← h3]; exact (rep_good g1 (by simp)).mono (by omega)
    · split at h
      · injection h with h; injection h with h2 h3; rw [← h2, ← h3]; exact (rep_good g1 (by simp)).mono (by omega)
      · split at h
        · injection h with h; injection h with h2 h3; rw [← h2, ← h3]; exact (rep_good g1 (by simp)).mono (by omega)
        · injection h with h; injection h with h2 h3; rw [← h2, ← h3]; exact g1
theorem way_good {s : ByteArray} {G : Nat → Option (Rx × Nat)} (hA : Ahead G) (hG : GoodG G) {t : Rx} : ∀ {m : Nat} {l : List Rx} {i j n : Nat}, GoodL l n → way (txt8 s) 42 G m l i = some (t, j) → Good t (n + 3 * (j - i) + 1)
  | 0, l, i, j, n, _, h => by cases h
  | m + 1, l, i, j, n, hl, h => by
    rw [way] at h
    split at h
    · injection h with h; injection h with h1 h2; rw [← h1]; exact (hl.joined (.inl rfl)).mono (by omega)
    · split at h
      · cases h
      · rename_i x k h1
        have l1 := factor_lt hA h1
        have g1 := factor_good hA hG h1
        have l2 := way_le hA (m := m) h
        exact (way_good hA hG (m := m) (hl.app g1) h).mono (by omega)
theorem ways_good {s : ByteArray} {G : Nat → Option (Rx × Nat)} (hA : Ahead G) (hG : GoodG G) {t : Rx} : ∀ {m : Nat} {l : List Rx} {i j n : Nat}, GoodL l n → Pz.ways (txt8 s) 42 G m l i = some (t, j) → Good t (n + 3 * (j - i) + 2)
  | 0, l, i, j, n, _, h => by cases h
  | m + 1, l, i, j, n, hl, h => by
    rw [Pz.ways] at h
    split at h
    · cases h
    · rename_i x k h1
      have l1 := way_le hA h1
      have g1 := way_good hA hG GoodL.nil h1
      split at h
      · have l2 := ways_le hA (m := m) h
        exact (ways_good hA hG (m := m) (hl.app g1) h).mono (by omega)
      · injection h with h; injection h with h2 h3
        rw [← h2, ← h3]
        exact ((hl.app g1).joined (.inr ⟨rfl, by simp⟩)).mono (by omega)
theorem group_good {s : ByteArray} : ∀ D, GoodG (group (txt8 s) 42 D)
  | 0 => fun i t j h => by cases h
  | D + 1 => fun i t j h => by
    rw [group] at h
    split at h
    · cases h
    · rename_i x k h1
      have l1 := ways_le (group_le (s := s) D) h1
      have g1 := ways_good (group_le (s := s) D) (group_good D) GoodL.nil h1
      split at h
      · injection h with h; injection h with h2 h3; rw [← h2, ← h3]; exact g1.mono (by omega)
      · cases h
theorem pk_is {s : ByteArray} {i c : Nat} (h : pk (txt8 s) i = c) (hc : c ≠ 256) : i + 1 ≤ s.size := pk_in (by rw [h]; exact hc)
theorem items_in {s : ByteArray} : ∀ {m i j : Nat} {W V : Nat → Nat}, items (txt8 s) m W i = some (V, j) → j ≤ s.size
  | 0, i, j, W, V, h => by cases h
  | m + 1, i, j, W, V, h => by
    by_cases h9 : pk (txt8 s) i = 93
    · rw [items, if_pos h9] at h; have := pk_is h9 (by omega); simp at h; omega
    · rw [items_step h9] at h
      cases hq : item (txt8 s) i with
      | none => rw [hq] at h; cases h
      | some q =>
        obtain ⟨lo, hi, k⟩ := q
        rw [hq] at h
        exact items_in (m := m) h
theorem class_in {s : ByteArray} {i j : Nat} {t : Rx} (h : class1 (txt8 s) 42 i = some (t, j)) : j ≤ s.size := by
  rw [class_eq _ _ _ _ _ rfl rfl] at h
  generalize (if pk (txt8 s) i = 94 then i + 1 else i) = i2 at h
  cases hq : item (txt8 s) i2 with
  | none => rw [hq] at h; cases h
  | some q =>
    obtain ⟨lo, hi, k⟩ := q
    rw [hq] at h
    simp only [cont] at h
    cases hc : items (txt8 s) 42 (join none4 (span none4 lo (hi + 1 - lo))) k with
    | none => rw [hc] at h; cases h
    | some p =>
      obtain ⟨V, m⟩ := p
      rw [hc] at h
      have := items_in hc
      simp [clsOf] at h
      omega
/-- No part ends behind the text. -/
def InG (s : ByteArray) (G : Nat → Option (Rx × Nat)) : Prop := ∀ i t j, G i = some (t, j) → j ≤ s.size
theorem atom_in {s : ByteArray} {G : Nat → Option (Rx × Nat)} (hG : InG s G) {i j : Nat} {t : Rx} (h : atom (txt8 s) 42 G i = some (t, j)) : j ≤ s.size := by
  unfold atom at h
  split at h
  · exact hG _ _ _ h
  · split at h
    · exact class_in h
    · split at h
      · rename_i h46
        have := pk_is h46 (by omega)
        simp at h; omega
      · split at h
        · cases h
        · rename_i c j' h1
          have := byte1_lt h1
          simp at h; omega
theorem factor_in {s : ByteArray} {G : Nat → Option (Rx × Nat)} (hG : InG s G) {i j : Nat} {t : Rx} (h : factor (txt8 s) 42 G i = some (t, j)) : j ≤ s.size := by
  unfold factor at h
  split at h
  · cases h
  · rename_i x k h1
    have := atom_in hG h1
    split at h
    · rename_i h2; have := pk_is h2 (by omega); simp at h; omega
    · split at h
      · rename_i h2; have := pk_is h2 (by omega); simp at h; omega
      · split at h
        · rename_i h2; have := pk_is h2 (by omega); simp at h; omega
        · simp at h; omega
theorem way_in {s : ByteArray} {G : Nat → Option (Rx × Nat)} (hG : InG s G) {t : Rx} : ∀ {m : Nat} {l : List Rx} {i j : Nat}, i ≤ s.size → way (txt8 s) 42 G m l i = some (t, j) → j ≤ s.size
  | 0, l, i, j, _, h => by cases h
  | m + 1, l, i, j, hi, h => by
    rw [way] at h
    split at h
    · simp at h; omega
    · split at h
      · cases h
      · rename_i x k h1
        exact way_in hG (m := m) (factor_in hG h1) h
theorem ways_in {s : ByteArray} {G : Nat → Option (Rx × Nat)} (hG : InG s G) {t : Rx} : ∀ {m : Nat} {l : List Rx} {i j : Nat}, i ≤ s.size → Pz.ways (txt8 s) 42 G m l i = some (t, j) → j ≤ s.size
  | 0, l, i, j, _, h => by cases h
  | m + 1, l, i, j, hi, h => by
    rw [Pz.ways] at h
    split at h
    · cases h
    · rename_i x k h1
      have := way_in hG hi h1
      split at h
      · rename_i h2
        exact ways_in hG (m := m) (pk_is h2 (by omega)) h
      · simp at h; omega
theorem group_in {s : ByteArray} : ∀ D, InG s (group (txt8 s) 42 D)
  | 0 => fun i t j h => by cases h
  | D + 1 => fun i t j h => by
    rw [group] at h
    split at h
    · cases h
    · rename_i x k h1
      split at h
      · rename_i h2; have := pk_is h2 (by omega); simp at h; omega
      · cases h
theorem parse_good {s : ByteArray} {t : Rx} (h : parse (txt8 s) = some t) : Good t 1000 := by
  unfold parse at h
  split at h
  · cases h
  · split at h
    · cases h
    · rename_i h0 _ x k h1
      rw [txt8_len] at h0 h
      have g1 := ways_good (group_le (s := s) 8) (group_good 8) GoodL.nil h1
      split at h
      · cases h
      · injection h with h
        rw [← h]
        have := ways_in (group_in (s := s) 8) (by omega) h1
        exact g1.mono (by omega)

end Go.Proofs.YtjmojjjgifkkiaaDoor
