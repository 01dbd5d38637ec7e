/-
  What the reference's Parse does; RexParses, RexEnds as contracts. No conditions.
  Plain mathematics of chapter 1 (no Go in it): a number laid in groups of seven bits ('put'), bytes read as a number ('dec'), a word as eight bytes ('word'). No conditions.
  Slices of bytes in a walk: a slice that a call has made, a slice that reads as a list of bytes, as a string, cut, appended to. No conditions; of the program only the numbers of its types.
  Plain mathematics of chapter 4 (no Go in it but the order of strings): labels, names, values, label sets, their bytes, what bytes are read as, projections. No conditions.
  Slices of labels in a walk: a slice that reads as a list of labels, one that a call has made; what Get and the reference's GetLabel do. Conditions: the length fits.
-/
import Derived.Test.YtjmojjjgifkkiaaDoorProg
import Derived.Test.YtjmojjjgifkkiaaDoorZ01
import Derived.Test.YtjmojjjgifkkiaaDoorZ02
import Derived.Test.YtjmojjjgifkkiaaDoorZ03
import Derived.Test.YtjmojjjgifkkiaaDoorZ06
import Derived.Test.YtjmojjjgifkkiaaDoorZ04
import Derived.Test.YtjmojjjgifkkiaaDoorZ05
import Derived.Test.YtjmojjjgifkkiaaDoorZ08
import Derived.Test.YtjmojjjgifkkiaaDoorZ09
import Derived.Test.YtjmojjjgifkkiaaDoorZ15
import Derived.Test.YtjmojjjgifkkiaaDoorZ16
import Derived.Test.YtjmojjjgifkkiaaDoorZ17
import Derived.Test.YtjmojjjgifkkiaaDoorZ20
import Derived.Test.YtjmojjjgifkkiaaDoorZ21
import Derived.Test.YtjmojjjgifkkiaaDoorZ22
import Derived.Deep.QuietTactic
import Derived.Laws.MakeOwn
import Derived.Laws.OwnMore
import Derived.OwnWalk
import Derived.WalkKit
import Derived.WalkSpells
import Derived.WalkLawsBesides
import Derived.Lib.Hide
import Derived.Below
import Derived.BigQuiet
import Derived.Lib.QuietBelow
import Derived.Laws.StructEq
import Derived.KernelRfl
import Derived.Laws.AppendOwn
import Derived.Lib.Bytealg
import Derived.Laws.Externs
import Derived.Deep.RegionHeld3
import Derived.StillTailTactics
import Derived.Laws.ResultCell
import Derived.Maps.AppendAt
import Derived.Deep.MidRow
import Derived.Deep.Upon
import Derived.Deep.LoopGhost
import Derived.Laws.CopyOwn
import Derived.Deep.Cut
import Derived.Deep.CutRange
import Derived.Lib.AppendStr
import Derived.Laws.BytesArg
import Derived.Shelf.Bytes.SlSmallAll
import Derived.Laws.AppendOwnNone
namespace Go.Proofs.YtjmojjjgifkkiaaDoor
open Go.RowKit Go.Sort
open Pz

set_option maxRecDepth 100000 in
set_option maxHeartbeats 8000000 in
theorem rparse_any (s : ByteArray) (w : World) : Calls Tryd.prog 41 #[.string s] w (ParseRes w (parse (txt8 s))) := by
  obtain ⟨L, hL⟩ : ∃ L, s.size = L := ⟨_, rfl⟩
  by_cases h40 : 40 < L
  · have hz : decide ((L : Int) > 40) = true := decide_eq_true (by omega)
    have R : Hid (parse (txt8 s) = none) := by show _ = _; unfold parse; rw [txt8_len, if_pos (by omega)]
    have B := Lib.hid ((Below.refl w.heap.size w).alloc (Nat.le_refl _) (.cells #[.int .i64 0, .int .u64 0, .int .u64 0, .int .u64 0, .int .u64 0, .slice none 0 0] 60))
    have HH := Lib.hid (heap_alloc_new w (.cells #[.int .i64 0, .int .u64 0, .int .u64 0, .int .u64 0, .int .u64 0, .slice none 0 0] 60))
    clear h40
    go_enter Tryd.func41, Tryd.ntmps41
    go_wp2
    exact bodyPost_ret (run_ct rfl _ _ _ w.heap.size #[.int .i64 0, .int .u64 0, .int .u64 0, .int .u64 0, .int .u64 0, .slice none 0 0] (.bool false) rfl rfl (run_loadVar_row _ _ _ _ _ _ _ HH.out Tryd.underlying60 rfl Tryd.size6)) rfl ⟨B.out, .inr ⟨R.out, rfl⟩⟩
  · have hz : decide ((L : Int) > 40) = false := decide_eq_false (by omega)
    have WC := Lib.hid (fun P => rways_any P 0 s _ (group_le 8) (rgroup_any P s 8 0 rfl))
    obtain ⟨e1, e2, z, B⟩ := alloc2 w (.cells #[.int .i64 0, .int .u64 0, .int .u64 0, .int .u64 0, .int .u64 0, .slice none 0 0] 60) (.cells #[.string s, .int .i64 0, .int .i64 0, .bool false] 92)
    have PA : Hid (RPar ((w.alloc (.cells #[.int .i64 0, .int .u64 0, .int .u64 0, .int .u64 0, .int .u64 0, .slice none 0 0] 60)).alloc (.cells #[.string s, .int .i64 0, .int .i64 0, .bool false] 92)) (w.heap.size + 1) s 0 0 false) := by
      generalize (w.alloc (.cells #[.int .i64 0, .int .u64 0, .int .u64 0, .int .u64 0, .int .u64 0, .slice none 0 0] 60)).alloc (.cells #[.string s, .int .i64 0, .int .i64 0, .bool false] 92) = W at *
      refine ⟨?_, ?_, ?_, ?_, fun j => by rw [World.frozen?, e2]; simp, by omega, by omega, by omega⟩ <;> (rw [cell_of_row _ _ _ _ _ _ e2]; rfl)
    have E1 := Lib.hid e1
    have ZZ := Lib.hid z
    have BB := Lib.hid B
    clear e1 e2 z B
    have e1 : Hid (parse (txt8 s) = match Pz.ways (txt8 s) 42 (group (txt8 s) 42 8) 42 [] 0 with
      | none => none
      | some (x, j) => if j < s.size then none else some x) := by
      show _ = _
      unfold parse
      rw [txt8_len, if_neg (by omega)]
      cases Pz.ways (txt8 s) 42 (group (txt8 s) 42 8) 42 [] 0 <;> rfl
    clear h40
    go_enter Tryd.func41, Tryd.ntmps41
    go_wp2_with fail
    refine (WC.out _ 0 _ trivial PA.out).mono ?_
    intro e W1 hp
    obtain ⟨op, a, b, c, d1, A, n, cap, t, rfl, RX, S1, hres⟩ := hp.form
    have r1 := (S1.block w.heap.size (by rw [ZZ.out]; omega) (by omega)).trans E1.out
    have b1 := BB.out.trans (S1.below (B := w.heap.size) (by omega) (by rw [ZZ.out]; omega))
    have B6 : Below W1.heap.size W1 (W1.alloc (.cells #[.int .i64 op, .int .u64 (a : Int), .int .u64 (b : Int), .int .u64 (c : Int), .int .u64 (d1 : Int), .slice A n cap] 60)) := (Below.refl _ _).alloc (Nat.le_refl _) _
    have X6 : Row6 (W1.alloc (.cells #[.int .i64 op, .int .u64 (a : Int), .int .u64 (b : Int), .int .u64 (c : Int), .int .u64 (d1 : Int), .slice A n cap] 60)) W1.heap.size #[.int .i64 op, .int .u64 (a : Int), .int .u64 (b : Int), .int .u64 (c : Int), .int .u64 (d1 : Int), .slice A n cap] := heap_alloc_new W1 _
    have R2 := Lib.hid ((B6.block w.heap.size (Array.getElem?_eq_some_iff.1 r1).1).trans r1)
    have RX2 := Lib.hid (RX.under B6 (B' := w.heap.size + 1) (by rw [ZZ.out]; omega))
    have b2 := Lib.hid (b1.trans (B6.mono b1.size))
    obtain ⟨x0, x1, x2, x3, x4, x5⟩ := X6.cells
    have hPl : w.heap.size + 1 < W1.heap.size := by have := S1.size; rw [ZZ.out] at this; omega
    rcases hres with ⟨j, h1, P1⟩ | ⟨h1, j, d3, P1⟩
    · have R1 : Hid (parse (txt8 s) = if j < L then none else some t) := by show _ = _; rw [e1.out, h1, ← hL]
      have c1 := (P1.grown B6).c1
      have c3 := (P1.grown B6).c3
      clear S1 P1 hp B6 r1 b1 E1 ZZ BB PA WC RX X6 h1 e1
      by_cases hjl : j < L
      · have hjz : (j : Int) < (L : Int) := by omega
        have R : Hid (parse (txt8 s) = none) := by show _ = _; rw [R1.out, if_pos hjl]
        clear R1 hjl
        go_wp2_with (refine wpList_store_row rfl 60 (.tmp 2) (.tmp 28) rfl w.heap.size #[.int .i64 0, .int .u64 0, .int .u64 0, .int .u64 0, .int .u64 0, .slice none 0 0] rfl rfl 60 _ R2.out Tryd.size6 rfl (by simp [Value.oneCell']) ?_)
        exact bodyPost_ret (run_ct rfl _ _ _ w.heap.size #[.int .i64 0, .int .u64 0, .int .u64 0, .int .u64 0, .int .u64 0, .slice none 0 0] (.bool false) rfl rfl (run_loadVar_row _ _ _ _ _ _ _ (setRow_heap _ _ _ _ _ _ R2.out) Tryd.underlying60 rfl Tryd.size6)) rfl (⟨below_row b2.out _, .inr ⟨R.out, rfl⟩⟩)
      · have hjz : ¬ (j : Int) < (L : Int) := by omega
        have R : Hid (parse (txt8 s) = some t) := by show _ = _; rw [R1.out, if_neg hjl]
        clear R1 hjl
        go_wp2_with (refine wpList_store_row rfl 60 (.tmp 2) (.tmp 29) rfl w.heap.size #[.int .i64 op, .int .u64 (a : Int), .int .u64 (b : Int), .int .u64 (c : Int), .int .u64 (d1 : Int), .slice A n cap] rfl rfl 60 _ R2.out Tryd.size6 rfl (by simp [Value.oneCell']) ?_)
        exact bodyPost_ret (run_ct rfl _ _ _ w.heap.size #[.int .i64 op, .int .u64 (a : Int), .int .u64 (b : Int), .int .u64 (c : Int), .int .u64 (d1 : Int), .slice A n cap] (.bool true) rfl rfl (run_loadVar_row _ _ _ _ _ _ _ (setRow_heap _ _ _ _ _ _ R2.out) Tryd.underlying60 rfl Tryd.size6)) rfl (⟨below_row b2.out _, .inl ⟨t, _, R.out, rfl, RX2.out.frame (fun b hb => setRow_other _ _ _ _ (by omega)) (fun b _ hb => by omega)⟩⟩)
    · have R : Hid (parse (txt8 s) = none) := by show _ = _; rw [e1.out, h1]
      have c3 := (P1.grown B6).c3
      clear S1 P1 hp B6 r1 b1 E1 ZZ BB PA WC RX X6 h1 e1
      go_wp2_with (refine wpList_store_row rfl 60 (.tmp 2) (.tmp 28) rfl w.heap.size #[.int .i64 0, .int .u64 0, .int .u64 0, .int .u64 0, .int .u64 0, .slice none 0 0] rfl rfl 60 _ R2.out Tryd.size6 rfl (by simp [Value.oneCell']) ?_)
      exact bodyPost_ret (run_ct rfl _ _ _ w.heap.size #[.int .i64 0, .int .u64 0, .int .u64 0, .int .u64 0, .int .u64 0, .slice none 0 0] (.bool false) rfl rfl (run_loadVar_row _ _ _ _ _ _ _ (setRow_heap _ _ _ _ _ _ R2.out) Tryd.underlying60 rfl Tryd.size6)) rfl (⟨below_row b2.out _, .inr ⟨R.out, rfl⟩⟩)
set_option maxRecDepth 100000 in
set_option maxHeartbeats 8000000 in
theorem parse_all (s : ByteArray) (w : World) : Calls Tryd.prog 36 #[.string s] w (ParseRes w (parse (txt8 s))) := by
  obtain ⟨L, hL⟩ : ∃ L, s.size = L := ⟨_, rfl⟩
  by_cases h40 : 40 < L
  · have hz : decide ((L : Int) > 40) = true := decide_eq_true (by omega)
    have R : Hid (parse (txt8 s) = none) := by show _ = _; unfold parse; rw [txt8_len, if_pos (by omega)]
    have B := Lib.hid ((Below.refl w.heap.size w).alloc (Nat.le_refl _) (.cells #[.int .i64 0, .int .u64 0, .int .u64 0, .int .u64 0, .int .u64 0, .slice none 0 0] 60))
    have HH := Lib.hid (heap_alloc_new w (.cells #[.int .i64 0, .int .u64 0, .int .u64 0, .int .u64 0, .int .u64 0, .slice none 0 0] 60))
    clear h40
    go_enter Tryd.func36, Tryd.ntmps36
    go_wp2
    exact bodyPost_ret (run_ct rfl _ _ _ w.heap.size #[.int .i64 0, .int .u64 0, .int .u64 0, .int .u64 0, .int .u64 0, .slice none 0 0] (.bool false) rfl rfl (run_loadVar_row _ _ _ _ _ _ _ HH.out Tryd.underlying60 rfl Tryd.size6)) rfl ⟨B.out, .inr ⟨R.out, rfl⟩⟩
  · exact parse_any s (by omega) w
/-- What Parse told, either way. -/
theorem ParseRes.both {w w' : World} {r : Option Rx} {e : Ending} (h : ParseRes w r e w') :
    ∃ op a b c d A n cap t, e = .returned (.tuple #[.agg #[.int .i64 op, .int .u64 ((a : Nat) : Int), .int .u64 ((b : Nat) : Int), .int .u64 ((c : Nat) : Int), .int .u64 ((d : Nat) : Int), .slice A n cap], .bool r.isSome]) ∧ IsRx w' (.agg (c6 op a b c d A n cap)) t ∧ t = r.getD (.mk 0 0 0 0 0 []) ∧ Below w.heap.size w w' := by
  cases r with
  | none =>
    obtain ⟨he, hb⟩ := h.no rfl
    exact ⟨0, 0, 0, 0, 0, none, 0, 0, _, he, (RxIn.leaf (fun _ => True) w' 0 0 0 0 0).is, rfl, hb⟩
  | some t =>
    obtain ⟨op, a, b, c, d, A, n, cap, he, hx, hb⟩ := h.yes rfl
    exact ⟨op, a, b, c, d, A, n, cap, t, he, hx, rfl, hb⟩
theorem both_good {s : ByteArray} {t : Rx} (h : t = (parse (txt8 s)).getD (.mk 0 0 0 0 0 [])) : Rx.count t ≤ 1000 ∧ Rx.fit t ∧ ((parse (txt8 s)).isSome = true → Rx.isRex t = true) := by
  cases hp : parse (txt8 s) with
  | none => rw [hp] at h; subst h; exact ⟨by decide, ⟨by unfold Fit4; decide, trivial⟩, fun h => by cases h⟩
  | some u => rw [hp] at h; subst h; exact ⟨(parse_good hp).count, (parse_good hp).fit, fun _ => (parse_good hp).rex⟩
end Go.Proofs.YtjmojjjgifkkiaaDoor
namespace Go.Proofs.YtjmojjjgifkkiaaDoor
namespace Vm
/-- A number in groups of seven bits, with fuel. -/
def putF : Nat → Nat → List Nat
  | 0, n => [n]
  | f + 1, n => if n < 128 then [n] else (n % 128 + 128) :: putF f (n / 128)
def put (n : Nat) : List Nat := putF 9 n

/-- It fits 64 bits. -/
def Fits (n : Nat) : Prop := n < 18446744073709551616

/-- How large the rest may be after k groups. -/
def lim (k : Nat) : Nat := 2 ^ (64 - 7 * k)
def PutRel (n : Nat) (acc : List Nat) (m : Nat) : Prop := m < lim acc.length ∧ acc ++ putF (9 - acc.length) m = put n

theorem lim_step {k m : Nat} (hk : k ≤ 9) (h : m < lim k) (hm : 128 ≤ m) : k < 9 ∧ m / 128 < lim (k + 1) := by
  unfold lim at h ⊢
  have hk9 : k ≠ 9 := by rintro rfl; simp at h; omega
  refine ⟨by omega, ?_⟩
  have e : 64 - 7 * k = (64 - 7 * (k + 1)) + 7 := by omega
  rw [e, Nat.pow_add] at h
  have : (2 : Nat) ^ 7 = 128 := by decide
  rw [this] at h
  exact Nat.div_lt_of_lt_mul (by rw [Nat.mul_comm]; exact h)
theorem lim_le (k : Nat) : lim k ≤ 18446744073709551616 := by
  have h : lim k ≤ 2 ^ 64 := Nat.pow_le_pow_right (by omega) (by omega)
  have : (2 : Nat) ^ 64 = 18446744073709551616 := by decide
  omega

theorem putRel_start (n : Nat) (h : Fits n) : PutRel n [] n := ⟨by unfold Fits at h; unfold lim; simpa using h, rfl⟩
theorem fits_of {n m : Nat} {acc : List Nat} (h : PutRel n acc m) : Fits m := Nat.lt_of_lt_of_le h.1 (lim_le _)
theorem putRel_step {n m : Nat} {acc : List Nat} (hl : acc.length ≤ 9) (h : PutRel n acc m) (hm : 128 ≤ m) : (acc ++ [m % 128 + 128]).length ≤ 9 ∧ PutRel n (acc ++ [m % 128 + 128]) (m / 128) := by
  obtain ⟨h1, h2⟩ := h
  obtain ⟨h3, h4⟩ := lim_step hl h1 hm
  refine ⟨by simp; omega, by simpa using h4, ?_⟩
  obtain ⟨f, hf⟩ : ∃ f, 9 - acc.length = f + 1 := ⟨8 - acc.length, by omega⟩
  rw [hf, putF, if_neg (by omega)] at h2
  have e : 9 - (acc ++ [m % 128 + 128]).length = f := by simp; omega
  rw [e, List.append_assoc]
  exact h2
theorem putRel_end {n m : Nat} {acc : List Nat} (h : PutRel n acc m) (hm : m < 128) : acc ++ [m] = put n := by
  obtain ⟨_, h2⟩ := h
  rw [← h2]
  cases 9 - acc.length with
  | zero => rfl
  | succ f => rw [putF, if_pos hm]

theorem putF_len : ∀ (f n : Nat), (putF f n).length ≤ f + 1
  | 0, n => by simp [putF]
  | f + 1, n => by
    rw [putF]; split
    · simp
    · have := putF_len f (n / 128); simp; omega
theorem putF_pos : ∀ (f n : Nat), 0 < (putF f n).length
  | 0, n => by simp [putF]
  | f + 1, n => by rw [putF]; split <;> simp

theorem putF_byte : ∀ (f n : Nat), f ≤ 9 → n < lim (9 - f) → ∀ x ∈ putF f n, x < 256
  | 0, n, _, h, x, hx => by
    simp [putF] at hx; subst hx
    have : lim (9 - 0) = 2 := by decide
    omega
  | f + 1, n, hf, h, x, hx => by
    rw [putF] at hx
    split at hx
    · simp at hx; subst hx; omega
    · next hn =>
      rcases List.mem_cons.1 hx with e | e
      · subst e; omega
      · have g := (lim_step (k := 9 - (f + 1)) (by omega) h (by omega)).2
        have e9 : 9 - (f + 1) + 1 = 9 - f := by omega
        rw [e9] at g
        exact putF_byte f (n / 128) (by omega) g x e
theorem getD_lt {l : List Nat} (h : ∀ x ∈ l, x < 256) (j : Nat) : l.getD j 0 < 256 := by
  by_cases hj : j < l.length
  · simp only [List.getD, List.getElem?_eq_getElem hj, Option.getD_some]; exact h _ (List.getElem_mem hj)
  · simp only [List.getD, List.getElem?_eq_none (show l.length ≤ j by omega), Option.getD_none]; omega
theorem put_byte {n : Nat} (h : Fits n) : ∀ x ∈ put n, x < 256 := putF_byte 9 n (by omega) (by unfold Fits at h; unfold lim; simpa using h)

/-! ### Reading a number -/
def decF : Nat → Nat → Nat → List Nat → Option (Nat × Nat)
  | 0, _, _, _ => none
  | _ + 1, _, _, [] => none
  | f + 1, i, acc, b :: r => if b < 128 then (if (b = 0 ∧ i ≠ 0) ∨ (i = 9 ∧ 1 < b) then none else some (acc + b * 128 ^ i, i + 1)) else decF f (i + 1) (acc + (b - 128) * 128 ^ i) r
/-- The number that bytes begin with, and how many bytes it takes. -/
def dec (l : List Nat) : Option (Nat × Nat) := decF 10 0 0 l
def GetRel (l : List Nat) (k m acc : Nat) : Prop := Fits m ∧ (k ≤ 9 → m = acc ∧ acc < 128 ^ k) ∧ decF (10 - k) k acc (l.drop k) = dec l

theorem drop_at (l : List Nat) (k : Nat) (h : k < l.length) : l.drop k = l.getD k 0 :: l.drop (k + 1) := by
  rw [List.drop_eq_getElem_cons h]; simp [List.getD, List.getElem?_eq_getElem h]
theorem getRel_start (l : List Nat) : GetRel l 0 0 0 := ⟨by unfold Fits; omega, fun _ => ⟨rfl, by simp⟩, rfl⟩
theorem getRel_out {l : List Nat} {k m acc : Nat} (h : GetRel l k m acc) (hk : 10 ≤ k ∨ l.length ≤ k) : dec l = none := by
  rw [← h.2.2]
  rcases hk with hk | hk
  · have e : 10 - k = 0 := by omega
    rw [e, decF]
  · rw [List.drop_of_length_le hk]
    cases 10 - k <;> rfl
theorem getRel_step {l : List Nat} {k m acc : Nat} (h : GetRel l k m acc) (hk : k < 10) (hl : k < l.length) (h1 : 128 ≤ l.getD k 0) (h2 : l.getD k 0 < 256) (m' : Nat) (hm : Fits m')
    (he : k ≤ 8 → m' = m + (l.getD k 0 - 128) * 128 ^ k) : GetRel l (k + 1) m' (acc + (l.getD k 0 - 128) * 128 ^ k) := by
  obtain ⟨a, b, c⟩ := h
  refine ⟨hm, fun h9 => ?_, ?_⟩
  · obtain ⟨e, f⟩ := b (by omega)
    refine ⟨by rw [he (by omega), e], ?_⟩
    have g : (l.getD k 0 - 128) * 128 ^ k ≤ 127 * 128 ^ k := Nat.mul_le_mul_right _ (by omega)
    rw [Nat.pow_succ]; omega
  · rw [← c]
    obtain ⟨f, hf⟩ : ∃ f, 10 - k = f + 1 := ⟨9 - k, by omega⟩
    have e : 10 - (k + 1) = f := by omega
    rw [hf, drop_at l k hl, decF, if_neg (by omega), e]
theorem getRel_bad {l : List Nat} {k m acc : Nat} (h : GetRel l k m acc) (hk : k < 10) (hl : k < l.length) (h1 : l.getD k 0 < 128) (hb : (l.getD k 0 = 0 ∧ k ≠ 0) ∨ (k = 9 ∧ 1 < l.getD k 0)) : dec l = none := by
  rw [← h.2.2]
  obtain ⟨f, hf⟩ : ∃ f, 10 - k = f + 1 := ⟨9 - k, by omega⟩
  rw [hf, drop_at l k hl, decF, if_pos h1, if_pos hb]
theorem getRel_good {l : List Nat} {k m acc : Nat} (h : GetRel l k m acc) (hk : k < 10) (hl : k < l.length) (h1 : l.getD k 0 < 128) (hb : ¬ ((l.getD k 0 = 0 ∧ k ≠ 0) ∨ (k = 9 ∧ 1 < l.getD k 0))) : dec l = some (m + l.getD k 0 * 128 ^ k, k + 1) := by
  rw [← h.2.2]
  obtain ⟨f, hf⟩ : ∃ f, 10 - k = f + 1 := ⟨9 - k, by omega⟩
  rw [hf, drop_at l k hl, decF, if_pos h1, if_neg hb, (h.2.1 (by omega)).1]

theorem decF_ok : ∀ (f i acc : Nat) (l : List Nat) (n k : Nat), f + i = 10 → acc < 128 ^ i → decF f i acc l = some (n, k) → (∀ j, l.getD j 0 < 256) → i < k ∧ k ≤ i + l.length ∧ k ≤ 10 ∧ Fits n
  | 0, _, _, _, _, _, _, _, h, _ => by simp [decF] at h
  | _ + 1, _, _, [], _, _, _, _, h, _ => by simp [decF] at h
  | f + 1, i, acc, b :: r, n, k, hf, ha, h, hb => by
    rw [decF] at h
    have hb0 : b < 256 := by simpa using hb 0
    have p9 : (128 : Nat) ^ 9 = 9223372036854775808 := by decide
    by_cases h1 : b < 128
    · rw [if_pos h1] at h
      split at h
      · cases h
      · next hn =>
        injection h with h; injection h with e1 e2
        subst e1 e2
        refine ⟨by omega, by simp, by omega, ?_⟩
        unfold Fits
        have g : b * 128 ^ i ≤ 127 * 128 ^ i := Nat.mul_le_mul_right _ (by omega)
        by_cases h9 : i = 9
        · subst h9
          rw [p9] at ha ⊢
          omega
        · have p : 128 ^ (i + 1) ≤ 128 ^ 9 := Nat.pow_le_pow_right (by omega) (by omega)
          rw [Nat.pow_succ, p9] at p
          omega
    · rw [if_neg h1] at h
      have g : (b - 128) * 128 ^ i ≤ 127 * 128 ^ i := Nat.mul_le_mul_right _ (by omega)
      have ih := decF_ok f (i + 1) _ r n k (by omega) (by rw [Nat.pow_succ]; omega) h (fun j => by simpa using hb (j + 1))
      obtain ⟨i1, i2, i3, i4⟩ := ih
      simp only [List.length_cons]
      exact ⟨by omega, by omega, i3, i4⟩
theorem dec_ok {l : List Nat} {n k : Nat} (h : dec l = some (n, k)) (hb : ∀ j, l.getD j 0 < 256) : 1 ≤ k ∧ k ≤ l.length ∧ k ≤ 10 ∧ Fits n := by
  obtain ⟨i1, i2, i3, i4⟩ := decF_ok 10 0 0 l n k rfl (by simp) h hb
  exact ⟨by omega, by omega, i3, i4⟩
/-- The text that bytes begin with, of at most most bytes, and how many bytes it takes. -/
def getText (l : List Nat) (most : Int) : Option (List Nat × Nat) :=
  match dec l with
  | none => none
  | some (n, k) => if most < 0 ∨ most < (n : Int) ∨ l.length < k + n then none else some ((l.drop k).take n, k + n)

theorem pow128 (k : Nat) : 128 ^ k = 2 ^ (7 * k) := by rw [Nat.pow_mul]
theorem or_add {m x k : Nat} (h : m < 128 ^ k) : m ||| x * 128 ^ k = m + x * 128 ^ k := by
  rw [pow128] at h ⊢
  have := Nat.two_pow_add_eq_or_of_lt h x
  rw [Nat.or_comm, Nat.mul_comm x, ← this, Nat.add_comm]
theorem small_fits {m x k : Nat} (hk : k ≤ 8) (hx : x < 128) (h : m < 128 ^ k) : m + x * 128 ^ k < 9223372036854775808 := by
  have a : x * 128 ^ k ≤ 127 * 128 ^ k := Nat.mul_le_mul_right _ (by omega)
  have b : 128 ^ (k + 1) ≤ 128 ^ 9 := Nat.pow_le_pow_right (by omega) (by omega)
  have c : (128 : Nat) ^ 9 = 9223372036854775808 := by decide
  rw [Nat.pow_succ] at b
  omega
theorem nine_fits {m x : Nat} (hx : x ≤ 1) (h : m < 128 ^ 9) : m + x * 128 ^ 9 < 18446744073709551616 := by
  have c : (128 : Nat) ^ 9 = 9223372036854775808 := by decide
  rw [c] at h ⊢
  omega

/-! ### Words -/
def word (n : Nat) : List Nat := [n / 72057594037927936 % 256, n / 281474976710656 % 256, n / 1099511627776 % 256, n / 4294967296 % 256, n / 16777216 % 256, n / 65536 % 256, n / 256 % 256, n % 256]
def be (l : List Nat) : Nat := l.foldl (fun a c => a * 256 + c) 0
theorem be_snoc (l : List Nat) (c : Nat) : be (l ++ [c]) = be l * 256 + c := by simp [be]
theorem take_snoc (l : List Nat) (k : Nat) (h : k < l.length) : l.take (k + 1) = l.take k ++ [l.getD k 0] := by
  rw [List.take_succ_eq_append_getElem h]; simp [List.getD, List.getElem?_eq_getElem h]
theorem be_lt (l : List Nat) (hb : ∀ j, l.getD j 0 < 256) : ∀ k, k ≤ l.length → be (l.take k) < 256 ^ k
  | 0, _ => by simp [be]
  | k + 1, h => by
    have ih := be_lt l hb k (by omega)
    have hc := hb k
    rw [take_snoc l k (by omega), be_snoc, Nat.pow_succ]; omega
theorem be_small {l : List Nat} (hb : ∀ j, l.getD j 0 < 256) {k : Nat} (hk : k < 8) (hl : k ≤ l.length) : be (l.take k) < 72057594037927936 := by
  have h1 := be_lt l hb k hl
  have h2 : 256 ^ k ≤ 256 ^ 7 := Nat.pow_le_pow_right (by omega) (by omega)
  have h3 : (256 : Nat) ^ 7 = 72057594037927936 := by decide
  omega
theorem or256 {m c : Nat} (h : c < 256) : m * 256 ||| c = m * 256 + c := by
  have h2 : c < 2 ^ 8 := h
  have := Nat.two_pow_add_eq_or_of_lt h2 m
  have e : (2 : Nat) ^ 8 = 256 := by decide
  rw [e, Nat.mul_comm] at this
  exact this.symm
theorem be_word (n : Nat) (h : Fits n) : be (word n) = n := by
  unfold Fits at h
  simp only [be, word, List.foldl]
  omega
end Vm

end Go.Proofs.YtjmojjjgifkkiaaDoor
namespace Go.Proofs.YtjmojjjgifkkiaaDoor
open Go.RowKit

theorem Tryd.info5 : (Tryd.prog.info? 5).map (fun i => (i.zero, i.size, i.bytes)) = some (some (.int .u8 0), 1, 1) := by kernel_rfl

/-- Bytes as cells. -/
def by8 (l : List Nat) : List Value := l.map fun k : Nat => Value.int .u8 (k : Int)

/-- A call has returned a new slice of bytes, and has written nothing that was there. -/
def MadeBytes (w : World) (l : List Nat) (e : Ending) (w' : World) : Prop :=
  ∃ v, e = .returned v ∧ w'.ownsRow w.heap.size 5 1 v l.length (by8 l) ∧ Below w.heap.size w w'

theorem one8 (x : Int) : ∀ u ∈ [Value.int .u8 x], u.oneCell' = true := by intro u hu; simp at hu; subst hu; rfl
theorem len_ok {k : Nat} (h : k ≤ 9) : k + 1 ≤ maxLen := by unfold maxLen; omega
theorem bel_size {w wr : World} (hb : Below w.heap.size w wr) {o : Obj} : w.heap.size ≤ (wr.alloc o).heap.size := by have := hb.size; simp; omega
theorem own_ge {w : World} {base e n : Nat} {v : Value} {xs : List Value} (h : w.ownsRow base e 1 v n xs) : ∀ g, v.ownBlock = some g → base ≤ g := fun g hg => (h.lt g hg).1

/-- The slice at address a reads as the bytes l. -/
def IsBytes (w : World) (a : Option Addr) (l : List Nat) : Prop :=
  (∀ j, l.getD j 0 < 256) ∧ (0 < l.length → ∃ b off, a = some ⟨b, off, none⟩ ∧ ∀ j, j < l.length → w.cell? ⟨b, off + j, none⟩ = some (.int .u8 ((l.getD j 0 : Nat) : Int)))

/-- A text's bytes. -/
def textL (s : ByteArray) : List Nat := s.data.toList.map UInt8.toNat
theorem textL_length (s : ByteArray) : (textL s).length = s.size := by rw [textL, List.length_map, Array.length_toList]; rfl
theorem by8_text (s : ByteArray) : by8 (textL s) = Lib.strCells s := by simp [by8, textL, Lib.strCells]
theorem by8_app (a b : List Nat) : by8 (a ++ b) = by8 a ++ by8 b := by simp [by8]

def strOf (l : List Nat) : ByteArray := strOfNums (l.map fun k : Nat => (k : Int))

theorem cut_string {w : World} {l : List Nat} {b off k n c : Nat} (hc : ∀ j, j < l.length → w.cell? ⟨b, off + j, none⟩ = some (.int .u8 ((l.getD j 0 : Nat) : Int))) (h : k + n ≤ l.length) :
    (convert 38 9 (.slice (some ⟨b, off + k, none⟩) n c)).run Tryd.prog w = .ok (.string (strOf ((l.drop k).take n))) w := by
  refine run_convert_bytes_arg w 38 5 Tryd.underlying38 Tryd.underlying5 b (off + k) n c _ (by simp; omega) (fun i hi => ?_) 9 Tryd.underlying9
  have hk := hc (k + i) (by omega)
  rw [Nat.add_assoc, hk]
  simp [List.getElem?_drop, hi, List.getElem?_eq_getElem (show k + i < l.length by omega)]

theorem cut_none {w : World} {l : List Nat} {A : Option Addr} {k c : Nat} : (convert 38 9 (.slice A 0 c)).run Tryd.prog w = .ok (.string (strOf ((l.drop k).take 0))) w := by
  have h := run_convert_bytes_zero (P := Tryd.prog) w 38 5 Tryd.underlying38 Tryd.underlying5 A c 9 Tryd.underlying9
  rw [h]; rfl

theorem own_len {w : World} {base n : Nat} {v : Value} {l : List Nat} (h : w.ownsRow base 5 1 v n (by8 l)) : l.length = n := by
  have := h.1; simpa [by8] using this
/-- The shape of a slice that a call has made. -/
theorem own_form {w : World} {base n : Nat} {v : Value} {l : List Nat} (h : w.ownsRow base 5 1 v n (by8 l)) : ∃ A cap, v = .slice A n cap ∧ n ≤ cap := by
  rcases h.2 with ⟨rfl, rfl⟩ | ⟨g, cap, cur, rfl, _, _, hc, _⟩
  · exact ⟨_, _, rfl, by omega⟩
  · exact ⟨_, _, rfl, hc⟩
theorem own_is {w : World} {base n cap : Nat} {A : Option Addr} {l : List Nat} (h : w.ownsRow base 5 1 (.slice A n cap) n (by8 l)) (hb : ∀ x ∈ l, x < 256) : IsBytes w A l := by
  have hl := own_len h
  refine ⟨Vm.getD_lt hb, fun hp => ?_⟩
  rcases h.2 with ⟨_, e⟩ | ⟨g, c, cur, e, _⟩
  · omega
  · injection e with e1 e2 e3
    subst e1
    refine ⟨g, 0, rfl, fun j hj => ?_⟩
    have := h.cellAt (g := g) j (by omega)
    rw [Nat.zero_add, this]
    simp [by8, List.getElem?_eq_getElem hj]
theorem is_conv {w : World} {A : Option Addr} {c : Nat} {l : List Nat} (h : IsBytes w A l) : (convert 38 9 (.slice A l.length c)).run Tryd.prog w = .ok (.string (strOf l)) w := by
  by_cases h0 : l.length = 0
  · obtain rfl : l = [] := List.eq_nil_of_length_eq_zero h0
    exact cut_none (l := []) (k := 0)
  · obtain ⟨b, off, rfl, hc⟩ := h.2 (by omega)
    have := cut_string (k := 0) (n := l.length) (c := c) hc (by omega)
    simpa using this
theorem own_conv {w : World} {base n : Nat} {v : Value} {l : List Nat} (h : w.ownsRow base 5 1 v n (by8 l)) (hb : ∀ x ∈ l, x < 256) : (convert 38 9 v).run Tryd.prog w = .ok (.string (strOf l)) w := by
  obtain ⟨A, cap, rfl, _⟩ := own_form h
  have hi := own_is h hb
  have hl := own_len h
  subst hl
  exact is_conv hi
theorem lit_is (w : World) (g : Nat) (l : List Nat) (hb : ∀ x ∈ l, x < 256) (cs : Array Value) (h : cs = (by8 l).toArray) (hg : w.heap.size = g) : IsBytes (w.alloc (.cells cs 5)) (some ⟨g, 0, none⟩) l := by
  subst h
  refine ⟨Vm.getD_lt hb, fun _ => ⟨g, 0, rfl, fun j hj => ?_⟩⟩
  rw [World.cell?_alloc_at _ _ _ _ hg.symm]
  simp [by8, List.getElem?_eq_getElem hj]
theorem below_two (w : World) (a b : Obj) : Below w.heap.size w ((w.alloc a).alloc b) := ((Below.refl _ _).alloc (Nat.le_refl _) a).alloc (by simp) b

theorem own_keep {w1 w2 : World} {base e n : Nat} {v : Value} {xs : List Value} (h : w1.ownsRow base e 1 v n xs) (hb : Below w1.heap.size w1 w2) : w2.ownsRow base e 1 v n xs := by
  refine ⟨h.1, ?_⟩
  rcases h.2 with hn | ⟨g, cap, cur, rfl, hbg, hg, rest⟩
  · exact .inl hn
  · exact .inr ⟨g, cap, cur, rfl, hbg, (hb.block g (Array.getElem?_eq_some_iff.1 hg).1).trans hg, rest⟩
theorem own_head {w : World} {base n : Nat} {v : Value} {l : List Nat} (h : w.ownsRow base 5 1 v n (by8 l)) (hn : 0 < n) :
    ∃ g cap, v = .slice (some ⟨g, 0, none⟩) n cap ∧ n ≤ cap ∧ g < w.heap.size ∧ ∀ j, j < n → w.cell? ⟨g, j, none⟩ = some (.int .u8 ((l.getD j 0 : Nat) : Int)) := by
  have hl := own_len h
  rcases h.2 with ⟨_, e⟩ | ⟨g, c, cur, rfl, _, hg, hc, _⟩
  · omega
  · refine ⟨g, c, rfl, hc, (Array.getElem?_eq_some_iff.1 hg).1, fun j hj => ?_⟩
    rw [h.cellAt (g := g) j (by omega)]
    simp [by8, List.getElem?_eq_getElem (show j < l.length by omega)]

theorem str_back {l : List Nat} (h : ∀ x ∈ l, x < 256) : (strOf l).toList.map UInt8.toNat = l := by
  rw [ByteArray.toList_eq, strOf, strOfNums_data, List.map_map, List.map_map]
  conv => rhs; rw [← List.map_id l]
  exact List.map_congr_left fun x hx => by
    have := h x hx
    simp [UInt8.toNat_ofNat']; omega
theorem str_eq {l m : List Nat} (h1 : ∀ x ∈ l, x < 256) (h2 : ∀ x ∈ m, x < 256) : ((strOf l).toList == (strOf m).toList) = decide (l = m) := by
  rw [Bool.eq_iff_iff, beq_iff_eq, decide_eq_true_iff]
  refine ⟨fun h => ?_, fun h => by rw [h]⟩
  rw [← str_back h1, ← str_back h2, h]

theorem isBytes_below {w w' : World} {A : Option Addr} {l : List Nat} (h : IsBytes w A l) (hb : Below w.heap.size w w') : IsBytes w' A l := by
  refine ⟨h.1, fun hp => ?_⟩
  obtain ⟨b, off, e, hc⟩ := h.2 hp
  refine ⟨b, off, e, fun j hj => ?_⟩
  have h1 := hc j hj
  exact (hb.cell (World.block_lt_of_cell? w _ h1)).trans h1
theorem isBytes_take {w : World} {A : Option Addr} {l : List Nat} (h : IsBytes w A l) (k : Nat) : IsBytes w A (l.take k) := by
  refine ⟨fun j => ?_, fun hp => ?_⟩
  · by_cases hj : j < k
    · have := h.1 j
      simp only [List.getD, List.getElem?_take, hj, if_true] at this ⊢
      exact this
    · simp [List.getElem?_take, hj]
  · obtain ⟨b, off, e, hc⟩ := h.2 (by simp at hp; omega)
    refine ⟨b, off, e, fun j hj => ?_⟩
    have hj' : j < k ∧ j < l.length := by simp at hj; omega
    rw [hc j hj'.2]
    simp [hj'.1]

theorem mem_of_getD {l : List Nat} (h : ∀ j, l.getD j 0 < 256) : ∀ x ∈ l, x < 256 := by
  intro x hx
  obtain ⟨j, hj, rfl⟩ := List.getElem_of_mem hx
  have := h j
  simpa [List.getD, List.getElem?_eq_getElem hj] using this
theorem by8_one (l : List Nat) : ∀ u ∈ by8 l, u.oneCell' = true := by
  intro u hu
  simp only [by8, List.mem_map] at hu
  obtain ⟨_, _, rfl⟩ := hu
  rfl

set_option maxRecDepth 100000 in
theorem wpList_app {ops : Array Oper} {rest : List Oper} {o : Oper} {a : Act} {Q : Exit → Act → World → Prop} (w : World) (hgd : o.guard = none) (s x : Operand)
    (ho : o.op = .call { callee := .builtin .append, args := #[s, x], argTypes := #[38, 38] })
    (base : Nat) (v : Value) (xs l : List Nat) (n L : Nat) (hn : xs.length = n) (hL : l.length = L) (hs : a.eval s = v) (hown : w.ownsRow base 5 1 v n (by8 xs)) (A : Option Addr) (c : Nat)
    (hx : a.eval x = .slice A L c) (hA : A = none → c = 0) (hi : IsBytes w A l) (hlen : n + L ≤ 140737488355328) (hbase : base ≤ w.heap.size)
    (h : ∀ v' w', w'.ownsRow base 5 1 v' (n + L) (by8 (xs ++ l)) → w.grownBy w' v.ownBlock → wpList Tryd.prog ops Q rest (a.put o.dst v') w') : wpList Tryd.prog ops Q (o :: rest) a w := by
  obtain ⟨i0, hi0, hz0, hz1, hz2⟩ := info_parts Tryd.info5
  subst hL hn
  have hml : xs.length + l.length ≤ maxLen := by unfold maxLen; omega
  rcases A with _ | ad
  · obtain rfl := hA rfl
    have hl0 : l.length = 0 := by
      rcases Nat.eq_zero_or_pos l.length with h0 | h0
      · exact h0
      · obtain ⟨b, off, e, _⟩ := hi.2 h0; cases e
    obtain rfl : l = [] := List.eq_nil_of_length_eq_zero hl0
    refine wpList_append_own_none hgd s x 38 ho base 5 i0 1 Tryd.underlying38 hi0 v _ _ hs hown hx ?_
    exact h v w (by simpa using hown) (World.grownBy.refl w _)
  · have hcells : ∀ j u, (by8 l)[j]? = some u → w.cell? (ad.add j) = some u := by
      intro j u hu
      by_cases hj : j < l.length
      · obtain ⟨b, off, e, hc⟩ := hi.2 (by omega)
        injection e with e
        subst e
        have e2 : (⟨b, off, none⟩ : Addr).add j = ⟨b, off + j, none⟩ := by unfold Addr.add; split <;> simp_all
        rw [e2, hc j hj, ← hu]
        simp [by8, List.getElem?_eq_getElem hj]
      · rw [List.getElem?_eq_none (by simp [by8]; omega)] at hu; cases hu
    refine wpList_append_own w hgd s x 38 ho base 5 i0 (.int .u8 0) 1 1 Tryd.underlying38 hi0 hz0 hz1 hz2 rfl (by decide) v _ _ hs hown ad l.length c (by8 l) hx (by simp [by8]) hcells (by8_one l) hml (by omega) hbase ?_
    intro v' w' h1 h2 _
    exact h v' w' (by rw [by8_app]; exact h1) h2

theorem strOf_text (s : ByteArray) : strOf (textL s) = s := by
  have h : (strOf (textL s)).data.toList = s.data.toList := by
    rw [strOf, strOfNums_data, textL, List.map_map, List.map_map]
    conv => rhs; rw [← List.map_id s.data.toList]
    exact List.map_congr_left fun x _ => by simp
  exact WideShapes.bytes_inj h


end Go.Proofs.YtjmojjjgifkkiaaDoor
namespace Go.Proofs.YtjmojjjgifkkiaaDoor
namespace La
abbrev Lab := ByteArray × ByteArray
def no : Lab := (⟨#[]⟩, ⟨#[]⟩)
def nth (ls : List Lab) (j : Nat) : Lab := ls.getD j no
theorem nth_eq {ls : List Lab} {j : Nat} (h : j < ls.length) : nth ls j = ls[j] := by simp [nth, List.getD, List.getElem?_eq_getElem h]
theorem nth_mem {ls : List Lab} {j : Nat} (h : j < ls.length) : nth ls j ∈ ls := by rw [nth_eq h]; exact List.getElem_mem h
theorem ext_nth {a b : List Lab} (hl : a.length = b.length) (h : ∀ j, j < a.length → nth a j = nth b j) : a = b := by
  refine List.ext_getElem hl fun j h1 h2 => ?_
  have := h j h1
  rwa [nth_eq h1, nth_eq h2] at this

/-! ### The order of strings -/
def lt (a b : ByteArray) : Bool := Op.bytesLess a.toList b.toList
theorem bl_irrefl : ∀ l : List UInt8, Op.bytesLess l l = false
  | [] => rfl
  | a :: r => by simp [Op.bytesLess, bl_irrefl r]
theorem bl_trans : ∀ {a b c : List UInt8}, Op.bytesLess a b = true → Op.bytesLess b c = true → Op.bytesLess a c = true
  | _, [], _, h, _ => by simp [Op.bytesLess] at h
  | _, _ :: _, [], _, h => by simp [Op.bytesLess] at h
  | [], _ :: _, _ :: _, _, _ => by simp [Op.bytesLess]
  | a :: x, b :: y, c :: z, h1, h2 => by
    simp only [Op.bytesLess, Bool.or_eq_true, decide_eq_true_eq, Bool.and_eq_true, beq_iff_eq] at h1 h2 ⊢
    rcases h1 with h1 | ⟨rfl, h1⟩
    · rcases h2 with h2 | ⟨rfl, h2⟩
      · exact .inl (UInt8.lt_trans h1 h2)
      · exact .inl h1
    · rcases h2 with h2 | ⟨rfl, h2⟩
      · exact .inl h2
      · exact .inr ⟨rfl, bl_trans h1 h2⟩
theorem bl_total : ∀ {a b : List UInt8}, Op.bytesLess a b = false → Op.bytesLess b a = false → a = b
  | [], [], _, _ => rfl
  | [], _ :: _, h, _ => by simp [Op.bytesLess] at h
  | _ :: _, [], _, h => by simp [Op.bytesLess] at h
  | a :: x, b :: y, h1, h2 => by
    simp only [Op.bytesLess, Bool.or_eq_false_iff, decide_eq_false_iff_not, Bool.and_eq_false_iff, beq_eq_false_iff_ne] at h1 h2
    have e : a = b := UInt8.le_antisymm (UInt8.not_lt.1 h2.1) (UInt8.not_lt.1 h1.1)
    subst e
    have e2 := bl_total (h1.2.resolve_left (by simp)) (h2.2.resolve_left (by simp))
    rw [e2]
theorem cmp_neg : ∀ a b : List UInt8, decide (Lib.compareBytes a b < 0) = Op.bytesLess a b
  | [], [] => rfl
  | [], _ :: _ => rfl
  | _ :: _, [] => rfl
  | a :: x, b :: y => by
    rw [Lib.compareBytes, Op.bytesLess]
    by_cases h1 : a < b
    · simp [h1]
    · by_cases h2 : b < a
      · have hne : ¬ a = b := fun e => by subst e; exact UInt8.lt_irrefl _ h2
        simp [h1, h2, hne]
      · have e : a = b := UInt8.le_antisymm (UInt8.not_lt.1 h2) (UInt8.not_lt.1 h1)
        subst e
        simp [cmp_neg x y]
theorem toL_inj {a b : ByteArray} (h : a.toList = b.toList) : a = b := WideShapes.bytes_inj (by rw [← ByteArray.toList_eq, ← ByteArray.toList_eq]; exact h)
theorem beq_iff {a b : ByteArray} : (a.toList == b.toList) = true ↔ a = b := by
  rw [beq_iff_eq]; exact ⟨toL_inj, fun h => by rw [h]⟩
theorem beq_dec (a b : ByteArray) : (a.toList == b.toList) = decide (a = b) := by
  rw [Bool.eq_iff_iff, beq_iff, decide_eq_true_iff]
theorem lt_irrefl (a : ByteArray) : lt a a = false := bl_irrefl _
theorem lt_trans {a b c : ByteArray} (h1 : lt a b = true) (h2 : lt b c = true) : lt a c = true := bl_trans h1 h2
theorem lt_total {a b : ByteArray} (h1 : lt a b = false) (h2 : lt b a = false) : a = b := toL_inj (bl_total h1 h2)
theorem lt_asymm {a b : ByteArray} (h : lt a b = true) : lt b a = false := by
  cases h2 : lt b a with
  | false => rfl
  | true => have := lt_trans h h2; rw [lt_irrefl] at this; cases this
/-- 'x <= y', as Go says it. -/
theorem le_not (a b : ByteArray) : (Op.bytesLess a.toList b.toList || a.toList == b.toList) = !lt b a := by
  show (lt a b || a.toList == b.toList) = _
  cases h1 : lt a b with
  | true => rw [lt_asymm h1]; rfl
  | false =>
    cases h2 : lt b a with
    | true =>
      have : (a.toList == b.toList) = false := by
        rw [← Bool.not_eq_true, beq_iff]; rintro rfl; rw [lt_irrefl] at h2; cases h2
      rw [this]; rfl
    | false => rw [beq_iff.2 (lt_total h1 h2)]; rfl

/-! ### Names, values, sets -/
def letter (c : Nat) : Bool := (decide (97 ≤ c) && decide (c ≤ 122)) || (decide (65 ≤ c) && decide (c ≤ 90)) || decide (c = 95)
def digit (c : Nat) : Bool := decide (48 ≤ c) && decide (c ≤ 57)
def good (s : ByteArray) (i : Nat) : Bool := letter ((textL s).getD i 0) || (decide (i ≠ 0) && digit ((textL s).getD i 0))
def name (s : ByteArray) : Bool := decide (1 ≤ s.size ∧ s.size ≤ 12 ∧ ∀ i, i < s.size → good s i = true)
def value (s : ByteArray) : Bool := decide (1 ≤ s.size ∧ s.size ≤ 24)
theorem letter_digit {c : Nat} (h : digit c = true) : letter c = false := by
  simp only [digit, letter, Bool.and_eq_true, decide_eq_true_eq, Bool.or_eq_false_iff, Bool.and_eq_false_iff, decide_eq_false_iff_not] at h ⊢
  omega
/-- The label at place k may stand there. -/
def okAt (ls : List Lab) (k : Nat) : Bool := name (nth ls k).1 && value (nth ls k).2 && (decide (k = 0) || lt (nth ls (k - 1)).1 (nth ls k).1)
def isSet (ls : List Lab) : Bool := decide (1 ≤ ls.length ∧ ls.length ≤ 6 ∧ ∀ k, k < ls.length → okAt ls k = true)
theorem isSet_iff {ls : List Lab} : isSet ls = true ↔ 1 ≤ ls.length ∧ ls.length ≤ 6 ∧ ∀ k, k < ls.length → okAt ls k = true := decide_eq_true_iff
theorem isSet_no {ls : List Lab} (h : ¬ (1 ≤ ls.length ∧ ls.length ≤ 6 ∧ ∀ k, k < ls.length → okAt ls k = true)) : isSet ls = false := decide_eq_false h
theorem isSet_bad {ls : List Lab} {k : Nat} (hk : k < ls.length) (h : okAt ls k = false) : isSet ls = false := isSet_no fun x => by rw [x.2.2 k hk] at h; cases h
theorem okAt_size {ls : List Lab} {k : Nat} (h : okAt ls k = true) : (nth ls k).1.size ≤ 12 ∧ (nth ls k).2.size ≤ 24 ∧ 1 ≤ (nth ls k).2.size := by
  simp only [okAt, Bool.and_eq_true, name, value, decide_eq_true_eq] at h
  omega
/-- What stands earlier has the smaller name. -/
theorem set_lt {ls : List Lab} (h : isSet ls = true) {i j : Nat} (hij : i < j) (hj : j < ls.length) : lt (nth ls i).1 (nth ls j).1 = true := by
  obtain ⟨_, _, ha⟩ := isSet_iff.1 h
  have st : ∀ k, 0 < k → k < ls.length → lt (nth ls (k - 1)).1 (nth ls k).1 = true := fun k h0 hk => by
    have := ha k hk
    simp only [okAt, Bool.and_eq_true, Bool.or_eq_true, decide_eq_true_eq] at this
    exact this.2.resolve_left (by omega)
  obtain ⟨d, rfl⟩ : ∃ d, j = i + 1 + d := ⟨j - i - 1, by omega⟩
  clear hij
  induction d with
  | zero => exact st (i + 1) (by omega) hj
  | succ d ih => exact lt_trans (ih (by omega)) (by simpa using st (i + 1 + (d + 1)) (by omega) hj)
theorem set_pw {ls : List Lab} (h : isSet ls = true) : ls.Pairwise fun a b => lt a.1 b.1 = true := by
  rw [List.pairwise_iff_getElem]
  intro i j hi hj hij
  have := set_lt h hij hj
  rwa [nth_eq hi, nth_eq hj] at this

/-! ### The value of a name -/
def getL : List Lab → ByteArray → ByteArray
  | [], _ => ⟨#[]⟩
  | x :: r, n => if x.1.toList == n.toList then x.2 else getL r n
theorem drop_nth {ls : List Lab} {k : Nat} (h : k < ls.length) : ls.drop k = nth ls k :: ls.drop (k + 1) := by rw [List.drop_eq_getElem_cons h, nth_eq h]
theorem getL_out {ls : List Lab} {k : Nat} {n : ByteArray} (h : ls.length ≤ k) : getL (ls.drop k) n = ⟨#[]⟩ := by rw [List.drop_of_length_le h]; rfl
theorem getL_hit {ls : List Lab} {k : Nat} {n : ByteArray} (h : k < ls.length) (he : ((nth ls k).1.toList == n.toList) = true) : getL (ls.drop k) n = (nth ls k).2 := by rw [drop_nth h, getL, if_pos he]
theorem getL_miss {ls : List Lab} {k : Nat} {n : ByteArray} (h : k < ls.length) (he : ((nth ls k).1.toList == n.toList) = false) : getL (ls.drop k) n = getL (ls.drop (k + 1)) n := by rw [drop_nth h, getL, he]; rfl
theorem getL_size {ls : List Lab} {n : ByteArray} {m : Nat} (h : ∀ x ∈ ls, x.2.size ≤ m) : (getL ls n).size ≤ m := by
  induction ls with
  | nil => show 0 ≤ m; omega
  | cons x r ih =>
    rw [getL]; split
    · exact h x (by simp)
    · exact ih fun y hy => h y (by simp [hy])

/-! ### Sorted -/
/-- What Make is to give: the set with just these labels, or that there is none. -/
def IsMk (ls : List Lab) : Option (List Lab) → Prop
  | none => ∀ r : List Lab, r.Perm ls → isSet r = false
  | some r => r.Perm ls ∧ isSet r = true
theorem set_unique {a b : List Lab} (ha : isSet a = true) (hb : b.Pairwise fun x y => lt y.1 x.1 = false) (h : b.Perm a) : b = a := by
  have hd : ∀ x ∈ a, ∀ y ∈ a, x.1 = y.1 → x = y := by
    intro x hx y hy e
    obtain ⟨i, hi, rfl⟩ := List.getElem_of_mem hx
    obtain ⟨j, hj, rfl⟩ := List.getElem_of_mem hy
    rcases Nat.lt_trichotomy i j with g | g | g
    · have := set_lt ha g hj
      rw [nth_eq hi, nth_eq hj, e, lt_irrefl] at this; cases this
    · subst g; rfl
    · have := set_lt ha g hi
      rw [nth_eq hi, nth_eq hj, e, lt_irrefl] at this; cases this
  have ha' : a.Pairwise fun x y => lt y.1 x.1 = false := (set_pw ha).imp fun h => lt_asymm h
  refine h.eq_of_pairwise ?_ hb ha'
  intro x y hx hy h1 h2
  exact hd x (h.mem_iff.1 hx) y hy (lt_total h2 h1)
theorem mk_unique {ls : List Lab} {r s : Option (List Lab)} (h1 : IsMk ls r) (h2 : IsMk ls s) : r = s := by
  cases r with
  | none =>
    cases s with
    | none => rfl
    | some b => have := h1 b h2.1; rw [h2.2] at this; cases this
  | some a =>
    cases s with
    | none => have := h2 a h1.1; rw [h1.2] at this; cases this
    | some b => rw [set_unique h2.2 ((set_pw h1.2).imp fun h => lt_asymm h) (h1.1.trans h2.1.symm)]
/-- A sorted row is the set, or there is none. -/
theorem mk_of {ls b : List Lab} (hb : b.Pairwise fun x y => lt y.1 x.1 = false) (h : b.Perm ls) : IsMk ls (if isSet b then some b else none) := by
  cases hs : isSet b with
  | true => exact ⟨h, hs⟩
  | false =>
    intro r hr
    cases hr' : isSet r with
    | false => rfl
    | true =>
      have := set_unique hr' hb (h.trans hr.symm)
      rw [this, hr'] at hs; cases hs
theorem mk_many {ls : List Lab} (h : 6 < ls.length) : IsMk ls none := fun r hr => isSet_no fun x => by have := hr.length_eq; omega
theorem mk_perm {a b : List Lab} (h : a.Perm b) {r : Option (List Lab)} (hr : IsMk a r) : IsMk b r := by
  cases r with
  | none => exact fun s hs => hr s (hs.trans h.symm)
  | some s => exact ⟨hr.1.trans h, hr.2⟩
/-- In a set each name has its value. -/
theorem getL_mem {ls : List Lab} (h : ls.Pairwise fun a b => lt a.1 b.1 = true) {x : Lab} (hx : x ∈ ls) : getL ls x.1 = x.2 := by
  induction ls with
  | nil => cases hx
  | cons y r ih =>
    rw [getL]
    rcases List.mem_cons.1 hx with e | e
    · subst e; simp
    · rw [if_neg]
      · exact ih (List.pairwise_cons.1 h).2 e
      · rw [beq_iff]
        intro e2
        have := (List.pairwise_cons.1 h).1 x e
        rw [e2, lt_irrefl] at this; cases this
end La

end Go.Proofs.YtjmojjjgifkkiaaDoor
namespace Go.Proofs.YtjmojjjgifkkiaaDoor
open Go.RowKit La

/-- Labels as cells. -/
def lc (ls : List Lab) : List Value := ls.flatMap fun x => [.string x.1, .string x.2]
theorem lc_len (ls : List Lab) : (lc ls).length = ls.length * 2 := by
  induction ls with
  | nil => rfl
  | cons x r ih => simp [lc] at ih ⊢; omega
theorem lc_app (a b : List Lab) : lc (a ++ b) = lc a ++ lc b := by simp [lc]
theorem lc_get : ∀ (ls : List Lab) (j : Nat), j < ls.length → (lc ls)[j * 2]? = some (.string (nth ls j).1) ∧ (lc ls)[j * 2 + 1]? = some (.string (nth ls j).2)
  | [], j, h => by simp at h
  | x :: r, 0, _ => by simp [lc, nth]
  | x :: r, j + 1, h => by
    have ih := lc_get r j (by simpa using h)
    have e : lc (x :: r) = .string x.1 :: .string x.2 :: lc r := rfl
    have e1 : (j + 1) * 2 = j * 2 + 1 + 1 := by omega
    rw [e, e1]
    simpa [nth] using ih
/-- The slice at address a reads as these labels. -/
def IsLabs (w : World) (a : Option Addr) (ls : List Lab) : Prop :=
  0 < ls.length → ∃ b off, a = some ⟨b, off, none⟩ ∧ ∀ j, j < ls.length → w.cell? ⟨b, off + j * 2, none⟩ = some (.string (nth ls j).1) ∧ w.cell? ⟨b, off + j * 2 + 1, none⟩ = some (.string (nth ls j).2)
theorem IsLabs.below {w w' : World} {a : Option Addr} {ls : List Lab} (h : IsLabs w a ls) (hb : Below w.heap.size w w') : IsLabs w' a ls := by
  intro hp
  obtain ⟨b, off, e, hc⟩ := h hp
  refine ⟨b, off, e, fun j hj => ?_⟩
  obtain ⟨h1, h2⟩ := hc j hj
  exact ⟨(hb.cell (World.block_lt_of_cell? w _ h1)).trans h1, (hb.cell (World.block_lt_of_cell? w _ h2)).trans h2⟩
theorem own_labs {w : World} {base n cap : Nat} {A : Option Addr} {ls : List Lab} (h : w.ownsRow base 23 2 (.slice A n cap) n (lc ls)) : IsLabs w A ls ∧ ls.length = n := by
  have hl : ls.length = n := by have := h.1; rw [lc_len] at this; omega
  refine ⟨fun hp => ?_, hl⟩
  rcases h.2 with ⟨_, e⟩ | ⟨g, c, cur, e, _⟩
  · omega
  · injection e with e1 e2 e3
    subst e1
    refine ⟨g, 0, rfl, fun j hj => ?_⟩
    have g1 := h.cellAt (g := g) (j * 2) (by omega)
    have g2 := h.cellAt (g := g) (j * 2 + 1) (by omega)
    obtain ⟨e1, e2⟩ := lc_get ls j hj
    exact ⟨by rw [Nat.zero_add, g1, e1], by rw [Nat.zero_add, g2, e2]⟩

set_option maxRecDepth 100000 in
set_option maxHeartbeats 400000 in
theorem get_labs (ls : List Lab) (n : ByteArray) (A : Option Addr) (cap : Nat) (w : World) (hl : ls.length ≤ 1099511627776) (ha : IsLabs w A ls) :
    Calls Tryd.prog 32 #[.slice A ls.length cap, .string n] w fun e w' => e = .returned (.string (getL ls n)) ∧ Below w.heap.size w w' := by
  have HA := Lib.hid ha
  clear ha
  obtain ⟨N, hN⟩ : ∃ N, ls.length = N := ⟨_, rfl⟩
  rw [hN] at hl ⊢
  have HN := Lib.hid hN
  clear hN
  go_enter Tryd.func32, Tryd.ntmps32
  go_wp2
  go_loopw [9] (fun i wr => ∃ k : Nat, k ≤ N ∧ i = .int .i64 (k : Int) ∧ Hid (Below w.heap.size w wr ∧ getL (ls.drop k) n = getL ls n)) (fun i _ => N - (intOf i).toNat)
  case atStart => exact ⟨0, by omega, rfl, Below.refl _ _, rfl⟩
  case round =>
    obtain ⟨k, hk, rfl, HI⟩ := hrel
    by_cases hkn : k < N
    · obtain ⟨b, off, rfl, hc⟩ := (HA.out.below HI.out.1) (by rw [HN.out]; omega)
      obtain ⟨c1, c2⟩ := hc k (by rw [HN.out]; exact hkn)
      clear hc
      have hkz : (k : Int) < (N : Int) := by omega
      cases he : ((nth ls k).1.toList == n.toList)
      · have R : Hid (getL (ls.drop (k + 1)) n = getL ls n) := by
          show _ = _
          rw [← getL_miss (by rw [HN.out]; exact hkn) he]; exact HI.out.2
        have B := Lib.hid HI.out.1
        clear HI
        generalize (nth ls k).1 = x at *
        generalize (nth ls k).2 = y at *
        go_wp2
        go_roundw
        case rel => exact ⟨k + 1, by omega, by go_num, B.out.alloc B.out.size _, R.out⟩
        case measure => simp [intOf]; omega
      · have R : Hid (getL ls n = (nth ls k).2) := by
          show _ = _
          rw [← HI.out.2]; exact getL_hit (by rw [HN.out]; exact hkn) he
        have B := Lib.hid HI.out.1
        clear HI
        generalize (nth ls k).1 = x at *
        generalize (nth ls k).2 = y at *
        go_wp2
        go_ret
        exact ⟨by rw [R.out]; rfl, B.out.alloc B.out.size _⟩
    · obtain rfl : k = N := by omega
      have R : Hid (getL ls n = ⟨#[]⟩) := by
        show _ = _
        rw [← HI.out.2]; exact getL_out (by rw [HN.out]; omega)
      have B := Lib.hid HI.out.1
      clear HI
      go_wp2
      go_ret
      exact ⟨by rw [R.out]; rfl, B.out⟩

set_option maxRecDepth 100000 in
set_option maxHeartbeats 400000 in
theorem rget_labs (ls : List Lab) (n : ByteArray) (A : Option Addr) (cap : Nat) (w : World) (hl : ls.length ≤ 1099511627776) (ha : IsLabs w A ls) :
    Calls Tryd.prog 43 #[.slice A ls.length cap, .string n] w fun e w' => e = .returned (.string (getL ls n)) ∧ w = w' := by
  have HA := Lib.hid ha
  clear ha
  obtain ⟨N, hN⟩ : ∃ N, ls.length = N := ⟨_, rfl⟩
  rw [hN] at hl ⊢
  have HN := Lib.hid hN
  clear hN
  go_enter Tryd.func43, Tryd.ntmps43
  go_wp2
  go_loop [5] (fun i => ∃ k : Nat, k ≤ N ∧ i = .int .i64 (k : Int) ∧ Hid (getL (ls.drop k) n = getL ls n)) (fun i => N - (intOf i).toNat)
  case atStart => exact ⟨0, by omega, rfl, rfl⟩
  case round =>
    obtain ⟨k, hk, rfl, HI⟩ := hrel
    by_cases hkn : k < N
    · obtain ⟨b, off, rfl, hc⟩ := HA.out (by rw [HN.out]; omega)
      obtain ⟨c1, c2⟩ := hc k (by rw [HN.out]; exact hkn)
      clear hc
      have hkz : (k : Int) < (N : Int) := by omega
      cases he : ((nth ls k).1.toList == n.toList)
      · have R : Hid (getL (ls.drop (k + 1)) n = getL ls n) := by
          show _ = _
          rw [← getL_miss (by rw [HN.out]; exact hkn) he]; exact HI.out
        clear HI
        generalize (nth ls k).1 = x at *
        generalize (nth ls k).2 = y at *
        go_wp2
        go_round
        case rel => exact ⟨k + 1, by omega, by go_num, R.out⟩
        case measure => simp [intOf]; omega
      · have R : Hid (getL ls n = (nth ls k).2) := by
          show _ = _
          rw [← HI.out]; exact getL_hit (by rw [HN.out]; exact hkn) he
        clear HI
        generalize (nth ls k).1 = x at *
        generalize (nth ls k).2 = y at *
        go_wp2
        go_ret
        exact ⟨by rw [R.out]; rfl, rfl⟩
    · obtain rfl : k = N := by omega
      have R : Hid (getL ls n = ⟨#[]⟩) := by
        show _ = _
        rw [← HI.out]; exact getL_out (by rw [HN.out]; omega)
      clear HI
      go_wp2
      go_ret
      exact ⟨by rw [R.out]; rfl, rfl⟩

end Go.Proofs.YtjmojjjgifkkiaaDoor
