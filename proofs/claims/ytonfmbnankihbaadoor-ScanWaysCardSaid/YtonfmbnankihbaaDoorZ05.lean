/-
  What the reference's after does at a node of bytes. Conditions: no more than 100 places; words have 64 bits.
-/
import Derived.Test.YtonfmbnankihbaaDoorProg
import Derived.Test.YtonfmbnankihbaaDoorZ04
import Derived.Test.YtonfmbnankihbaaDoorZ01
import Derived.Test.YtonfmbnankihbaaDoorZ03
import Derived.Test.YtonfmbnankihbaaDoorZ02
import Derived.Laws.MakeOwn
import Derived.Laws.OwnMore
import Derived.OwnWalk
import Derived.WalkKit
import Derived.WalkSpells
import Derived.WalkLawsBesides
import Derived.Lib.Hide
import Derived.Below
import Derived.BigQuiet
import Derived.Lib.QuietBelow
import Derived.Laws.StructEq
import Derived.KernelRfl
import Derived.Laws.AppendOwn
import Derived.Deep.RegionHeld3
import Derived.Laws.CopyOwn
namespace Go.Proofs.YtonfmbnankihbaaDoor
open Go.RowKit Go.Sort

/-- A text's bytes. -/
def txt8 (s : ByteArray) : List Nat := s.data.toList.map UInt8.toNat
theorem txt8_len (s : ByteArray) : (txt8 s).length = s.size := by rw [txt8, List.length_map, Array.length_toList]; rfl
theorem txt8_lt (s : ByteArray) (j : Nat) : (txt8 s).getD j 0 < 256 := by
  by_cases hj : j < (txt8 s).length
  · have : (txt8 s)[j]'hj < 256 := by simp [txt8]; exact UInt8.toNat_lt _
    simpa [List.getD, List.getElem?_eq_getElem hj] using this
  · simp [List.getD, List.getElem?_eq_none (show (txt8 s).length ≤ j by omega)]
theorem txt8_at (w : World) (s : ByteArray) (j : Nat) (h : j < s.size) : (Instr.index 9 (.string s) (.int .i64 (j : Int))).run Tryd.prog w = .ok (.int .u8 (((txt8 s).getD j 0 : Nat) : Int)) w := by
  have e : s[j]? = some s[j] := by simp [h]
  have e2 : (txt8 s).getD j 0 = (s[j]).toNat := by
    have : j < s.data.size := h
    rw [txt8, List.getD, List.getElem?_map, Array.getElem?_toList, Array.getElem?_eq_getElem this]
    rfl
  rw [e2]
  simp [Instr.index, run_underlying Tryd.underlying9, asIntOf, go_sem, e]
/-- What stands in the row behind k rounds. -/
def setAt (s : ByteArray) (a b c d : Nat) (f : Nat → Bool) (k i : Nat) : Bool := decide (0 < i) && decide (i ≤ k) && f (i - 1) && hasB a b c d ((txt8 s).getD (i - 1) 0)
theorem aft_set_eq {s : ByteArray} {a b c d : Nat} {ks : List Rx} {f : Nat → Bool} : Rx.aft (txt8 s) (.mk 1 a b c d ks) f = setAt s a b c d f s.size := by
  have e : Rx.aft (txt8 s) (.mk 1 a b c d ks) f = setAt s a b c d f (txt8 s).length := rfl
  rw [e, txt8_len]

set_option maxRecDepth 100000 in
set_option maxHeartbeats 4000000 in
theorem after_set {w : World} {s : ByteArray} {L : Nat} {ks : List Rx} (hs : s.size = L) (hL : L ≤ 100) (a b c d : Nat) (h4 : Fit4 a b c d) (A : Option Addr) (N cap : Nat) (F : Option Addr) (cf : Nat) (f : Nat → Bool) (hf : IsBo w F (L + 1) f) :
    Calls Tryd.prog 57 #[.agg #[.int .i64 1, .int .u64 (a : Int), .int .u64 (b : Int), .int .u64 (c : Int), .int .u64 (d : Int), .slice A N cap], .string s, .slice F (L + 1) cf] w (AftDone w (txt8 s) L (.mk 1 a b c d ks) f) := by
  obtain ⟨fb, fo, rfl, _⟩ := hf (by omega)
  have FC0 : Hid (∀ W, Below w.heap.size w W → ∀ k, k < L + 1 → W.cell? ⟨fb, fo + k, none⟩ = some (.bool (f k))) := fun W hW k hk => by
    obtain ⟨b', o', e, hx⟩ := (hf.below hW) (by omega)
    injection e with e; injection e with e1 e2
    subst e1 e2
    exact hx k hk
  have H4 := Lib.hid h4
  have E := Lib.hid (aft_set_eq (s := s) (a := a) (b := b) (c := c) (d := d) (ks := ks) (f := f))
  rw [hs] at E
  have MK := make_bools (L + 1) (by omega)
  have BX := Lib.hid (fun W => box6 (w := w) (v0 := .int .i64 1) (v1 := .int .u64 (a : Int)) (v2 := .int .u64 (b : Int)) (v3 := .int .u64 (c : Int)) (v4 := .int .u64 (d : Int)) (v5 := .slice A N cap) (ty := 34) (W := W))
  obtain ⟨w0, hw0⟩ : ∃ w0, w.alloc (.cells #[.int .i64 1, .int .u64 (a : Int), .int .u64 (b : Int), .int .u64 (c : Int), .int .u64 (d : Int), .slice A N cap] 34) = w0 := ⟨_, rfl⟩
  obtain ⟨w1, hw1⟩ : ∃ w1, w0.alloc (.cells (bof (L + 1) fun _ => false).toArray 4) = w1 := ⟨_, rfl⟩
  have MK1 := MK w0
  have wl : IntKind.i64.wrap ((L : Int) + 1) = (L : Int) + 1 := by rw [IntKind.wrap_i64]; omega
  have el : ((L + 1 : Nat) : Int) = (L : Int) + 1 := by simp
  rw [hw1, el] at MK1
  rw [hw0] at BX
  have e0 : w0.heap.size = w.heap.size + 1 := by rw [← hw0]; simp
  have B01 : Below (w.heap.size + 1) w0 w1 := by
    rw [← hw1, ← e0]
    exact (Below.refl _ _).alloc (Nat.le_refl _) _
  have O1 : OwnB w1 w0.heap.size w0.heap.size (L + 1) (fun _ => false) := by rw [← hw1]; exact own_made (L + 1) (by omega) w0
  rw [e0] at O1
  obtain ⟨⟨q0, _, _, _, _, _⟩, BW⟩ := BX.out w1 B01
  obtain ⟨hfn, hhfn⟩ : ∃ hfn, setAt s a b c d f = hfn := ⟨_, rfl⟩
  have HFN := Lib.hid hhfn
  have I0 : Hid (OwnB w1 (w.heap.size + 1) (w.heap.size + 1) (L + 1) (hfn 0) ∧ Below (w.heap.size + 1) w0 w1 ∧ w.heap.size + 1 ≤ w1.heap.size) := ⟨O1.congr (fun i _ => by
    rw [← hhfn]
    show false = setAt s a b c d f 0 i
    unfold setAt
    by_cases h : 0 < i
    · have : ¬ i ≤ 0 := by omega
      simp [this]
    · simp [h]), B01, by have := B01.size; omega⟩
  clear MK B01 BW hf O1 hw1 hhfn h4
  go_enter Tryd.func57, Tryd.ntmps57
  go_wp2
  clear MK1 q0 hw0
  go_loopw [8] (fun i wr => ∃ k : Nat, k ≤ L ∧ i = .int .i64 (k : Int) ∧ Hid (OwnB wr (w.heap.size + 1) (w.heap.size + 1) (L + 1) (hfn k) ∧ Below (w.heap.size + 1) w0 wr ∧ w.heap.size + 1 ≤ wr.heap.size)) (fun i _ => L - (intOf i).toNat)
  case atStart => exact ⟨0, by omega, rfl, I0⟩
  case round =>
    clear I0
    obtain ⟨k, hk, rfl, HI⟩ := hrel
    have OW := Lib.hid HI.out.1
    have B0W := Lib.hid HI.out.2.1
    have SZW := HI.out.2.2
    clear HI
    by_cases hkn : k < L
    · have hkz : (k : Int) < (L : Int) := by omega
      have TX := fun W => txt8_at W s k (by omega)
      have FC : Hid (∀ W, Below (w.heap.size + 1) w0 W → W.cell? ⟨fb, fo + k, none⟩ = some (.bool (f k))) := fun W hW => FC0.out W (BX.out W hW).2 k (by omega)
      have HH := Lib.hid (fun W => rhas_any a b c d ((txt8 s).getD k 0) (txt8_lt s k) W H4.out)
      have ST0 : Hid (∀ i, (if i = k + 1 then (f k && hasB a b c d ((txt8 s).getD k 0)) else hfn k i) = hfn (k + 1) i) := fun i => by
        rw [← HFN.out]
        unfold setAt
        by_cases e : i = k + 1
        · subst e; simp
        · rw [if_neg e]
          by_cases h : i ≤ k
          · simp [h, show i ≤ k + 1 by omega]
          · simp [h, show ¬ i ≤ k + 1 by omega]
      obtain ⟨x, hx⟩ : ∃ x, (txt8 s).getD k 0 = x := ⟨_, rfl⟩
      obtain ⟨y, hy⟩ : ∃ y, hasB a b c d x = y := ⟨_, rfl⟩
      rw [hx] at HH ST0
      simp only [hx] at TX
      rw [hy] at HH ST0
      clear hx hy FC0
      have hk1 : (k : Int) + 1 < (L : Int) + 1 := by omega
      have hk2 : (k : Int) < (L : Int) + 1 := by omega
      have hk3 : (0 : Int) ≤ (k : Int) + 1 := by omega
      have wk : IntKind.i64.wrap ((k : Int) + 1) = (k : Int) + 1 := by rw [IntKind.wrap_i64]; omega
      cases hfk : f k
      · rw [hfk] at FC ST0
        have STEP : Hid (∀ i, (if i = k + 1 then false else hfn k i) = hfn (k + 1) i) := fun i => by have := ST0.out i; simpa using this
        clear hfk ST0 HH
        go_wp2_with fail
        refine wp_region_held_drew (S := fun W => Below (w.heap.size + 1) w0 W) (by kernel_rfl) (B0W.out.drew) (fun hHeld => ?_)
        refine held_take 0 31 (v := (.slice (some ⟨w.heap.size + 1, 0, none⟩) (L + 1) (L + 1))) rfl rfl (by kernel_rfl) (by kernel_rfl) (by kernel_rfl) (by rfl) (fun _ _ _ h => h) (by assumption) ?_ ?_
        · intro W hW
          go_simp
        simp only [List.setIfInBounds_toArray, List.set_cons_zero, List.set_cons_succ]
        refine held_take 1 32 (v := (.int .i64 (k : Int))) rfl rfl (by kernel_rfl) (by kernel_rfl) (by kernel_rfl) (by rfl) (fun _ _ _ h => h) (by assumption) ?_ ?_
        · intro W hW
          go_simp
        simp only [List.setIfInBounds_toArray, List.set_cons_zero, List.set_cons_succ]
        refine held_take 2 33 (v := (.int .i64 ((k : Int) + 1))) rfl rfl (by kernel_rfl) (by kernel_rfl) (by kernel_rfl) (by rfl) (fun _ _ _ h => h) (by assumption) ?_ ?_
        · intro W hW
          go_simp
        simp only [List.setIfInBounds_toArray, List.set_cons_zero, List.set_cons_succ]
        refine held_take 3 34 (v := (.slice (some ⟨fb, fo, none⟩) (L + 1) cf)) rfl rfl (by kernel_rfl) (by kernel_rfl) (by kernel_rfl) (by rfl) (fun _ _ _ h => h) (by assumption) ?_ ?_
        · intro W hW
          go_simp
        simp only [List.setIfInBounds_toArray, List.set_cons_zero, List.set_cons_succ]
        refine held_take 4 35 (v := (.int .i64 (k : Int))) rfl rfl (by kernel_rfl) (by kernel_rfl) (by kernel_rfl) (by rfl) (fun _ _ _ h => h) (by assumption) ?_ ?_
        · intro W hW
          go_simp
        simp only [List.setIfInBounds_toArray, List.set_cons_zero, List.set_cons_succ]
        refine held_take 5 36 (v := (.pointer (some ⟨fb, fo + k, none⟩))) rfl rfl (by kernel_rfl) (by kernel_rfl) (by kernel_rfl) (by rfl) (fun _ _ _ h => h) (by assumption) ?_ ?_
        · intro W hW
          go_simp
        simp only [List.setIfInBounds_toArray, List.set_cons_zero, List.set_cons_succ]
        refine held_take 6 37 (v := (.bool false)) rfl rfl (by kernel_rfl) (by kernel_rfl) (by kernel_rfl) (by rfl) (fun _ _ _ h => h) (by assumption) ?_ ?_
        · intro W hW
          have c1 := FC.out W hW
          go_simp
        simp only [List.setIfInBounds_toArray, List.set_cons_zero, List.set_cons_succ]
        refine held_take 7 38 (v := (.bool false)) rfl rfl (by kernel_rfl) (by kernel_rfl) (by kernel_rfl) (by rfl) (fun _ _ _ h => h) (by assumption) ?_ ?_
        · intro W hW
          go_simp
        simp only [List.setIfInBounds_toArray, List.set_cons_zero, List.set_cons_succ]
        refine held_skip 8 39 rfl rfl (by kernel_rfl) (by kernel_rfl) (by kernel_rfl) (by rfl) (fun _ _ _ h => h) (by assumption) ?_
        simp only [List.setIfInBounds_toArray, List.set_cons_zero, List.set_cons_succ]
        refine held_skip 9 40 rfl rfl (by kernel_rfl) (by kernel_rfl) (by kernel_rfl) (by rfl) (fun _ _ _ h => h) (by assumption) ?_
        simp only [List.setIfInBounds_toArray, List.set_cons_zero, List.set_cons_succ]
        refine held_skip 10 41 rfl rfl (by kernel_rfl) (by kernel_rfl) (by kernel_rfl) (by rfl) (fun _ _ _ h => h) (by assumption) ?_
        simp only [List.setIfInBounds_toArray, List.set_cons_zero, List.set_cons_succ]
        refine held_skip 11 42 rfl rfl (by kernel_rfl) (by kernel_rfl) (by kernel_rfl) (by rfl) (fun _ _ _ h => h) (by assumption) ?_
        simp only [List.setIfInBounds_toArray, List.set_cons_zero, List.set_cons_succ]
        refine held_skip 12 43 rfl rfl (by kernel_rfl) (by kernel_rfl) (by kernel_rfl) (by rfl) (fun _ _ _ h => h) (by assumption) ?_
        simp only [List.setIfInBounds_toArray, List.set_cons_zero, List.set_cons_succ]
        refine held_skip 13 44 rfl rfl (by kernel_rfl) (by kernel_rfl) (by kernel_rfl) (by rfl) (fun _ _ _ h => h) (by assumption) ?_
        simp only [List.setIfInBounds_toArray, List.set_cons_zero, List.set_cons_succ]
        refine held_take 14 45 (v := (.bool false)) rfl rfl (by kernel_rfl) (by kernel_rfl) (by kernel_rfl) (by rfl) (fun _ _ _ h => h) (by assumption) ?_ ?_
        · intro W hW
          go_simp
        simp only [List.setIfInBounds_toArray, List.set_cons_zero, List.set_cons_succ]
        have O3 : OwnB wr.drew (w.heap.size + 1) (w.heap.size + 1) (L + 1) (hfn k) := OW.out
        have d3 : Below (w.heap.size + 1) w0 wr.drew := B0W.out.drew
        have z3 : w.heap.size + 1 ≤ wr.drew.heap.size := SZW
        generalize wr.drew = w3 at *
        refine held_take 15 46 (v := (.pointer (some ⟨w.heap.size + 1, k + 1, none⟩))) rfl rfl (by kernel_rfl) (by kernel_rfl) (by kernel_rfl) (by rfl) (fun _ _ _ h => h) (by assumption) ?_ ?_
        · intro W hW
          go_simp
        simp only [List.setIfInBounds_toArray, List.set_cons_zero, List.set_cons_succ]
        have cc := O3.cell (j := k + 1) (by omega)
        have fr := O3.free (k + 1)
        obtain ⟨p1, p2, p3⟩ := O3.put (k + 1) false d3 z3 (Nat.le_refl _)
        have I5 : Hid (OwnB (w3.setCell ⟨w.heap.size + 1, k + 1, none⟩ (.bool false)) (w.heap.size + 1) (w.heap.size + 1) (L + 1) (hfn (k + 1)) ∧ Below (w.heap.size + 1) w0 (w3.setCell ⟨w.heap.size + 1, k + 1, none⟩ (.bool false)) ∧ w.heap.size + 1 ≤ (w3.setCell ⟨w.heap.size + 1, k + 1, none⟩ (.bool false)).heap.size) := ⟨p1.congr (fun i hi => STEP.out i), p2, p3⟩
        refine held_op 16 rfl (by kernel_rfl) (by rfl) ?_
        refine wp_skip (w' := w3.setCell ⟨w.heap.size + 1, k + 1, none⟩ (.bool false)) rfl (by go_simp) ⟨p2, ?_⟩
        refine wpAnyH_done (by kernel_rfl) ?_ _
        generalize w3.setCell ⟨w.heap.size + 1, k + 1, none⟩ (.bool false) = w5 at *
        clear p1 p2 p3 cc fr O3 d3
        go_wp2
        go_roundw
        case rel => exact ⟨k + 1, by omega, by go_num, I5⟩
        case measure => simp [intOf]; omega
      · rw [hfk] at FC ST0
        have STEP : Hid (∀ i, (if i = k + 1 then y else hfn k i) = hfn (k + 1) i) := fun i => by have := ST0.out i; simpa using this
        clear hfk ST0
        go_wp2_with fail
        refine wp_region_held_drew (S := fun W => Below (w.heap.size + 1) w0 W) (by kernel_rfl) (B0W.out.drew) (fun hHeld => ?_)
        refine held_take 0 31 (v := (.slice (some ⟨w.heap.size + 1, 0, none⟩) (L + 1) (L + 1))) rfl rfl (by kernel_rfl) (by kernel_rfl) (by kernel_rfl) (by rfl) (fun _ _ _ h => h) (by assumption) ?_ ?_
        · intro W hW
          go_simp
        simp only [List.setIfInBounds_toArray, List.set_cons_zero, List.set_cons_succ]
        refine held_take 1 32 (v := (.int .i64 (k : Int))) rfl rfl (by kernel_rfl) (by kernel_rfl) (by kernel_rfl) (by rfl) (fun _ _ _ h => h) (by assumption) ?_ ?_
        · intro W hW
          go_simp
        simp only [List.setIfInBounds_toArray, List.set_cons_zero, List.set_cons_succ]
        refine held_take 2 33 (v := (.int .i64 ((k : Int) + 1))) rfl rfl (by kernel_rfl) (by kernel_rfl) (by kernel_rfl) (by rfl) (fun _ _ _ h => h) (by assumption) ?_ ?_
        · intro W hW
          go_simp
        simp only [List.setIfInBounds_toArray, List.set_cons_zero, List.set_cons_succ]
        refine held_take 3 34 (v := (.slice (some ⟨fb, fo, none⟩) (L + 1) cf)) rfl rfl (by kernel_rfl) (by kernel_rfl) (by kernel_rfl) (by rfl) (fun _ _ _ h => h) (by assumption) ?_ ?_
        · intro W hW
          go_simp
        simp only [List.setIfInBounds_toArray, List.set_cons_zero, List.set_cons_succ]
        refine held_take 4 35 (v := (.int .i64 (k : Int))) rfl rfl (by kernel_rfl) (by kernel_rfl) (by kernel_rfl) (by rfl) (fun _ _ _ h => h) (by assumption) ?_ ?_
        · intro W hW
          go_simp
        simp only [List.setIfInBounds_toArray, List.set_cons_zero, List.set_cons_succ]
        refine held_take 5 36 (v := (.pointer (some ⟨fb, fo + k, none⟩))) rfl rfl (by kernel_rfl) (by kernel_rfl) (by kernel_rfl) (by rfl) (fun _ _ _ h => h) (by assumption) ?_ ?_
        · intro W hW
          go_simp
        simp only [List.setIfInBounds_toArray, List.set_cons_zero, List.set_cons_succ]
        refine held_take 6 37 (v := (.bool true)) rfl rfl (by kernel_rfl) (by kernel_rfl) (by kernel_rfl) (by rfl) (fun _ _ _ h => h) (by assumption) ?_ ?_
        · intro W hW
          have c1 := FC.out W hW
          go_simp
        simp only [List.setIfInBounds_toArray, List.set_cons_zero, List.set_cons_succ]
        refine held_take 7 38 (v := (.bool true)) rfl rfl (by kernel_rfl) (by kernel_rfl) (by kernel_rfl) (by rfl) (fun _ _ _ h => h) (by assumption) ?_ ?_
        · intro W hW
          go_simp
        simp only [List.setIfInBounds_toArray, List.set_cons_zero, List.set_cons_succ]
        refine held_take 8 39 (v := (.pointer (some ⟨w.heap.size, 1, none⟩))) rfl rfl (by kernel_rfl) (by kernel_rfl) (by kernel_rfl) (by rfl) (fun _ _ _ h => h) (by assumption) ?_ ?_
        · intro W hW
          go_simp
        simp only [List.setIfInBounds_toArray, List.set_cons_zero, List.set_cons_succ]
        refine held_take 9 40 (v := (.agg #[.int .u64 (a : Int), .int .u64 (b : Int), .int .u64 (c : Int), .int .u64 (d : Int)])) rfl rfl (by kernel_rfl) (by kernel_rfl) (by kernel_rfl) (by rfl) (fun _ _ _ h => h) (by assumption) ?_ ?_
        · intro W hW
          obtain ⟨⟨q0, q1, q2, q3, q4, q5⟩, _⟩ := BX.out W hW
          go_simp
        simp only [List.setIfInBounds_toArray, List.set_cons_zero, List.set_cons_succ]
        refine held_take 10 41 (v := (.string s)) rfl rfl (by kernel_rfl) (by kernel_rfl) (by kernel_rfl) (by rfl) (fun _ _ _ h => h) (by assumption) ?_ ?_
        · intro W hW
          go_simp
        simp only [List.setIfInBounds_toArray, List.set_cons_zero, List.set_cons_succ]
        refine held_take 11 42 (v := (.int .i64 (k : Int))) rfl rfl (by kernel_rfl) (by kernel_rfl) (by kernel_rfl) (by rfl) (fun _ _ _ h => h) (by assumption) ?_ ?_
        · intro W hW
          go_simp
        simp only [List.setIfInBounds_toArray, List.set_cons_zero, List.set_cons_succ]
        refine held_take 12 43 (v := (.int .u8 (x : Int))) rfl rfl (by kernel_rfl) (by kernel_rfl) (by kernel_rfl) (by rfl) (fun _ _ _ h => h) (by assumption) ?_ ?_
        · intro W hW
          have c1 := TX W
          go_simp
        simp only [List.setIfInBounds_toArray, List.set_cons_zero, List.set_cons_succ]
        refine held_op 13 rfl (by kernel_rfl) (by rfl) ?_
        refine wp_call (f := 31) (args := #[.agg #[.int .u64 (a : Int), .int .u64 (b : Int), .int .u64 (c : Int), .int .u64 (d : Int)], .int .u8 (x : Int)]) rfl (by go_simp) ?_
        refine (HH.out _).mono ?_
        rintro e w3 ⟨rfl, b3⟩
        have d3 : Below (w.heap.size + 1) w0 w3 := B0W.out.drew.trans (b3.mono SZW)
        refine ⟨_, rfl, d3, ?_⟩
        simp only [List.setIfInBounds_toArray, List.set_cons_zero, List.set_cons_succ]
        have O3 : OwnB w3 (w.heap.size + 1) (w.heap.size + 1) (L + 1) (hfn k) := OwnB.keep (w := wr.drew) OW.out b3
        have z3 : w.heap.size + 1 ≤ w3.heap.size := Nat.le_trans SZW b3.size
        clear b3
        refine held_take 14 45 (v := (.bool y)) rfl rfl (by kernel_rfl) (by kernel_rfl) (by kernel_rfl) (by rfl) (fun _ _ _ h => h) (by assumption) ?_ ?_
        · intro W hW
          go_simp
        simp only [List.setIfInBounds_toArray, List.set_cons_zero, List.set_cons_succ]
        refine held_take 15 46 (v := (.pointer (some ⟨w.heap.size + 1, k + 1, none⟩))) rfl rfl (by kernel_rfl) (by kernel_rfl) (by kernel_rfl) (by rfl) (fun _ _ _ h => h) (by assumption) ?_ ?_
        · intro W hW
          go_simp
        simp only [List.setIfInBounds_toArray, List.set_cons_zero, List.set_cons_succ]
        have cc := O3.cell (j := k + 1) (by omega)
        have fr := O3.free (k + 1)
        obtain ⟨p1, p2, p3⟩ := O3.put (k + 1) y d3 z3 (Nat.le_refl _)
        have I5 : Hid (OwnB (w3.setCell ⟨w.heap.size + 1, k + 1, none⟩ (.bool y)) (w.heap.size + 1) (w.heap.size + 1) (L + 1) (hfn (k + 1)) ∧ Below (w.heap.size + 1) w0 (w3.setCell ⟨w.heap.size + 1, k + 1, none⟩ (.bool y)) ∧ w.heap.size + 1 ≤ (w3.setCell ⟨w.heap.size + 1, k + 1, none⟩ (.bool y)).heap.size) := ⟨p1.congr (fun i hi => STEP.out i), p2, p3⟩
        refine held_op 16 rfl (by kernel_rfl) (by rfl) ?_
        refine wp_skip (w' := w3.setCell ⟨w.heap.size + 1, k + 1, none⟩ (.bool y)) rfl (by go_simp) ⟨p2, ?_⟩
        refine wpAnyH_done (by kernel_rfl) ?_ _
        generalize w3.setCell ⟨w.heap.size + 1, k + 1, none⟩ (.bool y) = w5 at *
        clear p1 p2 p3 cc fr O3 d3
        go_wp2
        go_roundw
        case rel => exact ⟨k + 1, by omega, by go_num, I5⟩
        case measure => simp [intOf]; omega
    · obtain rfl : k = L := by omega
      have hkz : ¬ (k : Int) < (k : Int) := by omega
      have R : Hid (AftDone w (txt8 s) k (.mk 1 a b c d ks) f (.returned (.slice (some ⟨w.heap.size + 1, 0, none⟩) (k + 1) (k + 1))) wr) := ⟨⟨w.heap.size + 1, rfl, by rw [E.out, HFN.out]; exact OW.out.base (by omega)⟩, (BX.out wr B0W.out).2⟩
      clear OW B0W
      go_wp2
      go_ret
      exact R.out

end Go.Proofs.YtonfmbnankihbaaDoor
