/-
  More steps for a statement whose order Go leaves open: an operation that alone may come up and that makes or writes memory; two that may come up in either order. No conditions; nothing of any program.
  What the reference's after does at a node of bytes. Conditions: no more than 100 places; words have 64 bits.
  Plain mathematics of chapter 5: a pattern's bytes are read as a tree. No conditions.
  Bools copied into a row of one's own; what the reference's after does at a node 'any number of times', where its kid's calls do as they should. Conditions: no more than 100 places.
-/
import Derived.Test.YtlfcjjlgkcfkdaaGreatDoorProg
import Derived.Test.YtlfcjjlgkcfkdaaGreatDoorZ03
import Derived.Test.YtlfcjjlgkcfkdaaGreatDoorZ01
import Derived.Test.YtlfcjjlgkcfkdaaGreatDoorZ02
import Derived.Laws.AppendOwn
import Derived.Deep.RegionHeld3
import Derived.WalkKit
import Derived.WalkSpells
import Derived.WalkLawsBesides
import Derived.Lib.Hide
import Derived.Below
import Derived.BigQuiet
import Derived.Lib.QuietBelow
import Derived.Laws.StructEq
import Derived.KernelRfl
import Derived.Laws.MakeOwn
import Derived.Laws.OwnMore
import Derived.OwnWalk
import Derived.Laws.CopyOwn
namespace Go.Proofs.YtlfcjjlgkcfkdaaGreatDoor
section
variable {P : Program} {md : Region.Mode} {ops : Array Oper} {Q : Exit → Act → World → Prop} {S : World → Prop}

theorem held_op (i : Nat) {oi : Oper} {fuel : Nat} {listed : Array Bool} {a : Act} {w : World} (hi : ops[i]? = some oi)
    (hr : Region.ready md ops listed = [i]) (hw : Region.wanted oi (yielded ops a.tmps) = true)
    (h : oi.wp P a w (fun a' w' => S w' ∧ wpAnyH P md ops Q S fuel (listed.setIfInBounds i true) a' w') Q) : wpAnyH P md ops Q S (fuel + 1) listed a w := by
  refine wpAnyH_all hr (by simp) fun j hj => ?_
  obtain rfl : j = i := by simpa using hj
  unfold wpOp
  simp only [hi, hw, if_true]
  exact .inl h

theorem held_two (i j : Nat) {oi oj : Oper} {fuel : Nat} {listed : Array Bool} {a : Act} {w : World} (hi : ops[i]? = some oi) (hj : ops[j]? = some oj)
    (hr : Region.ready md ops listed = [i, j]) (hwi : Region.wanted oi (yielded ops a.tmps) = true) (hwj : Region.wanted oj (yielded ops a.tmps) = true)
    (h1 : oi.wp P a w (fun a' w' => S w' ∧ wpAnyH P md ops Q S fuel (listed.setIfInBounds i true) a' w') Q)
    (h2 : oj.wp P a w (fun a' w' => S w' ∧ wpAnyH P md ops Q S fuel (listed.setIfInBounds j true) a' w') Q) : wpAnyH P md ops Q S (fuel + 1) listed a w := by
  refine wpAnyH_all hr (by simp) fun k hk => ?_
  have hk' : k = i ∨ k = j := by simpa using hk
  rcases hk' with rfl | rfl
  · unfold wpOp
    simp only [hi, hwi, if_true]
    exact .inl h1
  · unfold wpOp
    simp only [hj, hwj, if_true]
    exact .inl h2

/-- An operation whose guard forbids it. -/
theorem held_skip (i d : Nat) {oi : Oper} {fuel : Nat} {listed : Array Bool} {ts : Array Value} {ds : List Deferred} {w : World} (hi : ops[i]? = some oi) (hd : oi.dst = some d)
    (hs : Region.noSelect ops = true) (hf : Region.free md ops listed i = true) (hr : (Region.ready md ops listed).contains i = true) (hw : Region.wanted oi (yielded ops ts) = false)
    (hQ : ∀ c a w, Q (.panic c) (a.put oi.dst undef) w → Q (.panic c) a w) (hS : S w)
    (h : wpAnyH P md ops Q S fuel (listed.setIfInBounds i true) ⟨ts.setIfInBounds d undef, ds⟩ w) : wpAnyH P md ops Q S (fuel + 1) listed ⟨ts, ds⟩ w := by
  refine wpAnyH_take hi hs hf hr hQ (.inr ⟨hw, rfl⟩) hS ?_
  rw [hd]; exact h

/-- An operation that yields a value and another world. -/
theorem wp_run {o : Oper} {ts : Array Value} {ds : List Deferred} {w w' : World} {v : Value} {d : Nat} {K : Act → World → Prop} {Q : Exit → Act → World → Prop} (hd : o.dst = some d)
    (hx : (execOp (Act.mk ts ds).eval o).run P w = .ok (.value v) w') (h : K ⟨ts.setIfInBounds d v, ds⟩ w') : o.wp P ⟨ts, ds⟩ w K Q := by
  unfold Oper.wp
  rw [hx]
  show K _ _
  rw [hd]; exact h
/-- A call. -/
theorem wp_call {o : Oper} {ts : Array Value} {ds : List Deferred} {w : World} {f : FuncId} {args : Array Value} {d : Nat} {K : Act → World → Prop} {Q : Exit → Act → World → Prop} (hd : o.dst = some d)
    (hx : (execOp (Act.mk ts ds).eval o).run P w = .ok (.enter f args) w) (h : Calls P f args w fun e w' => ∃ v, e = .returned v ∧ K ⟨ts.setIfInBounds d v, ds⟩ w') : o.wp P ⟨ts, ds⟩ w K Q := by
  unfold Oper.wp
  rw [hx]
  refine Calls.mono h fun e w' he => ?_
  obtain ⟨v, rfl, hh⟩ := he
  show K _ _
  rw [hd]; exact hh
/-- An operation that yields nothing, and another world. -/
theorem wp_skip {o : Oper} {a : Act} {w w' : World} {K : Act → World → Prop} {Q : Exit → Act → World → Prop} (hd : o.dst = none)
    (hx : (execOp a.eval o).run P w = .ok .skip w') (h : K a w') : o.wp P a w K Q := by
  unfold Oper.wp
  rw [hx]
  show K (a.put o.dst undef) _
  rw [hd]; exact h
end


end Go.Proofs.YtlfcjjlgkcfkdaaGreatDoor
namespace Go.Proofs.YtlfcjjlgkcfkdaaGreatDoor
open Go.RowKit Go.Sort

/-- A text's bytes. -/
def txt8 (s : ByteArray) : List Nat := s.data.toList.map UInt8.toNat
theorem txt8_len (s : ByteArray) : (txt8 s).length = s.size := by rw [txt8, List.length_map, Array.length_toList]; rfl
theorem txt8_lt (s : ByteArray) (j : Nat) : (txt8 s).getD j 0 < 256 := by
  by_cases hj : j < (txt8 s).length
  · have : (txt8 s)[j]'hj < 256 := by simp [txt8]; exact UInt8.toNat_lt _
    simpa [List.getD, List.getElem?_eq_getElem hj] using this
  · simp [List.getD, List.getElem?_eq_none (show (txt8 s).length ≤ j by omega)]
theorem txt8_at (w : World) (s : ByteArray) (j : Nat) (h : j < s.size) : (Instr.index 9 (.string s) (.int .i64 (j : Int))).run Tryz.prog w = .ok (.int .u8 (((txt8 s).getD j 0 : Nat) : Int)) w := by
  have e : s[j]? = some s[j] := by simp [h]
  have e2 : (txt8 s).getD j 0 = (s[j]).toNat := by
    have : j < s.data.size := h
    rw [txt8, List.getD, List.getElem?_map, Array.getElem?_toList, Array.getElem?_eq_getElem this]
    rfl
  rw [e2]
  simp [Instr.index, run_underlying Tryz.underlying9, asIntOf, go_sem, e]
/-- What stands in the row behind k rounds. -/
def setAt (s : ByteArray) (a b c d : Nat) (f : Nat → Bool) (k i : Nat) : Bool := decide (0 < i) && decide (i ≤ k) && f (i - 1) && hasB a b c d ((txt8 s).getD (i - 1) 0)
theorem aft_set_eq {s : ByteArray} {a b c d : Nat} {ks : List Rx} {f : Nat → Bool} : Rx.aft (txt8 s) (.mk 1 a b c d ks) f = setAt s a b c d f s.size := by
  have e : Rx.aft (txt8 s) (.mk 1 a b c d ks) f = setAt s a b c d f (txt8 s).length := rfl
  rw [e, txt8_len]

set_option maxRecDepth 100000 in
set_option maxHeartbeats 4000000 in
theorem after_set {w : World} {s : ByteArray} {L : Nat} {ks : List Rx} (hs : s.size = L) (hL : L ≤ 100) (a b c d : Nat) (h4 : Fit4 a b c d) (A : Option Addr) (N cap : Nat) (F : Option Addr) (cf : Nat) (f : Nat → Bool) (hf : IsBo w F (L + 1) f) :
    Calls Tryz.prog 136 #[.agg #[.int .i64 1, .int .u64 (a : Int), .int .u64 (b : Int), .int .u64 (c : Int), .int .u64 (d : Int), .slice A N cap], .string s, .slice F (L + 1) cf] w (AftDone w (txt8 s) L (.mk 1 a b c d ks) f) := by
  obtain ⟨fb, fo, rfl, _⟩ := hf (by omega)
  have FC0 : Hid (∀ W, Below w.heap.size w W → ∀ k, k < L + 1 → W.cell? ⟨fb, fo + k, none⟩ = some (.bool (f k))) := fun W hW k hk => by
    obtain ⟨b', o', e, hx⟩ := (hf.below hW) (by omega)
    injection e with e; injection e with e1 e2
    subst e1 e2
    exact hx k hk
  have H4 := Lib.hid h4
  have E := Lib.hid (aft_set_eq (s := s) (a := a) (b := b) (c := c) (d := d) (ks := ks) (f := f))
  rw [hs] at E
  have MK := make_bools (L + 1) (by omega)
  have BX := Lib.hid (fun W => box6 (w := w) (v0 := .int .i64 1) (v1 := .int .u64 (a : Int)) (v2 := .int .u64 (b : Int)) (v3 := .int .u64 (c : Int)) (v4 := .int .u64 (d : Int)) (v5 := .slice A N cap) (ty := 135) (W := W))
  obtain ⟨w0, hw0⟩ : ∃ w0, w.alloc (.cells #[.int .i64 1, .int .u64 (a : Int), .int .u64 (b : Int), .int .u64 (c : Int), .int .u64 (d : Int), .slice A N cap] 135) = w0 := ⟨_, rfl⟩
  obtain ⟨w1, hw1⟩ : ∃ w1, w0.alloc (.cells (bof (L + 1) fun _ => false).toArray 4) = w1 := ⟨_, rfl⟩
  have MK1 := MK w0
  have wl : IntKind.i64.wrap ((L : Int) + 1) = (L : Int) + 1 := by rw [IntKind.wrap_i64]; omega
  have el : ((L + 1 : Nat) : Int) = (L : Int) + 1 := by simp
  rw [hw1, el] at MK1
  rw [hw0] at BX
  have e0 : w0.heap.size = w.heap.size + 1 := by rw [← hw0]; simp
  have B01 : Below (w.heap.size + 1) w0 w1 := by
    rw [← hw1, ← e0]
    exact (Below.refl _ _).alloc (Nat.le_refl _) _
  have O1 : OwnB w1 w0.heap.size w0.heap.size (L + 1) (fun _ => false) := by rw [← hw1]; exact own_made (L + 1) (by omega) w0
  rw [e0] at O1
  obtain ⟨⟨q0, _, _, _, _, _⟩, BW⟩ := BX.out w1 B01
  obtain ⟨hfn, hhfn⟩ : ∃ hfn, setAt s a b c d f = hfn := ⟨_, rfl⟩
  have HFN := Lib.hid hhfn
  have I0 : Hid (OwnB w1 (w.heap.size + 1) (w.heap.size + 1) (L + 1) (hfn 0) ∧ Below (w.heap.size + 1) w0 w1 ∧ w.heap.size + 1 ≤ w1.heap.size) := ⟨O1.congr (fun i _ => by
    rw [← hhfn]
    show false = setAt s a b c d f 0 i
    unfold setAt
    by_cases h : 0 < i
    · have : ¬ i ≤ 0 := by omega
      simp [this]
    · simp [h]), B01, by have := B01.size; omega⟩
  clear MK B01 BW hf O1 hw1 hhfn h4
  go_enter Tryz.func136, Tryz.ntmps136
  go_wp2
  clear MK1 q0 hw0
  go_loopw [8] (fun i wr => ∃ k : Nat, k ≤ L ∧ i = .int .i64 (k : Int) ∧ Hid (OwnB wr (w.heap.size + 1) (w.heap.size + 1) (L + 1) (hfn k) ∧ Below (w.heap.size + 1) w0 wr ∧ w.heap.size + 1 ≤ wr.heap.size)) (fun i _ => L - (intOf i).toNat)
  case atStart => exact ⟨0, by omega, rfl, I0⟩
  case round =>
    clear I0
    obtain ⟨k, hk, rfl, HI⟩ := hrel
    have OW := Lib.hid HI.out.1
    have B0W := Lib.hid HI.out.2.1
    have SZW := HI.out.2.2
    clear HI
    by_cases hkn : k < L
    · have hkz : (k : Int) < (L : Int) := by omega
      have TX := fun W => txt8_at W s k (by omega)
      have FC : Hid (∀ W, Below (w.heap.size + 1) w0 W → W.cell? ⟨fb, fo + k, none⟩ = some (.bool (f k))) := fun W hW => FC0.out W (BX.out W hW).2 k (by omega)
      have HH := Lib.hid (fun W => rhas_any a b c d ((txt8 s).getD k 0) (txt8_lt s k) W H4.out)
      have ST0 : Hid (∀ i, (if i = k + 1 then (f k && hasB a b c d ((txt8 s).getD k 0)) else hfn k i) = hfn (k + 1) i) := fun i => by
        rw [← HFN.out]
        unfold setAt
        by_cases e : i = k + 1
        · subst e; simp
        · rw [if_neg e]
          by_cases h : i ≤ k
          · simp [h, show i ≤ k + 1 by omega]
          · simp [h, show ¬ i ≤ k + 1 by omega]
      obtain ⟨x, hx⟩ : ∃ x, (txt8 s).getD k 0 = x := ⟨_, rfl⟩
      obtain ⟨y, hy⟩ : ∃ y, hasB a b c d x = y := ⟨_, rfl⟩
      rw [hx] at HH ST0
      simp only [hx] at TX
      rw [hy] at HH ST0
      clear hx hy FC0
      have hk1 : (k : Int) + 1 < (L : Int) + 1 := by omega
      have hk2 : (k : Int) < (L : Int) + 1 := by omega
      have hk3 : (0 : Int) ≤ (k : Int) + 1 := by omega
      have wk : IntKind.i64.wrap ((k : Int) + 1) = (k : Int) + 1 := by rw [IntKind.wrap_i64]; omega
      cases hfk : f k
      · rw [hfk] at FC ST0
        have STEP : Hid (∀ i, (if i = k + 1 then false else hfn k i) = hfn (k + 1) i) := fun i => by have := ST0.out i; simpa using this
        clear hfk ST0 HH
        go_wp2_with fail
        refine wp_region_held_drew (S := fun W => Below (w.heap.size + 1) w0 W) (by kernel_rfl) (B0W.out.drew) (fun hHeld => ?_)
        refine held_take 0 31 (v := (.slice (some ⟨w.heap.size + 1, 0, none⟩) (L + 1) (L + 1))) rfl rfl (by kernel_rfl) (by kernel_rfl) (by kernel_rfl) (by rfl) (fun _ _ _ h => h) (by assumption) ?_ ?_
        · intro W hW
          go_simp
        simp only [List.setIfInBounds_toArray, List.set_cons_zero, List.set_cons_succ]
        refine held_take 1 32 (v := (.int .i64 (k : Int))) rfl rfl (by kernel_rfl) (by kernel_rfl) (by kernel_rfl) (by rfl) (fun _ _ _ h => h) (by assumption) ?_ ?_
        · intro W hW
          go_simp
        simp only [List.setIfInBounds_toArray, List.set_cons_zero, List.set_cons_succ]
        refine held_take 2 33 (v := (.int .i64 ((k : Int) + 1))) rfl rfl (by kernel_rfl) (by kernel_rfl) (by kernel_rfl) (by rfl) (fun _ _ _ h => h) (by assumption) ?_ ?_
        · intro W hW
          go_simp
        simp only [List.setIfInBounds_toArray, List.set_cons_zero, List.set_cons_succ]
        refine held_take 3 34 (v := (.slice (some ⟨fb, fo, none⟩) (L + 1) cf)) rfl rfl (by kernel_rfl) (by kernel_rfl) (by kernel_rfl) (by rfl) (fun _ _ _ h => h) (by assumption) ?_ ?_
        · intro W hW
          go_simp
        simp only [List.setIfInBounds_toArray, List.set_cons_zero, List.set_cons_succ]
        refine held_take 4 35 (v := (.int .i64 (k : Int))) rfl rfl (by kernel_rfl) (by kernel_rfl) (by kernel_rfl) (by rfl) (fun _ _ _ h => h) (by assumption) ?_ ?_
        · intro W hW
          go_simp
        simp only [List.setIfInBounds_toArray, List.set_cons_zero, List.set_cons_succ]
        refine held_take 5 36 (v := (.pointer (some ⟨fb, fo + k, none⟩))) rfl rfl (by kernel_rfl) (by kernel_rfl) (by kernel_rfl) (by rfl) (fun _ _ _ h => h) (by assumption) ?_ ?_
        · intro W hW
          go_simp
        simp only [List.setIfInBounds_toArray, List.set_cons_zero, List.set_cons_succ]
        refine held_take 6 37 (v := (.bool false)) rfl rfl (by kernel_rfl) (by kernel_rfl) (by kernel_rfl) (by rfl) (fun _ _ _ h => h) (by assumption) ?_ ?_
        · intro W hW
          have c1 := FC.out W hW
          go_simp
        simp only [List.setIfInBounds_toArray, List.set_cons_zero, List.set_cons_succ]
        refine held_take 7 38 (v := (.bool false)) rfl rfl (by kernel_rfl) (by kernel_rfl) (by kernel_rfl) (by rfl) (fun _ _ _ h => h) (by assumption) ?_ ?_
        · intro W hW
          go_simp
        simp only [List.setIfInBounds_toArray, List.set_cons_zero, List.set_cons_succ]
        refine held_skip 8 39 rfl rfl (by kernel_rfl) (by kernel_rfl) (by kernel_rfl) (by rfl) (fun _ _ _ h => h) (by assumption) ?_
        simp only [List.setIfInBounds_toArray, List.set_cons_zero, List.set_cons_succ]
        refine held_skip 9 40 rfl rfl (by kernel_rfl) (by kernel_rfl) (by kernel_rfl) (by rfl) (fun _ _ _ h => h) (by assumption) ?_
        simp only [List.setIfInBounds_toArray, List.set_cons_zero, List.set_cons_succ]
        refine held_skip 10 41 rfl rfl (by kernel_rfl) (by kernel_rfl) (by kernel_rfl) (by rfl) (fun _ _ _ h => h) (by assumption) ?_
        simp only [List.setIfInBounds_toArray, List.set_cons_zero, List.set_cons_succ]
        refine held_skip 11 42 rfl rfl (by kernel_rfl) (by kernel_rfl) (by kernel_rfl) (by rfl) (fun _ _ _ h => h) (by assumption) ?_
        simp only [List.setIfInBounds_toArray, List.set_cons_zero, List.set_cons_succ]
        refine held_skip 12 43 rfl rfl (by kernel_rfl) (by kernel_rfl) (by kernel_rfl) (by rfl) (fun _ _ _ h => h) (by assumption) ?_
        simp only [List.setIfInBounds_toArray, List.set_cons_zero, List.set_cons_succ]
        refine held_skip 13 44 rfl rfl (by kernel_rfl) (by kernel_rfl) (by kernel_rfl) (by rfl) (fun _ _ _ h => h) (by assumption) ?_
        simp only [List.setIfInBounds_toArray, List.set_cons_zero, List.set_cons_succ]
        refine held_take 14 45 (v := (.bool false)) rfl rfl (by kernel_rfl) (by kernel_rfl) (by kernel_rfl) (by rfl) (fun _ _ _ h => h) (by assumption) ?_ ?_
        · intro W hW
          go_simp
        simp only [List.setIfInBounds_toArray, List.set_cons_zero, List.set_cons_succ]
        have O3 : OwnB wr.drew (w.heap.size + 1) (w.heap.size + 1) (L + 1) (hfn k) := OW.out
        have d3 : Below (w.heap.size + 1) w0 wr.drew := B0W.out.drew
        have z3 : w.heap.size + 1 ≤ wr.drew.heap.size := SZW
        generalize wr.drew = w3 at *
        refine held_take 15 46 (v := (.pointer (some ⟨w.heap.size + 1, k + 1, none⟩))) rfl rfl (by kernel_rfl) (by kernel_rfl) (by kernel_rfl) (by rfl) (fun _ _ _ h => h) (by assumption) ?_ ?_
        · intro W hW
          go_simp
        simp only [List.setIfInBounds_toArray, List.set_cons_zero, List.set_cons_succ]
        have cc := O3.cell (j := k + 1) (by omega)
        have fr := O3.free (k + 1)
        obtain ⟨p1, p2, p3⟩ := O3.put (k + 1) false d3 z3 (Nat.le_refl _)
        have I5 : Hid (OwnB (w3.setCell ⟨w.heap.size + 1, k + 1, none⟩ (.bool false)) (w.heap.size + 1) (w.heap.size + 1) (L + 1) (hfn (k + 1)) ∧ Below (w.heap.size + 1) w0 (w3.setCell ⟨w.heap.size + 1, k + 1, none⟩ (.bool false)) ∧ w.heap.size + 1 ≤ (w3.setCell ⟨w.heap.size + 1, k + 1, none⟩ (.bool false)).heap.size) := ⟨p1.congr (fun i hi => STEP.out i), p2, p3⟩
        refine held_op 16 rfl (by kernel_rfl) (by rfl) ?_
        refine wp_skip (w' := w3.setCell ⟨w.heap.size + 1, k + 1, none⟩ (.bool false)) rfl (by go_simp) ⟨p2, ?_⟩
        refine wpAnyH_done (by kernel_rfl) ?_ _
        generalize w3.setCell ⟨w.heap.size + 1, k + 1, none⟩ (.bool false) = w5 at *
        clear p1 p2 p3 cc fr O3 d3
        go_wp2
        go_roundw
        case rel => exact ⟨k + 1, by omega, by go_num, I5⟩
        case measure => simp [intOf]; omega
      · rw [hfk] at FC ST0
        have STEP : Hid (∀ i, (if i = k + 1 then y else hfn k i) = hfn (k + 1) i) := fun i => by have := ST0.out i; simpa using this
        clear hfk ST0
        go_wp2_with fail
        refine wp_region_held_drew (S := fun W => Below (w.heap.size + 1) w0 W) (by kernel_rfl) (B0W.out.drew) (fun hHeld => ?_)
        refine held_take 0 31 (v := (.slice (some ⟨w.heap.size + 1, 0, none⟩) (L + 1) (L + 1))) rfl rfl (by kernel_rfl) (by kernel_rfl) (by kernel_rfl) (by rfl) (fun _ _ _ h => h) (by assumption) ?_ ?_
        · intro W hW
          go_simp
        simp only [List.setIfInBounds_toArray, List.set_cons_zero, List.set_cons_succ]
        refine held_take 1 32 (v := (.int .i64 (k : Int))) rfl rfl (by kernel_rfl) (by kernel_rfl) (by kernel_rfl) (by rfl) (fun _ _ _ h => h) (by assumption) ?_ ?_
        · intro W hW
          go_simp
        simp only [List.setIfInBounds_toArray, List.set_cons_zero, List.set_cons_succ]
        refine held_take 2 33 (v := (.int .i64 ((k : Int) + 1))) rfl rfl (by kernel_rfl) (by kernel_rfl) (by kernel_rfl) (by rfl) (fun _ _ _ h => h) (by assumption) ?_ ?_
        · intro W hW
          go_simp
        simp only [List.setIfInBounds_toArray, List.set_cons_zero, List.set_cons_succ]
        refine held_take 3 34 (v := (.slice (some ⟨fb, fo, none⟩) (L + 1) cf)) rfl rfl (by kernel_rfl) (by kernel_rfl) (by kernel_rfl) (by rfl) (fun _ _ _ h => h) (by assumption) ?_ ?_
        · intro W hW
          go_simp
        simp only [List.setIfInBounds_toArray, List.set_cons_zero, List.set_cons_succ]
        refine held_take 4 35 (v := (.int .i64 (k : Int))) rfl rfl (by kernel_rfl) (by kernel_rfl) (by kernel_rfl) (by rfl) (fun _ _ _ h => h) (by assumption) ?_ ?_
        · intro W hW
          go_simp
        simp only [List.setIfInBounds_toArray, List.set_cons_zero, List.set_cons_succ]
        refine held_take 5 36 (v := (.pointer (some ⟨fb, fo + k, none⟩))) rfl rfl (by kernel_rfl) (by kernel_rfl) (by kernel_rfl) (by rfl) (fun _ _ _ h => h) (by assumption) ?_ ?_
        · intro W hW
          go_simp
        simp only [List.setIfInBounds_toArray, List.set_cons_zero, List.set_cons_succ]
        refine held_take 6 37 (v := (.bool true)) rfl rfl (by kernel_rfl) (by kernel_rfl) (by kernel_rfl) (by rfl) (fun _ _ _ h => h) (by assumption) ?_ ?_
        · intro W hW
          have c1 := FC.out W hW
          go_simp
        simp only [List.setIfInBounds_toArray, List.set_cons_zero, List.set_cons_succ]
        refine held_take 7 38 (v := (.bool true)) rfl rfl (by kernel_rfl) (by kernel_rfl) (by kernel_rfl) (by rfl) (fun _ _ _ h => h) (by assumption) ?_ ?_
        · intro W hW
          go_simp
        simp only [List.setIfInBounds_toArray, List.set_cons_zero, List.set_cons_succ]
        refine held_take 8 39 (v := (.pointer (some ⟨w.heap.size, 1, none⟩))) rfl rfl (by kernel_rfl) (by kernel_rfl) (by kernel_rfl) (by rfl) (fun _ _ _ h => h) (by assumption) ?_ ?_
        · intro W hW
          go_simp
        simp only [List.setIfInBounds_toArray, List.set_cons_zero, List.set_cons_succ]
        refine held_take 9 40 (v := (.agg #[.int .u64 (a : Int), .int .u64 (b : Int), .int .u64 (c : Int), .int .u64 (d : Int)])) rfl rfl (by kernel_rfl) (by kernel_rfl) (by kernel_rfl) (by rfl) (fun _ _ _ h => h) (by assumption) ?_ ?_
        · intro W hW
          obtain ⟨⟨q0, q1, q2, q3, q4, q5⟩, _⟩ := BX.out W hW
          go_simp
        simp only [List.setIfInBounds_toArray, List.set_cons_zero, List.set_cons_succ]
        refine held_take 10 41 (v := (.string s)) rfl rfl (by kernel_rfl) (by kernel_rfl) (by kernel_rfl) (by rfl) (fun _ _ _ h => h) (by assumption) ?_ ?_
        · intro W hW
          go_simp
        simp only [List.setIfInBounds_toArray, List.set_cons_zero, List.set_cons_succ]
        refine held_take 11 42 (v := (.int .i64 (k : Int))) rfl rfl (by kernel_rfl) (by kernel_rfl) (by kernel_rfl) (by rfl) (fun _ _ _ h => h) (by assumption) ?_ ?_
        · intro W hW
          go_simp
        simp only [List.setIfInBounds_toArray, List.set_cons_zero, List.set_cons_succ]
        refine held_take 12 43 (v := (.int .u8 (x : Int))) rfl rfl (by kernel_rfl) (by kernel_rfl) (by kernel_rfl) (by rfl) (fun _ _ _ h => h) (by assumption) ?_ ?_
        · intro W hW
          have c1 := TX W
          go_simp
        simp only [List.setIfInBounds_toArray, List.set_cons_zero, List.set_cons_succ]
        refine held_op 13 rfl (by kernel_rfl) (by rfl) ?_
        refine wp_call (f := 148) (args := #[.agg #[.int .u64 (a : Int), .int .u64 (b : Int), .int .u64 (c : Int), .int .u64 (d : Int)], .int .u8 (x : Int)]) rfl (by go_simp) ?_
        refine (HH.out _).mono ?_
        rintro e w3 ⟨rfl, b3⟩
        have d3 : Below (w.heap.size + 1) w0 w3 := B0W.out.drew.trans (b3.mono SZW)
        refine ⟨_, rfl, d3, ?_⟩
        simp only [List.setIfInBounds_toArray, List.set_cons_zero, List.set_cons_succ]
        have O3 : OwnB w3 (w.heap.size + 1) (w.heap.size + 1) (L + 1) (hfn k) := OwnB.keep (w := wr.drew) OW.out b3
        have z3 : w.heap.size + 1 ≤ w3.heap.size := Nat.le_trans SZW b3.size
        clear b3
        refine held_take 14 45 (v := (.bool y)) rfl rfl (by kernel_rfl) (by kernel_rfl) (by kernel_rfl) (by rfl) (fun _ _ _ h => h) (by assumption) ?_ ?_
        · intro W hW
          go_simp
        simp only [List.setIfInBounds_toArray, List.set_cons_zero, List.set_cons_succ]
        refine held_take 15 46 (v := (.pointer (some ⟨w.heap.size + 1, k + 1, none⟩))) rfl rfl (by kernel_rfl) (by kernel_rfl) (by kernel_rfl) (by rfl) (fun _ _ _ h => h) (by assumption) ?_ ?_
        · intro W hW
          go_simp
        simp only [List.setIfInBounds_toArray, List.set_cons_zero, List.set_cons_succ]
        have cc := O3.cell (j := k + 1) (by omega)
        have fr := O3.free (k + 1)
        obtain ⟨p1, p2, p3⟩ := O3.put (k + 1) y d3 z3 (Nat.le_refl _)
        have I5 : Hid (OwnB (w3.setCell ⟨w.heap.size + 1, k + 1, none⟩ (.bool y)) (w.heap.size + 1) (w.heap.size + 1) (L + 1) (hfn (k + 1)) ∧ Below (w.heap.size + 1) w0 (w3.setCell ⟨w.heap.size + 1, k + 1, none⟩ (.bool y)) ∧ w.heap.size + 1 ≤ (w3.setCell ⟨w.heap.size + 1, k + 1, none⟩ (.bool y)).heap.size) := ⟨p1.congr (fun i hi => STEP.out i), p2, p3⟩
        refine held_op 16 rfl (by kernel_rfl) (by rfl) ?_
        refine wp_skip (w' := w3.setCell ⟨w.heap.size + 1, k + 1, none⟩ (.bool y)) rfl (by go_simp) ⟨p2, ?_⟩
        refine wpAnyH_done (by kernel_rfl) ?_ _
        generalize w3.setCell ⟨w.heap.size + 1, k + 1, none⟩ (.bool y) = w5 at *
        clear p1 p2 p3 cc fr O3 d3
        go_wp2
        go_roundw
        case rel => exact ⟨k + 1, by omega, by go_num, I5⟩
        case measure => simp [intOf]; omega
    · obtain rfl : k = L := by omega
      have hkz : ¬ (k : Int) < (k : Int) := by omega
      have R : Hid (AftDone w (txt8 s) k (.mk 1 a b c d ks) f (.returned (.slice (some ⟨w.heap.size + 1, 0, none⟩) (k + 1) (k + 1))) wr) := ⟨⟨w.heap.size + 1, rfl, by rw [E.out, HFN.out]; exact OW.out.base (by omega)⟩, (BX.out wr B0W.out).2⟩
      clear OW B0W
      go_wp2
      go_ret
      exact R.out

end Go.Proofs.YtlfcjjlgkcfkdaaGreatDoor
namespace Go.Proofs.YtlfcjjlgkcfkdaaGreatDoor
namespace Pz
/-- The byte at a place; 256: none. -/
def pk (S : List Nat) (i : Nat) : Nat := S.getD i 256
def special (c : Nat) : Bool := c == 124 || c == 42 || c == 43 || c == 63 || c == 40 || c == 41 || c == 91 || c == 93 || c == 46 || c == 92
def inside (c : Nat) : Bool := c == 92 || c == 93 || c == 91 || c == 94 || c == 45
def quotable (c : Nat) : Bool := special c || c == 94 || c == 45
/-- A byte that is none of these, or a quoted one. -/
def byte1 (S : List Nat) (but : Nat → Bool) (i : Nat) : Option (Nat × Nat) :=
  if pk S i = 92 then (if quotable (pk S (i + 1)) then some (pk S (i + 1), i + 2) else none)
  else if pk S i = 256 ∨ but (pk S i) = true then none else some (pk S i, i + 1)
/-- One byte more in a set of four words. -/
def put (W : Nat → Nat) (c : Nat) : Nat → Nat := fun k => if k = c / 64 then W k ||| 2 ^ (c % 64) else W k
/-- n bytes from lo on. -/
def span (W : Nat → Nat) (lo : Nat) : Nat → Nat → Nat
  | 0 => W
  | n + 1 => put (span W lo n) (lo + n)
def none4 : Nat → Nat := fun _ => 0
def join (V W : Nat → Nat) : Nat → Nat := fun k => V k ||| W k
def neg (W : Nat → Nat) : Nat → Nat := fun k => 18446744073709551615 - W k
/-- A byte, or two with a - between them: from, to. -/
def item (S : List Nat) (i : Nat) : Option (Nat × Nat × Nat) :=
  match byte1 S inside i with
  | none => none
  | some (lo, j) =>
    if pk S j = 45 then
      match byte1 S inside (j + 1) with
      | none => none
      | some (hi, k) => if hi < lo then none else some (lo, hi, k)
    else some (lo, lo, j)
/-- Items up to a closing bracket. -/
def items (S : List Nat) : Nat → (Nat → Nat) → Nat → Option ((Nat → Nat) × Nat)
  | 0, _, _ => none
  | n + 1, W, i =>
    if pk S i = 93 then some (W, i + 1)
    else match item S i with
      | none => none
      | some (lo, hi, j) => items S n (span W lo (hi + 1 - lo)) j
def setOf (W : Nat → Nat) : Rx := .mk 1 (W 0) (W 1) (W 2) (W 3) []
/-- The choice of bytes behind its opening bracket. -/
def class1 (S : List Nat) (n : Nat) (i : Nat) : Option (Rx × Nat) :=
  let j := if pk S i = 94 then i + 1 else i
  match item S j with
  | none => none
  | some (lo, hi, k) =>
    match items S n (span none4 lo (hi + 1 - lo)) k with
    | none => none
    | some (W, m) => some (setOf (if pk S i = 94 then neg W else W), m)
/-- A group, or what stands for one byte. -/
def atom (S : List Nat) (n : Nat) (G : Nat → Option (Rx × Nat)) (i : Nat) : Option (Rx × Nat) :=
  if pk S i = 40 then G (i + 1)
  else if pk S i = 91 then class1 S n (i + 1)
  else if pk S i = 46 then some (setOf (neg none4), i + 1)
  else match byte1 S special i with
    | none => none
    | some (c, j) => some (setOf (put none4 c), j)
def rep (op : Int) (x : Rx) : Rx := .mk op 0 0 0 0 [x]
def factor (S : List Nat) (n : Nat) (G : Nat → Option (Rx × Nat)) (i : Nat) : Option (Rx × Nat) :=
  match atom S n G i with
  | none => none
  | some (x, j) => if pk S j = 42 then some (rep 4 x, j + 1) else if pk S j = 43 then some (rep 5 x, j + 1) else if pk S j = 63 then some (rep 6 x, j + 1) else some (x, j)
def joined (op : Int) : List Rx → Rx
  | [x] => x
  | l => .mk op 0 0 0 0 l
/-- Factors up to the end of a way, behind those that are there. -/
def way (S : List Nat) (n : Nat) (G : Nat → Option (Rx × Nat)) : Nat → List Rx → Nat → Option (Rx × Nat)
  | 0, _, _ => none
  | m + 1, l, i =>
    if pk S i = 256 ∨ pk S i = 124 ∨ pk S i = 41 then some (joined 2 l, i)
    else match factor S n G i with
      | none => none
      | some (x, j) => way S n G m (l ++ [x]) j
/-- Ways with | between, behind those that are there. -/
def ways (S : List Nat) (n : Nat) (G : Nat → Option (Rx × Nat)) : Nat → List Rx → Nat → Option (Rx × Nat)
  | 0, _, _ => none
  | m + 1, l, i =>
    match way S n G n [] i with
    | none => none
    | some (x, j) => if pk S j = 124 then ways S n G m (l ++ [x]) (j + 1) else some (joined 3 (l ++ [x]), j)
/-- The rest of a group behind its opening bracket, so many groups deep. -/
def group (S : List Nat) (n : Nat) : Nat → Nat → Option (Rx × Nat)
  | 0, _ => none
  | d + 1, i =>
    match ways S n (group S n d) n [] i with
    | none => none
    | some (x, j) => if pk S j = 41 then some (x, j + 1) else none
/-- The tree of a pattern. -/
def parse (S : List Nat) : Option Rx :=
  if 40 < S.length then none
  else match ways S 42 (group S 42 8) 42 [] 0 with
    | none => none
    | some (x, j) => if j < S.length then none else some x
example : (parse [97, 42, 124, 98]).isSome = true := by decide +kernel
example : (parse [97, 42, 42]).isSome = false := by decide +kernel
example : (parse [40, 97, 41, 91, 97, 45, 122, 93]).isSome = true := by decide +kernel
end Pz

end Go.Proofs.YtlfcjjlgkcfkdaaGreatDoor
namespace Go.Proofs.YtlfcjjlgkcfkdaaGreatDoor
open Go.RowKit Go.Sort

theorem OwnB.heap {w : World} {base g n : Nat} {f : Nat → Bool} (h : OwnB w base g n f) : w.heap[g]? = some (.cells (bof n f).toArray 4 (0, 0)) ∧ base ≤ g := by
  rcases h.2 with ⟨e, _⟩ | ⟨g', cap, cur, e, hb, hg, _, _, hs, ht⟩
  · cases e
  · injection e with e1 e2 e3
    injection e1 with e1
    injection e1 with e1
    subst e1 e3
    refine ⟨?_, hb⟩
    rw [hg]
    have : cur.toList = bof n f := by rw [← ht, List.take_of_length_le (by rw [Array.length_toList]; omega)]
    rw [← this]
theorem OwnB.of_heap {w : World} {base g n : Nat} {f : Nat → Bool} (h : w.heap[g]? = some (.cells (bof n f).toArray 4 (0, 0))) (hb : base ≤ g) (hn : n ≤ 1000) : OwnB w base g n f :=
  ⟨by rw [bof_len]; omega, .inr ⟨g, n, _, rfl, hb, h, Nat.le_refl _, by unfold maxLen; omega, by simp [bof_len], by simp [bof_len, List.take_of_length_le]⟩⟩
theorem bof_one (n : Nat) (f : Nat → Bool) : ∀ u ∈ bof n f, u.oneCell' = true := by
  intro u hu
  simp only [bof, List.mem_map] at hu
  obtain ⟨_, _, rfl⟩ := hu
  rfl
theorem wpList_copyB {ops : Array Oper} {rest : List Oper} {o : Oper} {a : Act} {w : World} {Q : Exit → Act → World → Prop} (hgd : o.guard = none) (d s : Operand) (ho : o.op = .call { callee := .builtin .copy, args := #[d, s], argTypes := #[171, 171] })
    (base g n : Nat) (f0 : Nat → Bool) (hd : a.eval d = .slice (some ⟨g, 0, none⟩) n n) (hown : OwnB w base g n f0) (A : Option Addr) (c : Nat) (f : Nat → Bool) (hs : a.eval s = .slice A n c) (hi : IsBo w A n f)
    (B : Nat) (w0 : World) (hb : Below B w0 w) (hBg : B ≤ g) (hn : n ≤ 1000)
    (h : ∀ w', OwnB w' base g n f → Below B w0 w' → wpList Tryz.prog ops Q rest (a.put o.dst (.int .i64 (n : Int))) w') : wpList Tryz.prog ops Q (o :: rest) a w := by
  obtain ⟨hg, hbg⟩ := hown.heap
  refine wpList_copy_splice hgd d s 171 171 ho 4 Tryz.underlying171 (by kernel_rfl) (some ⟨g, 0, none⟩) A n n n c hd hs g 0 (bof n f0) 4 hg (bof n f) (by rw [bof_len]; exact (Nat.min_self n).symm) (fun hp => ⟨rfl, ?_⟩) (by rw [bof_len, bof_len]; omega) (bof_one n f) B w0 hb hBg ?_
  · rw [bof_len] at hp
    obtain ⟨b, off, rfl, hx⟩ := hi hp
    refine ⟨_, rfl, fun j v hv => ?_⟩
    have hj : j < n := by
      rcases Nat.lt_or_ge j n with h1 | h1
      · exact h1
      · rw [List.getElem?_eq_none (by rw [bof_len]; exact h1)] at hv; cases hv
    have e2 : (⟨b, off, none⟩ : Addr).add j = ⟨b, off + j, none⟩ := by unfold Addr.add; split <;> simp_all
    rw [e2, hx j hj, ← hv, bof_get hj]
  · intro w' hw' hb'
    have e : splice (bof n f0) 0 (bof n f) = bof n f := by simp [splice, bof_len]
    have hw2 := hw'.out
    rw [e] at hw2
    have hl : goInt (bof n f).length = .int .i64 (n : Int) := by rw [bof_len]; rfl
    rw [hl]
    exact h w' (.of_heap hw2 hbg hn) hb'
theorem aft_star_eq {S : List Nat} {a b c d : Nat} {ks : List Rx} {f : Nat → Bool} (h : ks.length = 1) : Rx.aft S (.mk 4 a b c d ks) f = Rx.star (Rx.aft S (Rx.nth ks 0)) (S.length + 1) f := by
  match ks, h with
  | [k], _ => rfl

set_option maxRecDepth 100000 in
set_option maxHeartbeats 2000000 in
theorem after_star {w : World} {s : ByteArray} {S : List Nat} {L : Nat} {ks : List Rx} {N : Nat} {A : Option Addr} {blk off : Nat} {V : Nat → Nat → Value} (T : AftH w s S L ks N A blk off V) (a b c d cap : Nat) (hN : N = 1) (F : Option Addr) (cf : Nat) (f : Nat → Bool) (hf : IsBo w F (L + 1) f) :
    Calls Tryz.prog 136 #[.agg #[.int .i64 4, .int .u64 (a : Int), .int .u64 (b : Int), .int .u64 (c : Int), .int .u64 (d : Int), .slice A N cap], .string s, .slice F (L + 1) cf] w (AftDone w S L (.mk 4 a b c d ks) f) := by
  have HT := Lib.hid T
  have hL := T.few
  have hs := T.size
  have E := Lib.hid (aft_star_eq (S := S) (a := a) (b := b) (c := c) (d := d) (f := f) (T.len.trans hN))
  rw [T.text] at E
  have hA := T.ptr (by omega)
  subst hN hA
  have MK := fun W => make_bools (L + 1) (by omega) W
  have BX := Lib.hid (fun W => box6 (w := w) (v0 := .int .i64 4) (v1 := .int .u64 (a : Int)) (v2 := .int .u64 (b : Int)) (v3 := .int .u64 (c : Int)) (v4 := .int .u64 (d : Int)) (v5 := .slice (some ⟨blk, off, none⟩) 1 cap) (ty := 135) (W := W))
  obtain ⟨w0, hw0⟩ : ∃ w0, w.alloc (.cells #[.int .i64 4, .int .u64 (a : Int), .int .u64 (b : Int), .int .u64 (c : Int), .int .u64 (d : Int), .slice (some ⟨blk, off, none⟩) 1 cap] 135) = w0 := ⟨_, rfl⟩
  obtain ⟨w1, hw1⟩ : ∃ w1, w0.alloc (.cells (bof (L + 1) fun _ => false).toArray 4) = w1 := ⟨_, rfl⟩
  have MK1 := MK w0
  have wl : IntKind.i64.wrap ((L : Int) + 1) = (L : Int) + 1 := by rw [IntKind.wrap_i64]; omega
  have el : ((L + 1 : Nat) : Int) = (L : Int) + 1 := by simp
  rw [hw1, el] at MK1
  rw [hw0] at BX
  have B01 : Below (w.heap.size + 1) w0 w1 := by
    rw [← hw1]
    have e : w0.heap.size = w.heap.size + 1 := by rw [← hw0]; simp
    rw [← e]
    exact (Below.refl _ _).alloc (Nat.le_refl _) _
  obtain ⟨⟨q0, q1, q2, q3, q4, q5⟩, BW⟩ := BX.out w1 B01
  have BWH := Lib.hid BW
  have O1 : OwnB w1 w0.heap.size w0.heap.size (L + 1) (fun _ => false) := by rw [← hw1]; exact own_made (L + 1) (by omega) w0
  have e0 : w0.heap.size = w.heap.size + 1 := by rw [← hw0]; simp
  rw [e0] at O1
  have SRC := Lib.hid (hf.below BW)
  have SY := Lib.hid (Rx.aft_says S (Rx.nth ks 0))
  rw [T.text] at SY
  have B0H := Lib.hid B01
  have S01 := B01.size
  have SZ1 : w.heap.size + 1 ≤ w1.heap.size := by have e : w0.heap.size = w.heap.size + 1 := by (rw [← hw0]; simp)
                                                  omega
  clear T MK B01 BW hf q1 q2 q3 q4 hw1
  obtain ⟨g, hg⟩ : ∃ g, Rx.aft S (Rx.nth ks 0) = g := ⟨_, rfl⟩
  rw [hg] at E SY
  go_enter Tryz.func136, Tryz.ntmps136
  go_wp2_with (refine wpList_copyB rfl (.tmp 20) (.tmp 21) rfl (w.heap.size + 1) (w.heap.size + 1) (L + 1) _ rfl O1 F cf f rfl SRC.out (w.heap.size + 1) w0 B0H.out (by omega) (by omega) ?_)
  intro w2 o2 b2
  have I0 : Hid (OwnB w2 w.heap.size (w.heap.size + 1) (L + 1) f ∧ Below (w.heap.size + 1) w0 w2 ∧ w.heap.size + 1 ≤ w2.heap.size) := ⟨o2.base (by omega), b2, by have := b2.size; omega⟩
  clear O1 o2 b2 q0 q5 MK1 hw0 SRC
  go_wp2
  go_loopw [7, 12] (fun vo i wr => ∃ k q : Nat, k ≤ L + 1 ∧ i = .int .i64 (k : Int) ∧ vo = .slice (some ⟨q, 0, none⟩) (L + 1) (L + 1) ∧ Hid (∃ h, OwnB wr w.heap.size q (L + 1) h ∧ Below (w.heap.size + 1) w0 wr ∧ w.heap.size + 1 ≤ wr.heap.size ∧ ∀ j, j ≤ L → Rx.star g (L + 1 - k) h j = Rx.star g (L + 1) f j)) (fun _ i _ => L + 1 - (intOf i).toNat)
  case atStart => exact ⟨0, w.heap.size + 1, by omega, rfl, rfl, _, I0.out.1, I0.out.2.1, I0.out.2.2, fun j _ => rfl⟩
  case round =>
    clear I0
    obtain ⟨k, qo, hk, rfl, rfl, HI⟩ := hrel
    obtain ⟨h, OH, BH, SH, ST⟩ := HI.out
    have HO := Lib.hid OH
    have HBH := Lib.hid BH
    have HST := Lib.hid ST
    clear HI OH ST BH
    obtain ⟨⟨_, _, _, _, _, q5⟩, BW⟩ := BX.out wr HBH.out
    have BWR := Lib.hid BW
    clear BW
    by_cases hkL : k ≤ L
    · have hkz : (k : Int) ≤ (L : Int) := by omega
      have c0 := HT.out.cells wr BWR.out 0 0 (by omega) (by omega)
      have c1 := HT.out.cells wr BWR.out 0 1 (by omega) (by omega)
      have c2 := HT.out.cells wr BWR.out 0 2 (by omega) (by omega)
      have c3 := HT.out.cells wr BWR.out 0 3 (by omega) (by omega)
      have c4 := HT.out.cells wr BWR.out 0 4 (by omega) (by omega)
      have c5 := HT.out.cells wr BWR.out 0 5 (by omega) (by omega)
      simp only [Nat.zero_mul, Nat.add_zero] at c0 c1 c2 c3 c4 c5
      have CK := Lib.hid (HT.out.call 0 wr (some ⟨qo, 0, none⟩) (L + 1) h (by omega) BWR.out HO.out.is)
      rw [hg] at CK
      unfold val6 at CK
      generalize V 0 0 = v0 at *
      generalize V 0 1 = v1 at *
      generalize V 0 2 = v2 at *
      generalize V 0 3 = v3 at *
      generalize V 0 4 = v4 at *
      generalize V 0 5 = v5 at *
      go_wp2_with fail
      refine CK.out.mono ?_
      rintro e w3 ⟨⟨q3, rfl, o3⟩, b3⟩
      have d3 := HBH.out.trans (b3.mono SH)
      have z3 := b3.size
      have CJ := Lib.hid (rjoin_any (L + 1) h (g h) (some ⟨qo, 0, none⟩) (some ⟨q3, 0, none⟩) (L + 1) (L + 1) w3 (by omega) (HO.out.keep b3).is o3.is)
      have K3 := Lib.hid (HO.out.keep b3)
      clear CK b3 o3 c0 c1 c2 c3 c4 c5 q5
      go_wp2_with fail
      refine CJ.out.mono ?_
      rintro e w4 ⟨⟨q4, rfl, o4⟩, b4⟩
      have d4 := d3.trans (b4.mono (by omega))
      have z4 := b4.size
      have K4 := Lib.hid (K3.out.keep b4)
      have O4 := Lib.hid (o4.base (b1 := w.heap.size) (by omega))
      have CS := Lib.hid (rsame_any (L + 1) (fun i => h i || g h i) h (some ⟨q4, 0, none⟩) (some ⟨qo, 0, none⟩) (L + 1) (L + 1) w4 (by omega) o4.is K4.out.is)
      clear CJ o4 b4 d3 K3
      cases hsm : sameB (L + 1) (fun i => h i || g h i) h
      · rw [hsm] at CS
        clear hsm
        go_wp2_with fail
        refine CS.out.mono ?_
        rintro e w5 ⟨rfl, b5⟩
        have I5 : Hid (OwnB w5 w.heap.size q4 (L + 1) (fun i => h i || g h i) ∧ Below (w.heap.size + 1) w0 w5 ∧ w.heap.size + 1 ≤ w5.heap.size ∧ ∀ j, j ≤ L → Rx.star g (L + 1 - (k + 1)) (fun i => h i || g h i) j = Rx.star g (L + 1) f j) := ⟨O4.out.keep b5, d4.trans (b5.mono (by omega)), by have := b5.size; omega, fun j hj => by
          rw [← HST.out j hj]
          obtain ⟨m, hm⟩ : ∃ m, L + 1 - k = m + 1 := ⟨L - k, by omega⟩
          have hm2 : L + 1 - (k + 1) = m := by omega
          rw [hm, hm2]; rfl⟩
        clear CS b5 d4 K4 O4
        go_wp2
        go_roundw
        case rel => exact ⟨k + 1, q4, by omega, by go_num, rfl, _, I5.out⟩
        case measure => simp [intOf]; omega
      · have SS : ∀ i, i ≤ L → (h i || g h i) = h i := fun i hi => (of_decide_eq_true hsm) i (by omega)
        have FIX : Hid (∀ j, j ≤ L → h j = Rx.star g (L + 1) f j) := fun j hj => by
          rw [← HST.out j hj]
          exact (Rx.star_stop SY.out SS _ hj).symm
        rw [hsm] at CS
        clear hsm SS
        go_wp2_with fail
        refine CS.out.mono ?_
        rintro e w5 ⟨rfl, b5⟩
        have R : Hid (AftDone w S L (.mk 4 a b c d ks) f (.returned (.slice (some ⟨qo, 0, none⟩) (L + 1) (L + 1))) w5) := by
          refine ⟨⟨qo, rfl, ?_⟩, ?_⟩
          · rw [E.out]
            exact (K4.out.keep b5).congr fun i hi => FIX.out i (by omega)
          · exact (BX.out w5 (d4.trans (b5.mono (by omega)))).2
        clear CS b5 d4 K4 O4
        go_wp2
        go_ret
        exact R.out
    · have hkz : ¬ (k : Int) ≤ (L : Int) := by omega
      have R : Hid (AftDone w S L (.mk 4 a b c d ks) f (.returned (.slice (some ⟨qo, 0, none⟩) (L + 1) (L + 1))) wr) := by
        refine ⟨⟨qo, rfl, ?_⟩, BWR.out⟩
        rw [E.out]
        refine HO.out.congr fun i hi => ?_
        rw [← HST.out i (by omega), show L + 1 - k = 0 by omega]; rfl
      clear HT
      go_wp2
      go_ret
      exact R.out

end Go.Proofs.YtlfcjjlgkcfkdaaGreatDoor

