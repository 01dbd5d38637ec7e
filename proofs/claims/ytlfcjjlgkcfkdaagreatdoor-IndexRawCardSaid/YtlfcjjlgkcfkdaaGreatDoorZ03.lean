/-
  Steps for a statement whose order Go leaves open and which holds calls that make memory: an operation whose value is the same in every later world is taken first; a call that alone may come up is met by its contract; the condition on worlds may be made stronger on the way. No conditions; nothing of any program.
  What sordinekeep.Nodes does: how many nodes a tree has, or one more than may be. Conditions: at most 1000 may be.
  Plain mathematics of chapter 5: the reference's sets of places depend on the places of the text alone; a round that changes nothing is the last one. No conditions.
  What the reference's after does at a node 'maybe' and at a node of ways, where its kids' calls do as they should. Conditions: no more than 100 places.
-/
import Derived.Test.YtlfcjjlgkcfkdaaGreatDoorProg
import Derived.Test.YtlfcjjlgkcfkdaaGreatDoorZ01
import Derived.Test.YtlfcjjlgkcfkdaaGreatDoorZ02
import Derived.Deep.RegionHeld3
import Derived.WalkKit
import Derived.WalkSpells
import Derived.WalkLawsBesides
import Derived.Lib.Hide
import Derived.Below
import Derived.BigQuiet
import Derived.Lib.QuietBelow
import Derived.Laws.StructEq
import Derived.KernelRfl
import Derived.Laws.MakeOwn
import Derived.Laws.OwnMore
import Derived.OwnWalk
namespace Go.Proofs.YtlfcjjlgkcfkdaaGreatDoor
section
variable {P : Program} {md : Region.Mode} {ops : Array Oper} {Q : Exit → Act → World → Prop} {S S' : World → Prop}

theorem held_take (i d : Nat) {oi : Oper} {v : Value} {fuel : Nat} {listed : Array Bool} {ts : Array Value} {ds : List Deferred} {w : World} (hi : ops[i]? = some oi) (hd : oi.dst = some d)
    (hs : Region.noSelect ops = true) (hf : Region.free md ops listed i = true) (hr : (Region.ready md ops listed).contains i = true) (hw : Region.wanted oi (yielded ops ts) = true)
    (hQ : ∀ c a w, Q (.panic c) (a.put oi.dst v) w → Q (.panic c) a w) (hS : S w)
    (hv : ∀ W, S W → (execOp (Act.mk ts ds).eval oi).run P W = .ok (.value v) W)
    (h : wpAnyH P md ops Q S fuel (listed.setIfInBounds i true) ⟨ts.setIfInBounds d v, ds⟩ w) : wpAnyH P md ops Q S (fuel + 1) listed ⟨ts, ds⟩ w := by
  refine wpAnyH_take hi hs hf hr hQ (.inl ⟨hw, hv⟩) hS ?_
  rw [hd]; exact h

theorem held_call (i d : Nat) {oi : Oper} {f : FuncId} {args : Array Value} {fuel : Nat} {listed : Array Bool} {ts : Array Value} {ds : List Deferred} {w : World} (hi : ops[i]? = some oi) (hd : oi.dst = some d)
    (hr : Region.ready md ops listed = [i]) (hw : Region.wanted oi (yielded ops ts) = true)
    (hx : (execOp (Act.mk ts ds).eval oi).run P w = .ok (.enter f args) w)
    (hc : Calls P f args w fun e w' => ∃ v, e = .returned v ∧ S w' ∧ wpAnyH P md ops Q S fuel (listed.setIfInBounds i true) ⟨ts.setIfInBounds d v, ds⟩ w') : wpAnyH P md ops Q S (fuel + 1) listed ⟨ts, ds⟩ w := by
  refine wpAnyH_all hr (by simp) fun j hj => ?_
  obtain rfl : j = i := by simpa using hj
  unfold wpOp
  simp only [hi, hw, if_true]
  refine .inl ?_
  unfold Oper.wp
  rw [hx]
  refine Calls.mono hc fun e w' he => ?_
  obtain ⟨v, rfl, hS, hh⟩ := he
  refine ⟨hS, ?_⟩
  rw [hd]; exact hh
end


end Go.Proofs.YtlfcjjlgkcfkdaaGreatDoor
namespace Go.Proofs.YtlfcjjlgkcfkdaaGreatDoor
open Go.RowKit

/-- A node's cells in its own block. -/
theorem box6 {w : World} {v0 v1 v2 v3 v4 v5 : Value} {ty : TypeId} {W : World} (h : Below (w.heap.size + 1) (w.alloc (.cells #[v0, v1, v2, v3, v4, v5] ty)) W) :
    (W.cell? ⟨w.heap.size, 0, none⟩ = some v0 ∧ W.cell? ⟨w.heap.size, 1, none⟩ = some v1 ∧ W.cell? ⟨w.heap.size, 2, none⟩ = some v2 ∧ W.cell? ⟨w.heap.size, 3, none⟩ = some v3 ∧ W.cell? ⟨w.heap.size, 4, none⟩ = some v4 ∧ W.cell? ⟨w.heap.size, 5, none⟩ = some v5) ∧ Below w.heap.size w W := by
  have e := heap_alloc_new w (.cells #[v0, v1, v2, v3, v4, v5] ty)
  have e2 : W.heap[w.heap.size]? = _ := (h.block w.heap.size (by omega)).trans e
  refine ⟨⟨?_, ?_, ?_, ?_, ?_, ?_⟩, ((Below.refl _ _).alloc (Nat.le_refl _) _).trans (h.mono (by omega))⟩ <;> (rw [cell_of_row _ w.heap.size _ _ ty (0, 0) e2]; rfl)

end Go.Proofs.YtlfcjjlgkcfkdaaGreatDoor
namespace Go.Proofs.YtlfcjjlgkcfkdaaGreatDoor
namespace Rx
theorem Says.congr {L : Nat} {g : (Nat → Bool) → Nat → Bool} {R : Nat → Nat → Prop} (h : Says L g R) {f f' : Nat → Bool} (hf : ∀ i, i ≤ L → f i = f' i) {j : Nat} (hj : j ≤ L) : g f j = g f' j := by
  rw [Bool.eq_iff_iff, h.2 f j hj, h.2 f' j hj]
  constructor
  · rintro ⟨i, hi, e, r⟩; exact ⟨i, hi, by rw [← hf i hi]; exact e, r⟩
  · rintro ⟨i, hi, e, r⟩; exact ⟨i, hi, by rw [hf i hi]; exact e, r⟩
theorem star_congr {L : Nat} {g : (Nat → Bool) → Nat → Bool} {R : Nat → Nat → Prop} (h : Says L g R) (m : Nat) {f f' : Nat → Bool} (hf : ∀ i, i ≤ L → f i = f' i) {j : Nat} (hj : j ≤ L) : star g m f j = star g m f' j := by
  rw [Bool.eq_iff_iff, star_says h m f j hj, star_says h m f' j hj]
  constructor
  · rintro ⟨i, hi, e, r⟩; exact ⟨i, hi, by rw [← hf i hi]; exact e, r⟩
  · rintro ⟨i, hi, e, r⟩; exact ⟨i, hi, by rw [hf i hi]; exact e, r⟩
theorem star_stop {L : Nat} {g : (Nat → Bool) → Nat → Bool} {R : Nat → Nat → Prop} (h : Says L g R) {f : Nat → Bool} (hf : ∀ i, i ≤ L → (f i || g f i) = f i) : ∀ (m : Nat) {j : Nat}, j ≤ L → star g m f j = f j
  | 0, _, _ => rfl
  | m + 1, j, hj => by rw [star, star_congr h m hf hj]; exact star_stop h hf m hj
theorem seq_app (s : List Nat) : ∀ (a b : List Rx) (f : Nat → Bool), aftSeq s (a ++ b) f = aftSeq s b (aftSeq s a f)
  | [], _, _ => rfl
  | k :: r, b, f => by rw [List.cons_append, aftSeq, aftSeq]; exact seq_app s r b _
theorem alt_app (s : List Nat) : ∀ (a b : List Rx) (f : Nat → Bool) (i : Nat), aftAlt s (a ++ b) f i = (aftAlt s a f i || aftAlt s b f i)
  | [], _, _, _ => by simp [aftAlt]
  | k :: r, b, f, i => by
    have h := alt_app s r b f i
    show (aft s k f i || aftAlt s (r ++ b) f i) = _
    rw [h, ← Bool.or_assoc]
    rfl
theorem seq_take (s : List Nat) {ks : List Rx} {k : Nat} (h : k < ks.length) (f : Nat → Bool) : aftSeq s (ks.take (k + 1)) f = aft s (nth ks k) (aftSeq s (ks.take k) f) := by
  rw [List.take_succ_eq_append_getElem h, seq_app, ← nth_eq h]; rfl
theorem alt_take (s : List Nat) {ks : List Rx} {k : Nat} (h : k < ks.length) (f : Nat → Bool) (i : Nat) : aftAlt s (ks.take (k + 1)) f i = (aftAlt s (ks.take k) f i || aft s (nth ks k) f i) := by
  rw [List.take_succ_eq_append_getElem h, alt_app, ← nth_eq h]
  show (aftAlt s (ks.take k) f i || (aft s (nth ks k) f i || false)) = _
  rw [Bool.or_false]
end Rx

end Go.Proofs.YtlfcjjlgkcfkdaaGreatDoor
namespace Go.Proofs.YtlfcjjlgkcfkdaaGreatDoor
open Go.RowKit Go.Sort

/-- What a call of after is told of the node's kids. -/
structure AftH (w : World) (s : ByteArray) (S : List Nat) (L : Nat) (ks : List Rx) (N : Nat) (A : Option Addr) (blk off : Nat) (V : Nat → Nat → Value) : Prop where
  size : s.size = L
  text : S.length = L
  few : L ≤ 100
  len : ks.length = N
  lenN : N ≤ 1000
  ptr : 0 < N → A = some ⟨blk, off, none⟩
  cells : ∀ W, Below w.heap.size w W → ∀ j i, j < N → i < 6 → W.cell? ⟨blk, off + j * 6 + i, none⟩ = some (V j i)
  call : ∀ (j : Nat) (W : World) (A' : Option Addr) (c' : Nat) (f' : Nat → Bool), j < N → Below w.heap.size w W → IsBo W A' (L + 1) f' →
    Calls Tryz.prog 136 #[val6 (V j), .string s, .slice A' (L + 1) c'] W fun e w' => (∃ q, e = .returned (.slice (some ⟨q, 0, none⟩) (L + 1) (L + 1)) ∧ OwnB w' W.heap.size q (L + 1) (Rx.aft S (Rx.nth ks j) f')) ∧ Below W.heap.size W w'
/-- What after is to do. -/
def AftDone (w : World) (S : List Nat) (L : Nat) (t : Rx) (f : Nat → Bool) (e : Ending) (w' : World) : Prop :=
  (∃ q, e = .returned (.slice (some ⟨q, 0, none⟩) (L + 1) (L + 1)) ∧ OwnB w' w.heap.size q (L + 1) (Rx.aft S t f)) ∧ Below w.heap.size w w'
theorem OwnB.base {w : World} {b1 b2 g n : Nat} {f : Nat → Bool} (h : OwnB w b2 g n f) (hb : b1 ≤ b2) : OwnB w b1 g n f := by
  refine ⟨h.1, ?_⟩
  rcases h.2 with hn | ⟨g, cap, cur, e, hg, rest⟩
  · exact .inl hn
  · exact .inr ⟨g, cap, cur, e, by omega, rest⟩
theorem OwnB.congr {w : World} {b g n : Nat} {f f' : Nat → Bool} (h : OwnB w b g n f) (he : ∀ i, i < n → f i = f' i) : OwnB w b g n f' := by
  unfold OwnB at h ⊢
  rw [← bof_congr he]; exact h
theorem aft_maybe_eq {S : List Nat} {a b c d : Nat} {ks : List Rx} {f : Nat → Bool} (h : ks.length = 1) : Rx.aft S (.mk 6 a b c d ks) f = fun i => f i || Rx.aft S (Rx.nth ks 0) f i := by
  match ks, h with
  | [k], _ => rfl

set_option maxRecDepth 100000 in
set_option maxHeartbeats 2000000 in
theorem after_maybe {w : World} {s : ByteArray} {S : List Nat} {L : Nat} {ks : List Rx} {N : Nat} {A : Option Addr} {blk off : Nat} {V : Nat → Nat → Value} (T : AftH w s S L ks N A blk off V) (a b c d cap : Nat) (hN : N = 1) (F : Option Addr) (cf : Nat) (f : Nat → Bool) (hf : IsBo w F (L + 1) f) :
    Calls Tryz.prog 136 #[.agg #[.int .i64 6, .int .u64 (a : Int), .int .u64 (b : Int), .int .u64 (c : Int), .int .u64 (d : Int), .slice A N cap], .string s, .slice F (L + 1) cf] w (AftDone w S L (.mk 6 a b c d ks) f) := by
  have HT := Lib.hid T
  have hL := T.few
  have hs := T.size
  have E := Lib.hid (aft_maybe_eq (S := S) (a := a) (b := b) (c := c) (d := d) (f := f) (T.len.trans hN))
  have hA := T.ptr (by omega)
  subst hN hA
  have MK := fun W => make_bools (L + 1) (by omega) W
  have BX := Lib.hid (fun W => box6 (w := w) (v0 := .int .i64 6) (v1 := .int .u64 (a : Int)) (v2 := .int .u64 (b : Int)) (v3 := .int .u64 (c : Int)) (v4 := .int .u64 (d : Int)) (v5 := .slice (some ⟨blk, off, none⟩) 1 cap) (ty := 135) (W := W))
  obtain ⟨w0, hw0⟩ : ∃ w0, w.alloc (.cells #[.int .i64 6, .int .u64 (a : Int), .int .u64 (b : Int), .int .u64 (c : Int), .int .u64 (d : Int), .slice (some ⟨blk, off, none⟩) 1 cap] 135) = w0 := ⟨_, rfl⟩
  obtain ⟨w1, hw1⟩ : ∃ w1, w0.alloc (.cells (bof (L + 1) fun _ => false).toArray 4) = w1 := ⟨_, rfl⟩
  have MK1 := MK w0
  have wl : IntKind.i64.wrap ((L : Int) + 1) = (L : Int) + 1 := by rw [IntKind.wrap_i64]; omega
  have el : ((L + 1 : Nat) : Int) = (L : Int) + 1 := by simp
  rw [hw1, el] at MK1
  rw [hw0] at BX
  have B01 : Below (w.heap.size + 1) w0 w1 := by
    rw [← hw1]
    have e : w0.heap.size = w.heap.size + 1 := by rw [← hw0]; simp
    rw [← e]
    exact (Below.refl _ _).alloc (Nat.le_refl _) _
  obtain ⟨⟨q0, q1, q2, q3, q4, q5⟩, BW⟩ := BX.out w1 B01
  have BWH := Lib.hid BW
  have c0 := T.cells w1 BW 0 0 (by omega) (by omega)
  have c1 := T.cells w1 BW 0 1 (by omega) (by omega)
  have c2 := T.cells w1 BW 0 2 (by omega) (by omega)
  have c3 := T.cells w1 BW 0 3 (by omega) (by omega)
  have c4 := T.cells w1 BW 0 4 (by omega) (by omega)
  have c5 := T.cells w1 BW 0 5 (by omega) (by omega)
  simp only [Nat.zero_mul, Nat.add_zero] at c0 c1 c2 c3 c4 c5
  have CK := Lib.hid (T.call 0 w1 F cf f (by omega) BW (hf.below BW))
  have JN := Lib.hid (fun q W (hW : Below w1.heap.size w1 W) (ho : OwnB W w1.heap.size q (L + 1) (Rx.aft S (Rx.nth ks 0) f)) => rjoin_any (L + 1) f (Rx.aft S (Rx.nth ks 0) f) F (some ⟨q, 0, none⟩) cf (L + 1) W (by omega) ((hf.below BW).below hW) ho.is)
  unfold val6 at CK
  clear T MK BX B01 BW hf q1 q2 q3 q4
  generalize V 0 0 = v0 at *
  generalize V 0 1 = v1 at *
  generalize V 0 2 = v2 at *
  generalize V 0 3 = v3 at *
  generalize V 0 4 = v4 at *
  generalize V 0 5 = v5 at *
  generalize Rx.aft S (Rx.nth ks 0) f = G at *
  go_enter Tryz.func136, Tryz.ntmps136
  go_wp2_with fail
  refine CK.out.mono ?_
  rintro e w2 ⟨⟨q, rfl, o2⟩, b2⟩
  have d2 := BWH.out.trans (b2.mono BWH.out.size)
  have CJ := Lib.hid (JN.out q w2 b2 o2)
  clear CK JN b2 o2 c0 c1 c2 c3 c4 c5 q0 q5
  go_wp2_with fail
  refine CJ.out.mono ?_
  rintro e w3 ⟨⟨q3, rfl, o3⟩, b3⟩
  have R : Hid (AftDone w S L (.mk 6 a b c d ks) f (.returned (.slice (some ⟨q3, 0, none⟩) (L + 1) (L + 1))) w3) := ⟨⟨q3, rfl, by rw [E.out]; exact o3.base d2.size⟩, d2.trans (b3.mono d2.size)⟩
  clear CJ o3 b3 d2
  go_wp2
  go_ret
  exact R.out

end Go.Proofs.YtlfcjjlgkcfkdaaGreatDoor

