/-
  More steps for a statement whose order Go leaves open: an operation that alone may come up and that makes or writes memory; two that may come up in either order. No conditions; nothing of any program.
  What the reference's after does at a node of bytes. Conditions: no more than 100 places; words have 64 bits.
  Plain mathematics of chapter 5: a pattern's bytes are read as a tree. No conditions.
  Bools copied into a row of one's own; what the reference's after does at a node 'any number of times', where its kid's calls do as they should. Conditions: no more than 100 places.
-/
import Derived.Test.YtlfcjjlgkcfkdaaGreatDoorProg
import Derived.Test.YtlfcjjlgkcfkdaaGreatDoorZ03
import Derived.Test.YtlfcjjlgkcfkdaaGreatDoorZ01
import Derived.Test.YtlfcjjlgkcfkdaaGreatDoorZ02
import Derived.Laws.AppendOwn
import Derived.Deep.RegionHeld3
import Derived.WalkKit
import Derived.WalkSpells
import Derived.WalkLawsBesides
import Derived.Lib.Hide
import Derived.Below
import Derived.BigQuiet
import Derived.Lib.QuietBelow
import Derived.Laws.StructEq
import Derived.KernelRfl
import Derived.Laws.MakeOwn
import Derived.Laws.OwnMore
import Derived.OwnWalk
import Derived.Laws.CopyOwn
namespace Go.Proofs.YtlfcjjlgkcfkdaaGreatDoor
section
variable {P : Program} {md : Region.Mode} {ops : Array Oper} {Q : Exit → Act → World → Prop} {S : World → Prop}

theorem held_op (i : Nat) {oi : Oper} {fuel : Nat} {listed : Array Bool} {a : Act} {w : World} (hi : ops[i]? = some oi)
    (hr : Region.ready md ops listed = [i]) (hw : Region.wanted oi (yielded ops a.tmps) = true)
    (h : oi.wp P a w (fun a' w' => S w' ∧ wpAnyH P md ops Q S fuel (listed.setIfInBounds i true) a' w') Q) : wpAnyH P md ops Q S (fuel + 1) listed a w := by
  refine wpAnyH_all hr (by simp) fun j hj => ?_
  obtain rfl : j = i := by simpa using hj
  unfold wpOp
  simp only [hi, hw, if_true]
  exact .inl h

theorem held_two (i j : Nat) {oi oj : Oper} {fuel : Nat} {listed : Array Bool} {a : Act} {w : World} (hi : ops[i]? = some oi) (hj : ops[j]? = some oj)
    (hr : Region.ready md ops listed = [i, j]) (hwi : Region.wanted oi (yielded ops a.tmps) = true) (hwj : Region.wanted oj (yielded ops a.tmps) = true)
    (h1 : oi.wp P a w (fun a' w' => S w' ∧ wpAnyH P md ops Q S fuel (listed.setIfInBounds i true) a' w') Q)
    (h2 : oj.wp P a w (fun a' w' => S w' ∧ wpAnyH P md ops Q S fuel (listed.setIfInBounds j true) a' w') Q) : wpAnyH P md ops Q S (fuel + 1) listed a w := by
  refine wpAnyH_all hr (by simp) fun k hk => ?_
  have hk' : k = i ∨ k = j := by simpa using hk
  rcases hk' with rfl | rfl
  · unfold wpOp
    simp only [hi, hwi, if_true]
    exact .inl h1
  · unfold wpOp
    simp only [hj, hwj, if_true]
    exact .inl h2

/-- An operation that yields a value and another world. -/
theorem wp_run {o : Oper} {ts : Array Value} {ds : List Deferred} {w w' : World} {v : Value} {d : Nat} {K : Act → World → Prop} {Q : Exit → Act → World → Prop} (hd : o.dst = some d)
    (hx : (execOp (Act.mk ts ds).eval o).run P w = .ok (.value v) w') (h : K ⟨ts.setIfInBounds d v, ds⟩ w') : o.wp P ⟨ts, ds⟩ w K Q := by
  unfold Oper.wp
  rw [hx]
  show K _ _
  rw [hd]; exact h
/-- A call. -/
theorem wp_call {o : Oper} {ts : Array Value} {ds : List Deferred} {w : World} {f : FuncId} {args : Array Value} {d : Nat} {K : Act → World → Prop} {Q : Exit → Act → World → Prop} (hd : o.dst = some d)
    (hx : (execOp (Act.mk ts ds).eval o).run P w = .ok (.enter f args) w) (h : Calls P f args w fun e w' => ∃ v, e = .returned v ∧ K ⟨ts.setIfInBounds d v, ds⟩ w') : o.wp P ⟨ts, ds⟩ w K Q := by
  unfold Oper.wp
  rw [hx]
  refine Calls.mono h fun e w' he => ?_
  obtain ⟨v, rfl, hh⟩ := he
  show K _ _
  rw [hd]; exact hh
/-- An operation that yields nothing, and another world. -/
theorem wp_skip {o : Oper} {a : Act} {w w' : World} {K : Act → World → Prop} {Q : Exit → Act → World → Prop} (hd : o.dst = none)
    (hx : (execOp a.eval o).run P w = .ok .skip w') (h : K a w') : o.wp P a w K Q := by
  unfold Oper.wp
  rw [hx]
  show K (a.put o.dst undef) _
  rw [hd]; exact h
end


end Go.Proofs.YtlfcjjlgkcfkdaaGreatDoor
namespace Go.Proofs.YtlfcjjlgkcfkdaaGreatDoor
open Go.RowKit Go.Sort

/-- A text's bytes. -/
def txt8 (s : ByteArray) : List Nat := s.data.toList.map UInt8.toNat
theorem txt8_len (s : ByteArray) : (txt8 s).length = s.size := by rw [txt8, List.length_map, Array.length_toList]; rfl
theorem txt8_lt (s : ByteArray) (j : Nat) : (txt8 s).getD j 0 < 256 := by
  by_cases hj : j < (txt8 s).length
  · have : (txt8 s)[j]'hj < 256 := by simp [txt8]; exact UInt8.toNat_lt _
    simpa [List.getD, List.getElem?_eq_getElem hj] using this
  · simp [List.getD, List.getElem?_eq_none (show (txt8 s).length ≤ j by omega)]
theorem txt8_at (w : World) (s : ByteArray) (j : Nat) (h : j < s.size) : (Instr.index 9 (.string s) (.int .i64 (j : Int))).run Tryz.prog w = .ok (.int .u8 (((txt8 s).getD j 0 : Nat) : Int)) w := by
  have e : s[j]? = some s[j] := by simp [h]
  have e2 : (txt8 s).getD j 0 = (s[j]).toNat := by
    have : j < s.data.size := h
    rw [txt8, List.getD, List.getElem?_map, Array.getElem?_toList, Array.getElem?_eq_getElem this]
    rfl
  rw [e2]
  simp [Instr.index, run_underlying Tryz.underlying9, asIntOf, go_sem, e]
end Go.Proofs.YtlfcjjlgkcfkdaaGreatDoor
namespace Go.Proofs.YtlfcjjlgkcfkdaaGreatDoor
namespace Pz
/-- The byte at a place; 256: none. -/
def pk (S : List Nat) (i : Nat) : Nat := S.getD i 256
def special (c : Nat) : Bool := c == 124 || c == 42 || c == 43 || c == 63 || c == 40 || c == 41 || c == 91 || c == 93 || c == 46 || c == 92
def inside (c : Nat) : Bool := c == 92 || c == 93 || c == 91 || c == 94 || c == 45
def quotable (c : Nat) : Bool := special c || c == 94 || c == 45
/-- A byte that is none of these, or a quoted one. -/
def byte1 (S : List Nat) (but : Nat → Bool) (i : Nat) : Option (Nat × Nat) :=
  if pk S i = 92 then (if quotable (pk S (i + 1)) then some (pk S (i + 1), i + 2) else none)
  else if pk S i = 256 ∨ but (pk S i) = true then none else some (pk S i, i + 1)
/-- One byte more in a set of four words. -/
def put (W : Nat → Nat) (c : Nat) : Nat → Nat := fun k => if k = c / 64 then W k ||| 2 ^ (c % 64) else W k
/-- n bytes from lo on. -/
def span (W : Nat → Nat) (lo : Nat) : Nat → Nat → Nat
  | 0 => W
  | n + 1 => put (span W lo n) (lo + n)
def none4 : Nat → Nat := fun _ => 0
def join (V W : Nat → Nat) : Nat → Nat := fun k => V k ||| W k
def neg (W : Nat → Nat) : Nat → Nat := fun k => 18446744073709551615 - W k
/-- A byte, or two with a - between them: from, to. -/
def item (S : List Nat) (i : Nat) : Option (Nat × Nat × Nat) :=
  match byte1 S inside i with
  | none => none
  | some (lo, j) =>
    if pk S j = 45 then
      match byte1 S inside (j + 1) with
      | none => none
      | some (hi, k) => if hi < lo then none else some (lo, hi, k)
    else some (lo, lo, j)
/-- Items up to a closing bracket. -/
def items (S : List Nat) : Nat → (Nat → Nat) → Nat → Option ((Nat → Nat) × Nat)
  | 0, _, _ => none
  | n + 1, W, i =>
    if pk S i = 93 then some (W, i + 1)
    else match item S i with
      | none => none
      | some (lo, hi, j) => items S n (span W lo (hi + 1 - lo)) j
def setOf (W : Nat → Nat) : Rx := .mk 1 (W 0) (W 1) (W 2) (W 3) []
/-- The choice of bytes behind its opening bracket. -/
def class1 (S : List Nat) (n : Nat) (i : Nat) : Option (Rx × Nat) :=
  let j := if pk S i = 94 then i + 1 else i
  match item S j with
  | none => none
  | some (lo, hi, k) =>
    match items S n (span none4 lo (hi + 1 - lo)) k with
    | none => none
    | some (W, m) => some (setOf (if pk S i = 94 then neg W else W), m)
/-- A group, or what stands for one byte. -/
def atom (S : List Nat) (n : Nat) (G : Nat → Option (Rx × Nat)) (i : Nat) : Option (Rx × Nat) :=
  if pk S i = 40 then G (i + 1)
  else if pk S i = 91 then class1 S n (i + 1)
  else if pk S i = 46 then some (setOf (neg none4), i + 1)
  else match byte1 S special i with
    | none => none
    | some (c, j) => some (setOf (put none4 c), j)
def rep (op : Int) (x : Rx) : Rx := .mk op 0 0 0 0 [x]
def factor (S : List Nat) (n : Nat) (G : Nat → Option (Rx × Nat)) (i : Nat) : Option (Rx × Nat) :=
  match atom S n G i with
  | none => none
  | some (x, j) => if pk S j = 42 then some (rep 4 x, j + 1) else if pk S j = 43 then some (rep 5 x, j + 1) else if pk S j = 63 then some (rep 6 x, j + 1) else some (x, j)
def joined (op : Int) : List Rx → Rx
  | [x] => x
  | l => .mk op 0 0 0 0 l
/-- Factors up to the end of a way, behind those that are there. -/
def way (S : List Nat) (n : Nat) (G : Nat → Option (Rx × Nat)) : Nat → List Rx → Nat → Option (Rx × Nat)
  | 0, _, _ => none
  | m + 1, l, i =>
    if pk S i = 256 ∨ pk S i = 124 ∨ pk S i = 41 then some (joined 2 l, i)
    else match factor S n G i with
      | none => none
      | some (x, j) => way S n G m (l ++ [x]) j
/-- Ways with | between, behind those that are there. -/
def ways (S : List Nat) (n : Nat) (G : Nat → Option (Rx × Nat)) : Nat → List Rx → Nat → Option (Rx × Nat)
  | 0, _, _ => none
  | m + 1, l, i =>
    match way S n G n [] i with
    | none => none
    | some (x, j) => if pk S j = 124 then ways S n G m (l ++ [x]) (j + 1) else some (joined 3 (l ++ [x]), j)
/-- The rest of a group behind its opening bracket, so many groups deep. -/
def group (S : List Nat) (n : Nat) : Nat → Nat → Option (Rx × Nat)
  | 0, _ => none
  | d + 1, i =>
    match ways S n (group S n d) n [] i with
    | none => none
    | some (x, j) => if pk S j = 41 then some (x, j + 1) else none
/-- The tree of a pattern. -/
def parse (S : List Nat) : Option Rx :=
  if 40 < S.length then none
  else match ways S 42 (group S 42 8) 42 [] 0 with
    | none => none
    | some (x, j) => if j < S.length then none else some x
example : (parse [97, 42, 124, 98]).isSome = true := by decide +kernel
example : (parse [97, 42, 42]).isSome = false := by decide +kernel
example : (parse [40, 97, 41, 91, 97, 45, 122, 93]).isSome = true := by decide +kernel
end Pz

end Go.Proofs.YtlfcjjlgkcfkdaaGreatDoor
namespace Go.Proofs.YtlfcjjlgkcfkdaaGreatDoor
open Go.RowKit Go.Sort

theorem OwnB.heap {w : World} {base g n : Nat} {f : Nat → Bool} (h : OwnB w base g n f) : w.heap[g]? = some (.cells (bof n f).toArray 4 (0, 0)) ∧ base ≤ g := by
  rcases h.2 with ⟨e, _⟩ | ⟨g', cap, cur, e, hb, hg, _, _, hs, ht⟩
  · cases e
  · injection e with e1 e2 e3
    injection e1 with e1
    injection e1 with e1
    subst e1 e3
    refine ⟨?_, hb⟩
    rw [hg]
    have : cur.toList = bof n f := by rw [← ht, List.take_of_length_le (by rw [Array.length_toList]; omega)]
    rw [← this]
theorem OwnB.of_heap {w : World} {base g n : Nat} {f : Nat → Bool} (h : w.heap[g]? = some (.cells (bof n f).toArray 4 (0, 0))) (hb : base ≤ g) (hn : n ≤ 1000) : OwnB w base g n f :=
  ⟨by rw [bof_len]; omega, .inr ⟨g, n, _, rfl, hb, h, Nat.le_refl _, by unfold maxLen; omega, by simp [bof_len], by simp [bof_len, List.take_of_length_le]⟩⟩
end Go.Proofs.YtlfcjjlgkcfkdaaGreatDoor

