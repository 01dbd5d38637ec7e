/-
  Matchers as mathematics: which may be, which are too large, on which values they hold; their order, lists of them. No conditions.
-/
import Derived.Test.YtjmojjjgifkkiaaDoorZ23
import Derived.Test.YtjmojjjgifkkiaaDoorZ20
namespace Go.Proofs.YtjmojjjgifkkiaaDoor
open Go.RowKit

/-- A matcher: its kind, its name, its value. -/
structure Mat where
  k : Int
  n : ByteArray
  v : ByteArray
/-- Does a pattern have a program; its program. -/
def madeB (s : ByteArray) : Bool := match Pz.parse (txt8 s) with | none => false | some t => Rx.made t
def stepsB (s : ByteArray) : List St := match Pz.parse (txt8 s) with | none => [] | some t => Rx.progL t
namespace Mat
def pat (m : Mat) : Bool := decide (m.k = 3) || decide (m.k = 4)
def okV (m : Mat) : Bool := if m.k = 1 ∨ m.k = 2 then decide (m.v.size ≤ 24) else if m.k = 3 ∨ m.k = 4 then (Pz.parse (txt8 m.v)).isSome else false
def ok (m : Mat) : Bool := La.name m.n && m.okV
def large (m : Mat) : Bool := m.ok && (m.pat && !madeB m.v)
def says (m : Mat) (x : ByteArray) : Bool :=
  m.ok && (if m.k = 1 then x.toList == m.v.toList else if m.k = 2 then !(x.toList == m.v.toList) else madeB m.v && (Sc.vMatch (stepsB m.v) (txt8 x) == decide (m.k = 3)))
def holds (m : Mat) (ls : List La.Lab) : Bool := m.says (La.getL ls m.n)
def bf (a b : Mat) : Bool := if a.n.toList == b.n.toList then (if a.k = b.k then La.lt a.v b.v else decide (a.k < b.k)) else La.lt a.n b.n
def none0 : Mat := ⟨0, ⟨#[]⟩, ⟨#[]⟩⟩
def nth (l : List Mat) (j : Nat) : Mat := l.getD j none0
theorem nth_eq {l : List Mat} {j : Nat} (h : j < l.length) : nth l j = l[j] := by simp [nth, List.getD, List.getElem?_eq_getElem h]
theorem nth_mem {l : List Mat} {j : Nat} (h : j < l.length) : nth l j ∈ l := by rw [nth_eq h]; exact List.getElem_mem h
theorem drop_nth {l : List Mat} {k : Nat} (h : k < l.length) : l.drop k = nth l k :: l.drop (k + 1) := by rw [List.drop_eq_getElem_cons h, nth_eq h]
theorem ext_nth {a b : List Mat} (hl : a.length = b.length) (h : ∀ j, j < a.length → nth a j = nth b j) : a = b := by
  apply List.ext_getElem hl
  intro j h1 h2
  have := h j h1
  rwa [nth_eq h1, nth_eq h2] at this
/-- May the matcher stand at its place in a list? -/
def okAt (l : List Mat) (k : Nat) : Bool := (nth l k).ok && (decide (k = 0) || bf (nth l (k - 1)) (nth l k))
def isList (l : List Mat) : Bool := decide (l.length ≤ 5 ∧ ∀ k, k < l.length → okAt l k = true)
theorem isList_iff {l : List Mat} : isList l = true ↔ l.length ≤ 5 ∧ ∀ k, k < l.length → okAt l k = true := decide_eq_true_iff
theorem isList_no {l : List Mat} (h : ¬ (l.length ≤ 5 ∧ ∀ k, k < l.length → okAt l k = true)) : isList l = false := decide_eq_false h
theorem isList_bad {l : List Mat} {k : Nat} (hk : k < l.length) (h : okAt l k = false) : isList l = false := isList_no fun x => by rw [x.2 k hk] at h; cases h
def anyLarge (l : List Mat) : Bool := l.any large
def allHold (l : List Mat) (ls : List La.Lab) : Bool := l.all fun m => m.holds ls
theorem any_end {l : List Mat} {k : Nat} (h : l.length ≤ k) : anyLarge (l.drop k) = false := by rw [List.drop_of_length_le h]; rfl
theorem any_step {l : List Mat} {k : Nat} (h : k < l.length) : anyLarge (l.drop k) = ((nth l k).large || anyLarge (l.drop (k + 1))) := by rw [drop_nth h]; rfl
theorem all_end {l : List Mat} {ls : List La.Lab} {k : Nat} (h : l.length ≤ k) : allHold (l.drop k) ls = true := by rw [List.drop_of_length_le h]; rfl
theorem all_step {l : List Mat} {ls : List La.Lab} {k : Nat} (h : k < l.length) : allHold (l.drop k) ls = ((nth l k).holds ls && allHold (l.drop (k + 1)) ls) := by rw [drop_nth h]; rfl
/-- What is too large holds nowhere. -/
theorem large_says {m : Mat} (h : m.large = true) (x : ByteArray) : m.says x = false := by
  simp only [large, Bool.and_eq_true, pat, Bool.or_eq_true, decide_eq_true_eq, Bool.not_eq_true'] at h
  obtain ⟨_, hk, hm⟩ := h
  unfold says
  rw [if_neg (by omega), if_neg (by omega), hm]
  simp
theorem bad_says {m : Mat} (h : m.ok = false) (x : ByteArray) : m.says x = false := by unfold says; rw [h]; rfl
end Mat
end Go.Proofs.YtjmojjjgifkkiaaDoor
