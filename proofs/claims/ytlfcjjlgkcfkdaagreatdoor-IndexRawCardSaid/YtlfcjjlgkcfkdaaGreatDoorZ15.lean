/-
  ProgRuns as a contract: chapter 6's runs. No conditions.
  ProgMakes as a contract: the program of any tree, and how many steps it has. No conditions.
  Plain mathematics of chapter 7's consequences: what was made of a pattern matches just what its tree does; two patterns in brackets; one text within another. No conditions.
  Matchers as mathematics: which may be, which are too large, on which values they hold; their order, lists of them. No conditions.
-/
import Derived.Test.YtlfcjjlgkcfkdaaGreatDoorProg
import Derived.Test.YtlfcjjlgkcfkdaaGreatDoorZ01
import Derived.Test.YtlfcjjlgkcfkdaaGreatDoorZ02
import Derived.Test.YtlfcjjlgkcfkdaaGreatDoorZ07
import Derived.Test.YtlfcjjlgkcfkdaaGreatDoorZ08
import Derived.Test.YtlfcjjlgkcfkdaaGreatDoorZ09
import Derived.Test.YtlfcjjlgkcfkdaaGreatDoorZ13
import Derived.Test.YtlfcjjlgkcfkdaaGreatDoorZ14
import Derived.Test.YtlfcjjlgkcfkdaaGreatDoorZ05
import Derived.Test.YtlfcjjlgkcfkdaaGreatDoorZ06
import Derived.Test.YtlfcjjlgkcfkdaaGreatDoorZ11
import Derived.Test.YtlfcjjlgkcfkdaaGreatDoorZ04
import Derived.Test.YtlfcjjlgkcfkdaaGreatDoorZ10
import Derived.Deep.RegionHeld3
import Derived.WalkKit
import Derived.WalkSpells
import Derived.WalkLawsBesides
import Derived.Lib.Hide
import Derived.Below
import Derived.BigQuiet
import Derived.Lib.QuietBelow
import Derived.Laws.StructEq
import Derived.KernelRfl
import Derived.Laws.MakeOwn
import Derived.Laws.OwnMore
import Derived.OwnWalk
import Derived.Laws.CopyOwn
import Derived.Laws.AppendOwn
import Derived.Deep.QuietTactic
import Derived.Lib.Bytealg
import Derived.Laws.Externs
import Derived.Maps.AppendAt
import Derived.StillTailTactics
import Derived.Laws.ResultCell
import Derived.Deep.LoopGhost
import Derived.Deep.MidRow
import Derived.Deep.Upon
import Derived.Deep.Cut
import Derived.Lib.AppendStr
import Derived.Laws.BytesArg
import Derived.Laws.AppendOwnNone
namespace Go.Proofs.YtlfcjjlgkcfkdaaGreatDoor
open Go.RowKit Go.Sort
open Pz

/-- A program that was made, as a row that reads so. -/
theorem MakeRes.yes {w w' : World} {t : Rx} {e : Ending} (h : MakeRes w t e w') (hm : Rx.made t = true) : ∃ A cap, e = .returned (.tuple #[.slice A (Rx.sz t + 1) cap, .bool true]) ∧ IsSt w' A (progOf t) ∧ Below w.heap.size w w' ∧ Rx.sz t + 1 ≤ cap := by
  obtain ⟨hb, ⟨_, g, cap, he, hs⟩ | ⟨hn, _⟩⟩ := h
  · refine ⟨_, cap, he, hs.is, hb, ?_⟩
    rcases hs.2 with ⟨e1, _⟩ | ⟨g', cap', cur, e1, _, _, hc, _⟩
    · cases e1
    · injection e1 with _ _ e3
      subst e3
      rw [progOf, List.length_append, Rx.lay_len] at hc
      exact hc
  · rw [hn] at hm; cases hm
theorem MakeRes.no {w w' : World} {t : Rx} {e : Ending} (h : MakeRes w t e w') (hm : Rx.made t = false) : e = .returned (.tuple #[.slice none 0 0, .bool false]) ∧ Below w.heap.size w w' := by
  obtain ⟨hb, ⟨hy, _⟩ | ⟨_, he⟩⟩ := h
  · rw [hm] at hy; cases hy
  · exact ⟨he, hb⟩

end Go.Proofs.YtlfcjjlgkcfkdaaGreatDoor
namespace Go.Proofs.YtlfcjjlgkcfkdaaGreatDoor
open Go.RowKit Go.Sort
open Pz

/-- The program of a tree, or none. -/
def Rx.progL (t : Rx) : List St := if Rx.made t = true then progOf t else []
theorem MakeRes.all {w w' : World} {t : Rx} {e : Ending} (h : MakeRes w t e w') : ∃ A n cap, e = .returned (.tuple #[.slice A n cap, .bool (Rx.made t)]) ∧ (Rx.progL t).length = n ∧ n ≤ 40 ∧ n ≤ cap ∧ IsSt w' A (Rx.progL t) ∧ Below w.heap.size w w' := by
  cases hm : Rx.made t
  · obtain ⟨he, hb⟩ := h.no hm
    have e0 : Rx.progL t = [] := by unfold Rx.progL; rw [hm]; rfl
    rw [e0]
    exact ⟨none, 0, 0, he, rfl, by omega, by omega, IsSt.nil _ _, hb⟩
  · obtain ⟨A, cap, he, hs, hb, hc⟩ := h.yes hm
    have e0 : Rx.progL t = progOf t := by unfold Rx.progL; rw [if_pos hm]
    rw [e0]
    exact ⟨A, _, cap, he, prog_len t, (Rx.size_yes hm).2.1, hc, hs, hb⟩
theorem Row6.under {w w' : World} {g : Nat} {cs : Array Value} (h : Row6 w g cs) (hb : Below w.heap.size w w') : Row6 w' g cs := h.grow hb
end Go.Proofs.YtlfcjjlgkcfkdaaGreatDoor
namespace Go.Proofs.YtlfcjjlgkcfkdaaGreatDoor
open Pz Sc

/-- What a tree's program matches. -/
theorem vMatch_made {t : Rx} (h : Rx.made t = true) (S : List Nat) : vMatch (Rx.progL t) S = true ↔ Rx.mt S t 0 S.length := by
  have e0 : Rx.progL t = progOf t := by unfold Rx.progL; rw [if_pos h]
  rw [e0, vMatch_iff, acc_iff (Rx.size_yes h).1]
  exact ⟨fun h => h.2, fun h2 => ⟨prog_ok (Rx.size_yes h).2.1, h2⟩⟩
theorem ends_mem {t : Rx} (hr : Rx.isRex t = true) (S : List Nat) : S.length ∈ ends S t 0 ↔ Rx.mt S t 0 S.length := by
  unfold ends
  rw [if_pos ⟨hr, by omega, by omega⟩]
  unfold endsTo
  rw [List.mem_filter, List.mem_range]
  obtain ⟨h1, h2⟩ := Rx.aft_says S t
  rw [h2 (fun j => j == (0 : Int).toNat) S.length (Nat.le_refl _)]
  constructor
  · rintro ⟨_, i, _, h3, h4⟩
    have : i = 0 := by simpa using h3
    rw [this] at h4; exact h4
  · intro h
    exact ⟨by omega, 0, by omega, by simp, h⟩
/-- The last one of what rises. -/
theorem ends_last {t : Rx} (hr : Rx.isRex t = true) (S : List Nat) : (0 < (ends S t 0).length ∧ (ends S t 0).getD ((ends S t 0).length - 1) 0 = S.length) ↔ S.length ∈ ends S t 0 := by
  unfold ends
  rw [if_pos ⟨hr, by omega, by omega⟩]
  unfold endsTo
  rw [List.range_succ, List.filter_append]
  cases hb : Rx.aft S t (fun j => j == (0 : Int).toNat) S.length
  · have e : [S.length].filter (Rx.aft S t fun j => j == (0 : Int).toNat) = [] := by simp only [List.filter_cons, hb, List.filter_nil]; rfl
    rw [e, List.append_nil]
    have no : ∀ x, x ∈ (List.range S.length).filter (Rx.aft S t fun j => j == (0 : Int).toNat) → x < S.length := fun x hx => by rw [List.mem_filter, List.mem_range] at hx; exact hx.1
    generalize (List.range S.length).filter (Rx.aft S t fun j => j == (0 : Int).toNat) = l at *
    constructor
    · rintro ⟨h1, h2⟩
      have hx : l.getD (l.length - 1) 0 ∈ l := by
        rw [List.getD, List.getElem?_eq_getElem (by omega), Option.getD_some]; exact List.getElem_mem _
      have := no _ hx
      omega
    · intro h
      have := no _ h; omega
  · have e : [S.length].filter (Rx.aft S t fun j => j == (0 : Int).toNat) = [S.length] := by simp only [List.filter_cons, hb, List.filter_nil]; rfl
    rw [e]
    generalize (List.range S.length).filter (Rx.aft S t fun j => j == (0 : Int).toNat) = l
    constructor
    · intro _; simp
    · intro _
      refine ⟨by simp, ?_⟩
      rw [List.length_append, List.length_singleton, Nat.add_sub_cancel, List.getD, List.getElem?_append_right (Nat.le_refl _), Nat.sub_self]
      rfl

namespace Rx
/-- A match of a text that lies within another one. -/
theorem Star.map {R R' : Nat → Nat → Prop} {k : Nat} (h : ∀ i j, R i j → R' (k + i) (k + j)) {i j : Nat} (hs : Star R i j) : Star R' (k + i) (k + j) := by
  induction hs with
  | refl => exact .refl _
  | tail _ r ih => exact .tail ih (h _ _ r)
end Rx

namespace Pz
/-- A text lies in another one, a closing bracket behind it. -/
structure Emb (S U : List Nat) (k : Nat) : Prop where
  at_ : ∀ i, i < S.length → pk U (k + i) = pk S i
  end_ : pk U (k + S.length) = 41
  byte : ∀ i, i < S.length → pk S i ≠ 256
theorem pk_out {S : List Nat} {i : Nat} (h : S.length ≤ i) : pk S i = 256 := by unfold pk; rw [List.getD, List.getElem?_eq_none h]; rfl
theorem Emb.is {S U : List Nat} {k : Nat} (h : Emb S U k) {i c : Nat} (hi : i ≤ S.length) (h1 : c ≠ 256) (h2 : c ≠ 41) : pk U (k + i) = c ↔ pk S i = c := by
  rcases Nat.lt_or_ge i S.length with h3 | h3
  · rw [h.at_ i h3]
  · obtain rfl : i = S.length := by omega
    rw [h.end_, pk_out (Nat.le_refl _)]
    omega
/-- What is read with few groups in one another is read with more. -/
def LeG (G G' : Nat → Option (Rx × Nat)) : Prop := ∀ i r, G i = some r → G' i = some r
theorem atom_le {S : List Nat} {n : Nat} {G G' : Nat → Option (Rx × Nat)} (hG : LeG G G') : LeG (atom S n G) (atom S n G') := fun i r hb => by
  unfold atom at hb ⊢
  split at hb
  · rw [if_pos (by assumption)]; exact hG _ _ hb
  · rw [if_neg (by assumption)]; exact hb
theorem factor_le {S : List Nat} {n : Nat} {G G' : Nat → Option (Rx × Nat)} (hG : LeG G G') : LeG (factor S n G) (factor S n G') := fun i r hb => by
  unfold factor at hb ⊢
  split at hb
  · cases hb
  · rename_i x m h1
    rw [atom_le hG _ _ h1]; exact hb
theorem way_le {S : List Nat} {n : Nat} {G G' : Nat → Option (Rx × Nat)} (hG : LeG G G') : ∀ m l, LeG (way S n G m l) (way S n G' m l)
  | 0, l => fun i r hb => by rw [way] at hb; cases hb
  | m + 1, l => fun i r hb => by
    rw [way] at hb ⊢
    split at hb
    · rw [if_pos (by assumption)]; exact hb
    · rw [if_neg (by assumption)]
      split at hb
      · cases hb
      · rename_i x m2 h1
        rw [factor_le hG _ _ h1]; exact way_le hG m _ _ _ hb
theorem ways_le {S : List Nat} {n : Nat} {G G' : Nat → Option (Rx × Nat)} (hG : LeG G G') : ∀ m l, LeG (ways S n G m l) (ways S n G' m l)
  | 0, l => fun i r hb => by rw [ways] at hb; cases hb
  | m + 1, l => fun i r hb => by
    rw [ways] at hb ⊢
    split at hb
    · cases hb
    · rename_i x m2 h1
      rw [way_le hG n _ _ _ h1]
      simp only
      split at hb
      · rw [if_pos (by assumption)]; exact ways_le hG m _ _ _ hb
      · rw [if_neg (by assumption)]; exact hb
theorem group_le (S : List Nat) (n : Nat) : ∀ d, LeG (group S n d) (group S n (d + 1))
  | 0 => fun i r hb => by rw [group] at hb; cases hb
  | d + 1 => fun i r hb => by
    rw [group] at hb ⊢
    split at hb
    · cases hb
    · rename_i x m h1
      rw [ways_le (group_le S n d) _ _ _ _ h1]; exact hb
end Pz

end Go.Proofs.YtlfcjjlgkcfkdaaGreatDoor
namespace Go.Proofs.YtlfcjjlgkcfkdaaGreatDoor
open Go.RowKit

/-- A matcher: its kind, its name, its value. -/
structure Mat where
  k : Int
  n : ByteArray
  v : ByteArray
/-- Does a pattern have a program; its program. -/
def madeB (s : ByteArray) : Bool := match Pz.parse (txt8 s) with | none => false | some t => Rx.made t
def stepsB (s : ByteArray) : List St := match Pz.parse (txt8 s) with | none => [] | some t => Rx.progL t
namespace Mat
def pat (m : Mat) : Bool := decide (m.k = 3) || decide (m.k = 4)
def okV (m : Mat) : Bool := if m.k = 1 ∨ m.k = 2 then decide (m.v.size ≤ 24) else if m.k = 3 ∨ m.k = 4 then (Pz.parse (txt8 m.v)).isSome else false
def ok (m : Mat) : Bool := La.name m.n && m.okV
def large (m : Mat) : Bool := m.ok && (m.pat && !madeB m.v)
def says (m : Mat) (x : ByteArray) : Bool :=
  m.ok && (if m.k = 1 then x.toList == m.v.toList else if m.k = 2 then !(x.toList == m.v.toList) else madeB m.v && (Sc.vMatch (stepsB m.v) (txt8 x) == decide (m.k = 3)))
def holds (m : Mat) (ls : List La.Lab) : Bool := m.says (La.getL ls m.n)
def bf (a b : Mat) : Bool := if a.n.toList == b.n.toList then (if a.k = b.k then La.lt a.v b.v else decide (a.k < b.k)) else La.lt a.n b.n
def none0 : Mat := ⟨0, ⟨#[]⟩, ⟨#[]⟩⟩
def nth (l : List Mat) (j : Nat) : Mat := l.getD j none0
theorem nth_eq {l : List Mat} {j : Nat} (h : j < l.length) : nth l j = l[j] := by simp [nth, List.getD, List.getElem?_eq_getElem h]
theorem nth_mem {l : List Mat} {j : Nat} (h : j < l.length) : nth l j ∈ l := by rw [nth_eq h]; exact List.getElem_mem h
theorem drop_nth {l : List Mat} {k : Nat} (h : k < l.length) : l.drop k = nth l k :: l.drop (k + 1) := by rw [List.drop_eq_getElem_cons h, nth_eq h]
theorem ext_nth {a b : List Mat} (hl : a.length = b.length) (h : ∀ j, j < a.length → nth a j = nth b j) : a = b := by
  apply List.ext_getElem hl
  intro j h1 h2
  have := h j h1
  rwa [nth_eq h1, nth_eq h2] at this
/-- May the matcher stand at its place in a list? -/
def okAt (l : List Mat) (k : Nat) : Bool := (nth l k).ok && (decide (k = 0) || bf (nth l (k - 1)) (nth l k))
def allHold (l : List Mat) (ls : List La.Lab) : Bool := l.all fun m => m.holds ls
theorem all_end {l : List Mat} {ls : List La.Lab} {k : Nat} (h : l.length ≤ k) : allHold (l.drop k) ls = true := by rw [List.drop_of_length_le h]; rfl
theorem all_step {l : List Mat} {ls : List La.Lab} {k : Nat} (h : k < l.length) : allHold (l.drop k) ls = ((nth l k).holds ls && allHold (l.drop (k + 1)) ls) := by rw [drop_nth h]; rfl
/-- What is too large holds nowhere. -/
theorem large_says {m : Mat} (h : m.large = true) (x : ByteArray) : m.says x = false := by
  simp only [large, Bool.and_eq_true, pat, Bool.or_eq_true, decide_eq_true_eq, Bool.not_eq_true'] at h
  obtain ⟨_, hk, hm⟩ := h
  unfold says
  rw [if_neg (by omega), if_neg (by omega), hm]
  simp
end Mat

end Go.Proofs.YtlfcjjlgkcfkdaaGreatDoor

