/-
  Plain mathematics of chapter 6: the steps of a tree, how many there are, what may be a program. No conditions.
  Rows of bools in a walk (places of a text); what the reference's join and same do. Conditions: no more than 1000 places.
  What the reference's same and Has do. Conditions: no more than 1000 places; words have 64 bits, a byte 8.
  Plain mathematics of chapter 5: where the matches of a tree end (mt), and that the reference's way of reckoning it by sets of places (aft) says just that. No conditions.
-/
import Derived.Test.YtlfcjjlgkcfkdaaGreatDoorProg
import Derived.Test.YtlfcjjlgkcfkdaaGreatDoorZ01
import Derived.Deep.RegionHeld3
import Derived.WalkKit
import Derived.WalkSpells
import Derived.WalkLawsBesides
import Derived.Lib.Hide
import Derived.Below
import Derived.BigQuiet
import Derived.Lib.QuietBelow
import Derived.Laws.StructEq
import Derived.KernelRfl
import Derived.Laws.MakeOwn
import Derived.Laws.OwnMore
import Derived.OwnWalk
namespace Go.Proofs.YtlfcjjlgkcfkdaaGreatDoor
namespace Rx
mutual
/-- How many steps a tree has. -/
def sz : Rx → Nat
  | .mk op _ _ _ _ ks => if op = 1 then 1 else if op = 3 then szL ks + 2 * (ks.length - 1) else if op = 4 then szL ks + 2 else if op = 5 then szL ks + 1 else if op = 6 then szL ks + 1 else szL ks
def szL : List Rx → Nat
  | [] => 0
  | k :: r => sz k + szL r
end
theorem szL_app : ∀ (l r : List Rx), szL (l ++ r) = szL l + szL r
  | [], r => by simp [szL]
  | k :: l, r => by simp only [List.cons_append, szL]; rw [szL_app l r]; omega
theorem szL_one (k : Rx) : szL [k] = sz k := by simp [szL]
mutual
theorem sz_le : ∀ t : Rx, sz t + 2 ≤ 4 * count t
  | .mk op a b c d ks => by
    have h := szL_le ks
    have hc := len_count ks
    rw [sz, count]
    split
    · omega
    · split
      · omega
      · split
        · omega
        · split
          · omega
          · split <;> omega
theorem szL_le : ∀ ks : List Rx, szL ks + 2 * ks.length ≤ 4 * countL ks
  | [] => by simp [szL, countL]
  | k :: r => by have := sz_le k; have := szL_le r; rw [szL, countL, List.length_cons]; omega
end
theorem take_nth {ks : List Rx} {j : Nat} (h : j < ks.length) : ks.take (j + 1) = ks.take j ++ [nth ks j] := by
  rw [List.take_add_one, List.getElem?_eq_getElem h, nth_eq h]; rfl
theorem szL_take {ks : List Rx} {j : Nat} (h : j < ks.length) : szL (ks.take (j + 1)) = szL (ks.take j) + sz (nth ks j) := by rw [take_nth h, szL_app, szL_one]
theorem szL_all {ks : List Rx} {j : Nat} (h : ks.length ≤ j) : szL (ks.take j) = szL ks := by rw [List.take_of_length_le h]
theorem szL_sum (ks : List Rx) (j : Nat) : szL (ks.take j) ≤ szL ks := by
  have := szL_app (ks.take j) (ks.drop j)
  rw [List.take_append_drop] at this; omega
theorem countL_app : ∀ (l r : List Rx), countL (l ++ r) = countL l + countL r
  | [], r => by simp [countL]
  | k :: l, r => by simp only [List.cons_append, countL]; rw [countL_app l r]; omega
end Rx

/-- A step. -/
structure St where
  op : Int
  a : Nat
  b : Nat
  c : Nat
  d : Nat
  x : Int
  y : Int
deriving DecidableEq
namespace St
def byte (a b c d : Nat) : St := ⟨1, a, b, c, d, 0, 0⟩
def split (x y : Nat) : St := ⟨2, 0, 0, 0, 0, x, y⟩
def jump (x : Nat) : St := ⟨3, 0, 0, 0, 0, x, 0⟩
def mat : St := ⟨4, 0, 0, 0, 0, 0, 0⟩
def nil : St := ⟨0, 0, 0, 0, 0, 0, 0⟩
end St
namespace Rx
mutual
/-- The steps of a tree, the first one at index n. -/
def lay (n : Nat) : Rx → List St
  | .mk op a b c d ks =>
    if op = 1 then [St.byte a b c d]
    else if op = 3 then ways n (n + (szL ks + 2 * (ks.length - 1))) ks
    else if op = 4 then St.split (n + 1) (n + 2 + szL ks) :: (layL (n + 1) ks ++ [St.jump n])
    else if op = 5 then layL n ks ++ [St.split n (n + szL ks + 1)]
    else if op = 6 then St.split (n + 1) (n + 1 + szL ks) :: layL (n + 1) ks
    else layL n ks
def layL (n : Nat) : List Rx → List St
  | [] => []
  | k :: r => lay n k ++ layL (n + sz k) r
def ways (n e : Nat) : List Rx → List St
  | [] => []
  | k :: r => if r.isEmpty then lay n k else St.split (n + 1) (n + 2 + sz k) :: (lay (n + 1) k ++ St.jump e :: ways (n + 2 + sz k) e r)
end
mutual
theorem lay_len : ∀ (t : Rx) (n : Nat), (lay n t).length = sz t
  | .mk op a b c d ks, n => by
    rw [lay, sz]
    split
    · rfl
    · split
      · exact ways_len ks n _
      · split
        · rw [List.length_cons, List.length_append, layL_len ks]; rfl
        · split
          · rw [List.length_append, layL_len ks]; rfl
          · split
            · rw [List.length_cons, layL_len ks]
            · exact layL_len ks n
theorem layL_len : ∀ (ks : List Rx) (n : Nat), (layL n ks).length = szL ks
  | [], n => rfl
  | k :: r, n => by rw [layL, szL, List.length_append, lay_len k, layL_len r]
theorem ways_len : ∀ (ks : List Rx) (n e : Nat), (ways n e ks).length = szL ks + 2 * (ks.length - 1)
  | [], n, e => rfl
  | k :: r, n, e => by
    rw [ways]
    rcases r with _ | ⟨k2, r2⟩
    · simp [szL, lay_len k]
    · have h := ways_len (k2 :: r2) (n + 2 + sz k) e
      rw [if_neg (by simp), List.length_cons, List.length_append, List.length_cons, lay_len k, h]
      simp only [szL, List.length_cons]
      omega
end
theorem layL_app : ∀ (l r : List Rx) (n : Nat), layL n (l ++ r) = layL n l ++ layL (n + szL l) r
  | [], r, n => by simp [szL, layL]
  | k :: l, r, n => by rw [List.cons_append, layL, layL_app l r, layL, szL, List.append_assoc, Nat.add_assoc]
theorem layL_one (n : Nat) (k : Rx) : layL n [k] = lay n k := by rw [layL, layL, List.append_nil]
theorem layL_take {ks : List Rx} {j : Nat} (h : j < ks.length) (n : Nat) : layL n (ks.take (j + 1)) = layL n (ks.take j) ++ lay (n + szL (ks.take j)) (nth ks j) := by
  rw [take_nth h, layL_app, layL_one]
/-- All but the last one of some ways: the i-th one jumps to f i. -/
def pre (f : Nat → Nat) (n i : Nat) : List Rx → List St
  | [] => []
  | k :: r => St.split (n + 1) (n + 2 + sz k) :: (lay (n + 1) k ++ St.jump (f i) :: pre f (n + 2 + sz k) (i + 1) r)
/-- How many steps these are. -/
def szW : List Rx → Nat
  | [] => 0
  | k :: r => 2 + sz k + szW r
theorem szW_app : ∀ (l r : List Rx), szW (l ++ r) = szW l + szW r
  | [], r => by simp [szW]
  | k :: l, r => by simp only [List.cons_append, szW]; rw [szW_app l r]; omega
theorem szW_eq : ∀ l : List Rx, szW l = szL l + 2 * l.length
  | [] => rfl
  | k :: l => by rw [szW, szL, List.length_cons, szW_eq l]; omega
theorem pre_len (f : Nat → Nat) : ∀ (l : List Rx) (n i : Nat), (pre f n i l).length = szW l
  | [], n, i => rfl
  | k :: l, n, i => by rw [pre, szW, List.length_cons, List.length_append, List.length_cons, lay_len, pre_len f l]; omega
theorem pre_snoc (f : Nat → Nat) (k : Rx) : ∀ (l : List Rx) (n i : Nat), pre f n i (l ++ [k]) = pre f n i l ++ St.split (n + szW l + 1) (n + szW l + 2 + sz k) :: (lay (n + szW l + 1) k ++ [St.jump (f (i + l.length))])
  | [], n, i => by simp [pre, szW]
  | x :: l, n, i => by
    rw [List.cons_append, pre, pre_snoc f k l, pre, szW, List.length_cons]
    have e : n + 2 + sz x + szW l = n + (2 + sz x + szW l) := by omega
    have e2 : i + 1 + l.length = i + (l.length + 1) := by omega
    rw [e, e2]
    simp
theorem pre_congr {f g : Nat → Nat} : ∀ (l : List Rx) (n i : Nat), (∀ j, i ≤ j → j < i + l.length → f j = g j) → pre f n i l = pre g n i l
  | [], n, i, _ => rfl
  | k :: l, n, i, h => by
    rw [pre, pre, h i (Nat.le_refl _) (by simp), pre_congr l (n + 2 + sz k) (i + 1) fun j h1 h2 => h j (by omega) (by simp at h2 ⊢; omega)]
theorem ways_pre (e : Nat) (k : Rx) : ∀ (l : List Rx) (n i : Nat), ways n e (l ++ [k]) = pre (fun _ => e) n i l ++ lay (n + szW l) k
  | [], n, i => by simp [ways, pre, szW]
  | x :: l, n, i => by
    rw [List.cons_append, ways, if_neg (by simp), ways_pre e k l (n + 2 + sz x) (i + 1), pre, szW]
    have e1 : n + 2 + sz x + szW l = n + (2 + sz x + szW l) := by omega
    rw [e1]
    simp
theorem last_split {ks : List Rx} (h : 0 < ks.length) : ks = ks.take (ks.length - 1) ++ [nth ks (ks.length - 1)] := by
  have := take_nth (ks := ks) (j := ks.length - 1) (by omega)
  rw [show ks.length - 1 + 1 = ks.length by omega, List.take_length] at this
  exact this
theorem ways_eq {ks : List Rx} (h : 0 < ks.length) (n e : Nat) : ways n e ks = pre (fun _ => e) n 0 (ks.take (ks.length - 1)) ++ lay (n + szW (ks.take (ks.length - 1))) (nth ks (ks.length - 1)) := by
  conv => lhs; rw [last_split h]
  exact ways_pre e _ _ n 0
/-- Where the jumps lie. -/
def jpos (n : Nat) : List Rx → List Nat
  | [] => []
  | k :: r => (n + 1 + sz k) :: jpos (n + 2 + sz k) r
theorem jpos_len : ∀ (l : List Rx) (n : Nat), (jpos n l).length = l.length
  | [], n => rfl
  | k :: l, n => by rw [jpos, List.length_cons, jpos_len l, List.length_cons]
theorem jpos_snoc (k : Rx) : ∀ (l : List Rx) (n : Nat), jpos n (l ++ [k]) = jpos n l ++ [n + szW l + 1 + sz k]
  | [], n => by simp [jpos, szW]
  | x :: l, n => by
    rw [List.cons_append, jpos, jpos_snoc k l, jpos, szW]
    have e : n + 2 + sz x + szW l = n + (2 + sz x + szW l) := by omega
    rw [e]; rfl
theorem jpos_get : ∀ (l : List Rx) (n j : Nat), j < l.length → ∃ p, (jpos n l)[j]? = some p ∧ n ≤ p ∧ p < n + szW l ∧ ∀ (f g : Nat → Nat) (i e : Nat), g (i + j) = e → (∀ m, m ≠ i + j → g m = f m) → (pre f n i l).set (p - n) (St.jump e) = pre g n i l ∧ (pre f n i l)[p - n]? = some (St.jump (f (i + j)))
  | k :: l, n, 0, _ => by
    refine ⟨n + 1 + sz k, rfl, by omega, by rw [szW]; omega, fun f g i e hg hf => ?_⟩
    have e1 : n + 1 + sz k - n = (St.split (n + 1) (n + 2 + sz k) :: lay (n + 1) k).length := by rw [List.length_cons, lay_len]; omega
    have e2 : ∀ f, pre f n i (k :: l) = (St.split (n + 1) (n + 2 + sz k) :: lay (n + 1) k) ++ St.jump (f i) :: pre f (n + 2 + sz k) (i + 1) l := fun f => by rw [pre]; simp
    rw [e1, e2, e2, List.set_append_right _ _ (Nat.le_refl _), Nat.sub_self, List.set_cons_zero, ← hg, Nat.add_zero, pre_congr (f := f) (g := g) l (n + 2 + sz k) (i + 1) fun j h1 h2 => (hf j (by omega)).symm]
    exact ⟨rfl, by rw [List.getElem?_append_right (Nat.le_refl _), Nat.sub_self]; rfl⟩
  | k :: l, n, j + 1, h => by
    obtain ⟨p, h1, h2, h3, h4⟩ := jpos_get l (n + 2 + sz k) j (by simpa using h)
    refine ⟨p, h1, by omega, by rw [szW]; omega, fun f g i e hg hf => ?_⟩
    have e2 : ∀ f, pre f n i (k :: l) = (St.split (n + 1) (n + 2 + sz k) :: (lay (n + 1) k ++ [St.jump (f i)])) ++ pre f (n + 2 + sz k) (i + 1) l := fun f => by rw [pre]; simp
    have hl : (St.split (n + 1) (n + 2 + sz k) :: (lay (n + 1) k ++ [St.jump (f i)])).length = 2 + sz k := by simp [lay_len]; omega
    obtain ⟨q1, q2⟩ := h4 f g (i + 1) e (by rw [← hg]; congr 1; omega) (fun m hm => hf m (by omega))
    have e3 : p - n - (2 + sz k) = p - (n + 2 + sz k) := by omega
    rw [e2, e2, List.set_append_right _ _ (by rw [hl]; omega), hl, e3, q1, hf i (by omega)]
    refine ⟨rfl, ?_⟩
    rw [← hf i (by omega), List.getElem?_append_right (by simp [lay_len]; omega)]
    have hl2 : (St.split (n + 1) (n + 2 + sz k) :: (lay (n + 1) k ++ [St.jump (g i)])).length = 2 + sz k := by simp [lay_len]; omega
    rw [hl2, e3, q2]
    congr 3; omega
end Rx

/-- May a step be in a program of n? -/
def okIdx (i : Int) (n : Nat) : Bool := decide (0 ≤ i) && decide (i < n)
def St.bare (s : St) : Bool := s.a == 0 && s.b == 0 && s.c == 0 && s.d == 0
def St.ok (s : St) (n : Nat) : Bool :=
  if s.op = 1 then s.x == 0 && s.y == 0
  else s.bare && (if s.op = 2 then okIdx s.x n && okIdx s.y n else if s.op = 3 then okIdx s.x n && s.y == 0 else if s.op = 4 then s.x == 0 && s.y == 0 else false)
def lastOp (l : List St) : Int := (l.getLastD St.nil).op
/-- Are steps a program? -/
def progOk (l : List St) : Bool := decide (1 ≤ l.length) && decide (l.length ≤ 40) && l.all (fun s => s.ok l.length) && decide (lastOp l ≠ 1)
/-- The program of a tree. -/
def progOf (t : Rx) : List St := Rx.lay 0 t ++ [St.mat]
theorem prog_len (t : Rx) : (progOf t).length = Rx.sz t + 1 := by rw [progOf, List.length_append, Rx.lay_len]; rfl
end Go.Proofs.YtlfcjjlgkcfkdaaGreatDoor
namespace Go.Proofs.YtlfcjjlgkcfkdaaGreatDoor
open Go.RowKit Go.Sort

/-- n bools as cells. -/
def bof (n : Nat) (f : Nat → Bool) : List Value := (List.range n).map fun i => Value.bool (f i)
theorem bof_len (n : Nat) (f : Nat → Bool) : (bof n f).length = n := by simp [bof]
theorem bof_get {n : Nat} {f : Nat → Bool} {j : Nat} (h : j < n) : (bof n f)[j]? = some (.bool (f j)) := by simp [bof, h]
theorem bof_congr {n : Nat} {f g : Nat → Bool} (h : ∀ i, i < n → f i = g i) : bof n f = bof n g := by
  unfold bof
  exact List.map_congr_left fun i hi => by rw [h i (by simpa using hi)]
theorem bof_set {n : Nat} {f : Nat → Bool} {k : Nat} (b : Bool) : (bof n f).set k (.bool b) = bof n (fun i => if i = k then b else f i) := by
  refine List.ext_getElem? fun j => ?_
  by_cases hj : j < n
  · rw [bof_get hj, List.getElem?_set]
    by_cases e : k = j
    · subst e; simp [bof_len, hj]
    · rw [if_neg e, if_neg (Ne.symm e), bof_get hj]
  · rw [List.getElem?_eq_none (by simp [bof_len]; omega), List.getElem?_eq_none (by rw [bof_len]; omega)]
/-- The slice at address a reads as these bools. -/
def IsBo (w : World) (a : Option Addr) (n : Nat) (f : Nat → Bool) : Prop :=
  0 < n → ∃ b off, a = some ⟨b, off, none⟩ ∧ ∀ j, j < n → w.cell? ⟨b, off + j, none⟩ = some (.bool (f j))
theorem IsBo.below {w w' : World} {a : Option Addr} {n : Nat} {f : Nat → Bool} (h : IsBo w a n f) (hb : Below w.heap.size w w') : IsBo w' a n f := by
  intro hp
  obtain ⟨b, off, e, hc⟩ := h hp
  exact ⟨b, off, e, fun j hj => (hb.cell (World.block_lt_of_cell? w _ (hc j hj))).trans (hc j hj)⟩
/-- A row of bools of one's own. -/
def OwnB (w : World) (base g n : Nat) (f : Nat → Bool) : Prop := w.ownsRow base 4 1 (.slice (some ⟨g, 0, none⟩) n n) n (bof n f)
theorem OwnB.is {w : World} {base g n : Nat} {f : Nat → Bool} (h : OwnB w base g n f) : IsBo w (some ⟨g, 0, none⟩) n f := fun _ => ⟨g, 0, rfl, fun j hj => by
  have := World.ownsRow.cellAt h (g := g) j (by omega)
  rw [Nat.zero_add, this, bof_get hj]⟩
theorem OwnB.cell {w : World} {base g n : Nat} {f : Nat → Bool} (h : OwnB w base g n f) {j : Nat} (hj : j < n) : w.cell? ⟨g, j, none⟩ = some (.bool (f j)) := by
  have := World.ownsRow.cellAt h (g := g) j (by omega)
  rw [this, bof_get hj]
theorem OwnB.free {w : World} {base g n : Nat} {f : Nat → Bool} (h : OwnB w base g n f) (j : Nat) : w.frozen? ⟨g, j, none⟩ = false := World.ownsRow.frozenAt h j
theorem OwnB.put {w w0 : World} {base g n : Nat} {f : Nat → Bool} (h : OwnB w base g n f) (k : Nat) (b : Bool) (hb : Below base w0 w) (hs : base ≤ w.heap.size) (hg : base ≤ g) :
    OwnB (w.setCell ⟨g, k, none⟩ (.bool b)) base g n (fun i => if i = k then b else f i) ∧ Below base w0 (w.setCell ⟨g, k, none⟩ (.bool b)) ∧ base ≤ (w.setCell ⟨g, k, none⟩ (.bool b)).heap.size := by
  obtain ⟨s1, g1⟩ := World.ownsRow.stored h k (.bool b)
  rw [bof_set] at s1
  exact ⟨s1, hb.grown g1 hs (fun q hq => by injection hq with hq; omega), by have := g1.size; omega⟩
end Go.Proofs.YtlfcjjlgkcfkdaaGreatDoor
namespace Go.Proofs.YtlfcjjlgkcfkdaaGreatDoor
open Go.RowKit Go.Sort

theorem drewN_below {B : Nat} {a w : World} (h : Below B a w) (q : Nat) : Below B a (w.drewN q) := ⟨h.os, h.tape, h.output, h.size, h.block⟩
/-- The word of a set that a byte belongs to. -/
def word4 (a b c d j : Nat) : Nat := if j = 0 then a else if j = 1 then b else if j = 2 then c else d
/-- Is a byte in the set? -/
def hasB (a b c d x : Nat) : Bool := word4 a b c d (x / 64) / 2 ^ (x % 64) % 2 == 1
/-- Four words of 64 bits. -/
def Fit4 (a b c d : Nat) : Prop := a < 18446744073709551616 ∧ b < 18446744073709551616 ∧ c < 18446744073709551616 ∧ d < 18446744073709551616
end Go.Proofs.YtlfcjjlgkcfkdaaGreatDoor
namespace Go.Proofs.YtlfcjjlgkcfkdaaGreatDoor
namespace Rx
/-- Any number of steps. -/
inductive Star (R : Nat → Nat → Prop) : Nat → Nat → Prop where
  | refl (i : Nat) : Star R i i
  | tail {i j k : Nat} : Star R i j → R j k → Star R i k
/-- At most m steps. -/
def RS (R : Nat → Nat → Prop) : Nat → Nat → Nat → Prop
  | 0, i, j => i = j
  | m + 1, i, j => ∃ k, (k = i ∨ R i k) ∧ RS R m k j
theorem RS.snoc {R : Nat → Nat → Prop} : ∀ {m i j k : Nat}, RS R m i j → R j k → RS R (m + 1) i k
  | 0, i, j, k, h, r => by
    have e : i = j := h
    subst e
    exact ⟨k, .inr r, rfl⟩
  | m + 1, i, j, k, ⟨q, hq, h⟩, r => ⟨q, hq, RS.snoc h r⟩
theorem RS.more {R : Nat → Nat → Prop} : ∀ {m i j : Nat}, RS R m i j → RS R (m + 1) i j
  | 0, i, _, h => ⟨i, .inl rfl, h⟩
  | _ + 1, _, _, ⟨q, hq, h⟩ => ⟨q, hq, RS.more h⟩
theorem RS.mono {R : Nat → Nat → Prop} {m n i j : Nat} (h : RS R m i j) (hn : m ≤ n) : RS R n i j := by
  obtain ⟨d, rfl⟩ : ∃ d, n = m + d := ⟨n - m, by omega⟩
  induction d with
  | zero => exact h
  | succ d ih => exact RS.more (ih (by omega))
/-- m times: what there is, and what comes of it. -/
def star (g : (Nat → Bool) → Nat → Bool) : Nat → (Nat → Bool) → Nat → Bool
  | 0, f => f
  | m + 1, f => star g m (fun i => f i || g f i)
mutual
/-- The reference's way: which places a match may end at, of those at which it may begin. -/
def aft (s : List Nat) : Rx → (Nat → Bool) → Nat → Bool
  | .mk op a b c d ks, f =>
    if op = 1 then fun i => decide (0 < i) && decide (i ≤ s.length) && f (i - 1) && hasB a b c d (s.getD (i - 1) 0)
    else if op = 2 then aftSeq s ks f
    else if op = 3 then aftAlt s ks f
    else if op = 6 then fun i => f i || aftHd s ks f i
    else if op = 5 then star (aftHd s ks) (s.length + 1) (aftHd s ks f)
    else star (aftHd s ks) (s.length + 1) f
def aftSeq (s : List Nat) : List Rx → (Nat → Bool) → Nat → Bool
  | [], f => f
  | k :: r, f => aftSeq s r (aft s k f)
def aftAlt (s : List Nat) : List Rx → (Nat → Bool) → Nat → Bool
  | [], _ => fun _ => false
  | k :: r, f => fun i => aft s k f i || aftAlt s r f i
def aftHd (s : List Nat) : List Rx → (Nat → Bool) → Nat → Bool
  | [], _ => fun _ => false
  | k :: _, f => aft s k f
end
mutual
/-- A match of the tree that begins at i may end at j. -/
def mt (s : List Nat) : Rx → Nat → Nat → Prop
  | .mk op a b c d ks, i, j =>
    if op = 1 then i < s.length ∧ j = i + 1 ∧ hasB a b c d (s.getD i 0) = true
    else if op = 2 then mtSeq s ks i j
    else if op = 3 then mtAlt s ks i j
    else if op = 6 then i = j ∨ mtHd s ks i j
    else if op = 5 then ∃ m, mtHd s ks i m ∧ Star (mtHd s ks) m j
    else Star (mtHd s ks) i j
def mtSeq (s : List Nat) : List Rx → Nat → Nat → Prop
  | [], i, j => i = j
  | k :: r, i, j => ∃ m, mt s k i m ∧ mtSeq s r m j
def mtAlt (s : List Nat) : List Rx → Nat → Nat → Prop
  | [], _, _ => False
  | k :: r, i, j => mt s k i j ∨ mtAlt s r i j
def mtHd (s : List Nat) : List Rx → Nat → Nat → Prop
  | [], _, _ => False
  | k :: _, i, j => mt s k i j
end
/-- It says of sets of places what R says of places. -/
def Says (L : Nat) (g : (Nat → Bool) → Nat → Bool) (R : Nat → Nat → Prop) : Prop :=
  (∀ i j, R i j → i ≤ j ∧ (i ≤ L → j ≤ L)) ∧ ∀ f j, j ≤ L → (g f j = true ↔ ∃ i, i ≤ L ∧ f i = true ∧ R i j)
end Rx

end Go.Proofs.YtlfcjjlgkcfkdaaGreatDoor

