/-
  Plain mathematics of chapter 6: the steps of a tree, how many there are, what may be a program. No conditions.
  Rows of bools in a walk (places of a text); what the reference's join and same do. Conditions: no more than 1000 places.
  What the reference's same and Has do. Conditions: no more than 1000 places; words have 64 bits, a byte 8.
  Plain mathematics of chapter 5: where the matches of a tree end (mt), and that the reference's way of reckoning it by sets of places (aft) says just that. No conditions.
-/
import Derived.Test.YtlfcjjlgkcfkdaaGreatDoorProg
import Derived.Test.YtlfcjjlgkcfkdaaGreatDoorZ01
import Derived.Deep.RegionHeld3
import Derived.WalkKit
import Derived.WalkSpells
import Derived.WalkLawsBesides
import Derived.Lib.Hide
import Derived.Below
import Derived.BigQuiet
import Derived.Lib.QuietBelow
import Derived.Laws.StructEq
import Derived.KernelRfl
import Derived.Laws.MakeOwn
import Derived.Laws.OwnMore
import Derived.OwnWalk
namespace Go.Proofs.YtlfcjjlgkcfkdaaGreatDoor
namespace Rx
mutual
/-- How many steps a tree has. -/
def sz : Rx → Nat
  | .mk op _ _ _ _ ks => if op = 1 then 1 else if op = 3 then szL ks + 2 * (ks.length - 1) else if op = 4 then szL ks + 2 else if op = 5 then szL ks + 1 else if op = 6 then szL ks + 1 else szL ks
def szL : List Rx → Nat
  | [] => 0
  | k :: r => sz k + szL r
end
theorem szL_app : ∀ (l r : List Rx), szL (l ++ r) = szL l + szL r
  | [], r => by simp [szL]
  | k :: l, r => by simp only [List.cons_append, szL]; rw [szL_app l r]; omega
theorem szL_one (k : Rx) : szL [k] = sz k := by simp [szL]
mutual
theorem sz_le : ∀ t : Rx, sz t + 2 ≤ 4 * count t
  | .mk op a b c d ks => by
    have h := szL_le ks
    have hc := len_count ks
    rw [sz, count]
    split
    · omega
    · split
      · omega
      · split
        · omega
        · split
          · omega
          · split <;> omega
theorem szL_le : ∀ ks : List Rx, szL ks + 2 * ks.length ≤ 4 * countL ks
  | [] => by simp [szL, countL]
  | k :: r => by have := sz_le k; have := szL_le r; rw [szL, countL, List.length_cons]; omega
end
theorem take_nth {ks : List Rx} {j : Nat} (h : j < ks.length) : ks.take (j + 1) = ks.take j ++ [nth ks j] := by
  rw [List.take_add_one, List.getElem?_eq_getElem h, nth_eq h]; rfl
theorem szL_take {ks : List Rx} {j : Nat} (h : j < ks.length) : szL (ks.take (j + 1)) = szL (ks.take j) + sz (nth ks j) := by rw [take_nth h, szL_app, szL_one]
theorem szL_all {ks : List Rx} {j : Nat} (h : ks.length ≤ j) : szL (ks.take j) = szL ks := by rw [List.take_of_length_le h]
theorem szL_sum (ks : List Rx) (j : Nat) : szL (ks.take j) ≤ szL ks := by
  have := szL_app (ks.take j) (ks.drop j)
  rw [List.take_append_drop] at this; omega
theorem countL_app : ∀ (l r : List Rx), countL (l ++ r) = countL l + countL r
  | [], r => by simp [countL]
  | k :: l, r => by simp only [List.cons_append, countL]; rw [countL_app l r]; omega
end Rx

/-- A step. -/
structure St where
  op : Int
  a : Nat
  b : Nat
  c : Nat
  d : Nat
  x : Int
  y : Int
deriving DecidableEq
namespace St
def byte (a b c d : Nat) : St := ⟨1, a, b, c, d, 0, 0⟩
def split (x y : Nat) : St := ⟨2, 0, 0, 0, 0, x, y⟩
def jump (x : Nat) : St := ⟨3, 0, 0, 0, 0, x, 0⟩
def mat : St := ⟨4, 0, 0, 0, 0, 0, 0⟩
def nil : St := ⟨0, 0, 0, 0, 0, 0, 0⟩
end St
namespace Rx
mutual
/-- The steps of a tree, the first one at index n. -/
def lay (n : Nat) : Rx → List St
  | .mk op a b c d ks =>
    if op = 1 then [St.byte a b c d]
    else if op = 3 then ways n (n + (szL ks + 2 * (ks.length - 1))) ks
    else if op = 4 then St.split (n + 1) (n + 2 + szL ks) :: (layL (n + 1) ks ++ [St.jump n])
    else if op = 5 then layL n ks ++ [St.split n (n + szL ks + 1)]
    else if op = 6 then St.split (n + 1) (n + 1 + szL ks) :: layL (n + 1) ks
    else layL n ks
def layL (n : Nat) : List Rx → List St
  | [] => []
  | k :: r => lay n k ++ layL (n + sz k) r
def ways (n e : Nat) : List Rx → List St
  | [] => []
  | k :: r => if r.isEmpty then lay n k else St.split (n + 1) (n + 2 + sz k) :: (lay (n + 1) k ++ St.jump e :: ways (n + 2 + sz k) e r)
end
mutual
theorem lay_len : ∀ (t : Rx) (n : Nat), (lay n t).length = sz t
  | .mk op a b c d ks, n => by
    rw [lay, sz]
    split
    · rfl
    · split
      · exact ways_len ks n _
      · split
        · rw [List.length_cons, List.length_append, layL_len ks]; rfl
        · split
          · rw [List.length_append, layL_len ks]; rfl
          · split
            · rw [List.length_cons, layL_len ks]
            · exact layL_len ks n
theorem layL_len : ∀ (ks : List Rx) (n : Nat), (layL n ks).length = szL ks
  | [], n => rfl
  | k :: r, n => by rw [layL, szL, List.length_append, lay_len k, layL_len r]
theorem ways_len : ∀ (ks : List Rx) (n e : Nat), (ways n e ks).length = szL ks + 2 * (ks.length - 1)
  | [], n, e => rfl
  | k :: r, n, e => by
    rw [ways]
    rcases r with _ | ⟨k2, r2⟩
    · simp [szL, lay_len k]
    · have h := ways_len (k2 :: r2) (n + 2 + sz k) e
      rw [if_neg (by simp), List.length_cons, List.length_append, List.length_cons, lay_len k, h]
      simp only [szL, List.length_cons]
      omega
end
theorem layL_app : ∀ (l r : List Rx) (n : Nat), layL n (l ++ r) = layL n l ++ layL (n + szL l) r
  | [], r, n => by simp [szL, layL]
  | k :: l, r, n => by rw [List.cons_append, layL, layL_app l r, layL, szL, List.append_assoc, Nat.add_assoc]
theorem layL_one (n : Nat) (k : Rx) : layL n [k] = lay n k := by rw [layL, layL, List.append_nil]
theorem layL_take {ks : List Rx} {j : Nat} (h : j < ks.length) (n : Nat) : layL n (ks.take (j + 1)) = layL n (ks.take j) ++ lay (n + szL (ks.take j)) (nth ks j) := by
  rw [take_nth h, layL_app, layL_one]
/-- All but the last one of some ways: the i-th one jumps to f i. -/
def pre (f : Nat → Nat) (n i : Nat) : List Rx → List St
  | [] => []
  | k :: r => St.split (n + 1) (n + 2 + sz k) :: (lay (n + 1) k ++ St.jump (f i) :: pre f (n + 2 + sz k) (i + 1) r)
/-- How many steps these are. -/
def szW : List Rx → Nat
  | [] => 0
  | k :: r => 2 + sz k + szW r
theorem szW_app : ∀ (l r : List Rx), szW (l ++ r) = szW l + szW r
  | [], r => by simp [szW]
  | k :: l, r => by simp only [List.cons_append, szW]; rw [szW_app l r]; omega
theorem szW_eq : ∀ l : List Rx, szW l = szL l + 2 * l.length
  | [] => rfl
  | k :: l => by rw [szW, szL, List.length_cons, szW_eq l]; omega
theorem pre_len (f : Nat → Nat) : ∀ (l : List Rx) (n i : Nat), (pre f n i l).length = szW l
  | [], n, i => rfl
  | k :: l, n, i => by rw [pre, szW, List.length_cons, List.length_append, List.length_cons, lay_len, pre_len f l]; omega
theorem pre_snoc (f : Nat → Nat) (k : Rx) : ∀ (l : List Rx) (n i : Nat), pre f n i (l ++ [k]) = pre f n i l ++ St.split (n + szW l + 1) (n + szW l + 2 + sz k) :: (lay (n + szW l + 1) k ++ [St.jump (f (i + l.length))])
  | [], n, i => by simp [pre, szW]
  | x :: l, n, i => by
    rw [List.cons_append, pre, pre_snoc f k l, pre, szW, List.length_cons]
    have e : n + 2 + sz x + szW l = n + (2 + sz x + szW l) := by omega
    have e2 : i + 1 + l.length = i + (l.length + 1) := by omega
    rw [e, e2]
    simp
theorem pre_congr {f g : Nat → Nat} : ∀ (l : List Rx) (n i : Nat), (∀ j, i ≤ j → j < i + l.length → f j = g j) → pre f n i l = pre g n i l
  | [], n, i, _ => rfl
  | k :: l, n, i, h => by
    rw [pre, pre, h i (Nat.le_refl _) (by simp), pre_congr l (n + 2 + sz k) (i + 1) fun j h1 h2 => h j (by omega) (by simp at h2 ⊢; omega)]
theorem ways_pre (e : Nat) (k : Rx) : ∀ (l : List Rx) (n i : Nat), ways n e (l ++ [k]) = pre (fun _ => e) n i l ++ lay (n + szW l) k
  | [], n, i => by simp [ways, pre, szW]
  | x :: l, n, i => by
    rw [List.cons_append, ways, if_neg (by simp), ways_pre e k l (n + 2 + sz x) (i + 1), pre, szW]
    have e1 : n + 2 + sz x + szW l = n + (2 + sz x + szW l) := by omega
    rw [e1]
    simp
theorem last_split {ks : List Rx} (h : 0 < ks.length) : ks = ks.take (ks.length - 1) ++ [nth ks (ks.length - 1)] := by
  have := take_nth (ks := ks) (j := ks.length - 1) (by omega)
  rw [show ks.length - 1 + 1 = ks.length by omega, List.take_length] at this
  exact this
theorem ways_eq {ks : List Rx} (h : 0 < ks.length) (n e : Nat) : ways n e ks = pre (fun _ => e) n 0 (ks.take (ks.length - 1)) ++ lay (n + szW (ks.take (ks.length - 1))) (nth ks (ks.length - 1)) := by
  conv => lhs; rw [last_split h]
  exact ways_pre e _ _ n 0
/-- Where the jumps lie. -/
def jpos (n : Nat) : List Rx → List Nat
  | [] => []
  | k :: r => (n + 1 + sz k) :: jpos (n + 2 + sz k) r
theorem jpos_len : ∀ (l : List Rx) (n : Nat), (jpos n l).length = l.length
  | [], n => rfl
  | k :: l, n => by rw [jpos, List.length_cons, jpos_len l, List.length_cons]
theorem jpos_snoc (k : Rx) : ∀ (l : List Rx) (n : Nat), jpos n (l ++ [k]) = jpos n l ++ [n + szW l + 1 + sz k]
  | [], n => by simp [jpos, szW]
  | x :: l, n => by
    rw [List.cons_append, jpos, jpos_snoc k l, jpos, szW]
    have e : n + 2 + sz x + szW l = n + (2 + sz x + szW l) := by omega
    rw [e]; rfl
theorem jpos_get : ∀ (l : List Rx) (n j : Nat), j < l.length → ∃ p, (jpos n l)[j]? = some p ∧ n ≤ p ∧ p < n + szW l ∧ ∀ (f g : Nat → Nat) (i e : Nat), g (i + j) = e → (∀ m, m ≠ i + j → g m = f m) → (pre f n i l).set (p - n) (St.jump e) = pre g n i l ∧ (pre f n i l)[p - n]? = some (St.jump (f (i + j)))
  | k :: l, n, 0, _ => by
    refine ⟨n + 1 + sz k, rfl, by omega, by rw [szW]; omega, fun f g i e hg hf => ?_⟩
    have e1 : n + 1 + sz k - n = (St.split (n + 1) (n + 2 + sz k) :: lay (n + 1) k).length := by rw [List.length_cons, lay_len]; omega
    have e2 : ∀ f, pre f n i (k :: l) = (St.split (n + 1) (n + 2 + sz k) :: lay (n + 1) k) ++ St.jump (f i) :: pre f (n + 2 + sz k) (i + 1) l := fun f => by rw [pre]; simp
    rw [e1, e2, e2, List.set_append_right _ _ (Nat.le_refl _), Nat.sub_self, List.set_cons_zero, ← hg, Nat.add_zero, pre_congr (f := f) (g := g) l (n + 2 + sz k) (i + 1) fun j h1 h2 => (hf j (by omega)).symm]
    exact ⟨rfl, by rw [List.getElem?_append_right (Nat.le_refl _), Nat.sub_self]; rfl⟩
  | k :: l, n, j + 1, h => by
    obtain ⟨p, h1, h2, h3, h4⟩ := jpos_get l (n + 2 + sz k) j (by simpa using h)
    refine ⟨p, h1, by omega, by rw [szW]; omega, fun f g i e hg hf => ?_⟩
    have e2 : ∀ f, pre f n i (k :: l) = (St.split (n + 1) (n + 2 + sz k) :: (lay (n + 1) k ++ [St.jump (f i)])) ++ pre f (n + 2 + sz k) (i + 1) l := fun f => by rw [pre]; simp
    have hl : (St.split (n + 1) (n + 2 + sz k) :: (lay (n + 1) k ++ [St.jump (f i)])).length = 2 + sz k := by simp [lay_len]; omega
    obtain ⟨q1, q2⟩ := h4 f g (i + 1) e (by rw [← hg]; congr 1; omega) (fun m hm => hf m (by omega))
    have e3 : p - n - (2 + sz k) = p - (n + 2 + sz k) := by omega
    rw [e2, e2, List.set_append_right _ _ (by rw [hl]; omega), hl, e3, q1, hf i (by omega)]
    refine ⟨rfl, ?_⟩
    rw [← hf i (by omega), List.getElem?_append_right (by simp [lay_len]; omega)]
    have hl2 : (St.split (n + 1) (n + 2 + sz k) :: (lay (n + 1) k ++ [St.jump (g i)])).length = 2 + sz k := by simp [lay_len]; omega
    rw [hl2, e3, q2]
    congr 3; omega
end Rx

/-- May a step be in a program of n? -/
def okIdx (i : Int) (n : Nat) : Bool := decide (0 ≤ i) && decide (i < n)
def St.bare (s : St) : Bool := s.a == 0 && s.b == 0 && s.c == 0 && s.d == 0
def St.ok (s : St) (n : Nat) : Bool :=
  if s.op = 1 then s.x == 0 && s.y == 0
  else s.bare && (if s.op = 2 then okIdx s.x n && okIdx s.y n else if s.op = 3 then okIdx s.x n && s.y == 0 else if s.op = 4 then s.x == 0 && s.y == 0 else false)
def lastOp (l : List St) : Int := (l.getLastD St.nil).op
/-- Are steps a program? -/
def progOk (l : List St) : Bool := decide (1 ≤ l.length) && decide (l.length ≤ 40) && l.all (fun s => s.ok l.length) && decide (lastOp l ≠ 1)
/-- The program of a tree. -/
def progOf (t : Rx) : List St := Rx.lay 0 t ++ [St.mat]
theorem okIdx_yes {i n : Nat} (h : i < n) : okIdx (i : Int) n = true := by simp [okIdx]; omega
def GoodS (N : Nat) (s : St) : Prop := s.ok N = true ∧ s.op ≠ 4
theorem good_byte (N a b c d : Nat) : GoodS N (St.byte a b c d) := ⟨by simp [St.ok, St.byte], by simp [St.byte]⟩
theorem good_split {N x y : Nat} (hx : x < N) (hy : y < N) : GoodS N (St.split x y) := ⟨by simp [St.ok, St.split, St.bare, okIdx_yes hx, okIdx_yes hy], by simp [St.split]⟩
theorem good_jump {N x : Nat} (hx : x < N) : GoodS N (St.jump x) := ⟨by simp [St.ok, St.jump, St.bare, okIdx_yes hx], by simp [St.jump]⟩
mutual
theorem lay_good : ∀ (t : Rx) (n N : Nat), n + Rx.sz t < N → ∀ s ∈ Rx.lay n t, GoodS N s
  | .mk op a b c d ks, n, N, h => by
    rw [Rx.sz] at h
    rw [Rx.lay]
    split at h
    · rw [if_pos (by assumption)]
      intro s hs
      rw [List.mem_singleton] at hs; subst hs; exact good_byte N a b c d
    · rw [if_neg (by assumption)]
      split at h
      · rw [if_pos (by assumption)]
        exact waysS_good ks n _ N (by omega) (by omega)
      · rw [if_neg (by assumption)]
        split at h
        · rw [if_pos (by assumption)]
          have := layL_good ks (n + 1) N (by omega)
          intro s hs
          rw [List.mem_cons, List.mem_append, List.mem_singleton] at hs
          rcases hs with rfl | hs | rfl
          · exact good_split (by omega) (by omega)
          · exact this s hs
          · exact good_jump (by omega)
        · rw [if_neg (by assumption)]
          split at h
          · rw [if_pos (by assumption)]
            have := layL_good ks n N (by omega)
            intro s hs
            rw [List.mem_append, List.mem_singleton] at hs
            rcases hs with hs | rfl
            · exact this s hs
            · exact good_split (by omega) (by omega)
          · rw [if_neg (by assumption)]
            split at h
            · rw [if_pos (by assumption)]
              have := layL_good ks (n + 1) N (by omega)
              intro s hs
              rw [List.mem_cons] at hs
              rcases hs with rfl | hs
              · exact good_split (by omega) (by omega)
              · exact this s hs
            · rw [if_neg (by assumption)]
              exact layL_good ks n N h
theorem layL_good : ∀ (ks : List Rx) (n N : Nat), n + Rx.szL ks < N → ∀ s ∈ Rx.layL n ks, GoodS N s
  | [], n, N, h => by intro s hs; rw [Rx.layL] at hs; cases hs
  | k :: r, n, N, h => by
    rw [Rx.szL] at h
    intro s hs
    rw [Rx.layL, List.mem_append] at hs
    rcases hs with hs | hs
    · exact lay_good k n N (by omega) s hs
    · exact layL_good r (n + Rx.sz k) N (by omega) s hs
theorem waysS_good : ∀ (ks : List Rx) (n e N : Nat), n + (Rx.szL ks + 2 * (ks.length - 1)) < N → e < N → ∀ s ∈ Rx.ways n e ks, GoodS N s
  | [], n, e, N, h, he => by intro s hs; rw [Rx.ways] at hs; cases hs
  | k :: r, n, e, N, h, he => by
    intro s hs
    rw [Rx.ways] at hs
    rcases r with _ | ⟨k2, r2⟩
    · rw [if_pos (by rfl)] at hs
      exact lay_good k n N (by simp [Rx.szL] at h; omega) s hs
    · simp only [Rx.szL, List.length_cons] at h
      rw [if_neg (by simp), List.mem_cons, List.mem_append, List.mem_cons] at hs
      rcases hs with rfl | hs | rfl | hs
      · exact good_split (by omega) (by omega)
      · exact lay_good k (n + 1) N (by omega) s hs
      · exact good_jump he
      · exact waysS_good (k2 :: r2) (n + 2 + Rx.sz k) e N (by simp only [Rx.szL, List.length_cons]; omega) he s hs
end
theorem prog_len (t : Rx) : (progOf t).length = Rx.sz t + 1 := by rw [progOf, List.length_append, Rx.lay_len]; rfl
/-- A tree's program may be one. -/
theorem prog_ok {t : Rx} (h : Rx.sz t + 1 ≤ 40) : progOk (progOf t) = true := by
  have hg := lay_good t 0 (Rx.sz t + 1) (by omega)
  have hl : lastOp (progOf t) = 4 := by simp [lastOp, progOf, St.mat]
  rw [progOk, hl, prog_len]
  have ha : (progOf t).all (fun s => s.ok (Rx.sz t + 1)) = true := by
    rw [List.all_eq_true]
    intro s hs
    rw [progOf, List.mem_append, List.mem_singleton] at hs
    rcases hs with hs | rfl
    · exact (hg s hs).1
    · simp [St.ok, St.mat, St.bare]
  rw [ha]
  simp; omega

end Go.Proofs.YtlfcjjlgkcfkdaaGreatDoor
namespace Go.Proofs.YtlfcjjlgkcfkdaaGreatDoor
open Go.RowKit Go.Sort

/-- n bools as cells. -/
def bof (n : Nat) (f : Nat → Bool) : List Value := (List.range n).map fun i => Value.bool (f i)
theorem bof_len (n : Nat) (f : Nat → Bool) : (bof n f).length = n := by simp [bof]
theorem bof_get {n : Nat} {f : Nat → Bool} {j : Nat} (h : j < n) : (bof n f)[j]? = some (.bool (f j)) := by simp [bof, h]
theorem bof_congr {n : Nat} {f g : Nat → Bool} (h : ∀ i, i < n → f i = g i) : bof n f = bof n g := by
  unfold bof
  exact List.map_congr_left fun i hi => by rw [h i (by simpa using hi)]
theorem bof_set {n : Nat} {f : Nat → Bool} {k : Nat} (b : Bool) : (bof n f).set k (.bool b) = bof n (fun i => if i = k then b else f i) := by
  refine List.ext_getElem? fun j => ?_
  by_cases hj : j < n
  · rw [bof_get hj, List.getElem?_set]
    by_cases e : k = j
    · subst e; simp [bof_len, hj]
    · rw [if_neg e, if_neg (Ne.symm e), bof_get hj]
  · rw [List.getElem?_eq_none (by simp [bof_len]; omega), List.getElem?_eq_none (by rw [bof_len]; omega)]
/-- The slice at address a reads as these bools. -/
def IsBo (w : World) (a : Option Addr) (n : Nat) (f : Nat → Bool) : Prop :=
  0 < n → ∃ b off, a = some ⟨b, off, none⟩ ∧ ∀ j, j < n → w.cell? ⟨b, off + j, none⟩ = some (.bool (f j))
theorem IsBo.below {w w' : World} {a : Option Addr} {n : Nat} {f : Nat → Bool} (h : IsBo w a n f) (hb : Below w.heap.size w w') : IsBo w' a n f := by
  intro hp
  obtain ⟨b, off, e, hc⟩ := h hp
  exact ⟨b, off, e, fun j hj => (hb.cell (World.block_lt_of_cell? w _ (hc j hj))).trans (hc j hj)⟩
/-- A row of bools of one's own. -/
def OwnB (w : World) (base g n : Nat) (f : Nat → Bool) : Prop := w.ownsRow base 4 1 (.slice (some ⟨g, 0, none⟩) n n) n (bof n f)
theorem OwnB.is {w : World} {base g n : Nat} {f : Nat → Bool} (h : OwnB w base g n f) : IsBo w (some ⟨g, 0, none⟩) n f := fun _ => ⟨g, 0, rfl, fun j hj => by
  have := World.ownsRow.cellAt h (g := g) j (by omega)
  rw [Nat.zero_add, this, bof_get hj]⟩
theorem OwnB.cell {w : World} {base g n : Nat} {f : Nat → Bool} (h : OwnB w base g n f) {j : Nat} (hj : j < n) : w.cell? ⟨g, j, none⟩ = some (.bool (f j)) := by
  have := World.ownsRow.cellAt h (g := g) j (by omega)
  rw [this, bof_get hj]
theorem OwnB.free {w : World} {base g n : Nat} {f : Nat → Bool} (h : OwnB w base g n f) (j : Nat) : w.frozen? ⟨g, j, none⟩ = false := World.ownsRow.frozenAt h j
theorem OwnB.put {w w0 : World} {base g n : Nat} {f : Nat → Bool} (h : OwnB w base g n f) (k : Nat) (b : Bool) (hb : Below base w0 w) (hs : base ≤ w.heap.size) (hg : base ≤ g) :
    OwnB (w.setCell ⟨g, k, none⟩ (.bool b)) base g n (fun i => if i = k then b else f i) ∧ Below base w0 (w.setCell ⟨g, k, none⟩ (.bool b)) ∧ base ≤ (w.setCell ⟨g, k, none⟩ (.bool b)).heap.size := by
  obtain ⟨s1, g1⟩ := World.ownsRow.stored h k (.bool b)
  rw [bof_set] at s1
  exact ⟨s1, hb.grown g1 hs (fun q hq => by injection hq with hq; omega), by have := g1.size; omega⟩
theorem OwnB.keep {w w' : World} {base g n : Nat} {f : Nat → Bool} (h : OwnB w base g n f) (hb : Below w.heap.size w w') : OwnB w' base g n f := by
  refine ⟨h.1, ?_⟩
  rcases h.2 with ⟨e, _⟩ | ⟨g', cap, cur, e, hbg, hg, rest⟩
  · cases e
  · exact .inr ⟨g', cap, cur, e, hbg, (hb.block g' (Array.getElem?_eq_some_iff.1 hg).1).trans hg, rest⟩
theorem Tryz.infoB : (Tryz.prog.info? 4).map (fun i => (i.zero, i.size, i.bytes)) = some (some (.bool false), 1, 1) := by kernel_rfl
theorem made_bof (n : Nat) : madeCells (Value.bool false).cells n = (bof n fun _ => false).toArray := by
  unfold madeCells bof
  refine Array.ext (by simp) fun i h1 h2 => ?_
  simp [Value.cells, Nat.mod_one]
theorem make_bools (n : Nat) (hn : n ≤ 1000) (W : World) : (Instr.makeSlice 171 (.int .i64 (n : Int)) (.int .i64 (n : Int))).run Tryz.prog W = .ok (.slice (some ⟨W.heap.size, 0, none⟩) n n) (W.alloc (.cells (bof n fun _ => false).toArray 4)) := by
  obtain ⟨i0, hi, hz0, hz1, hz2⟩ := info_parts Tryz.infoB
  have := run_make (P := Tryz.prog) W 171 4 i0 (.bool false) Tryz.underlying171 hi hz0 .i64 .i64 (n : Int) (n : Int) (by omega) (by omega) (by rw [hz2]; omega) (by omega)
  rw [this, hz1, Nat.mul_one, Int.toNat_natCast, made_bof]
theorem own_made (n : Nat) (hn : n ≤ 1000) (W : World) : OwnB (W.alloc (.cells (bof n fun _ => false).toArray 4)) W.heap.size W.heap.size n (fun _ => false) :=
  ⟨by rw [bof_len]; omega, .inr ⟨W.heap.size, n, _, rfl, Nat.le_refl _, heap_alloc_new W _, Nat.le_refl _, by unfold maxLen; omega, by simp [bof_len], by simp [bof_len, List.take_of_length_le]⟩⟩

set_option maxRecDepth 100000 in
set_option maxHeartbeats 1000000 in
theorem rjoin_any (n : Nat) (f g : Nat → Bool) (A B : Option Addr) (ca cb : Nat) (w : World) (hn : n ≤ 1000) (ha : IsBo w A n f) (hb : IsBo w B n g) :
    Calls Tryz.prog 149 #[.slice A n ca, .slice B n cb] w fun e w' => (∃ q, e = .returned (.slice (some ⟨q, 0, none⟩) n n) ∧ OwnB w' w.heap.size q n (fun i => f i || g i)) ∧ Below w.heap.size w w' := by
  have HA := Lib.hid (fun W (hW : Below w.heap.size w W) => ha.below hW)
  have HB := Lib.hid (fun W (hW : Below w.heap.size w W) => hb.below hW)
  have MK := make_bools n hn w
  have O0 := own_made n hn w
  have B0 : Below w.heap.size w (w.alloc (.cells (bof n fun _ => false).toArray 4)) := (Below.refl _ _).alloc (Nat.le_refl _) _
  obtain ⟨w0, hw0⟩ : ∃ w0, w.alloc (.cells (bof n fun _ => false).toArray 4) = w0 := ⟨_, rfl⟩
  rw [hw0] at MK O0 B0
  clear ha hb hw0
  have I0 : Hid (OwnB w0 w.heap.size w.heap.size n (fun i => decide (i < 0) && (f i || g i)) ∧ Below w.heap.size w w0 ∧ w.heap.size ≤ w0.heap.size) := ⟨by simpa using O0, B0, B0.size⟩
  clear O0 B0
  go_enter Tryz.func149, Tryz.ntmps149
  go_wp2
  clear MK
  go_loopw [6] (fun i wr => ∃ k : Nat, k ≤ n ∧ i = .int .i64 (k : Int) ∧ Hid (OwnB wr w.heap.size w.heap.size n (fun i => decide (i < k) && (f i || g i)) ∧ Below w.heap.size w wr ∧ w.heap.size ≤ wr.heap.size)) (fun i _ => n - (intOf i).toNat)
  case atStart => exact ⟨0, by omega, rfl, I0⟩
  case round =>
    clear I0
    obtain ⟨k, hk, rfl, HI⟩ := hrel
    by_cases hkn : k < n
    · have hkz : (k : Int) < (n : Int) := by omega
      obtain ⟨b1, o1, rfl, h1⟩ := HA.out wr HI.out.2.1 (by omega)
      obtain ⟨b2, o2, rfl, h2⟩ := HB.out wr HI.out.2.1 (by omega)
      have c1 := h1 k hkn
      have c2 := h2 k hkn
      have c3 := HI.out.1.cell hkn
      have fr := HI.out.1.free k
      obtain ⟨p1, p2, p3⟩ := HI.out.1.put k (f k || g k) HI.out.2.1 HI.out.2.2 (Nat.le_refl _)
      have P : Hid (OwnB (wr.setCell ⟨w.heap.size, k, none⟩ (.bool (f k || g k))) w.heap.size w.heap.size n (fun i => decide (i < k + 1) && (f i || g i)) ∧ Below w.heap.size w (wr.setCell ⟨w.heap.size, k, none⟩ (.bool (f k || g k))) ∧ w.heap.size ≤ (wr.setCell ⟨w.heap.size, k, none⟩ (.bool (f k || g k))).heap.size) := by
        refine ⟨?_, p2, p3⟩
        unfold OwnB at p1 ⊢
        rw [bof_congr (g := fun i => decide (i < k + 1) && (f i || g i))] at p1
        · exact p1
        · intro i hi
          by_cases e : i = k
          · subst e; simp
          · by_cases h : i < k
            · simp [e, h, show i < k + 1 by omega]
            · simp [e, h, show ¬ i < k + 1 by omega]
      clear p1 p2 p3 h1 h2 HI
      cases hf : f k
      · rw [hf] at c1 P
        simp only [Bool.false_or] at P
        generalize g k = y at *
        generalize (decide (k < k) && (f k || y)) = z at *
        clear hf
        go_wp2
        generalize wr.setCell ⟨w.heap.size, k, none⟩ (.bool y) = w5 at *
        clear c1 c2 c3 fr
        go_roundw
        case rel => exact ⟨k + 1, by omega, by go_num, P⟩
        case measure => simp [intOf]; omega
      · rw [hf] at c1 P
        simp only [Bool.true_or] at P
        generalize (decide (k < k) && (f k || g k)) = z at *
        clear hf
        go_wp2
        generalize wr.setCell ⟨w.heap.size, k, none⟩ (.bool true) = w5 at *
        clear c1 c2 c3 fr
        go_roundw
        case rel => exact ⟨k + 1, by omega, by go_num, P⟩
        case measure => simp [intOf]; omega
    · obtain rfl : k = n := by omega
      have hkz : ¬ (k : Int) < (k : Int) := by omega
      have R : Hid (OwnB wr w.heap.size w.heap.size k (fun i => f i || g i)) := by
        have h := HI.out.1
        show OwnB _ _ _ _ _
        unfold OwnB at h ⊢
        rw [bof_congr (g := fun i => f i || g i)] at h
        · exact h
        · intro i hi; simp [hi]
      have B := Lib.hid HI.out.2.1
      clear HI
      go_wp2
      go_ret
      exact ⟨⟨_, rfl, R.out⟩, B.out⟩

end Go.Proofs.YtlfcjjlgkcfkdaaGreatDoor
namespace Go.Proofs.YtlfcjjlgkcfkdaaGreatDoor
open Go.RowKit Go.Sort

theorem drewN_below {B : Nat} {a w : World} (h : Below B a w) (q : Nat) : Below B a (w.drewN q) := ⟨h.os, h.tape, h.output, h.size, h.block⟩
def sameB (n : Nat) (f g : Nat → Bool) : Bool := decide (∀ i, i < n → f i = g i)
set_option maxRecDepth 100000 in
set_option maxHeartbeats 1000000 in
theorem rsame_any (n : Nat) (f g : Nat → Bool) (A B : Option Addr) (ca cb : Nat) (w : World) (hn : n ≤ 1000) (ha : IsBo w A n f) (hb : IsBo w B n g) :
    Calls Tryz.prog 150 #[.slice A n ca, .slice B n cb] w fun e w' => e = .returned (.bool (sameB n f g)) ∧ Below w.heap.size w w' := by
  have HA := Lib.hid (fun W (hW : Below w.heap.size w W) => ha.below hW)
  have HB := Lib.hid (fun W (hW : Below w.heap.size w W) => hb.below hW)
  clear ha hb
  go_enter Tryz.func150, Tryz.ntmps150
  go_wp2
  go_loopw [5] (fun i wr => ∃ k : Nat, k ≤ n ∧ i = .int .i64 (k : Int) ∧ Hid ((∀ i, i < k → f i = g i) ∧ Below w.heap.size w wr)) (fun i _ => n - (intOf i).toNat)
  case atStart => exact ⟨0, by omega, rfl, fun i hi => by omega, Below.refl _ _⟩
  case round =>
    obtain ⟨k, hk, rfl, HI⟩ := hrel
    by_cases hkn : k < n
    · have hkz : (k : Int) < (n : Int) := by omega
      obtain ⟨b1, o1, rfl, h1⟩ := HA.out wr HI.out.2 (by omega)
      obtain ⟨b2, o2, rfl, h2⟩ := HB.out wr HI.out.2 (by omega)
      have c1 := h1 k hkn
      have c2 := h2 k hkn
      have AL := Lib.hid HI.out.1
      have BL := Lib.hid HI.out.2
      clear h1 h2 HI
      by_cases e : f k = g k
      · have E := Lib.hid e
        rw [e] at c1
        clear e
        cases hy : g k
        · rw [hy] at c1 c2
          clear hy
          go_wp2_with fail
          go_quiet (fail)
          have B2 := Lib.hid (drewN_below BL.out nq)
          clear c1 c2 BL
          go_wp2
          go_roundw
          case rel => exact ⟨k + 1, by omega, by go_num, fun i hi => by
            by_cases hik : i < k
            · exact AL.out i hik
            · obtain rfl : i = k := by omega
              exact E.out, B2.out⟩
          case measure => simp [intOf]; omega
        · rw [hy] at c1 c2
          clear hy
          go_wp2_with fail
          go_quiet (fail)
          have B2 := Lib.hid (drewN_below BL.out nq)
          clear c1 c2 BL
          go_wp2
          go_roundw
          case rel => exact ⟨k + 1, by omega, by go_num, fun i hi => by
            by_cases hik : i < k
            · exact AL.out i hik
            · obtain rfl : i = k := by omega
              exact E.out, B2.out⟩
          case measure => simp [intOf]; omega
      · have NE : Hid (sameB n f g = false) := decide_eq_false fun h => e (h k hkn)
        have hy : g k = !f k := by cases h1 : f k <;> cases h2 : g k <;> simp_all
        rw [hy] at c2
        clear hy e
        cases hx : f k
        · rw [hx] at c1 c2
          simp only [Bool.not_false] at c2
          clear hx
          go_wp2_with fail
          go_quiet (fail)
          have B2 := Lib.hid (drewN_below BL.out nq)
          clear c1 c2 BL
          go_wp2
          go_ret
          exact ⟨by rw [NE.out]; rfl, B2.out⟩
        · rw [hx] at c1 c2
          simp only [Bool.not_true] at c2
          clear hx
          go_wp2_with fail
          go_quiet (fail)
          have B2 := Lib.hid (drewN_below BL.out nq)
          clear c1 c2 BL
          go_wp2
          go_ret
          exact ⟨by rw [NE.out]; rfl, B2.out⟩
    · obtain rfl : k = n := by omega
      have hkz : ¬ (k : Int) < (k : Int) := by omega
      have YE : Hid (sameB k f g = true) := decide_eq_true HI.out.1
      have B2 := Lib.hid HI.out.2
      clear HI
      go_wp2
      go_ret
      exact ⟨by rw [YE.out]; rfl, B2.out⟩

/-- The word of a set that a byte belongs to. -/
def word4 (a b c d j : Nat) : Nat := if j = 0 then a else if j = 1 then b else if j = 2 then c else d
/-- Is a byte in the set? -/
def hasB (a b c d x : Nat) : Bool := word4 a b c d (x / 64) / 2 ^ (x % 64) % 2 == 1
/-- Four words of 64 bits. -/
def Fit4 (a b c d : Nat) : Prop := a < 18446744073709551616 ∧ b < 18446744073709551616 ∧ c < 18446744073709551616 ∧ d < 18446744073709551616
theorem word4_lt {a b c d : Nat} (h : Fit4 a b c d) (j : Nat) : word4 a b c d j < 18446744073709551616 := by
  obtain ⟨h1, h2, h3, h4⟩ := h
  unfold word4
  split
  · exact h1
  · split
    · exact h2
    · split
      · exact h3
      · exact h4
set_option maxRecDepth 100000 in
set_option maxHeartbeats 1000000 in
theorem rhas_any (a b c d x : Nat) (hx : x < 256) (w : World) (hf : Fit4 a b c d) :
    Calls Tryz.prog 148 #[.agg #[.int .u64 (a : Int), .int .u64 (b : Int), .int .u64 (c : Int), .int .u64 (d : Int)], .int .u8 (x : Int)] w fun e w' => e = .returned (.bool (hasB a b c d x)) ∧ Below w.heap.size w w' := by
  have B0 : Hid (Below w.heap.size w (w.alloc (.cells #[.int .u64 (a : Int), .int .u64 (b : Int), .int .u64 (c : Int), .int .u64 (d : Int)] 132))) := (Below.refl _ _).alloc (Nat.le_refl _) _
  have CW : (w.alloc (.cells #[.int .u64 (a : Int), .int .u64 (b : Int), .int .u64 (c : Int), .int .u64 (d : Int)] 132)).cell? ⟨w.heap.size, x / 64, none⟩ = some (.int .u64 ((word4 a b c d (x / 64) : Nat) : Int)) := by
    rw [cell_of_row _ w.heap.size _ _ 132 (0, 0) (heap_alloc_new w _)]
    have hj : x / 64 < 4 := by omega
    generalize x / 64 = j at *
    match j, hj with
    | 0, _ => rfl
    | 1, _ => rfl
    | 2, _ => rfl
    | 3, _ => rfl
  have HF : Hid (word4 a b c d (x / 64) / 2 ^ (x % 64) < 18446744073709551616) := Nat.lt_of_le_of_lt (Nat.div_le_self _ _) (word4_lt hf _)
  clear hf
  go_enter Tryz.func148, Tryz.ntmps148
  go_wp2_with fail
  clear CW
  go_ret
  refine ⟨?_, B0.out⟩
  have hf := HF.out
  have e1 : ((word4 a b c d (x / 64) : Nat) : Int) / 2 ^ (x % 64) = ((word4 a b c d (x / 64) / 2 ^ (x % 64) : Nat) : Int) := by simp
  unfold hasB
  generalize word4 a b c d (x / 64) / 2 ^ (x % 64) = q at *
  have e2 := u64_and_nat q 1 hf (by omega)
  rw [Nat.and_one_is_mod] at e2
  have e3 : (bits .and .u64 (q : Int) 1 == 1) = (q % 2 == 1) := by
    have c1 : ((1 : Nat) : Int) = 1 := rfl
    rw [c1] at e2
    rw [e2, Bool.eq_iff_iff]
    simp
    omega
  show Ending.returned (.bool (bits .and .u64 (((word4 a b c d (x / 64) : Nat) : Int) / 2 ^ (x % 64)) 1 == 1)) = _
  rw [e1, e3]

end Go.Proofs.YtlfcjjlgkcfkdaaGreatDoor
namespace Go.Proofs.YtlfcjjlgkcfkdaaGreatDoor
namespace Rx
/-- Any number of steps. -/
inductive Star (R : Nat → Nat → Prop) : Nat → Nat → Prop where
  | refl (i : Nat) : Star R i i
  | tail {i j k : Nat} : Star R i j → R j k → Star R i k
/-- At most m steps. -/
def RS (R : Nat → Nat → Prop) : Nat → Nat → Nat → Prop
  | 0, i, j => i = j
  | m + 1, i, j => ∃ k, (k = i ∨ R i k) ∧ RS R m k j
theorem RS.snoc {R : Nat → Nat → Prop} : ∀ {m i j k : Nat}, RS R m i j → R j k → RS R (m + 1) i k
  | 0, i, j, k, h, r => by
    have e : i = j := h
    subst e
    exact ⟨k, .inr r, rfl⟩
  | m + 1, i, j, k, ⟨q, hq, h⟩, r => ⟨q, hq, RS.snoc h r⟩
theorem RS.more {R : Nat → Nat → Prop} : ∀ {m i j : Nat}, RS R m i j → RS R (m + 1) i j
  | 0, i, _, h => ⟨i, .inl rfl, h⟩
  | _ + 1, _, _, ⟨q, hq, h⟩ => ⟨q, hq, RS.more h⟩
theorem RS.mono {R : Nat → Nat → Prop} {m n i j : Nat} (h : RS R m i j) (hn : m ≤ n) : RS R n i j := by
  obtain ⟨d, rfl⟩ : ∃ d, n = m + d := ⟨n - m, by omega⟩
  induction d with
  | zero => exact h
  | succ d ih => exact RS.more (ih (by omega))
theorem RS.star {R : Nat → Nat → Prop} : ∀ {m i j : Nat}, RS R m i j → ∀ {q}, Star R q i → Star R q j
  | 0, i, j, h, q, s => by
    have e : i = j := h
    subst e; exact s
  | m + 1, i, j, ⟨k, hk, h⟩, q, s => RS.star h (hk.elim (fun e => by rw [e]; exact s) fun r => s.tail r)
/-- Steps that never go back: as many as there are places between are enough. -/
theorem Star.few {R : Nat → Nat → Prop} (hR : ∀ i j, R i j → i ≤ j) {i j : Nat} (h : Star R i j) : i ≤ j ∧ RS R (j - i) i j := by
  induction h with
  | refl => exact ⟨Nat.le_refl _, by rw [Nat.sub_self]; rfl⟩
  | tail h1 r ih =>
    rename_i a b
    have hb := hR _ _ r
    refine ⟨by omega, ?_⟩
    by_cases e : a = b
    · subst e; exact ih.2
    · exact (ih.2.snoc r).mono (by omega)
/-- m times: what there is, and what comes of it. -/
def star (g : (Nat → Bool) → Nat → Bool) : Nat → (Nat → Bool) → Nat → Bool
  | 0, f => f
  | m + 1, f => star g m (fun i => f i || g f i)
mutual
/-- The reference's way: which places a match may end at, of those at which it may begin. -/
def aft (s : List Nat) : Rx → (Nat → Bool) → Nat → Bool
  | .mk op a b c d ks, f =>
    if op = 1 then fun i => decide (0 < i) && decide (i ≤ s.length) && f (i - 1) && hasB a b c d (s.getD (i - 1) 0)
    else if op = 2 then aftSeq s ks f
    else if op = 3 then aftAlt s ks f
    else if op = 6 then fun i => f i || aftHd s ks f i
    else if op = 5 then star (aftHd s ks) (s.length + 1) (aftHd s ks f)
    else star (aftHd s ks) (s.length + 1) f
def aftSeq (s : List Nat) : List Rx → (Nat → Bool) → Nat → Bool
  | [], f => f
  | k :: r, f => aftSeq s r (aft s k f)
def aftAlt (s : List Nat) : List Rx → (Nat → Bool) → Nat → Bool
  | [], _ => fun _ => false
  | k :: r, f => fun i => aft s k f i || aftAlt s r f i
def aftHd (s : List Nat) : List Rx → (Nat → Bool) → Nat → Bool
  | [], _ => fun _ => false
  | k :: _, f => aft s k f
end
mutual
/-- A match of the tree that begins at i may end at j. -/
def mt (s : List Nat) : Rx → Nat → Nat → Prop
  | .mk op a b c d ks, i, j =>
    if op = 1 then i < s.length ∧ j = i + 1 ∧ hasB a b c d (s.getD i 0) = true
    else if op = 2 then mtSeq s ks i j
    else if op = 3 then mtAlt s ks i j
    else if op = 6 then i = j ∨ mtHd s ks i j
    else if op = 5 then ∃ m, mtHd s ks i m ∧ Star (mtHd s ks) m j
    else Star (mtHd s ks) i j
def mtSeq (s : List Nat) : List Rx → Nat → Nat → Prop
  | [], i, j => i = j
  | k :: r, i, j => ∃ m, mt s k i m ∧ mtSeq s r m j
def mtAlt (s : List Nat) : List Rx → Nat → Nat → Prop
  | [], _, _ => False
  | k :: r, i, j => mt s k i j ∨ mtAlt s r i j
def mtHd (s : List Nat) : List Rx → Nat → Nat → Prop
  | [], _, _ => False
  | k :: _, i, j => mt s k i j
end
/-- It says of sets of places what R says of places. -/
def Says (L : Nat) (g : (Nat → Bool) → Nat → Bool) (R : Nat → Nat → Prop) : Prop :=
  (∀ i j, R i j → i ≤ j ∧ (i ≤ L → j ≤ L)) ∧ ∀ f j, j ≤ L → (g f j = true ↔ ∃ i, i ≤ L ∧ f i = true ∧ R i j)
theorem star_says {L : Nat} {g : (Nat → Bool) → Nat → Bool} {R : Nat → Nat → Prop} (h : Says L g R) : ∀ (m : Nat) (f : Nat → Bool) (j : Nat), j ≤ L → (star g m f j = true ↔ ∃ i, i ≤ L ∧ f i = true ∧ RS R m i j)
  | 0, f, j, hj => ⟨fun e => ⟨j, hj, e, rfl⟩, fun ⟨i, _, e, r⟩ => by
    have e2 : i = j := r
    subst e2; exact e⟩
  | m + 1, f, j, hj => by
    rw [star, star_says h m _ j hj]
    constructor
    · rintro ⟨k, hk, e, r⟩
      rcases Bool.or_eq_true_iff.1 e with e | e
      · exact ⟨k, hk, e, k, .inl rfl, r⟩
      · obtain ⟨i, hi, e2, r2⟩ := (h.2 f k hk).1 e
        exact ⟨i, hi, e2, k, .inr r2, r⟩
    · rintro ⟨i, hi, e, k, hk, r⟩
      rcases hk with rfl | hk
      · exact ⟨k, hi, by simp [e], r⟩
      · have hkL := (h.1 i k hk).2 hi
        exact ⟨k, hkL, by rw [(h.2 f k hkL).2 ⟨i, hi, e, hk⟩]; simp, r⟩
theorem star_all {L : Nat} {g : (Nat → Bool) → Nat → Bool} {R : Nat → Nat → Prop} (h : Says L g R) : Says L (star g (L + 1)) (Star R) := by
  have back : ∀ i j, Star R i j → i ≤ j ∧ (i ≤ L → j ≤ L) := by
    intro i j s
    induction s with
    | refl => exact ⟨Nat.le_refl _, id⟩
    | tail _ r ih => have := h.1 _ _ r; exact ⟨by omega, fun x => this.2 (ih.2 x)⟩
  refine ⟨back, fun f j hj => ?_⟩
  rw [star_says h (L + 1) f j hj]
  constructor
  · rintro ⟨i, hi, e, r⟩
    exact ⟨i, hi, e, RS.star r (.refl i)⟩
  · rintro ⟨i, hi, e, s⟩
    have := Star.few (fun a b r => (h.1 a b r).1) s
    exact ⟨i, hi, e, this.2.mono (by omega)⟩
mutual
theorem aft_says (s : List Nat) : ∀ t : Rx, Says s.length (aft s t) (mt s t)
  | .mk op a b c d ks => by
    have hS := seq_says s ks
    have hA := alt_says s ks
    have hH := hd_says s ks
    by_cases o1 : op = 1
    · refine ⟨fun i j r => ?_, fun f j hj => ?_⟩
      · rw [mt, if_pos o1] at r; omega
      · rw [aft, if_pos o1]
        simp only [mt, o1, if_true, Bool.and_eq_true, decide_eq_true_eq]
        constructor
        · rintro ⟨⟨⟨h1, h2⟩, h3⟩, h4⟩
          exact ⟨j - 1, by omega, h3, by omega, by omega, h4⟩
        · rintro ⟨i, h1, h2, h3, rfl, h5⟩
          exact ⟨⟨⟨by omega, by omega⟩, by simpa using h2⟩, by simpa using h5⟩
    by_cases o2 : op = 2
    · have e1 : aft s (.mk op a b c d ks) = aftSeq s ks := by funext f; rw [aft, if_neg o1, if_pos o2]
      have e2 : mt s (.mk op a b c d ks) = mtSeq s ks := by funext i j; rw [mt, if_neg o1, if_pos o2]
      rw [e1, e2]; exact hS
    by_cases o3 : op = 3
    · have e1 : aft s (.mk op a b c d ks) = aftAlt s ks := by funext f; rw [aft, if_neg o1, if_neg o2, if_pos o3]
      have e2 : mt s (.mk op a b c d ks) = mtAlt s ks := by funext i j; rw [mt, if_neg o1, if_neg o2, if_pos o3]
      rw [e1, e2]; exact hA
    by_cases o6 : op = 6
    · have e1 : aft s (.mk op a b c d ks) = fun f i => f i || aftHd s ks f i := by funext f; rw [aft, if_neg o1, if_neg o2, if_neg o3, if_pos o6]
      have e2 : mt s (.mk op a b c d ks) = fun i j => i = j ∨ mtHd s ks i j := by funext i j; rw [mt, if_neg o1, if_neg o2, if_neg o3, if_pos o6]
      rw [e1, e2]
      refine ⟨fun i j r => ?_, fun f j hj => ?_⟩
      · rcases r with rfl | r
        · exact ⟨Nat.le_refl _, id⟩
        · exact hH.1 i j r
      · simp only [Bool.or_eq_true, hH.2 f j hj]
        constructor
        · rintro (h | ⟨i, h1, h2, h3⟩)
          · exact ⟨j, hj, h, .inl rfl⟩
          · exact ⟨i, h1, h2, .inr h3⟩
        · rintro ⟨i, h1, h2, rfl | h3⟩
          · exact .inl h2
          · exact .inr ⟨i, h1, h2, h3⟩
    have hst := star_all hH
    by_cases o5 : op = 5
    · have e1 : aft s (.mk op a b c d ks) = fun f => star (aftHd s ks) (s.length + 1) (aftHd s ks f) := by funext f; rw [aft, if_neg o1, if_neg o2, if_neg o3, if_neg o6, if_pos o5]
      have e2 : mt s (.mk op a b c d ks) = fun i j => ∃ m, mtHd s ks i m ∧ Star (mtHd s ks) m j := by funext i j; rw [mt, if_neg o1, if_neg o2, if_neg o3, if_neg o6, if_pos o5]
      rw [e1, e2]
      refine ⟨fun i j ⟨m, r1, r2⟩ => ?_, fun f j hj => ?_⟩
      · have h1 := hH.1 i m r1
        have h2 := hst.1 m j r2
        exact ⟨by omega, fun x => h2.2 (h1.2 x)⟩
      · rw [hst.2 _ j hj]
        constructor
        · rintro ⟨m, hm, e, r⟩
          obtain ⟨i, hi, e3, r3⟩ := (hH.2 f m hm).1 e
          exact ⟨i, hi, e3, m, r3, r⟩
        · rintro ⟨i, hi, e, m, r1, r2⟩
          have hm := (hH.1 i m r1).2 hi
          exact ⟨m, hm, (hH.2 f m hm).2 ⟨i, hi, e, r1⟩, r2⟩
    · have e1 : aft s (.mk op a b c d ks) = fun f => star (aftHd s ks) (s.length + 1) f := by funext f; rw [aft, if_neg o1, if_neg o2, if_neg o3, if_neg o6, if_neg o5]
      have e2 : mt s (.mk op a b c d ks) = Star (mtHd s ks) := by funext i j; rw [mt, if_neg o1, if_neg o2, if_neg o3, if_neg o6, if_neg o5]
      rw [e1, e2]; exact hst
theorem seq_says (s : List Nat) : ∀ ks : List Rx, Says s.length (aftSeq s ks) (mtSeq s ks)
  | [] => by
    refine ⟨fun i j r => ?_, fun f j hj => ?_⟩
    · have e : i = j := r
      omega
    · exact ⟨fun e => ⟨j, hj, e, rfl⟩, fun ⟨i, _, e, r⟩ => by
        have e2 : i = j := r
        subst e2; exact e⟩
  | k :: r => by
    have h1 := aft_says s k
    have h2 := seq_says s r
    refine ⟨fun i j ⟨m, r1, r2⟩ => ?_, fun f j hj => ?_⟩
    · have a := h1.1 i m r1
      have b := h2.1 m j r2
      exact ⟨by omega, fun x => b.2 (a.2 x)⟩
    · rw [aftSeq, h2.2 _ j hj]
      constructor
      · rintro ⟨m, hm, e, q⟩
        obtain ⟨i, hi, e3, r3⟩ := (h1.2 f m hm).1 e
        exact ⟨i, hi, e3, m, r3, q⟩
      · rintro ⟨i, hi, e, m, r1, r2⟩
        have hm := (h1.1 i m r1).2 hi
        exact ⟨m, hm, (h1.2 f m hm).2 ⟨i, hi, e, r1⟩, r2⟩
theorem alt_says (s : List Nat) : ∀ ks : List Rx, Says s.length (aftAlt s ks) (mtAlt s ks)
  | [] => ⟨fun i j r => absurd r (by simp [mtAlt]), fun f j _ => by simp [aftAlt, mtAlt]⟩
  | k :: r => by
    have h1 := aft_says s k
    have h2 := alt_says s r
    refine ⟨fun i j q => ?_, fun f j hj => ?_⟩
    · rcases q with q | q
      · exact h1.1 i j q
      · exact h2.1 i j q
    · simp only [aftAlt, mtAlt, Bool.or_eq_true, h1.2 f j hj, h2.2 f j hj]
      constructor
      · rintro (⟨i, a, b, c⟩ | ⟨i, a, b, c⟩)
        · exact ⟨i, a, b, .inl c⟩
        · exact ⟨i, a, b, .inr c⟩
      · rintro ⟨i, a, b, c | c⟩
        · exact .inl ⟨i, a, b, c⟩
        · exact .inr ⟨i, a, b, c⟩
theorem hd_says (s : List Nat) : ∀ ks : List Rx, Says s.length (aftHd s ks) (mtHd s ks)
  | [] => ⟨fun i j r => absurd r (by simp [mtHd]), fun f j _ => by simp [aftHd, mtHd]⟩
  | k :: _ => by
    have h1 := aft_says s k
    exact ⟨fun i j q => h1.1 i j q, fun f j hj => h1.2 f j hj⟩
end
end Rx

end Go.Proofs.YtlfcjjlgkcfkdaaGreatDoor

