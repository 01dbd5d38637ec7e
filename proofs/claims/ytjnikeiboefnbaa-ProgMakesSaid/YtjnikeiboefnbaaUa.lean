/-
  Plain mathematics of chapter 6: the steps of a tree, how many there are, what may be a program. No conditions.
-/
import Derived.Test.YtjnikeiboefnbaaEa
namespace Go.Proofs.Ytjnikeiboefnbaa

namespace Rx
mutual
/-- How many steps a tree has. -/
def sz : Rx → Nat
  | .mk op _ _ _ _ ks => if op = 1 then 1 else if op = 3 then szL ks + 2 * (ks.length - 1) else if op = 4 then szL ks + 2 else if op = 5 then szL ks + 1 else if op = 6 then szL ks + 1 else szL ks
def szL : List Rx → Nat
  | [] => 0
  | k :: r => sz k + szL r
end
theorem szL_app : ∀ (l r : List Rx), szL (l ++ r) = szL l + szL r
  | [], r => by simp [szL]
  | k :: l, r => by simp only [List.cons_append, szL]; rw [szL_app l r]; omega
theorem szL_one (k : Rx) : szL [k] = sz k := by simp [szL]
mutual
theorem sz_le : ∀ t : Rx, sz t + 2 ≤ 4 * count t
  | .mk op a b c d ks => by
    have h := szL_le ks
    have hc := len_count ks
    rw [sz, count]
    split
    · omega
    · split
      · omega
      · split
        · omega
        · split
          · omega
          · split <;> omega
theorem szL_le : ∀ ks : List Rx, szL ks + 2 * ks.length ≤ 4 * countL ks
  | [] => by simp [szL, countL]
  | k :: r => by have := sz_le k; have := szL_le r; rw [szL, countL, List.length_cons]; omega
end
theorem take_nth {ks : List Rx} {j : Nat} (h : j < ks.length) : ks.take (j + 1) = ks.take j ++ [nth ks j] := by
  rw [List.take_add_one, List.getElem?_eq_getElem h, nth_eq h]; rfl
theorem szL_take {ks : List Rx} {j : Nat} (h : j < ks.length) : szL (ks.take (j + 1)) = szL (ks.take j) + sz (nth ks j) := by rw [take_nth h, szL_app, szL_one]
theorem szL_all {ks : List Rx} {j : Nat} (h : ks.length ≤ j) : szL (ks.take j) = szL ks := by rw [List.take_of_length_le h]
theorem szL_sum (ks : List Rx) (j : Nat) : szL (ks.take j) ≤ szL ks := by
  have := szL_app (ks.take j) (ks.drop j)
  rw [List.take_append_drop] at this; omega
theorem countL_app : ∀ (l r : List Rx), countL (l ++ r) = countL l + countL r
  | [], r => by simp [countL]
  | k :: l, r => by simp only [List.cons_append, countL]; rw [countL_app l r]; omega
theorem countL_pre (ks : List Rx) (j : Nat) : countL (ks.take j) ≤ countL ks := by
  have := countL_app (ks.take j) (ks.drop j)
  rw [List.take_append_drop] at this; omega
end Rx

/-- A step. -/
structure St where
  op : Int
  a : Nat
  b : Nat
  c : Nat
  d : Nat
  x : Int
  y : Int
deriving DecidableEq
namespace St
def byte (a b c d : Nat) : St := ⟨1, a, b, c, d, 0, 0⟩
def split (x y : Nat) : St := ⟨2, 0, 0, 0, 0, x, y⟩
def jump (x : Nat) : St := ⟨3, 0, 0, 0, 0, x, 0⟩
def mat : St := ⟨4, 0, 0, 0, 0, 0, 0⟩
def nil : St := ⟨0, 0, 0, 0, 0, 0, 0⟩
end St
namespace Rx
mutual
/-- The steps of a tree, the first one at index n. -/
def lay (n : Nat) : Rx → List St
  | .mk op a b c d ks =>
    if op = 1 then [St.byte a b c d]
    else if op = 3 then ways n (n + (szL ks + 2 * (ks.length - 1))) ks
    else if op = 4 then St.split (n + 1) (n + 2 + szL ks) :: (layL (n + 1) ks ++ [St.jump n])
    else if op = 5 then layL n ks ++ [St.split n (n + szL ks + 1)]
    else if op = 6 then St.split (n + 1) (n + 1 + szL ks) :: layL (n + 1) ks
    else layL n ks
def layL (n : Nat) : List Rx → List St
  | [] => []
  | k :: r => lay n k ++ layL (n + sz k) r
def ways (n e : Nat) : List Rx → List St
  | [] => []
  | k :: r => if r.isEmpty then lay n k else St.split (n + 1) (n + 2 + sz k) :: (lay (n + 1) k ++ St.jump e :: ways (n + 2 + sz k) e r)
end
mutual
theorem lay_len : ∀ (t : Rx) (n : Nat), (lay n t).length = sz t
  | .mk op a b c d ks, n => by
    rw [lay, sz]
    split
    · rfl
    · split
      · exact ways_len ks n _
      · split
        · rw [List.length_cons, List.length_append, layL_len ks]; rfl
        · split
          · rw [List.length_append, layL_len ks]; rfl
          · split
            · rw [List.length_cons, layL_len ks]
            · exact layL_len ks n
theorem layL_len : ∀ (ks : List Rx) (n : Nat), (layL n ks).length = szL ks
  | [], n => rfl
  | k :: r, n => by rw [layL, szL, List.length_append, lay_len k, layL_len r]
theorem ways_len : ∀ (ks : List Rx) (n e : Nat), (ways n e ks).length = szL ks + 2 * (ks.length - 1)
  | [], n, e => rfl
  | k :: r, n, e => by
    rw [ways]
    rcases r with _ | ⟨k2, r2⟩
    · simp [szL, lay_len k]
    · have h := ways_len (k2 :: r2) (n + 2 + sz k) e
      rw [if_neg (by simp), List.length_cons, List.length_append, List.length_cons, lay_len k, h]
      simp only [szL, List.length_cons]
      omega
end
theorem layL_app : ∀ (l r : List Rx) (n : Nat), layL n (l ++ r) = layL n l ++ layL (n + szL l) r
  | [], r, n => by simp [szL, layL]
  | k :: l, r, n => by rw [List.cons_append, layL, layL_app l r, layL, szL, List.append_assoc, Nat.add_assoc]
theorem layL_one (n : Nat) (k : Rx) : layL n [k] = lay n k := by rw [layL, layL, List.append_nil]
theorem layL_take {ks : List Rx} {j : Nat} (h : j < ks.length) (n : Nat) : layL n (ks.take (j + 1)) = layL n (ks.take j) ++ lay (n + szL (ks.take j)) (nth ks j) := by
  rw [take_nth h, layL_app, layL_one]
/-- All but the last one of some ways: the i-th one jumps to f i. -/
def pre (f : Nat → Nat) (n i : Nat) : List Rx → List St
  | [] => []
  | k :: r => St.split (n + 1) (n + 2 + sz k) :: (lay (n + 1) k ++ St.jump (f i) :: pre f (n + 2 + sz k) (i + 1) r)
/-- How many steps these are. -/
def szW : List Rx → Nat
  | [] => 0
  | k :: r => 2 + sz k + szW r
theorem szW_app : ∀ (l r : List Rx), szW (l ++ r) = szW l + szW r
  | [], r => by simp [szW]
  | k :: l, r => by simp only [List.cons_append, szW]; rw [szW_app l r]; omega
theorem szW_eq : ∀ l : List Rx, szW l = szL l + 2 * l.length
  | [] => rfl
  | k :: l => by rw [szW, szL, List.length_cons, szW_eq l]; omega
theorem pre_len (f : Nat → Nat) : ∀ (l : List Rx) (n i : Nat), (pre f n i l).length = szW l
  | [], n, i => rfl
  | k :: l, n, i => by rw [pre, szW, List.length_cons, List.length_append, List.length_cons, lay_len, pre_len f l]; omega
theorem pre_snoc (f : Nat → Nat) (k : Rx) : ∀ (l : List Rx) (n i : Nat), pre f n i (l ++ [k]) = pre f n i l ++ St.split (n + szW l + 1) (n + szW l + 2 + sz k) :: (lay (n + szW l + 1) k ++ [St.jump (f (i + l.length))])
  | [], n, i => by simp [pre, szW]
  | x :: l, n, i => by
    rw [List.cons_append, pre, pre_snoc f k l, pre, szW, List.length_cons]
    have e : n + 2 + sz x + szW l = n + (2 + sz x + szW l) := by omega
    have e2 : i + 1 + l.length = i + (l.length + 1) := by omega
    rw [e, e2]
    simp
theorem pre_congr {f g : Nat → Nat} : ∀ (l : List Rx) (n i : Nat), (∀ j, i ≤ j → j < i + l.length → f j = g j) → pre f n i l = pre g n i l
  | [], n, i, _ => rfl
  | k :: l, n, i, h => by
    rw [pre, pre, h i (Nat.le_refl _) (by simp), pre_congr l (n + 2 + sz k) (i + 1) fun j h1 h2 => h j (by omega) (by simp at h2 ⊢; omega)]
theorem ways_pre (e : Nat) (k : Rx) : ∀ (l : List Rx) (n i : Nat), ways n e (l ++ [k]) = pre (fun _ => e) n i l ++ lay (n + szW l) k
  | [], n, i => by simp [ways, pre, szW]
  | x :: l, n, i => by
    rw [List.cons_append, ways, if_neg (by simp), ways_pre e k l (n + 2 + sz x) (i + 1), pre, szW]
    have e1 : n + 2 + sz x + szW l = n + (2 + sz x + szW l) := by omega
    rw [e1]
    simp
theorem last_split {ks : List Rx} (h : 0 < ks.length) : ks = ks.take (ks.length - 1) ++ [nth ks (ks.length - 1)] := by
  have := take_nth (ks := ks) (j := ks.length - 1) (by omega)
  rw [show ks.length - 1 + 1 = ks.length by omega, List.take_length] at this
  exact this
theorem ways_eq {ks : List Rx} (h : 0 < ks.length) (n e : Nat) : ways n e ks = pre (fun _ => e) n 0 (ks.take (ks.length - 1)) ++ lay (n + szW (ks.take (ks.length - 1))) (nth ks (ks.length - 1)) := by
  conv => lhs; rw [last_split h]
  exact ways_pre e _ _ n 0
/-- Where the jumps lie. -/
def jpos (n : Nat) : List Rx → List Nat
  | [] => []
  | k :: r => (n + 1 + sz k) :: jpos (n + 2 + sz k) r
theorem jpos_len : ∀ (l : List Rx) (n : Nat), (jpos n l).length = l.length
  | [], n => rfl
  | k :: l, n => by rw [jpos, List.length_cons, jpos_len l, List.length_cons]
theorem jpos_snoc (k : Rx) : ∀ (l : List Rx) (n : Nat), jpos n (l ++ [k]) = jpos n l ++ [n + szW l + 1 + sz k]
  | [], n => by simp [jpos, szW]
  | x :: l, n => by
    rw [List.cons_append, jpos, jpos_snoc k l, jpos, szW]
    have e : n + 2 + sz x + szW l = n + (2 + sz x + szW l) := by omega
    rw [e]; rfl
theorem jpos_get : ∀ (l : List Rx) (n j : Nat), j < l.length → ∃ p, (jpos n l)[j]? = some p ∧ n ≤ p ∧ p < n + szW l ∧ ∀ (f g : Nat → Nat) (i e : Nat), g (i + j) = e → (∀ m, m ≠ i + j → g m = f m) → (pre f n i l).set (p - n) (St.jump e) = pre g n i l ∧ (pre f n i l)[p - n]? = some (St.jump (f (i + j)))
  | k :: l, n, 0, _ => by
    refine ⟨n + 1 + sz k, rfl, by omega, by rw [szW]; omega, fun f g i e hg hf => ?_⟩
    have e1 : n + 1 + sz k - n = (St.split (n + 1) (n + 2 + sz k) :: lay (n + 1) k).length := by rw [List.length_cons, lay_len]; omega
    have e2 : ∀ f, pre f n i (k :: l) = (St.split (n + 1) (n + 2 + sz k) :: lay (n + 1) k) ++ St.jump (f i) :: pre f (n + 2 + sz k) (i + 1) l := fun f => by rw [pre]; simp
    rw [e1, e2, e2, List.set_append_right _ _ (Nat.le_refl _), Nat.sub_self, List.set_cons_zero, ← hg, Nat.add_zero, pre_congr (f := f) (g := g) l (n + 2 + sz k) (i + 1) fun j h1 h2 => (hf j (by omega)).symm]
    exact ⟨rfl, by rw [List.getElem?_append_right (Nat.le_refl _), Nat.sub_self]; rfl⟩
  | k :: l, n, j + 1, h => by
    obtain ⟨p, h1, h2, h3, h4⟩ := jpos_get l (n + 2 + sz k) j (by simpa using h)
    refine ⟨p, h1, by omega, by rw [szW]; omega, fun f g i e hg hf => ?_⟩
    have e2 : ∀ f, pre f n i (k :: l) = (St.split (n + 1) (n + 2 + sz k) :: (lay (n + 1) k ++ [St.jump (f i)])) ++ pre f (n + 2 + sz k) (i + 1) l := fun f => by rw [pre]; simp
    have hl : (St.split (n + 1) (n + 2 + sz k) :: (lay (n + 1) k ++ [St.jump (f i)])).length = 2 + sz k := by simp [lay_len]; omega
    obtain ⟨q1, q2⟩ := h4 f g (i + 1) e (by rw [← hg]; congr 1; omega) (fun m hm => hf m (by omega))
    have e3 : p - n - (2 + sz k) = p - (n + 2 + sz k) := by omega
    rw [e2, e2, List.set_append_right _ _ (by rw [hl]; omega), hl, e3, q1, hf i (by omega)]
    refine ⟨rfl, ?_⟩
    rw [← hf i (by omega), List.getElem?_append_right (by simp [lay_len]; omega)]
    have hl2 : (St.split (n + 1) (n + 2 + sz k) :: (lay (n + 1) k ++ [St.jump (g i)])).length = 2 + sz k := by simp [lay_len]; omega
    rw [hl2, e3, q2]
    congr 3; omega
end Rx

/-- May a step be in a program of n? -/
def okIdx (i : Int) (n : Nat) : Bool := decide (0 ≤ i) && decide (i < n)
def St.bare (s : St) : Bool := s.a == 0 && s.b == 0 && s.c == 0 && s.d == 0
def St.ok (s : St) (n : Nat) : Bool :=
  if s.op = 1 then s.x == 0 && s.y == 0
  else s.bare && (if s.op = 2 then okIdx s.x n && okIdx s.y n else if s.op = 3 then okIdx s.x n && s.y == 0 else if s.op = 4 then s.x == 0 && s.y == 0 else false)
def lastOp (l : List St) : Int := (l.getLastD St.nil).op
/-- Are steps a program? -/
def progOk (l : List St) : Bool := decide (1 ≤ l.length) && decide (l.length ≤ 40) && l.all (fun s => s.ok l.length) && decide (lastOp l ≠ 1)
/-- The program of a tree. -/
def progOf (t : Rx) : List St := Rx.lay 0 t ++ [St.mat]
theorem okIdx_yes {i n : Nat} (h : i < n) : okIdx (i : Int) n = true := by simp [okIdx]; omega
def GoodS (N : Nat) (s : St) : Prop := s.ok N = true ∧ s.op ≠ 4
theorem good_byte (N a b c d : Nat) : GoodS N (St.byte a b c d) := ⟨by simp [St.ok, St.byte], by simp [St.byte]⟩
theorem good_split {N x y : Nat} (hx : x < N) (hy : y < N) : GoodS N (St.split x y) := ⟨by simp [St.ok, St.split, St.bare, okIdx_yes hx, okIdx_yes hy], by simp [St.split]⟩
theorem good_jump {N x : Nat} (hx : x < N) : GoodS N (St.jump x) := ⟨by simp [St.ok, St.jump, St.bare, okIdx_yes hx], by simp [St.jump]⟩
mutual
theorem lay_good : ∀ (t : Rx) (n N : Nat), n + Rx.sz t < N → ∀ s ∈ Rx.lay n t, GoodS N s
  | .mk op a b c d ks, n, N, h => by
    rw [Rx.sz] at h
    rw [Rx.lay]
    split at h
    · rw [if_pos (by assumption)]
      intro s hs
      rw [List.mem_singleton] at hs; subst hs; exact good_byte N a b c d
    · rw [if_neg (by assumption)]
      split at h
      · rw [if_pos (by assumption)]
        exact waysS_good ks n _ N (by omega) (by omega)
      · rw [if_neg (by assumption)]
        split at h
        · rw [if_pos (by assumption)]
          have := layL_good ks (n + 1) N (by omega)
          intro s hs
          rw [List.mem_cons, List.mem_append, List.mem_singleton] at hs
          rcases hs with rfl | hs | rfl
          · exact good_split (by omega) (by omega)
          · exact this s hs
          · exact good_jump (by omega)
        · rw [if_neg (by assumption)]
          split at h
          · rw [if_pos (by assumption)]
            have := layL_good ks n N (by omega)
            intro s hs
            rw [List.mem_append, List.mem_singleton] at hs
            rcases hs with hs | rfl
            · exact this s hs
            · exact good_split (by omega) (by omega)
          · rw [if_neg (by assumption)]
            split at h
            · rw [if_pos (by assumption)]
              have := layL_good ks (n + 1) N (by omega)
              intro s hs
              rw [List.mem_cons] at hs
              rcases hs with rfl | hs
              · exact good_split (by omega) (by omega)
              · exact this s hs
            · rw [if_neg (by assumption)]
              exact layL_good ks n N h
theorem layL_good : ∀ (ks : List Rx) (n N : Nat), n + Rx.szL ks < N → ∀ s ∈ Rx.layL n ks, GoodS N s
  | [], n, N, h => by intro s hs; rw [Rx.layL] at hs; cases hs
  | k :: r, n, N, h => by
    rw [Rx.szL] at h
    intro s hs
    rw [Rx.layL, List.mem_append] at hs
    rcases hs with hs | hs
    · exact lay_good k n N (by omega) s hs
    · exact layL_good r (n + Rx.sz k) N (by omega) s hs
theorem waysS_good : ∀ (ks : List Rx) (n e N : Nat), n + (Rx.szL ks + 2 * (ks.length - 1)) < N → e < N → ∀ s ∈ Rx.ways n e ks, GoodS N s
  | [], n, e, N, h, he => by intro s hs; rw [Rx.ways] at hs; cases hs
  | k :: r, n, e, N, h, he => by
    intro s hs
    rw [Rx.ways] at hs
    rcases r with _ | ⟨k2, r2⟩
    · rw [if_pos (by rfl)] at hs
      exact lay_good k n N (by simp [Rx.szL] at h; omega) s hs
    · simp only [Rx.szL, List.length_cons] at h
      rw [if_neg (by simp), List.mem_cons, List.mem_append, List.mem_cons] at hs
      rcases hs with rfl | hs | rfl | hs
      · exact good_split (by omega) (by omega)
      · exact lay_good k (n + 1) N (by omega) s hs
      · exact good_jump he
      · exact waysS_good (k2 :: r2) (n + 2 + Rx.sz k) e N (by simp only [Rx.szL, List.length_cons]; omega) he s hs
end
theorem prog_len (t : Rx) : (progOf t).length = Rx.sz t + 1 := by rw [progOf, List.length_append, Rx.lay_len]; rfl
/-- A tree's program may be one. -/
theorem prog_ok {t : Rx} (h : Rx.sz t + 1 ≤ 40) : progOk (progOf t) = true := by
  have hg := lay_good t 0 (Rx.sz t + 1) (by omega)
  have hl : lastOp (progOf t) = 4 := by simp [lastOp, progOf, St.mat]
  rw [progOk, hl, prog_len]
  have ha : (progOf t).all (fun s => s.ok (Rx.sz t + 1)) = true := by
    rw [List.all_eq_true]
    intro s hs
    rw [progOf, List.mem_append, List.mem_singleton] at hs
    rcases hs with hs | rfl
    · exact (hg s hs).1
    · simp [St.ok, St.mat, St.bare]
  rw [ha]
  simp; omega
end Go.Proofs.Ytjnikeiboefnbaa
