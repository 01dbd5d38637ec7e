/-
  Plain mathematics of chapter 8's bytes: a list's bytes; what bytes are read as; there and back. No conditions.
-/
import Derived.Test.YtjmojjjgifkkiaaDoorYa
import Derived.Test.YtjmojjjgifkkiaaDoorMo
import Derived.Test.YtjmojjjgifkkiaaDoorMq
namespace Go.Proofs.YtjmojjjgifkkiaaDoor
open Go.RowKit

/-- A matcher's bytes. -/
def mat1 (m : Mat) : List Nat := (m.k % 256).toNat :: (putText m.n ++ putText m.v)
/-- The bytes of the first k matchers of a list. -/
def matsTo (l : List Mat) (k : Nat) : List Nat := Vm.put l.length ++ (l.take k).flatMap mat1
def matsBytes (l : List Mat) : List Nat := if Mat.isList l then matsTo l l.length else []
theorem matsTo_zero (l : List Mat) : matsTo l 0 = Vm.put l.length := by simp [matsTo]
theorem matsTo_succ {l : List Mat} {k : Nat} (h : k < l.length) : matsTo l (k + 1) = matsTo l k ++ [((Mat.nth l k).k % 256).toNat] ++ putText (Mat.nth l k).n ++ putText (Mat.nth l k).v := by
  show Vm.put l.length ++ (l.take (k + 1)).flatMap mat1 = Vm.put l.length ++ (l.take k).flatMap mat1 ++ _ ++ _ ++ _
  rw [List.take_succ_eq_append_getElem h, ← Mat.nth_eq h, List.flatMap_append]
  simp only [List.flatMap_cons, List.flatMap_nil, mat1, List.append_assoc, List.append_nil, List.cons_append, List.nil_append]
theorem matsTo_len {l : List Mat} {m : Nat} (h : ∀ x ∈ l, x.n.size ≤ m ∧ x.v.size ≤ m) : ∀ k, k ≤ l.length → (matsTo l k).length ≤ 10 + k * (21 + 2 * m)
  | 0, _ => by rw [matsTo_zero]; have := put_len l.length; omega
  | k + 1, hk => by
    have ih := matsTo_len h k (by omega)
    have h1 := h _ (Mat.nth_mem (l := l) (j := k) (by omega))
    rw [matsTo_succ (by omega), List.length_append, List.length_append, List.length_append, List.length_singleton]
    have a := La.ptext_len (Mat.nth l k).n
    have b := La.ptext_len (Mat.nth l k).v
    rw [Nat.add_mul]
    omega
/-- Is a byte's number. -/
theorem kind_byte {k : Int} : (k % 256).toNat < 256 := by omega

/-! ### Reading -/
theorem strOf_size8 (l : List Nat) : (strOf l).size = l.length := by
  have : (strOf l).data.toList.length = l.length := by rw [strOf, strOfNums_data]; simp
  rw [Array.length_toList] at this
  exact this
/-- The matcher that bytes begin with. -/
def readM1 : List Nat → Option (Mat × Nat)
  | [] => none
  | c :: r =>
    match Vm.getText r 12 with
    | none => none
    | some (t, j) =>
      match Vm.getText (r.drop j) 40 with
      | none => none
      | some (u, m) => some (⟨(c : Int), strOf t, strOf u⟩, 1 + j + m)
/-- n matchers that bytes begin with, and how many bytes they take. -/
def readMN : Nat → List Nat → Option (List Mat × Nat)
  | 0, _ => some ([], 0)
  | n + 1, l =>
    match readM1 l with
    | none => none
    | some (x, s) => (readMN n (l.drop s)).map fun r => (x :: r.1, s + r.2)
def readMats (l : List Nat) : Option (List Mat × Nat) :=
  match Vm.dec l with
  | none => none
  | some (n, k) =>
    if 5 < n then none else
    match readMN n (l.drop k) with
    | none => none
    | some (ms, m) => if Mat.isList ms then some (ms, k + m) else none
theorem readM1_nil {l : List Nat} (h : l.length = 0) : readM1 l = none := by rw [List.eq_nil_of_length_eq_zero h]; rfl
theorem readM1_no1 {l : List Nat} (h0 : 0 < l.length) (h : Vm.getText (l.drop 1) 12 = none) : readM1 l = none := by
  cases l with
  | nil => simp at h0
  | cons c r => simp only [List.drop_succ_cons, List.drop_zero] at h; rw [readM1, h]
theorem readM1_no2 {l t : List Nat} {j : Nat} (h0 : 0 < l.length) (h : Vm.getText (l.drop 1) 12 = some (t, j)) (h2 : Vm.getText (l.drop (1 + j)) 40 = none) : readM1 l = none := by
  cases l with
  | nil => simp at h0
  | cons c r =>
    simp only [List.drop_succ_cons, List.drop_zero] at h
    rw [Nat.add_comm] at h2
    simp only [List.drop_succ_cons] at h2
    rw [readM1, h]; simp only [h2]
theorem readM1_yes {l t u : List Nat} {j m : Nat} (h0 : 0 < l.length) (h : Vm.getText (l.drop 1) 12 = some (t, j)) (h2 : Vm.getText (l.drop (1 + j)) 40 = some (u, m)) : readM1 l = some (⟨((l.getD 0 0 : Nat) : Int), strOf t, strOf u⟩, 1 + j + m) := by
  cases l with
  | nil => simp at h0
  | cons c r =>
    simp only [List.drop_succ_cons, List.drop_zero] at h
    rw [Nat.add_comm 1 j] at h2
    simp only [List.drop_succ_cons] at h2
    rw [readM1, h]; simp only [h2]; rfl
theorem readM1_le {l : List Nat} {x : Mat} {s : Nat} (h : readM1 l = some (x, s)) (hb : ∀ j, l.getD j 0 < 256) : s ≤ l.length ∧ 1 ≤ s ∧ x.n.size ≤ 12 ∧ x.v.size ≤ 40 := by
  cases l with
  | nil => cases h
  | cons c r =>
    have hr : ∀ j, r.getD j 0 < 256 := fun j => by have := hb (j + 1); simpa using this
    rw [readM1] at h
    cases g1 : Vm.getText r 12 with
    | none => rw [g1] at h; cases h
    | some q =>
      obtain ⟨t, j⟩ := q
      rw [g1] at h
      simp only at h
      cases g2 : Vm.getText (r.drop j) 40 with
      | none => rw [g2] at h; cases h
      | some q2 =>
        obtain ⟨u, m⟩ := q2
        rw [g2] at h
        injection h with h
        injection h with h1 h2
        subst h1 h2
        have e1 := La.getText_le g1 hr
        have e2 := La.getText_le g2 (La.drop_byte hr j)
        rw [List.length_drop] at e2
        refine ⟨by simp; omega, by omega, ?_, ?_⟩
        · show (strOf t).size ≤ 12; rw [strOf_size8]; omega
        · show (strOf u).size ≤ 40; rw [strOf_size8]; omega
/-- What a reading loop keeps: n matchers were asked for, those of acc are read, the next one stands at place p. -/
def ReadRelM (l : List Nat) (n k : Nat) (acc : List Mat) (p : Nat) : Prop :=
  acc.length ≤ n ∧ k ≤ p ∧ p ≤ l.length ∧ readMN n (l.drop k) = (readMN (n - acc.length) (l.drop p)).map fun r => (acc ++ r.1, p - k + r.2)
theorem readRelM_start {l : List Nat} {n k : Nat} (h : k ≤ l.length) : ReadRelM l n k [] k := by
  refine ⟨by simp, Nat.le_refl _, h, ?_⟩
  simp
theorem readRelM_none {l : List Nat} {n k p : Nat} {acc : List Mat} (h : ReadRelM l n k acc p) (hn : acc.length < n) (h1 : readM1 (l.drop p) = none) : readMN n (l.drop k) = none := by
  obtain ⟨_, _, _, e⟩ := h
  rw [e]
  obtain ⟨m, hm⟩ : ∃ m, n - acc.length = m + 1 := ⟨n - acc.length - 1, by omega⟩
  rw [hm, readMN, h1]; rfl
theorem readRelM_step {l : List Nat} {n k p s : Nat} {x : Mat} {acc : List Mat} (hb : ∀ j, l.getD j 0 < 256) (h : ReadRelM l n k acc p) (hn : acc.length < n) (h1 : readM1 (l.drop p) = some (x, s)) : ReadRelM l n k (acc ++ [x]) (p + s) := by
  obtain ⟨e0, e1, e2, e⟩ := h
  have g := readM1_le h1 (La.drop_byte hb p)
  rw [List.length_drop] at g
  refine ⟨by simp; omega, by omega, by omega, ?_⟩
  rw [e]
  obtain ⟨q, hq⟩ : ∃ q, n - acc.length = q + 1 := ⟨n - acc.length - 1, by omega⟩
  have hq2 : n - (acc ++ [x]).length = q := by simp; omega
  rw [hq, hq2, readMN, h1]
  simp only [List.drop_drop]
  cases readMN q (l.drop (p + s)) with
  | none => rfl
  | some r =>
    simp only [Option.map_some]
    congr 1
    simp
    omega
theorem readRelM_end {l : List Nat} {n k p : Nat} {acc : List Mat} (h : ReadRelM l n k acc p) (hn : acc.length = n) : readMN n (l.drop k) = some (acc, p - k) := by
  obtain ⟨_, _, _, e⟩ := h
  rw [e, hn, Nat.sub_self, readMN]
  simp
theorem readMats_none1 {l : List Nat} (h : Vm.dec l = none) : readMats l = none := by rw [readMats, h]
theorem readMats_many {l : List Nat} {n k : Nat} (h : Vm.dec l = some (n, k)) (hn : 5 < n) : readMats l = none := by rw [readMats, h]; exact if_pos hn
theorem readMats_none {l : List Nat} {n k : Nat} (h : Vm.dec l = some (n, k)) (hn : ¬ 5 < n) (h1 : readMN n (l.drop k) = none) : readMats l = none := by rw [readMats, h]; simp only [if_neg hn, h1]
theorem readMats_end {l : List Nat} {n k p : Nat} {acc : List Mat} (h : Vm.dec l = some (n, k)) (hn : ¬ 5 < n) (h1 : ReadRelM l n k acc p) (ha : acc.length = n) : readMats l = if Mat.isList acc then some (acc, p) else none := by
  have e := readRelM_end h1 ha
  have := h1.2.1
  rw [readMats, h]
  simp only [if_neg hn, e]
  have e2 : k + (p - k) = p := by omega
  rw [e2]
end Go.Proofs.YtjmojjjgifkkiaaDoor
