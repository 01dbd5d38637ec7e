/-
  Plain mathematics of chapter 8's bytes, there and back: what was read stays read whatever stands behind; a list's bytes are read as it was; cut off they are none. No conditions.
-/
import Derived.Test.YtjmojjjgifkkiaaDoorYr
namespace Go.Proofs.YtjmojjjgifkkiaaDoor
open Go.RowKit

theorem decF_app : ∀ (f i acc : Nat) (l r : List Nat) (x : Nat × Nat), Vm.decF f i acc l = some x → Vm.decF f i acc (l ++ r) = some x
  | 0, _, _, _, _, _, h => by simp [Vm.decF] at h
  | f + 1, i, acc, [], r, x, h => by simp [Vm.decF] at h
  | f + 1, i, acc, c :: l, r, x, h => by
    rw [List.cons_append]
    unfold Vm.decF at h ⊢
    split at h
    · rename_i h1
      rw [if_pos h1]
      exact h
    · rename_i h1
      rw [if_neg h1]
      exact decF_app f _ _ l r x h
theorem dec_app {l : List Nat} {x : Nat × Nat} (r : List Nat) (h : Vm.dec l = some x) : Vm.dec (l ++ r) = some x := decF_app _ _ _ _ _ _ h
theorem getText_app {l : List Nat} {m : Int} {t : List Nat} {j : Nat} (r : List Nat) (hb : ∀ j, l.getD j 0 < 256) (h : Vm.getText l m = some (t, j)) : Vm.getText (l ++ r) m = some (t, j) := by
  unfold Vm.getText at h ⊢
  cases hd : Vm.dec l with
  | none => rw [hd] at h; cases h
  | some q =>
    obtain ⟨n, k⟩ := q
    rw [hd] at h
    simp only at h
    have ok := Vm.dec_ok hd hb
    split at h
    · cases h
    · rename_i hh
      rw [dec_app r hd]
      simp only
      rw [if_neg (by rw [List.length_append]; omega)]
      injection h with h
      injection h with h1 h2
      have e : (l ++ r).drop k = l.drop k ++ r := by rw [List.drop_append_of_le_length (by omega)]
      rw [e, List.take_append_of_le_length (by rw [List.length_drop]; omega), h1, h2]
theorem readM1_app {l : List Nat} {x : Mat × Nat} (r : List Nat) (hb : ∀ j, l.getD j 0 < 256) (h : readM1 l = some x) : readM1 (l ++ r) = some x := by
  cases l with
  | nil => cases h
  | cons c l =>
    have hl : ∀ j, l.getD j 0 < 256 := fun j => by have := hb (j + 1); simpa using this
    rw [List.cons_append]
    rw [readM1] at h ⊢
    cases g1 : Vm.getText l 12 with
    | none => rw [g1] at h; cases h
    | some q =>
      obtain ⟨t, j⟩ := q
      rw [g1] at h
      simp only at h
      have e1 := La.getText_le g1 hl
      rw [getText_app r hl g1]
      simp only
      rw [List.drop_append_of_le_length e1.1]
      cases g2 : Vm.getText (l.drop j) 40 with
      | none => rw [g2] at h; cases h
      | some q2 =>
        obtain ⟨u, m⟩ := q2
        rw [g2] at h
        rw [getText_app r (La.drop_byte hl j) g2]
        exact h
theorem readMN_app : ∀ (n : Nat) (l r : List Nat) (x : List Mat × Nat), (∀ j, l.getD j 0 < 256) → readMN n l = some x → readMN n (l ++ r) = some x ∧ x.2 ≤ l.length
  | 0, l, r, x, _, h => by simp only [readMN] at h ⊢; injection h with h; subst h; exact ⟨rfl, by simp⟩
  | n + 1, l, r, x, hb, h => by
    rw [readMN] at h ⊢
    cases g : readM1 l with
    | none => rw [g] at h; cases h
    | some q =>
      obtain ⟨y, s⟩ := q
      rw [g] at h
      simp only at h
      obtain ⟨hs, _, _, _⟩ := readM1_le g hb
      rw [readM1_app r hb g]
      simp only
      rw [List.drop_append_of_le_length hs]
      cases g2 : readMN n (l.drop s) with
      | none => rw [g2] at h; cases h
      | some z =>
        rw [g2] at h
        obtain ⟨i1, i2⟩ := readMN_app n (l.drop s) r z (La.drop_byte hb s) g2
        rw [i1]
        refine ⟨h, ?_⟩
        simp only [Option.map_some] at h
        injection h with h
        subst h
        rw [List.length_drop] at i2
        simp only; omega
theorem readMats_app {l : List Nat} {x : List Mat × Nat} (r : List Nat) (hb : ∀ j, l.getD j 0 < 256) (h : readMats l = some x) : readMats (l ++ r) = some x ∧ x.2 ≤ l.length := by
  unfold readMats at h ⊢
  cases hd : Vm.dec l with
  | none => rw [hd] at h; cases h
  | some q =>
    obtain ⟨n, k⟩ := q
    rw [hd] at h
    simp only at h
    have ok := Vm.dec_ok hd hb
    rw [dec_app r hd]
    simp only
    split at h
    · cases h
    · rename_i h5
      rw [if_neg h5, List.drop_append_of_le_length (by omega)]
      cases g : readMN n (l.drop k) with
      | none => rw [g] at h; cases h
      | some z =>
        obtain ⟨ms, m⟩ := z
        rw [g] at h
        obtain ⟨i1, i2⟩ := readMN_app n (l.drop k) r _ (La.drop_byte hb k) g
        rw [i1]
        rw [List.length_drop] at i2
        simp only at h i2 ⊢
        refine ⟨h, ?_⟩
        split at h
        · injection h with h
          subst h
          simp only; omega
        · cases h
theorem readMN_back : ∀ (ls : List Mat) (r : List Nat), (∀ x ∈ ls, x.n.size ≤ 12 ∧ x.v.size ≤ 40 ∧ 0 ≤ x.k ∧ x.k < 256) → readMN ls.length (ls.flatMap mat1 ++ r) = some (ls, (ls.flatMap mat1).length)
  | [], r, _ => rfl
  | x :: t, r, h => by
    have ih := readMN_back t r fun y hy => h y (by simp [hy])
    obtain ⟨h1, h2, h3, h4⟩ := h x (by simp)
    have e : (x :: t).flatMap mat1 ++ r = (x.k % 256).toNat :: (putText x.n ++ (putText x.v ++ (t.flatMap mat1 ++ r))) := by simp [mat1]
    have g1 := gt_put h1 (by omega) (putText x.v ++ (t.flatMap mat1 ++ r))
    have g2 := gt_put h2 (by omega) (t.flatMap mat1 ++ r)
    have c12 : ((12 : Nat) : Int) = 12 := rfl
    have c40 : ((40 : Nat) : Int) = 40 := rfl
    rw [c12] at g1
    rw [c40] at g2
    have hm : readM1 ((x :: t).flatMap mat1 ++ r) = some (x, 1 + (putText x.n).length + (putText x.v).length) := by
      rw [e, readM1, g1]
      simp only [List.drop_left, g2, strOf_text]
      have ek : (((x.k % 256).toNat : Nat) : Int) = x.k := by omega
      rw [ek]
    rw [List.length_cons, readMN, hm]
    simp only
    have ed : ((x :: t).flatMap mat1 ++ r).drop (1 + (putText x.n).length + (putText x.v).length) = t.flatMap mat1 ++ r := by
      rw [e, Nat.add_assoc, Nat.add_comm 1, List.drop_succ_cons, ← List.drop_drop, List.drop_left, List.drop_left]
    rw [ed, ih]
    simp only [Option.map_some]
    congr 1
    simp [mat1]
    omega
theorem list_back {l : List Mat} (h : Mat.isList l = true) : ∀ x ∈ l, x.n.size ≤ 12 ∧ x.v.size ≤ 40 ∧ 0 ≤ x.k ∧ x.k < 256 := fun x hx => by
  have ok := list_ok h x hx
  obtain ⟨⟨_, h2⟩, h3⟩ := ok_sizes ok
  refine ⟨?_, h2, by omega, by omega⟩
  simp only [Mat.ok, Bool.and_eq_true] at ok
  have hn := ok.1
  simp only [La.name, decide_eq_true_eq] at hn
  exact hn.2.1
theorem mats_back {l : List Mat} (h : Mat.isList l = true) (r : List Nat) : readMats (matsTo l l.length ++ r) = some (l, (matsTo l l.length).length) := by
  have h6 := (Mat.isList_iff.1 h).1
  have e : matsTo l l.length ++ r = Vm.put l.length ++ (l.flatMap mat1 ++ r) := by rw [matsTo, List.take_length, List.append_assoc]
  rw [readMats, e, Vm.dec_put (fits24 (by omega))]
  simp only
  rw [if_neg (by omega), List.drop_left, readMN_back l r (list_back h)]
  simp only [h, if_true]
  rw [matsTo, List.take_length, List.length_append]
theorem mats_byte {l : List Mat} (h : Mat.isList l = true) : ∀ x ∈ matsTo l l.length, x < 256 := by
  intro x hx
  have h6 := (Mat.isList_iff.1 h).1
  rw [matsTo, List.take_length, List.mem_append] at hx
  rcases hx with hx | hx
  · exact Vm.put_byte (fits24 (by omega)) x hx
  · obtain ⟨m, hm, hx⟩ := List.mem_flatMap.1 hx
    have hz := list_sizes h m hm
    rcases List.mem_cons.1 hx with rfl | hx
    · exact kind_byte
    · rcases List.mem_append.1 hx with hx | hx
      · exact ptext_byte (by omega) x hx
      · exact ptext_byte (by omega) x hx
theorem mats_cut {l : List Mat} (h : Mat.isList l = true) {c : Nat} (hc : c < (matsTo l l.length).length) : readMats ((matsTo l l.length).take c) = none := by
  cases hr : readMats ((matsTo l l.length).take c) with
  | none => rfl
  | some x =>
    have hb : ∀ j, ((matsTo l l.length).take c).getD j 0 < 256 := fun j => by
      by_cases hj : j < ((matsTo l l.length).take c).length
      · rw [List.getD, List.getElem?_eq_getElem hj]
        exact mats_byte h _ (List.mem_of_mem_take (List.getElem_mem hj))
      · rw [List.getD, List.getElem?_eq_none (by omega)]; exact Nat.zero_lt_succ _
    obtain ⟨h1, h2⟩ := readMats_app ((matsTo l l.length).drop c) hb hr
    rw [List.take_append_drop] at h1
    have h3 := mats_back h []
    rw [List.append_nil, h1] at h3
    injection h3 with h3
    rw [h3] at h2
    simp only [List.length_take] at h2
    omega
end Go.Proofs.YtjmojjjgifkkiaaDoor
