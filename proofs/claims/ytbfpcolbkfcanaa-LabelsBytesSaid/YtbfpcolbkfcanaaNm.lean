/-
  Plain mathematics of chapter 4: a set's bytes are read as it was, whatever stands behind them; unlike sets have unlike bytes; projections are the same just if the values are. Conditions: texts are short.
-/
import Derived.Test.YtbfpcolbkfcanaaMp
import Derived.Test.YtbfpcolbkfcanaaVo
namespace Go.Proofs.Ytbfpcolbkfcanaa
open La

theorem fits24 {n : Nat} (h : n ≤ 1000) : Vm.Fits n := by unfold Vm.Fits; omega
theorem gt_put {s : ByteArray} {m : Nat} (h : s.size ≤ m) (hm : m ≤ 1000) (r : List Nat) : Vm.getText (putText s ++ r) (m : Int) = some (textL s, (putText s).length) := by
  have e : putText s ++ r = Vm.put s.size ++ (textL s ++ r) := by rw [putText, List.append_assoc]
  rw [Vm.getText, e, Vm.dec_put (fits24 (by omega))]
  simp only
  have hl := textL_length s
  rw [if_neg (by simp only [List.length_append]; omega), List.drop_left, List.take_left' hl, putText, List.length_append, hl]
theorem text_inj {s t : ByteArray} (h : textL s = textL t) : s = t := by rw [← strOf_text s, ← strOf_text t, h]
theorem pt_inj {s t : ByteArray} {r r' : List Nat} (hs : s.size ≤ 24) (ht : t.size ≤ 24) (h : putText s ++ r = putText t ++ r') : s = t ∧ r = r' := by
  have e1 := gt_put hs (by omega) r
  have e2 := gt_put ht (by omega) r'
  rw [h, e2] at e1
  injection e1 with e1
  injection e1 with e1 _
  have e := text_inj e1.symm
  subst e
  exact ⟨rfl, List.append_cancel_left h⟩
theorem proj_inj {a b : List Lab} (ha : ∀ x ∈ a, x.2.size ≤ 24) (hb : ∀ x ∈ b, x.2.size ≤ 24) : ∀ ns : List ByteArray, project a ns = project b ns ↔ ∀ n ∈ ns, getL a n = getL b n
  | [] => by simp [project]
  | n :: r => by
    have ih := proj_inj ha hb r
    have e : ∀ c : List Lab, project c (n :: r) = putText (getL c n) ++ project c r := fun c => rfl
    rw [e, e]
    constructor
    · intro h
      obtain ⟨h1, h2⟩ := pt_inj (getL_size ha) (getL_size hb) h
      intro k hk
      rcases List.mem_cons.1 hk with rfl | hk
      · exact h1
      · exact ih.1 h2 k hk
    · intro h
      rw [h n (by simp), ih.2 fun k hk => h k (by simp [hk])]
theorem strOf_inj {l m : List Nat} (h1 : ∀ x ∈ l, x < 256) (h2 : ∀ x ∈ m, x < 256) : ((strOf l).toList == (strOf m).toList) = decide (l = m) := str_eq h1 h2
theorem readN_back : ∀ (ls : List Lab) (r : List Nat), (∀ x ∈ ls, x.1.size ≤ 12 ∧ x.2.size ≤ 24) → readN ls.length (ls.flatMap lab1 ++ r) = some (ls, (ls.flatMap lab1).length)
  | [], r, _ => rfl
  | x :: t, r, h => by
    have ih := readN_back t r fun y hy => h y (by simp [hy])
    obtain ⟨h1, h2⟩ := h x (by simp)
    have e : (x :: t).flatMap lab1 ++ r = putText x.1 ++ (putText x.2 ++ (t.flatMap lab1 ++ r)) := by simp [lab1]
    have g1 := gt_put h1 (by omega) (putText x.2 ++ (t.flatMap lab1 ++ r))
    have g2 := gt_put h2 (by omega) (t.flatMap lab1 ++ r)
    rw [e, List.length_cons, readN]
    have c12 : ((12 : Nat) : Int) = 12 := rfl
    have c24 : ((24 : Nat) : Int) = 24 := rfl
    rw [c12] at g1
    rw [c24] at g2
    rw [g1]
    simp only [List.drop_left, g2]
    rw [← List.drop_drop, List.drop_left, List.drop_left, ih]
    simp only [Option.map_some, strOf_text]
    congr 1
    simp [lab1]
    omega
theorem set_small {ls : List Lab} (h : isSet ls = true) : ∀ x ∈ ls, x.1.size ≤ 12 ∧ x.2.size ≤ 24 := by
  intro x hx
  obtain ⟨j, hj, rfl⟩ := List.getElem_of_mem hx
  have := okAt_size ((isSet_iff.1 h).2.2 j hj)
  rw [nth_eq hj] at this
  omega
theorem read_back {ls : List Lab} (h : isSet ls = true) (r : List Nat) : readSet (setBytes ls ++ r) = some (ls, (setBytes ls).length) := by
  have h6 := (isSet_iff.1 h).2.1
  have e : setBytes ls ++ r = Vm.put ls.length ++ (ls.flatMap lab1 ++ r) := by rw [setBytes, List.append_assoc]
  rw [readSet, e, Vm.dec_put (fits24 (by omega))]
  simp only
  rw [if_neg (by omega), List.drop_left, readN_back ls r (set_small h)]
  simp only [h, if_true]
  rw [setBytes, List.length_append]
theorem bytes_set {ls : List Lab} (h : isSet ls = true) : bytesOf ls = setBytes ls := by rw [bytesOf, h]; rfl
theorem pre_iff {a c : List Lab} (ha : isSet a = true) (hc : isSet c = true) : (bytesOf c).take (bytesOf a).length = bytesOf a ↔ a = c := by
  rw [bytes_set ha, bytes_set hc]
  constructor
  · intro h
    have e1 := read_back ha ((setBytes c).drop (setBytes a).length)
    have e2 := read_back hc []
    have e3 : setBytes a ++ (setBytes c).drop (setBytes a).length = setBytes c := by
      conv => lhs; arg 1; rw [← h]
      exact List.take_append_drop _ _
    rw [e3] at e1
    rw [List.append_nil, e1] at e2
    injection e2 with e2
    injection e2 with e2 _
  · rintro rfl
    exact List.take_length
theorem bytes_byte {ls : List Lab} (h : isSet ls = true) : ∀ x ∈ bytesOf ls, x < 256 := by
  rw [bytes_set h]
  intro x hx
  rw [setBytes, List.mem_append] at hx
  rcases hx with hx | hx
  · exact Vm.put_byte (fits24 (by have := (isSet_iff.1 h).2.1; omega)) x hx
  · simp only [List.mem_flatMap] at hx
    obtain ⟨y, hy, hx⟩ := hx
    have := set_small h y hy
    rw [lab1, List.mem_append] at hx
    rcases hx with hx | hx
    · exact ptext_byte (by omega) x hx
    · exact ptext_byte (by omega) x hx
theorem bytes_len {ls : List Lab} (h : isSet ls = true) : (bytesOf ls).length ≤ 500 := by
  rw [bytes_set h, ← upTo_all]
  have a := upTo_len (m := 24) (set_sizes h) ls.length (Nat.le_refl _)
  have b := (isSet_iff.1 h).2.1
  omega
end Go.Proofs.Ytbfpcolbkfcanaa
