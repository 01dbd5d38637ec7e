/-
  Plain mathematics of chapter 4: a set's bytes, what bytes are read as, projections. No conditions.
-/
import Derived.Test.YtbfpcolbkfcanaaMl
import Derived.Test.YtbfpcolbkfcanaaTx
import Derived.Test.YtbfpcolbkfcanaaTg
namespace Go.Proofs.Ytbfpcolbkfcanaa.La

/-! ### A set's bytes -/
def lab1 (x : Lab) : List Nat := putText x.1 ++ putText x.2
def setBytes (ls : List Lab) : List Nat := Vm.put ls.length ++ ls.flatMap lab1
def bytesOf (ls : List Lab) : List Nat := if isSet ls then setBytes ls else []
/-- The bytes of the first k labels. -/
def upTo (ls : List Lab) (k : Nat) : List Nat := Vm.put ls.length ++ (ls.take k).flatMap lab1
theorem upTo_zero (ls : List Lab) : upTo ls 0 = Vm.put ls.length := by simp [upTo]
theorem upTo_succ {ls : List Lab} {k : Nat} (h : k < ls.length) : upTo ls (k + 1) = upTo ls k ++ putText (nth ls k).1 ++ putText (nth ls k).2 := by
  show Vm.put ls.length ++ (ls.take (k + 1)).flatMap lab1 = Vm.put ls.length ++ (ls.take k).flatMap lab1 ++ _ ++ _
  rw [List.take_succ_eq_append_getElem h, nth_eq h, List.flatMap_append]
  simp only [List.flatMap_cons, List.flatMap_nil, lab1, List.append_assoc, List.append_nil]
theorem upTo_all (ls : List Lab) : upTo ls ls.length = setBytes ls := by rw [upTo, setBytes, List.take_length]
theorem ptext_len (s : ByteArray) : (putText s).length ≤ 10 + s.size := by
  rw [putText, List.length_append, textL_length]
  have := put_len s.size
  omega
theorem upTo_len {ls : List Lab} {m : Nat} (h : ∀ x ∈ ls, x.1.size ≤ m ∧ x.2.size ≤ m) : ∀ k, k ≤ ls.length → (upTo ls k).length ≤ 10 + k * (20 + 2 * m)
  | 0, _ => by rw [upTo_zero]; have := put_len ls.length; omega
  | k + 1, hk => by
    have ih := upTo_len h k (by omega)
    have h1 := h _ (nth_mem (ls := ls) (j := k) (by omega))
    rw [upTo_succ (by omega), List.length_append, List.length_append]
    have a := ptext_len (nth ls k).1
    have b := ptext_len (nth ls k).2
    rw [Nat.add_mul]
    omega
theorem set_sizes {ls : List Lab} (h : isSet ls = true) : ∀ x ∈ ls, x.1.size ≤ 24 ∧ x.2.size ≤ 24 := by
  intro x hx
  obtain ⟨j, hj, rfl⟩ := List.getElem_of_mem hx
  have := okAt_size ((isSet_iff.1 h).2.2 j hj)
  rw [nth_eq hj] at this
  omega

/-! ### Reading -/
/-- n labels that bytes begin with, and how many bytes they take. -/
def readN : Nat → List Nat → Option (List Lab × Nat)
  | 0, _ => some ([], 0)
  | n + 1, l =>
    match Vm.getText l 12 with
    | none => none
    | some (t, j) =>
      match Vm.getText (l.drop j) 24 with
      | none => none
      | some (u, m) => (readN n (l.drop (j + m))).map fun r => ((strOf t, strOf u) :: r.1, j + m + r.2)
def readSet (l : List Nat) : Option (List Lab × Nat) :=
  match Vm.dec l with
  | none => none
  | some (n, k) =>
    if 6 < n then none else
    match readN n (l.drop k) with
    | none => none
    | some (ls, m) => if isSet ls then some (ls, k + m) else none
/-- What a reading loop keeps: c labels were asked for, those of acc are read, the next one stands at place p. -/
def ReadRel (l : List Nat) (n k : Nat) (acc : List Lab) (p : Nat) : Prop :=
  acc.length ≤ n ∧ k ≤ p ∧ p ≤ l.length ∧ readN n (l.drop k) = (readN (n - acc.length) (l.drop p)).map fun r => (acc ++ r.1, p - k + r.2)
theorem readRel_start {l : List Nat} {n k : Nat} (h : k ≤ l.length) : ReadRel l n k [] k := by
  refine ⟨by simp, Nat.le_refl _, h, ?_⟩
  simp
theorem readRel_none1 {l : List Nat} {n k p : Nat} {acc : List Lab} (h : ReadRel l n k acc p) (hn : acc.length < n) (h1 : Vm.getText (l.drop p) 12 = none) : readN n (l.drop k) = none := by
  obtain ⟨_, _, _, e⟩ := h
  rw [e]
  obtain ⟨m, hm⟩ : ∃ m, n - acc.length = m + 1 := ⟨n - acc.length - 1, by omega⟩
  rw [hm, readN, h1]; rfl
theorem readRel_none2 {l : List Nat} {n k p j : Nat} {t : List Nat} {acc : List Lab} (h : ReadRel l n k acc p) (hn : acc.length < n) (h1 : Vm.getText (l.drop p) 12 = some (t, j)) (h2 : Vm.getText (l.drop (p + j)) 24 = none) : readN n (l.drop k) = none := by
  obtain ⟨_, _, _, e⟩ := h
  rw [e]
  obtain ⟨m, hm⟩ : ∃ m, n - acc.length = m + 1 := ⟨n - acc.length - 1, by omega⟩
  rw [hm, readN, h1]
  simp only [List.drop_drop, h2]; rfl
theorem getText_le {l t : List Nat} {most : Int} {j : Nat} (h : Vm.getText l most = some (t, j)) (hb : ∀ j, l.getD j 0 < 256) : j ≤ l.length ∧ 1 ≤ j ∧ (t.length : Int) ≤ most ∧ ∀ x ∈ t, x < 256 := by
  unfold Vm.getText at h
  cases hd : Vm.dec l with
  | none => rw [hd] at h; cases h
  | some q =>
    obtain ⟨n, k⟩ := q
    rw [hd] at h
    simp only at h
    have ok := Vm.dec_ok hd hb
    split at h
    · cases h
    · injection h with h
      injection h with h1 h2
      subst h1 h2
      refine ⟨by omega, by omega, by simp; omega, fun x hx => mem_of_getD hb x (List.mem_of_mem_drop (List.mem_of_mem_take hx))⟩
theorem drop_byte {l : List Nat} (hb : ∀ j, l.getD j 0 < 256) (p : Nat) : ∀ j, (l.drop p).getD j 0 < 256 := fun j => by
  have := hb (p + j)
  simpa [List.getD, List.getElem?_drop] using this
theorem readRel_step {l : List Nat} {n k p j m : Nat} {t u : List Nat} {acc : List Lab} (hb : ∀ j, l.getD j 0 < 256) (h : ReadRel l n k acc p) (hn : acc.length < n) (h1 : Vm.getText (l.drop p) 12 = some (t, j)) (h2 : Vm.getText (l.drop (p + j)) 24 = some (u, m)) :
    ReadRel l n k (acc ++ [(strOf t, strOf u)]) (p + j + m) := by
  obtain ⟨e0, e1, e2, e⟩ := h
  have g1 := getText_le h1 (drop_byte hb p)
  have g2 := getText_le h2 (drop_byte hb (p + j))
  rw [List.length_drop] at g1 g2
  refine ⟨by simp; omega, by omega, by omega, ?_⟩
  rw [e]
  obtain ⟨q, hq⟩ : ∃ q, n - acc.length = q + 1 := ⟨n - acc.length - 1, by omega⟩
  have hq2 : n - (acc ++ [(strOf t, strOf u)]).length = q := by simp; omega
  rw [hq, hq2, readN, h1]
  simp only [List.drop_drop, h2]
  have ep : p + (j + m) = p + j + m := by omega
  rw [ep]
  cases readN q (l.drop (p + j + m)) with
  | none => rfl
  | some r =>
    simp only [Option.map_some]
    congr 1
    simp
    omega
theorem readRel_end {l : List Nat} {n k p : Nat} {acc : List Lab} (h : ReadRel l n k acc p) (hn : acc.length = n) : readN n (l.drop k) = some (acc, p - k) := by
  obtain ⟨_, _, _, e⟩ := h
  rw [e, hn, Nat.sub_self, readN]
  simp

/-! ### Projections -/
def project (ls : List Lab) (ns : List ByteArray) : List Nat := ns.flatMap fun n => putText (getL ls n)
end Go.Proofs.Ytbfpcolbkfcanaa.La
