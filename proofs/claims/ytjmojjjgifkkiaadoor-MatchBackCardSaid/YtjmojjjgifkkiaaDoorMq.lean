/-
  A text's bytes are read as it was, whatever stands behind; unlike texts have unlike bytes. Conditions: texts are short.
-/
import Derived.Test.YtjmojjjgifkkiaaDoorZ27
import Derived.Test.YtjmojjjgifkkiaaDoorZ30
namespace Go.Proofs.YtjmojjjgifkkiaaDoor
open La

theorem fits24 {n : Nat} (h : n ≤ 1000) : Vm.Fits n := by unfold Vm.Fits; omega
theorem gt_put {s : ByteArray} {m : Nat} (h : s.size ≤ m) (hm : m ≤ 1000) (r : List Nat) : Vm.getText (putText s ++ r) (m : Int) = some (textL s, (putText s).length) := by
  have e : putText s ++ r = Vm.put s.size ++ (textL s ++ r) := by rw [putText, List.append_assoc]
  rw [Vm.getText, e, Vm.dec_put (fits24 (by omega))]
  simp only
  have hl := textL_length s
  rw [if_neg (by simp only [List.length_append]; omega), List.drop_left, List.take_left' hl, putText, List.length_append, hl]
theorem text_inj {s t : ByteArray} (h : textL s = textL t) : s = t := by rw [← strOf_text s, ← strOf_text t, h]
theorem pt_inj {s t : ByteArray} {r r' : List Nat} (hs : s.size ≤ 24) (ht : t.size ≤ 24) (h : putText s ++ r = putText t ++ r') : s = t ∧ r = r' := by
  have e1 := gt_put hs (by omega) r
  have e2 := gt_put ht (by omega) r'
  rw [h, e2] at e1
  injection e1 with e1
  injection e1 with e1 _
  have e := text_inj e1.symm
  subst e
  exact ⟨rfl, List.append_cancel_left h⟩
theorem strOf_inj {l m : List Nat} (h1 : ∀ x ∈ l, x < 256) (h2 : ∀ x ∈ m, x < 256) : ((strOf l).toList == (strOf m).toList) = decide (l = m) := str_eq h1 h2
end Go.Proofs.YtjmojjjgifkkiaaDoor
