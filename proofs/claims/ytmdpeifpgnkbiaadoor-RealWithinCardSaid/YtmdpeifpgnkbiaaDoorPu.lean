/-
  A new block and a whole row stored into it. No conditions; nothing of any program.
-/
import Derived.Test.YtmdpeifpgnkbiaaDoorSb
import Derived.Deep.MidRow
namespace Go.Proofs.YtmdpeifpgnkbiaaDoor.Pu
open Go.RowKit

theorem below {w : World} {B G : Nat} (hB : B ≤ G) : ∀ (l : List Value) (i : Nat) (W : World), Below B w W → Below B w (W.setCells G i l)
  | [], _, _, h => h
  | u :: r, i, _, h => below hB r (i + 1) _ (h.setCell (p := ⟨G, i, none⟩) hB u)
theorem has {G : Nat} {ty : TypeId} : ∀ (l : List Value) (i : Nat) (W : World) (cs : List Value), Has W G ty cs.toArray → i + l.length = cs.length → Has (W.setCells G i l) G ty (cs.take i ++ l).toArray
  | [], i, W, cs, h, e => by
    have : cs.take i = cs := List.take_of_length_le (by simp at e; omega)
    rw [this, List.append_nil]; exact h
  | u :: r, i, W, cs, h, e => by
    have h1 := h.stored i u
    rw [List.setIfInBounds_toArray] at h1
    have h2 := has r (i + 1) _ (cs.set i u) h1 (by simp at e ⊢; omega)
    have hi : i < cs.length := by simp at e; omega
    have e2 : (cs.set i u).take (i + 1) = cs.take i ++ [u] := by
      rw [List.take_succ_eq_append_getElem (by simpa using hi), List.take_set_of_le (Nat.le_refl i)]
      simp
    rw [e2, List.append_assoc] at h2
    exact h2
theorem new_there (w : World) (t : TypeId) (z : List Value) (n : Nat) (h : n = z.length) : (w.alloc (.cells z.toArray t)).there w.heap.size 0 n := by
  subst h
  have F := Has.new w t z.toArray
  intro i hi
  refine ⟨?_, F.frozen _⟩
  rw [F.cell, List.getElem?_toArray, List.getElem?_eq_getElem (by omega)]
  rfl
theorem new_has (w : World) (t : TypeId) (z : List Value) (cs : Array Value) (h : cs.size = z.length) : Has ((w.alloc (.cells z.toArray t)).setCells w.heap.size 0 cs.toList) w.heap.size t cs := by
  have := has cs.toList 0 _ z (Has.new w t z.toArray) (by simp [h])
  simpa using this
theorem new_below (w : World) (o : Obj) (l : List Value) : Below w.heap.size w ((w.alloc o).setCells w.heap.size 0 l) :=
  below (Nat.le_refl _) l 0 _ ((Below.refl w.heap.size w).alloc (Nat.le_refl _) o)
end Go.Proofs.YtmdpeifpgnkbiaaDoor.Pu
