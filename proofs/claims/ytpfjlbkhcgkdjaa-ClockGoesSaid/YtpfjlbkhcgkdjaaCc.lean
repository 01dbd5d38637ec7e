/-
  An argument of type uint64 opened: it is a word of 64 bits. No conditions.
-/
import Derived.Test.YtpfjlbkhcgkdjaaCa
import Derived.WalkKit
import Derived.ProofKit
import Derived.OpenShut
import Derived.ChangeOld
import Derived.ChangeSame
import Derived.Below
namespace Go.Proofs.Ytpfjlbkhcgkdjaa
open Go.RowKit

/-- A call that leaves the world as it was writes nothing that was there. -/
theorem same_below {P : Program} {f : FuncId} {args : Array Value} {w : World} {v : Value} (h : Calls P f args w fun e w' => e = .returned v ∧ w' = w) : Calls P f args w fun e w' => e = .returned v ∧ Below w.heap.size w w' :=
  h.mono fun _ _ ⟨he, hw⟩ => ⟨he, by rw [hw]; exact Below.refl _ _⟩

section
open Go.ChangeShapes Go.WideShapes Go.ChangeAt Go.WideMaps Go.WideElems
variable {H : Type} {enc : TypeId × Value → H} {W : World}
set_option maxRecDepth 100000 in
theorem open_u64 {base : Nat} {v : Value} {d : DataW H} {p : List MemPlace} (hv : Value.okWide Try.prog W .any base 23 v) (h : DataW.Trod enc Try.prog W 0 (fun _ => true) true 23 v d p) :
    ∃ z : Int, v = .int .u64 z ∧ U64 z := by
  obtain ⟨z, rfl, _, _, hz⟩ := open_int Try.underlying23 hv h
  have := bounds_u64 hz
  exact ⟨z, rfl, by omega, by omega⟩
end
end Go.Proofs.Ytpfjlbkhcgkdjaa
