/-
  Slices of ints in a walk; what the reference's SameInts and Has do. Conditions: lengths fit.
-/
import Derived.Test.YtjnikeiboefnbaaProg
import Derived.Test.YtjnikeiboefnbaaEa
import Derived.Test.YtjnikeiboefnbaaEd
import Derived.Test.YtjnikeiboefnbaaEf
import Derived.Test.YtjnikeiboefnbaaEo
import Derived.Deep.QuietTactic
import Derived.Laws.AppendOwn
import Derived.Laws.CopyOwn
import Derived.Laws.MakeOwn
import Derived.Laws.OwnMore
import Derived.OwnWalk
import Derived.WalkKit
import Derived.WalkSpells
import Derived.WalkLawsBesides
import Derived.Lib.Hide
import Derived.Below
import Derived.BigQuiet
import Derived.Lib.QuietBelow
import Derived.Laws.StructEq
import Derived.KernelRfl
import Derived.Deep.RegionHeld3
namespace Go.Proofs.Ytjnikeiboefnbaa
open Go.RowKit

/-- Ints as cells. -/
def zs (l : List Int) : List Value := l.map fun k => Value.int .i64 k
def zn (l : List Nat) : List Int := l.map fun k : Nat => (k : Int)
theorem zs_len (l : List Int) : (zs l).length = l.length := by simp [zs]
theorem zs_app (a b : List Int) : zs (a ++ b) = zs a ++ zs b := by simp [zs]
theorem zn_len (l : List Nat) : (zn l).length = l.length := by simp [zn]
theorem iz_zs (l : List Nat) : iz l = zs (zn l) := by simp [iz, zs, zn]
theorem zn_inj {a b : List Nat} : zn a = zn b ↔ a = b := by
  constructor
  · intro h
    have := congrArg (List.map Int.toNat) h
    simpa [zn, Function.comp_def] using this
  · rintro rfl; rfl
theorem zn_mem {l : List Nat} {k : Nat} : (k : Int) ∈ zn l ↔ k ∈ l := by
  simp only [zn, List.mem_map]
  constructor
  · rintro ⟨a, h, e⟩
    obtain rfl : a = k := by omega
    exact h
  · intro h; exact ⟨k, h, rfl⟩
/-- The slice at address a reads as these ints. -/
def IsZ (w : World) (a : Option Addr) (l : List Int) : Prop := 0 < l.length → ∃ b off, a = some ⟨b, off, none⟩ ∧ ∀ j, j < l.length → w.cell? ⟨b, off + j, none⟩ = some (.int .i64 (l.getD j 0))
theorem IsZ.drewN {w : World} {a : Option Addr} {l : List Int} (h : IsZ w a l) (n : Nat) : IsZ (w.drewN n) a l := h
theorem IsZ.below {w w' : World} {a : Option Addr} {l : List Int} (h : IsZ w a l) (hb : Below w.heap.size w w') : IsZ w' a l := by
  intro hp
  obtain ⟨b, off, e, hc⟩ := h hp
  exact ⟨b, off, e, fun j hj => (hb.cell (World.block_lt_of_cell? w _ (hc j hj))).trans (hc j hj)⟩
theorem IsZ.nil (w : World) (a : Option Addr) : IsZ w a [] := fun h => absurd h (by simp)
theorem zeq_of_getD {xs ys : List Int} (hl : xs.length = ys.length) (h : ∀ j, j < xs.length → xs.getD j 0 = ys.getD j 0) : xs = ys := by
  refine List.ext_getElem hl fun j h1 h2 => ?_
  have := h j h1
  simpa [List.getD, List.getElem?_eq_getElem h1, List.getElem?_eq_getElem h2] using this
/-- A slice of ints that one owns reads so. -/
theorem own_z {w : World} {base n : Nat} {v : Value} {l : List Int} (h : w.ownsRow base 3 1 v n (zs l)) : ∃ A c, v = .slice A n c ∧ n ≤ c ∧ (A = none → c = 0) ∧ IsZ w A l ∧ l.length = n := by
  have hl : l.length = n := by have := h.1; rw [zs_len] at this; omega
  rcases h.2 with ⟨rfl, rfl⟩ | ⟨g, cap, cur, rfl, _, hg, hc, _⟩
  · exact ⟨none, 0, rfl, Nat.le_refl _, fun _ => rfl, fun hp => by omega, hl⟩
  · refine ⟨_, cap, rfl, hc, (fun e => by cases e), fun _ => ⟨g, 0, rfl, fun j hj => ?_⟩, hl⟩
    have e : (zs l)[j]? = some (.int .i64 (l.getD j 0)) := by simp [zs, List.getD, List.getElem?_eq_getElem hj]
    have := h.cells (g := g) rfl j _ e
    rw [Nat.zero_add]
    have e2 : (⟨g, 0, none⟩ : Addr).add j = ⟨g, j, none⟩ := by unfold Addr.add; split <;> simp_all
    rwa [e2] at this
theorem mem_take_succ {xs : List Int} {k : Nat} {x : Int} (h : k < xs.length) : x ∈ xs.take (k + 1) ↔ x ∈ xs.take k ∨ x = xs.getD k 0 := by
  rw [List.take_succ_eq_append_getElem h, List.mem_append, List.mem_singleton, show xs.getD k 0 = xs[k] by simp [List.getD, List.getElem?_eq_getElem h]]
end Go.Proofs.Ytjnikeiboefnbaa
