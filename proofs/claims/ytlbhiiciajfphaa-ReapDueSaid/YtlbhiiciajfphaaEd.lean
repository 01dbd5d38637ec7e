/-
  Rows of bools in a walk (places of a text); what the reference's join and same do. Conditions: no more than 1000 places.
-/
import Derived.Test.YtlbhiiciajfphaaProg
import Derived.Test.YtlbhiiciajfphaaEa
import Derived.Laws.MakeOwn
import Derived.Laws.OwnMore
import Derived.OwnWalk
import Derived.Deep.RegionHeld3
import Derived.WalkKit
import Derived.WalkSpells
import Derived.WalkLawsBesides
import Derived.Lib.Hide
import Derived.Below
import Derived.BigQuiet
import Derived.Lib.QuietBelow
import Derived.Laws.StructEq
import Derived.KernelRfl
namespace Go.Proofs.Ytlbhiiciajfphaa
open Go.RowKit Go.Sort

/-- n bools as cells. -/
def bof (n : Nat) (f : Nat → Bool) : List Value := (List.range n).map fun i => Value.bool (f i)
theorem bof_len (n : Nat) (f : Nat → Bool) : (bof n f).length = n := by simp [bof]
theorem bof_get {n : Nat} {f : Nat → Bool} {j : Nat} (h : j < n) : (bof n f)[j]? = some (.bool (f j)) := by simp [bof, h]
theorem bof_congr {n : Nat} {f g : Nat → Bool} (h : ∀ i, i < n → f i = g i) : bof n f = bof n g := by
  unfold bof
  exact List.map_congr_left fun i hi => by rw [h i (by simpa using hi)]
theorem bof_set {n : Nat} {f : Nat → Bool} {k : Nat} (b : Bool) : (bof n f).set k (.bool b) = bof n (fun i => if i = k then b else f i) := by
  refine List.ext_getElem? fun j => ?_
  by_cases hj : j < n
  · rw [bof_get hj, List.getElem?_set]
    by_cases e : k = j
    · subst e; simp [bof_len, hj]
    · rw [if_neg e, if_neg (Ne.symm e), bof_get hj]
  · rw [List.getElem?_eq_none (by simp [bof_len]; omega), List.getElem?_eq_none (by rw [bof_len]; omega)]
/-- The slice at address a reads as these bools. -/
def IsBo (w : World) (a : Option Addr) (n : Nat) (f : Nat → Bool) : Prop :=
  0 < n → ∃ b off, a = some ⟨b, off, none⟩ ∧ ∀ j, j < n → w.cell? ⟨b, off + j, none⟩ = some (.bool (f j))
theorem IsBo.below {w w' : World} {a : Option Addr} {n : Nat} {f : Nat → Bool} (h : IsBo w a n f) (hb : Below w.heap.size w w') : IsBo w' a n f := by
  intro hp
  obtain ⟨b, off, e, hc⟩ := h hp
  exact ⟨b, off, e, fun j hj => (hb.cell (World.block_lt_of_cell? w _ (hc j hj))).trans (hc j hj)⟩
/-- A row of bools of one's own. -/
def OwnB (w : World) (base g n : Nat) (f : Nat → Bool) : Prop := w.ownsRow base 4 1 (.slice (some ⟨g, 0, none⟩) n n) n (bof n f)
theorem OwnB.is {w : World} {base g n : Nat} {f : Nat → Bool} (h : OwnB w base g n f) : IsBo w (some ⟨g, 0, none⟩) n f := fun _ => ⟨g, 0, rfl, fun j hj => by
  have := World.ownsRow.cellAt h (g := g) j (by omega)
  rw [Nat.zero_add, this, bof_get hj]⟩
theorem OwnB.cell {w : World} {base g n : Nat} {f : Nat → Bool} (h : OwnB w base g n f) {j : Nat} (hj : j < n) : w.cell? ⟨g, j, none⟩ = some (.bool (f j)) := by
  have := World.ownsRow.cellAt h (g := g) j (by omega)
  rw [this, bof_get hj]
theorem OwnB.free {w : World} {base g n : Nat} {f : Nat → Bool} (h : OwnB w base g n f) (j : Nat) : w.frozen? ⟨g, j, none⟩ = false := World.ownsRow.frozenAt h j
theorem OwnB.put {w w0 : World} {base g n : Nat} {f : Nat → Bool} (h : OwnB w base g n f) (k : Nat) (b : Bool) (hb : Below base w0 w) (hs : base ≤ w.heap.size) (hg : base ≤ g) :
    OwnB (w.setCell ⟨g, k, none⟩ (.bool b)) base g n (fun i => if i = k then b else f i) ∧ Below base w0 (w.setCell ⟨g, k, none⟩ (.bool b)) ∧ base ≤ (w.setCell ⟨g, k, none⟩ (.bool b)).heap.size := by
  obtain ⟨s1, g1⟩ := World.ownsRow.stored h k (.bool b)
  rw [bof_set] at s1
  exact ⟨s1, hb.grown g1 hs (fun q hq => by injection hq with hq; omega), by have := g1.size; omega⟩
theorem OwnB.keep {w w' : World} {base g n : Nat} {f : Nat → Bool} (h : OwnB w base g n f) (hb : Below w.heap.size w w') : OwnB w' base g n f := by
  refine ⟨h.1, ?_⟩
  rcases h.2 with ⟨e, _⟩ | ⟨g', cap, cur, e, hbg, hg, rest⟩
  · cases e
  · exact .inr ⟨g', cap, cur, e, hbg, (hb.block g' (Array.getElem?_eq_some_iff.1 hg).1).trans hg, rest⟩
theorem Try.infoB : (Try.prog.info? 4).map (fun i => (i.zero, i.size, i.bytes)) = some (some (.bool false), 1, 1) := by kernel_rfl
theorem made_bof (n : Nat) : madeCells (Value.bool false).cells n = (bof n fun _ => false).toArray := by
  unfold madeCells bof
  refine Array.ext (by simp) fun i h1 h2 => ?_
  simp [Value.cells, Nat.mod_one]
theorem own_made (n : Nat) (hn : n ≤ 1000) (W : World) : OwnB (W.alloc (.cells (bof n fun _ => false).toArray 4)) W.heap.size W.heap.size n (fun _ => false) :=
  ⟨by rw [bof_len]; omega, .inr ⟨W.heap.size, n, _, rfl, Nat.le_refl _, heap_alloc_new W _, Nat.le_refl _, by unfold maxLen; omega, by simp [bof_len], by simp [bof_len, List.take_of_length_le]⟩⟩

end Go.Proofs.Ytlbhiiciajfphaa
