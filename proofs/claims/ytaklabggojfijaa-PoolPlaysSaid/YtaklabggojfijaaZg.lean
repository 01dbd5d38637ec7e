/-
  Stage 9's calls told of slices of ints in memory (SlZ); RowsRuns as a contract. Conditions: lengths fit.
-/
import Derived.Test.YtaklabggojfijaaProg
import Derived.Test.YtaklabggojfijaaEa
import Derived.Test.YtaklabggojfijaaEd
import Derived.Test.YtaklabggojfijaaEm
import Derived.Test.YtaklabggojfijaaEi
import Derived.Test.YtaklabggojfijaaIa
import Derived.Test.YtaklabggojfijaaIb
import Derived.Test.YtaklabggojfijaaIc
import Derived.Test.YtaklabggojfijaaZe
import Derived.Test.YtaklabggojfijaaZf
import Derived.Deep.RegionHeld3
import Derived.WalkKit
import Derived.WalkSpells
import Derived.WalkLawsBesides
import Derived.Lib.Hide
import Derived.Below
import Derived.BigQuiet
import Derived.Lib.QuietBelow
import Derived.Laws.StructEq
import Derived.KernelRfl
import Derived.Laws.MakeOwn
import Derived.Laws.OwnMore
import Derived.OwnWalk
import Derived.Laws.CopyOwn
import Derived.Laws.AppendOwn
import Derived.Deep.QuietTactic
import Derived.IntWalk
import Derived.Sort.OwnSortedInts
import Derived.Deep.Slices
import Derived.OpenShut
import Derived.Test.YtaklabggojfijaaSf
import Derived.Deep.Cut
namespace Go.Proofs.Ytaklabggojfijaa
open Go.RowKit Go.Sort

/-- A slice of ints in memory: it reads as these, at most K. -/
structure SlZ (w : World) (l : List Int) (A : Option Addr) (n c K : Nat) : Prop where
  len : l.length = n
  nil : A = none → c = 0
  is : IsZ w A l
  small : n ≤ K
  fits : K ≤ 1048576
theorem SlZ.below {w w' : World} {l : List Int} {A : Option Addr} {n c K : Nat} (h : SlZ w l A n c K) (hb : Below w.heap.size w w') : SlZ w' l A n c K := ⟨h.len, h.nil, h.is.below hb, h.small, h.fits⟩
theorem SlZ.le {w : World} {l : List Int} {A : Option Addr} {n c K K' : Nat} (h : SlZ w l A n c K) (hk : K ≤ K') (hf : K' ≤ 1048576) : SlZ w l A n c K' := ⟨h.len, h.nil, h.is, Nat.le_trans h.small hk, hf⟩
theorem SlZ.lit (w : World) (l : List Int) (m g : Nat) (cs : Array Value) (h : cs = (zs l).toArray) (hm : l.length = m) (hg : g = w.heap.size) (hl : m ≤ 1048576) : SlZ (w.alloc (.cells cs 3)) l (some ⟨g, 0, none⟩) m m m := by
  subst h
  subst hm
  subst hg
  refine ⟨rfl, (fun e => by cases e), fun _ => ⟨_, _, rfl, fun j hj => ?_⟩, Nat.le_refl _, hl⟩
  rw [Nat.zero_add]
  have e : (w.alloc (.cells (zs l).toArray 3)).heap[w.heap.size]? = some (.cells (zs l).toArray 3 (0, 0)) := Array.getElem?_push_size
  unfold World.cell?
  simp only [e]
  simp [zs, List.getD, List.getElem?_eq_getElem hj]
/-- A row of ints handed back. -/
def GaveZ (w : World) (P : List Int → Prop) (K : Nat) (e : Ending) (w' : World) : Prop := ∃ (out : List Int) (A : Option Addr) (n c : Nat), e = .returned (.slice A n c) ∧ P out ∧ SlZ w' out A n c K ∧ Below w.heap.size w w'
theorem GaveZ.of {w w' : World} {l : List Int} {e : Ending} {K : Nat} (h : ∃ out, IsRise l out ∧ MadeZ w out e w') (hl : l.length ≤ K) (hK : K ≤ 1048576) : GaveZ w (IsRise l) K e w' := by
  obtain ⟨out, hr, v, rfl, ho, hb⟩ := h
  obtain ⟨A, c, rfl, _, hn, hz, _⟩ := own_z ho
  exact ⟨out, A, out.length, c, rfl, hr, ⟨rfl, hn, hz, Nat.le_trans hr.len hl, hK⟩, hb⟩

theorem GaveZ.of_own {w : World} {w0 : Nat} {v : Value} {n K : Nat} {l : List Int} (h : w.ownsRow w0 3 1 v n (zs l)) (hK : n ≤ K) (hf : K ≤ 1048576) : ∃ A c, v = .slice A n c ∧ SlZ w l A n c K := by
  obtain ⟨A, c, e, _, hn, hz, hl⟩ := own_z h
  exact ⟨A, c, e, ⟨hl, hn, hz, hK, hf⟩⟩

section
variable {w : World} {xs ys : List Int} {A B : Option Addr} {nx ny ca cb K K' : Nat}
theorem or_s (h1 : SlZ w xs A nx ca K) (h2 : SlZ w ys B ny cb K') (hK : K + K' ≤ 1048576) : Calls Try.prog 24 #[.slice A nx ca, .slice B ny cb] w fun e w' => GaveZ w (IsRise (xs ++ ys)) (K + K') e w' :=
  (or_any xs ys A B nx ny ca cb w h1.len h2.len (by have := h1.small; omega) (by have := h2.small; omega) h1.nil h2.nil h1.is h2.is).mono fun _ _ h => GaveZ.of h (by rw [List.length_append, h1.len, h2.len]; have := h1.small; have := h2.small; omega) hK
theorem make_s (h1 : SlZ w xs A nx ca K) : Calls Try.prog 20 #[.slice A nx ca] w fun e w' => GaveZ w (IsRise xs) K e w' :=
  (zmake_any xs A nx ca w h1.len (by have := h1.small; have := h1.fits; omega) h1.nil h1.is).mono fun _ _ h => GaveZ.of h (by rw [h1.len]; exact h1.small) h1.fits
theorem rising_s (h1 : SlZ w xs A nx ca K) : Calls Try.prog 23 #[.slice A nx ca] w fun e w' => GaveZ w (IsRise xs) K e w' :=
  (rising_any xs A nx ca w h1.len (by have := h1.small; have := h1.fits; omega) h1.is).mono fun _ _ h => GaveZ.of h (by rw [h1.len]; exact h1.small) h1.fits
theorem pick_le (xs ys : List Int) (inn : Bool) : (pickZ ys inn xs).length ≤ xs.length := List.length_filter_le _ _
theorem not_s (h1 : SlZ w xs A nx ca K) (h2 : SlZ w ys B ny cb K') : Calls Try.prog 22 #[.slice A nx ca, .slice B ny cb] w fun e w' => GaveZ w (IsRise (pickZ ys false xs)) K e w' :=
  (not_any xs ys A B nx ny ca cb w h1.len h2.len (by have := h1.small; have := h1.fits; omega) (by have := h2.small; have := h2.fits; omega) h1.nil h2.nil h1.is h2.is).mono fun _ _ h => GaveZ.of h (by have := pick_le xs ys false; rw [h1.len] at this; have := h1.small; omega) h1.fits
theorem both_s (inn : Bool) (h1 : SlZ w xs A nx ca K) (h2 : SlZ w ys B ny cb K') : Calls Try.prog 19 #[.slice A nx ca, .slice B ny cb, .bool inn] w fun e w' => GaveZ w (IsRise (pickZ ys inn xs)) K e w' :=
  (both_any xs ys inn A B nx ny ca cb w h1.len h2.len (by have := h1.small; have := h1.fits; omega) (by have := h2.small; have := h2.fits; omega) h1.is h2.is).mono fun _ _ h => GaveZ.of h (by have := pick_le xs ys inn; rw [h1.len] at this; have := h1.small; omega) h1.fits
theorem cut_s (x : Int) (h1 : SlZ w xs A nx ca K) : Calls Try.prog 18 #[.slice A nx ca, .int .i64 x] w fun e w' => GaveZ w (IsRise (pickZ [x] false xs)) K e w' :=
  (cut_any xs x A nx ca w h1.len (by have := h1.small; have := h1.fits; omega) h1.nil h1.is).mono fun _ _ h => GaveZ.of h (by have := pick_le xs [x] false; rw [h1.len] at this; have := h1.small; omega) h1.fits
theorem rcut_s (x : Int) (h1 : SlZ w xs A nx ca K) : Calls Try.prog 12 #[.slice A nx ca, .int .i64 x] w fun e w' => GaveZ w (IsRise (pickZ [x] false xs)) K e w' :=
  (rcut_any xs x A nx ca w h1.len (by have := h1.small; have := h1.fits; omega) h1.is).mono fun _ _ h => GaveZ.of h (by have := pick_le xs [x] false; rw [h1.len] at this; have := h1.small; omega) h1.fits
theorem has_s (x : Int) (b : Bool) (h1 : SlZ w xs A nx ca K) (hb : decide (x ∈ xs) = b) : Calls Try.prog 16 #[.slice A nx ca, .int .i64 x] w fun e w' => e = .returned (.bool b) ∧ Below w.heap.size w w' :=
  (has_any xs x A nx ca w h1.len (by have := h1.small; have := h1.fits; omega) h1.is).mono fun _ _ ⟨h, e⟩ => ⟨by rw [h, hb], by rw [e]; exact Below.refl _ _⟩
theorem rhas_s (x : Int) (b : Bool) (h1 : SlZ w xs A nx ca K) (hb : decide (x ∈ xs) = b) : Calls Try.prog 11 #[.slice A nx ca, .int .i64 x] w fun e w' => e = .returned (.bool b) ∧ Below w.heap.size w w' :=
  (hasz_any xs x A nx ca w h1.len (by have := h1.small; have := h1.fits; omega) h1.is).mono fun _ _ ⟨h, e⟩ => ⟨by rw [h, hb], by rw [← e]; exact Below.refl _ _⟩
theorem is_s (b : Bool) (h1 : SlZ w xs A nx ca K) (hb : decide (xs.Pairwise (· < ·)) = b) : Calls Try.prog 17 #[.slice A nx ca] w fun e w' => e = .returned (.bool b) ∧ Below w.heap.size w w' :=
  (zis_any xs A nx ca w h1.len (by have := h1.small; have := h1.fits; omega) h1.is).mono fun _ _ ⟨h, q, e⟩ => ⟨by rw [h, hb], by rw [e]; exact below_drewN' (Below.refl _ _) q⟩
theorem same_s (b : Bool) (h1 : SlZ w xs A nx ca K) (h2 : SlZ w ys B ny cb K') (hb : decide (xs = ys) = b) : Calls Try.prog 13 #[.slice A nx ca, .slice B ny cb] w fun e w' => e = .returned (.bool b) ∧ Below w.heap.size w w' :=
  (same_any xs ys A B nx ny ca cb w h1.len h2.len (by have := h1.small; have := h1.fits; omega) (by have := h2.small; have := h2.fits; omega) h1.is h2.is).mono fun _ _ ⟨h, q, e⟩ => ⟨by rw [h, hb], by rw [e]; exact below_drewN' (Below.refl _ _) q⟩
end

end Go.Proofs.Ytaklabggojfijaa
