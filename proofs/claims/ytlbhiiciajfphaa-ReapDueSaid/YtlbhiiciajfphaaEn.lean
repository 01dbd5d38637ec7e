/-
  Plain mathematics of chapter 5: the reference's sets of places depend on the places of the text alone; a round that changes nothing is the last one. No conditions.
-/
import Derived.Test.YtlbhiiciajfphaaProg
import Derived.Test.YtlbhiiciajfphaaEa
import Derived.Test.YtlbhiiciajfphaaEm
import Derived.Deep.RegionHeld3
import Derived.WalkKit
import Derived.WalkSpells
import Derived.WalkLawsBesides
import Derived.Lib.Hide
import Derived.Below
import Derived.BigQuiet
import Derived.Lib.QuietBelow
import Derived.Laws.StructEq
import Derived.KernelRfl
import Derived.Laws.MakeOwn
import Derived.Laws.OwnMore
import Derived.OwnWalk
namespace Go.Proofs.Ytlbhiiciajfphaa
namespace Rx
theorem Says.congr {L : Nat} {g : (Nat → Bool) → Nat → Bool} {R : Nat → Nat → Prop} (h : Says L g R) {f f' : Nat → Bool} (hf : ∀ i, i ≤ L → f i = f' i) {j : Nat} (hj : j ≤ L) : g f j = g f' j := by
  rw [Bool.eq_iff_iff, h.2 f j hj, h.2 f' j hj]
  constructor
  · rintro ⟨i, hi, e, r⟩; exact ⟨i, hi, by rw [← hf i hi]; exact e, r⟩
  · rintro ⟨i, hi, e, r⟩; exact ⟨i, hi, by rw [hf i hi]; exact e, r⟩
theorem aft_congr (s : List Nat) (t : Rx) {f f' : Nat → Bool} (hf : ∀ i, i ≤ s.length → f i = f' i) {j : Nat} (hj : j ≤ s.length) : aft s t f j = aft s t f' j := (aft_says s t).congr hf hj
theorem star_congr {L : Nat} {g : (Nat → Bool) → Nat → Bool} {R : Nat → Nat → Prop} (h : Says L g R) (m : Nat) {f f' : Nat → Bool} (hf : ∀ i, i ≤ L → f i = f' i) {j : Nat} (hj : j ≤ L) : star g m f j = star g m f' j := by
  rw [Bool.eq_iff_iff, star_says h m f j hj, star_says h m f' j hj]
  constructor
  · rintro ⟨i, hi, e, r⟩; exact ⟨i, hi, by rw [← hf i hi]; exact e, r⟩
  · rintro ⟨i, hi, e, r⟩; exact ⟨i, hi, by rw [hf i hi]; exact e, r⟩
theorem star_stop {L : Nat} {g : (Nat → Bool) → Nat → Bool} {R : Nat → Nat → Prop} (h : Says L g R) {f : Nat → Bool} (hf : ∀ i, i ≤ L → (f i || g f i) = f i) : ∀ (m : Nat) {j : Nat}, j ≤ L → star g m f j = f j
  | 0, _, _ => rfl
  | m + 1, j, hj => by rw [star, star_congr h m hf hj]; exact star_stop h hf m hj
theorem seq_app (s : List Nat) : ∀ (a b : List Rx) (f : Nat → Bool), aftSeq s (a ++ b) f = aftSeq s b (aftSeq s a f)
  | [], _, _ => rfl
  | k :: r, b, f => by rw [List.cons_append, aftSeq, aftSeq]; exact seq_app s r b _
theorem alt_app (s : List Nat) : ∀ (a b : List Rx) (f : Nat → Bool) (i : Nat), aftAlt s (a ++ b) f i = (aftAlt s a f i || aftAlt s b f i)
  | [], _, _, _ => by simp [aftAlt]
  | k :: r, b, f, i => by
    have h := alt_app s r b f i
    show (aft s k f i || aftAlt s (r ++ b) f i) = _
    rw [h, ← Bool.or_assoc]
    rfl
theorem seq_take (s : List Nat) {ks : List Rx} {k : Nat} (h : k < ks.length) (f : Nat → Bool) : aftSeq s (ks.take (k + 1)) f = aft s (nth ks k) (aftSeq s (ks.take k) f) := by
  rw [List.take_succ_eq_append_getElem h, seq_app, ← nth_eq h]; rfl
theorem alt_take (s : List Nat) {ks : List Rx} {k : Nat} (h : k < ks.length) (f : Nat → Bool) (i : Nat) : aftAlt s (ks.take (k + 1)) f i = (aftAlt s (ks.take k) f i || aft s (nth ks k) f i) := by
  rw [List.take_succ_eq_append_getElem h, alt_app, ← nth_eq h]
  show (aftAlt s (ks.take k) f i || (aft s (nth ks k) f i || false)) = _
  rw [Bool.or_false]
end Rx

end Go.Proofs.Ytlbhiiciajfphaa
