/-
  What package real's own foremost, Min, Max do: the least, the greatest of any values, NaNs aside (Fm.IsExt). Conditions: words have 64 bits; the length fits.
-/
import Derived.Test.YtmdpeifpgnkbiaaDoorQa
namespace Go.Proofs.YtmdpeifpgnkbiaaDoor
open Go.RowKit

namespace Fm
/-- m is the best of the first k values, or the NaN, if there is none yet. -/
def BestV (g : Bool) (l : List Nat) (k m : Nat) : Prop := (m = nan ∧ Best g l k (-1)) ∨ ∃ t : Nat, Best g l k (t : Int) ∧ m = l.getD t 0 ∧ isN m = false ∧ t < k
theorem BestV.new {g : Bool} {l : List Nat} {k m : Nat} (h : BestV g l k m) (hm : isN m = true) (hn : isN (l.getD k 0) = false) : BestV g l (k + 1) (l.getD k 0) := by
  rcases h with ⟨rfl, h⟩ | ⟨t, h, rfl, h2, _⟩
  · exact .inr ⟨k, h.new hn, rfl, hn, by omega⟩
  · rw [hm] at h2; cases h2
theorem BestV.skip {g : Bool} {l : List Nat} {k m : Nat} (h : BestV g l k m) (hn : isN (l.getD k 0) = true) : BestV g l (k + 1) m := by
  rcases h with ⟨rfl, h⟩ | ⟨t, h, rfl, h2, h3⟩
  · exact .inl ⟨rfl, h.skip hn⟩
  · exact .inr ⟨t, h.skip hn, rfl, h2, by omega⟩
theorem BestV.step {g : Bool} {l : List Nat} {k m : Nat} (h : BestV g l k m) (hm : isN m = false) (hn : isN (l.getD k 0) = false) (hk : k < l.length) (hw : ∀ x ∈ l, W x) :
    BestV g l (k + 1) (if (if g then less m (l.getD k 0) else less (l.getD k 0) m) then l.getD k 0 else m) := by
  rcases h with ⟨rfl, h⟩ | ⟨t, h, rfl, h2, h3⟩
  · rw [nan_isN] at hm; cases hm
  · have wk := hw _ (mem_getD hk)
    have wt : W (l.getD t 0) := hw _ (mem_getD (by omega))
    cases g
    · have hlk := less_key wk wt
      cases hlt : less (l.getD k 0) (l.getD t 0)
      · simp only [Bool.false_eq_true, if_false]
        rw [hlt] at hlk
        have := of_decide_eq_false hlk.symm
        exact .inr ⟨t, h.stay (by show _ ≤ _; omega), rfl, h2, by omega⟩
      · simp only [Bool.false_eq_true, if_false, if_true]
        rw [hlt] at hlk
        have := of_decide_eq_true hlk.symm
        exact .inr ⟨k, h.over hn (by show _ < _; omega), rfl, hn, by omega⟩
    · have hlk := less_key wt wk
      cases hlt : less (l.getD t 0) (l.getD k 0)
      · simp only [Bool.false_eq_true, if_false, if_true]
        rw [hlt] at hlk
        have := of_decide_eq_false hlk.symm
        exact .inr ⟨t, h.stay (by show _ ≤ _; omega), rfl, h2, by omega⟩
      · simp only [if_true]
        rw [hlt] at hlk
        have := of_decide_eq_true hlk.symm
        exact .inr ⟨k, h.over hn (by show _ < _; omega), rfl, hn, by omega⟩
theorem BestV.ext {g : Bool} {l : List Nat} {m : Nat} (h : BestV g l l.length m) (hl : 0 < l.length) : IsExt g l m true := by
  rcases h with ⟨rfl, h⟩ | ⟨t, h, rfl, _, _⟩
  · exact h.none hl
  · exact h.found
theorem BestV.W {g : Bool} {l : List Nat} {k m : Nat} (h : BestV g l k m) (hk : k ≤ l.length) (hw : ∀ x ∈ l, W x) : W m := by
  rcases h with ⟨rfl, _⟩ | ⟨t, _, rfl, _, h3⟩
  · unfold Fm.W nan; decide
  · exact hw _ (mem_getD (by omega))
end Fm

section
set_option maxRecDepth 100000 in
set_option maxHeartbeats 1000000 in
theorem foremost_any (g : Bool) (c : FuncId) (eg : ∀ args w, (callFunc c args).run Tryd.prog w = .ok (.enter c args) w)
    (hc : ∀ x y w, Fm.W x → Fm.W y → Calls Tryd.prog c #[.float .f64 x, .float .f64 y] w fun e w' => e = .returned (.bool (if g then Fm.less y x else Fm.less x y)) ∧ w' = w)
    (l : List Nat) (A : Option Addr) (cap : Nat) (w : World) (hl : l.length ≤ 60) (hw : ∀ x ∈ l, Fm.W x) (ha : IsRow1 w A (fl64 l)) :
    Calls Tryd.prog 46 #[.slice A l.length cap, .func (.func c) #[] #[]] w fun e w' => (∃ m ok, Fm.IsExt g l m ok ∧ e = .returned (.tuple #[.float .f64 m, .bool ok])) ∧ w' = w := by
  have HA := Lib.hid ha
  have HW := Lib.hid hw
  have HC := Lib.hid hc
  clear ha hw hc
  generalize hn : l.length = n at *
  have HN := Lib.hid hn
  clear hn
  by_cases h0 : n = 0
  · subst h0
    have HE : Hid (Fm.IsExt g l 0 false) := .inl ⟨List.eq_nil_of_length_eq_zero HN.out, rfl, rfl⟩
    go_enter Tryd.func46, Tryd.ntmps46
    go_wp2
    go_ret2
    exact ⟨⟨0, false, HE.out, rfl⟩, rfl⟩
  have f3 : ∀ W, (callFunc 39 #[.int .u64 9221120237041090561]).run Tryd.prog W = .ok (.value (.float .f64 9221120237041090561)) W := fun W => ffrom W 9221120237041090561
  have n0 : ((n : Int) == 0) = false := by simp; omega
  go_enter Tryd.func46, Tryd.ntmps46
  go_wp2
  go_loopw [6, 15] (fun b i wr => ∃ (k m : Nat), k ≤ n ∧ b = .float .f64 m ∧ i = .int .i64 (k : Int) ∧ Hid (Fm.BestV g l k m) ∧ wr = w) (fun _ i _ => n - (intOf i).toNat)
  case atStart => exact ⟨0, Fm.nan, by omega, rfl, rfl, .inl ⟨rfl, .inl ⟨rfl, fun j hj => by omega⟩⟩, rfl⟩
  case round =>
    obtain ⟨k, m, hk, rfl, rfl, HB, rfl⟩ := hrel
    by_cases hkn : k < n
    · obtain ⟨b, off, rfl, hcl⟩ := HA.out (by rw [fl64_len, HN.out]; omega)
      have c0 := fl64_cell hcl (j := k) (by rw [HN.out]; exact hkn)
      have wk : Fm.W (l.getD k 0) := HW.out _ (Fm.mem_getD (by rw [HN.out]; exact hkn))
      have wm : Fm.W m := HB.out.W (by rw [HN.out]; exact hk) HW.out
      clear hcl
      have I1 := isnan_any (l.getD k 0) wr
      have I2 := isnan_any m wr
      have CC := HC.out (l.getD k 0) m wr wk wm
      cases hi : Fm.isN (l.getD k 0)
      · rw [hi] at I1
        cases hm : Fm.isN m
        · rw [hm] at I2
          have R := Lib.hid (HB.out.step hm hi (by rw [HN.out]; exact hkn) HW.out)
          clear HB hi hm wk wm
          generalize (if g then Fm.less m (l.getD k 0) else Fm.less (l.getD k 0) m) = t at *
          generalize l.getD k 0 = x at *
          cases t
          · simp only [Bool.false_eq_true, if_false] at R
            go_wp2_with fail
            refine I1.mono ?_
            rintro e w' ⟨rfl, rfl⟩
            go_wp2_with fail
            refine I2.mono ?_
            rintro e w' ⟨rfl, rfl⟩
            go_wp2_with fail
            refine CC.mono ?_
            rintro e w' ⟨rfl, rfl⟩
            go_wp2
            go_roundw
            case rel => exact ⟨k + 1, m, by omega, rfl, by go_num, R, trivial⟩
            case measure => simp [intOf]; omega
          · simp only [if_true] at R
            go_wp2_with fail
            refine I1.mono ?_
            rintro e w' ⟨rfl, rfl⟩
            go_wp2_with fail
            refine I2.mono ?_
            rintro e w' ⟨rfl, rfl⟩
            go_wp2_with fail
            refine CC.mono ?_
            rintro e w' ⟨rfl, rfl⟩
            go_wp2
            go_roundw
            case rel => exact ⟨k + 1, x, by omega, rfl, by go_num, R, trivial⟩
            case measure => simp [intOf]; omega
        · rw [hm] at I2
          have R := Lib.hid (HB.out.new hm hi)
          clear HB hi hm wk wm CC
          generalize l.getD k 0 = x at *
          go_wp2_with fail
          refine I1.mono ?_
          rintro e w' ⟨rfl, rfl⟩
          go_wp2_with fail
          refine I2.mono ?_
          rintro e w' ⟨rfl, rfl⟩
          go_wp2
          go_roundw
          case rel => exact ⟨k + 1, x, by omega, rfl, by go_num, R, trivial⟩
          case measure => simp [intOf]; omega
      · rw [hi] at I1
        have R := Lib.hid (HB.out.skip hi)
        clear HB hi wk wm CC I2
        generalize l.getD k 0 = x at *
        go_wp2_with fail
        refine I1.mono ?_
        rintro e w' ⟨rfl, rfl⟩
        go_wp2
        go_roundw
        case rel => exact ⟨k + 1, m, by omega, rfl, by go_num, R, trivial⟩
        case measure => simp [intOf]; omega
    · obtain rfl : k = n := by omega
      have HE : Hid (Fm.IsExt g l m true) := by
        have := HB.out
        rw [← HN.out] at this
        exact this.ext (by rw [HN.out]; omega)
      go_wp2
      go_ret2
      exact ⟨⟨m, true, HE.out, rfl⟩, rfl⟩

set_option maxRecDepth 100000 in
theorem min_any (l : List Nat) (A : Option Addr) (cap : Nat) (w : World) (hl : l.length ≤ 60) (hw : ∀ x ∈ l, Fm.W x) (ha : IsRow1 w A (fl64 l)) :
    Calls Tryd.prog 32 #[.slice A l.length cap] w fun e w' => (∃ m ok, Fm.IsExt false l m ok ∧ e = .returned (.tuple #[.float .f64 m, .bool ok])) ∧ Below w.heap.size w w' := by
  have F := foremost_any false 16 (enters_of Tryd.func16 (by kernel_rfl) rfl) (fun x y w hx hy => less_any x y hx hy w) l A cap w hl hw ha
  clear hw ha
  generalize l.length = n at *
  go_enter Tryd.func32, Tryd.ntmps32
  go_wp2_with fail
  refine F.mono ?_
  rintro e w' ⟨⟨m, ok, he, rfl⟩, rfl⟩
  have HE := Lib.hid he
  clear he F
  go_wp2
  go_ret2
  exact ⟨⟨m, ok, HE.out, rfl⟩, Below.refl _ _⟩

set_option maxRecDepth 100000 in
theorem max1_any (a b : Nat) (ha : Fm.W a) (hb : Fm.W b) (w : World) : Calls Tryd.prog 47 #[.float .f64 a, .float .f64 b] w fun e w' => e = .returned (.bool (Fm.less b a)) ∧ w' = w := by
  have L := less_any b a hb ha w
  clear ha hb
  generalize Fm.less b a = r at *
  go_enter Tryd.func47, Tryd.ntmps47
  go_wp2_with fail
  refine L.mono ?_
  rintro e w' ⟨rfl, rfl⟩
  go_wp2
  go_ret
  exact ⟨rfl, rfl⟩
set_option maxRecDepth 100000 in
theorem max_any (l : List Nat) (A : Option Addr) (cap : Nat) (w : World) (hl : l.length ≤ 60) (hw : ∀ x ∈ l, Fm.W x) (ha : IsRow1 w A (fl64 l)) :
    Calls Tryd.prog 33 #[.slice A l.length cap] w fun e w' => (∃ m ok, Fm.IsExt true l m ok ∧ e = .returned (.tuple #[.float .f64 m, .bool ok])) ∧ Below w.heap.size w w' := by
  have F := foremost_any true 47 (enters_of Tryd.func47 (by kernel_rfl) rfl) (fun x y w hx hy => max1_any x y hx hy w) l A cap w hl hw ha
  clear hw ha
  generalize l.length = n at *
  go_enter Tryd.func33, Tryd.ntmps33
  go_wp2_with fail
  refine F.mono ?_
  rintro e w' ⟨⟨m, ok, he, rfl⟩, rfl⟩
  have HE := Lib.hid he
  clear he F
  go_wp2
  go_ret2
  exact ⟨⟨m, ok, HE.out, rfl⟩, Below.refl _ _⟩
end
end Go.Proofs.YtmdpeifpgnkbiaaDoor
