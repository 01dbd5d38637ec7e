/-
  What cmp.Compare of words does, and what Rank's comparison does; a row of ints that one owns, as the sort sees it (SortW). Conditions: words have 64 bits; no more than 60 values; what is compared are places of the row of values.
-/
import Derived.Test.YtmdpeifpgnkbiaaDoorQi
import Derived.Test.YtmdpeifpgnkbiaaDoorRk
namespace Go.Proofs.YtmdpeifpgnkbiaaDoor
open Go.RowKit
/-- cmp.Compare as a number. -/
def cmpI (x y : Nat) : Int := if x < y then -1 else if y < x then 1 else 0
set_option maxRecDepth 100000 in
theorem cnan_any (x : Nat) (w : World) : Calls Tryd.prog 55 #[.int .u64 (x : Int)] w fun e w' => e = .returned (.bool false) ∧ w' = w := by
  go_enter Tryd.func55, Tryd.ntmps55
  go_wp2
  go_ret
  exact ⟨rfl, rfl⟩
set_option maxRecDepth 100000 in
theorem compare_any (x y : Nat) (w : World) : Calls Tryd.prog 43 #[.int .u64 (x : Int), .int .u64 (y : Int)] w fun e w' => e = .returned (.int .i64 (cmpI x y)) ∧ w' = w := by
  have N1 := Lib.hid (cnan_any x w)
  have N2 := Lib.hid (cnan_any y w)
  go_enter Tryd.func43, Tryd.ntmps43
  go_wp2_with fail
  refine N1.out.mono ?_
  rintro e w' ⟨rfl, rfl⟩
  go_wp2_with fail
  refine N2.out.mono ?_
  rintro e w' ⟨rfl, rfl⟩
  clear N1 N2
  by_cases h1 : x < y
  · have h1z : (x : Int) < (y : Int) := by omega
    have e : Hid (cmpI x y = -1) := by show _ = _; unfold cmpI; rw [if_pos h1]
    go_wp2
    go_ret
    exact ⟨by rw [e.out]; rfl, rfl⟩
  · have h1z : ¬ (x : Int) < (y : Int) := by omega
    by_cases h2 : y < x
    · have h2d : decide ((x : Int) > (y : Int)) = true := decide_eq_true (by omega)
      have e : Hid (cmpI x y = 1) := by show _ = _; unfold cmpI; rw [if_neg h1, if_pos h2]
      go_wp2
      go_ret
      exact ⟨by rw [e.out]; rfl, rfl⟩
    · have h2d : decide ((x : Int) > (y : Int)) = false := decide_eq_false (by omega)
      have e : Hid (cmpI x y = 0) := by show _ = _; unfold cmpI; rw [if_neg h1, if_neg h2]
      go_wp2
      go_ret
      exact ⟨by rw [e.out]; rfl, rfl⟩
/-- Rank's comparison, as numbers. -/
def rcf (l : List Nat) (i j : Nat) : Int := cmpI (Fm.key (l.getD j 0)) (Fm.key (l.getD i 0))
set_option maxRecDepth 100000 in
set_option maxHeartbeats 1000000 in
theorem rank1_any (l : List Nat) (n cap b off C i j : Nat) (w : World) (hn : l.length = n) (hw : ∀ x ∈ l, Fm.W x) (hc : ∀ k, k < n → w.cell? ⟨b, off + k, none⟩ = some (.float .f64 (l.getD k 0))) (hC : w.cell? ⟨C, 0, none⟩ = some (.slice (some ⟨b, off, none⟩) n cap)) (hi : i < n) (hj : j < n) :
    Calls Tryd.prog 42 #[.int .i64 (i : Int), .int .i64 (j : Int), .pointer (some ⟨C, 0, none⟩)] w fun e w' => e = .returned (.int .i64 (rcf l i j)) ∧ ∃ q, w' = w.drewN q := by
  have wi : Fm.W (l.getD i 0) := hw _ (by rw [List.getD_eq_getElem?_getD, List.getElem?_eq_getElem (by omega)]; exact List.getElem_mem _)
  have wj : Fm.W (l.getD j 0) := hw _ (by rw [List.getD_eq_getElem?_getD, List.getElem?_eq_getElem (by omega)]; exact List.getElem_mem _)
  have K := Lib.hid (fun f (hf : f = l.getD i 0 ∨ f = l.getD j 0) q => key_any f (hf.elim (fun e => e ▸ wi) (fun e => e ▸ wj)) (w.drewN q))
  have CP := Lib.hid (fun a b q => compare_any a b (w.drewN q))
  have ci := hc i hi
  have cj := hc j hj
  have hiz : (i : Int) < (n : Int) := by omega
  have hjz : (j : Int) < (n : Int) := by omega
  unfold rcf
  clear hw wi wj hc hn
  generalize l.getD i 0 = x at *
  generalize l.getD j 0 = y at *
  generalize Fm.key = kf at *
  generalize cmpI = cc at *
  go_enter Tryd.func42, Tryd.ntmps42
  go_wp2_with fail
  go_quiet (first | (go_at_call 26; exact Calls.quiet_of_same (K.out _ (by first | exact .inl rfl | exact .inr rfl) _)) | (go_at_call 43; exact Calls.quiet_of_same (CP.out _ _ _)))
  clear K CP ci cj hC
  go_wp2
  go_ret
  exact ⟨rfl, _, rfl⟩
end Go.Proofs.YtmdpeifpgnkbiaaDoor
