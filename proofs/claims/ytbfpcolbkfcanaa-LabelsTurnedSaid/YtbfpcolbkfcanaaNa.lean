/-
  LabelsRuns as a contract: chapter 4's runs come out true. No conditions.
-/
import Derived.Test.YtbfpcolbkfcanaaMp
namespace Go.Proofs.Ytbfpcolbkfcanaa
open Go.RowKit La

def sa : ByteArray := ⟨#[97]⟩
def s1 : ByteArray := ⟨#[49]⟩
def sb : ByteArray := ⟨#[98]⟩
theorem strs_lit (w : World) (g : Nat) (hg : w.heap.size = g) : IsStrs (w.alloc (.cells #[.string sa, .string sb] 9)) (some ⟨g, 0, none⟩) [sa, sb] := fun _ => ⟨g, 0, rfl, fun j hj => by
  subst hg
  rw [cell_of_row _ w.heap.size (0 + j) _ 9 (0, 0) (heap_alloc_new w _)]
  match j, hj with
  | 0, _ => rfl
  | 1, _ => rfl⟩
theorem run_proj : (strOf (project [(sa, s1)] [sa, sb])).toList = [1, 49, 0] := by decide +kernel
theorem run_set : isSet [(sa, s1)] = true := by decide +kernel
theorem run_bytes : bytesOf [(sa, s1)] = [1, 1, 97, 1, 49] := by decide +kernel
theorem run_name : name ⟨#[49, 97]⟩ = false := by decide +kernel
theorem run_none : isSet [] = false := by decide +kernel
theorem run_b5 : ∀ x ∈ [1, 1, 97, 1, 49], x < 256 := by decide
theorem run_str5 : (strOf [1, 1, 97, 1, 49]).toList = [1, 1, 97, 1, 49] := by decide +kernel

set_option maxRecDepth 100000 in
set_option maxHeartbeats 2000000 in
theorem runs_any (w : World) : Calls Try.prog 3 #[] w fun e w' => e = .returned (.bool true) ∧ Below w.heap.size w w' := by
  have L0 := lit_lab w (sa, s1)
  have B0 : Below w.heap.size w (w.alloc (.cells #[.string sa, .string s1] 23)) := (Below.refl _ _).alloc (Nat.le_refl _) _
  obtain ⟨w0, hw0⟩ : ∃ w0, w.alloc (.cells #[.string sa, .string s1] 23) = w0 := ⟨_, rfl⟩
  have B1 := B0.alloc B0.size (.cells #[.string sa, .string sb] 9)
  rw [hw0] at L0 B0 B1
  have b01 : Below w0.heap.size w0 (w0.alloc (.cells #[.string sa, .string sb] 9)) := (Below.refl _ _).alloc (Nat.le_refl _) _
  have NS := strs_lit w0 w0.heap.size rfl
  have CP := Lib.hid (project_any [(sa, s1)] [sa, sb] (some ⟨w.heap.size, 0, none⟩) (some ⟨w0.heap.size, 0, none⟩) 1 2 (w0.alloc (.cells #[.string sa, .string sb] 9)) (by simp) (by simp) (by decide) (L0.below b01) NS)
  obtain ⟨S, hS⟩ : ∃ S, strOf (project [(sa, s1)] [sa, sb]) = S := ⟨_, rfl⟩
  have HS : S.toList = [1, 49, 0] := by rw [← hS]; exact run_proj
  rw [hS] at CP
  have LB := Lib.hid (fun W (hW : Below w0.heap.size w0 W) => L0.below hW)
  have sm : Small [(sa, s1)] := by intro x hx; simp at hx; subst hx; decide
  have CI := Lib.hid (fun W (hW : Below w0.heap.size w0 W) => is_any [(sa, s1)] (some ⟨w.heap.size, 0, none⟩) 1 W (by simp) sm (LB.out W hW))
  rw [run_set] at CI
  have CN := Lib.hid (fun W => is_any [] none 0 W (by simp) (fun x hx => by cases hx) (fun h => by simp at h))
  rw [run_none] at CN
  have CB := Lib.hid (fun W (hW : Below w0.heap.size w0 W) => bytes_any [(sa, s1)] (some ⟨w.heap.size, 0, none⟩) 1 W (by simp) sm (LB.out W hW))
  rw [run_bytes] at CB
  have CM := Lib.hid (fun W => name_any ⟨#[49, 97]⟩ W (by decide))
  rw [run_name] at CM
  have SZ : Hid (w0.heap.size = w.heap.size + 1) := by show _ = _; rw [← hw0]; simp
  have HB0 := Lib.hid B0
  have HB1 := Lib.hid b01
  clear L0 B0 B1 b01 NS sm hS LB
  unfold sa s1 sb at *
  simp only [List.length_cons, List.length_nil, Nat.zero_add, Nat.reduceAdd] at CP CI CN CB
  go_enter Try.func3, Try.ntmps3
  go_wp2_with fail
  refine CP.out.mono ?_
  rintro e w2 ⟨rfl, b2⟩
  have d2 := HB1.out.trans (b2.mono HB1.out.size)
  clear CP b2
  go_wp2_with fail
  refine (CI.out w2 d2).mono ?_
  rintro e w3 ⟨rfl, b3⟩
  have d3 := d2.trans (b3.mono d2.size)
  clear CI b3 d2
  go_wp2_with fail
  refine (CN.out w3).mono ?_
  rintro e w4 ⟨rfl, b4⟩
  have d4 := d3.trans (b4.mono d3.size)
  clear CN b4 d3
  go_wp2_with fail
  refine (CB.out w4 d4).mono ?_
  rintro e w5 ⟨v, rfl, o5, b5⟩
  have d5 := d4.trans (b5.mono d4.size)
  have CV := own_conv o5 run_b5
  obtain ⟨T, hT⟩ : ∃ T, strOf [1, 1, 97, 1, 49] = T := ⟨_, rfl⟩
  have HT : T.toList = [1, 1, 97, 1, 49] := by rw [← hT]; exact run_str5
  rw [hT] at CV
  clear CB b5 d4 o5 hT
  go_wp2_with fail
  refine (CM.out w5).mono ?_
  rintro e w6 ⟨rfl, rfl⟩
  have D := Lib.hid (HB0.out.trans (d5.mono HB0.out.size))
  clear CM d5 CV
  go_wp2
  go_ret
  exact ⟨rfl, D.out⟩
end Go.Proofs.Ytbfpcolbkfcanaa
