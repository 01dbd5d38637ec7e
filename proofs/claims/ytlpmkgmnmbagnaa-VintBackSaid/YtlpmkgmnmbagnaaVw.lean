/-
  The walk of the law VintGrows: for any two numbers it returns true and writes nothing that was there. Conditions: the two numbers fit 64 bits (as every argument does).
-/
import Derived.Test.YtlpmkgmnmbagnaaVl
import Derived.Test.YtlpmkgmnmbagnaaVn
namespace Go.Proofs.Ytlpmkgmnmbagnaa
open Go.RowKit

theorem own_keep {w1 w2 : World} {base e n : Nat} {v : Value} {xs : List Value} (h : w1.ownsRow base e 1 v n xs) (hb : Below w1.heap.size w1 w2) : w2.ownsRow base e 1 v n xs := by
  refine ⟨h.1, ?_⟩
  rcases h.2 with hn | ⟨g, cap, cur, rfl, hbg, hg, rest⟩
  · exact .inl hn
  · exact .inr ⟨g, cap, cur, rfl, hbg, (hb.block g (Array.getElem?_eq_some_iff.1 hg).1).trans hg, rest⟩
theorem own_head {w : World} {base n : Nat} {v : Value} {l : List Nat} (h : w.ownsRow base 5 1 v n (by8 l)) (hn : 0 < n) :
    ∃ g cap, v = .slice (some ⟨g, 0, none⟩) n cap ∧ n ≤ cap ∧ g < w.heap.size ∧ ∀ j, j < n → w.cell? ⟨g, j, none⟩ = some (.int .u8 ((l.getD j 0 : Nat) : Int)) := by
  have hl := own_len h
  rcases h.2 with ⟨_, e⟩ | ⟨g, c, cur, rfl, _, hg, hc, _⟩
  · omega
  · refine ⟨g, c, rfl, hc, (Array.getElem?_eq_some_iff.1 hg).1, fun j hj => ?_⟩
    rw [h.cellAt (g := g) j (by omega)]
    simp [by8, List.getElem?_eq_getElem (show j < l.length by omega)]

theorem str_back {l : List Nat} (h : ∀ x ∈ l, x < 256) : (strOf l).toList.map UInt8.toNat = l := by
  rw [ByteArray.toList_eq, strOf, strOfNums_data, List.map_map, List.map_map]
  conv => rhs; rw [← List.map_id l]
  exact List.map_congr_left fun x hx => by
    have := h x hx
    simp [UInt8.toNat_ofNat']; omega
theorem str_eq {l m : List Nat} (h1 : ∀ x ∈ l, x < 256) (h2 : ∀ x ∈ m, x < 256) : ((strOf l).toList == (strOf m).toList) = decide (l = m) := by
  rw [Bool.eq_iff_iff, beq_iff_eq, decide_eq_true_iff]
  refine ⟨fun h => ?_, fun h => by rw [h]⟩
  rw [← str_back h1, ← str_back h2, h]

set_option maxRecDepth 100000 in
set_option maxHeartbeats 400000 in
theorem grows_any (a b : Nat) (w : World) (ha : Vm.Fits a) (hb : Vm.Fits b) : Calls Try.prog 8 #[.int .u64 (a : Int), .int .u64 (b : Int)] w fun e w' => e = .returned (.bool true) ∧ Below w.heap.size w w' := by
  go_enter Try.func8, Try.ntmps8
  go_wp2_with fail
  refine (put_any a _ ha).mono ?_
  rintro e w1 ⟨v1, rfl, o1, hb1⟩
  go_wp2_with fail
  refine (put_any b _ hb).mono ?_
  rintro e w2 ⟨v2, rfl, o2, hb2⟩
  have o1 := own_keep o1 hb2
  have c1 := own_conv o1 (Vm.put_byte ha)
  have c2 := own_conv o2 (Vm.put_byte hb)
  have hbb := hb1.trans (hb2.mono hb1.size)
  have p1 : 0 < (Vm.put a).length := Vm.putF_pos _ _
  have p2 : 0 < (Vm.put b).length := Vm.putF_pos _ _
  obtain ⟨g1, k1, rfl, _, _, x1⟩ := own_head o1 p1
  obtain ⟨g2, k2, rfl, _, _, _⟩ := own_head o2 p2
  have x0 := x1 0 p1
  have sm : a < 128 → Vm.put a = [a] := Vm.put_small
  have mo : a ≤ b → (Vm.put a).length ≤ (Vm.put b).length := Vm.put_mono
  have ij : Vm.put a = Vm.put b → a = b := Vm.put_inj ha hb
  have se := str_eq (Vm.put_byte ha) (Vm.put_byte hb)
  have SE : Hid (((strOf (Vm.put a)).toList == (strOf (Vm.put b)).toList) = decide (a = b)) := by
    rw [se]
    by_cases e : a = b
    · subst e; simp [Hid]
    · simp only [Hid, e, decide_false, decide_eq_false_iff_not]; exact fun h => e (ij h)
  have y0 : a < 128 → w2.cell? ⟨g1, 0, none⟩ = some (.int .u8 (a : Int)) := fun h => by rw [x0, sm h]; rfl
  have l1 : a < 128 → (Vm.put a).length = 1 := fun h => by rw [sm h]; rfl
  clear se ij sm x1 x0 o1 o2 hb1 hb2
  generalize hS1 : strOf (Vm.put a) = S1 at c1 SE
  generalize hS2 : strOf (Vm.put b) = S2 at c2 SE
  clear hS1 hS2
  generalize hL1 : (Vm.put a).length = L1 at *
  generalize hL2 : (Vm.put b).length = L2 at *
  clear hL1 hL2
  have q0 : ((L1 : Int) == 0) = false := by simp; omega
  have q3 : (0 : Int) < (L1 : Int) := by omega
  obtain ⟨s0, hs0, hs1⟩ : ∃ s0, (S1.toList == S2.toList) = s0 ∧ s0 = decide (a = b) := ⟨_, rfl, SE.out⟩
  have q4 : (s0 == ((a : Int) == (b : Int))) = true := by
    rw [hs1, beq_iff_eq, Bool.eq_iff_iff]; simp; omega
  clear SE hs1
  by_cases h1 : a < 128
  · have y := y0 h1
    have q1 : ((L1 : Int) != 1) = false := by simp; exact_mod_cast l1 h1
    clear y0 l1
    by_cases h2 : a ≤ b
    · have q2 := mo h2
      clear mo
      go_wp2_with fail
      refine (runs_any _).mono ?_
      rintro e w3 ⟨rfl, hb3⟩
      go_wp2
      go_ret
      exact ⟨rfl, hbb.trans (hb3.mono hbb.size)⟩
    · clear mo
      go_wp2_with fail
      refine (runs_any _).mono ?_
      rintro e w3 ⟨rfl, hb3⟩
      go_wp2
      go_ret
      exact ⟨rfl, hbb.trans (hb3.mono hbb.size)⟩
  · clear y0 l1
    by_cases h2 : a ≤ b
    · have q2 := mo h2
      clear mo
      go_wp2_with fail
      refine (runs_any _).mono ?_
      rintro e w3 ⟨rfl, hb3⟩
      go_wp2
      go_ret
      exact ⟨rfl, hbb.trans (hb3.mono hbb.size)⟩
    · clear mo
      go_wp2_with fail
      refine (runs_any _).mono ?_
      rintro e w3 ⟨rfl, hb3⟩
      go_wp2
      go_ret
      exact ⟨rfl, hbb.trans (hb3.mono hbb.size)⟩

end Go.Proofs.Ytlpmkgmnmbagnaa
