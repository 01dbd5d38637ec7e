/-
  What Project and the reference's Project do. Conditions: values have no more than 24 bytes; no more than 20 names.
-/
import Derived.Test.YtbfpcolbkfcanaaMw
namespace Go.Proofs.Ytbfpcolbkfcanaa
open Go.RowKit La

def snth (ns : List ByteArray) (j : Nat) : ByteArray := ns.getD j ⟨#[]⟩
/-- The slice at address a reads as these strings. -/
def IsStrs (w : World) (a : Option Addr) (ns : List ByteArray) : Prop :=
  0 < ns.length → ∃ b off, a = some ⟨b, off, none⟩ ∧ ∀ j, j < ns.length → w.cell? ⟨b, off + j, none⟩ = some (.string (snth ns j))
theorem IsStrs.below {w w' : World} {a : Option Addr} {ns : List ByteArray} (h : IsStrs w a ns) (hb : Below w.heap.size w w') : IsStrs w' a ns := by
  intro hp
  obtain ⟨b, off, e, hc⟩ := h hp
  exact ⟨b, off, e, fun j hj => (hb.cell (World.block_lt_of_cell? w _ (hc j hj))).trans (hc j hj)⟩
/-- The projection on the first k names. -/
def proj (ls : List Lab) (ns : List ByteArray) (k : Nat) : List Nat := project ls (ns.take k)
theorem proj_zero (ls : List Lab) (ns : List ByteArray) : proj ls ns 0 = [] := by simp [proj, project]
theorem proj_succ {ls : List Lab} {ns : List ByteArray} {k : Nat} (h : k < ns.length) : proj ls ns (k + 1) = proj ls ns k ++ putText (getL ls (snth ns k)) := by
  show project ls (ns.take (k + 1)) = project ls (ns.take k) ++ _
  have e : snth ns k = ns[k] := by simp [snth, List.getD, List.getElem?_eq_getElem h]
  rw [List.take_succ_eq_append_getElem h, project, List.flatMap_append, e]
  simp [project]
theorem proj_all (ls : List Lab) (ns : List ByteArray) : proj ls ns ns.length = project ls ns := by rw [proj, List.take_length]
theorem proj_len {ls : List Lab} {ns : List ByteArray} (h : ∀ x ∈ ls, x.2.size ≤ 24) : ∀ k, k ≤ ns.length → (proj ls ns k).length ≤ k * 34
  | 0, _ => by rw [proj_zero]; simp
  | k + 1, hk => by
    have ih := proj_len (ns := ns) h k (by omega)
    have a := ptext_len (getL ls (snth ns k))
    have b := getL_size (n := snth ns k) h
    rw [proj_succ (show k < ns.length by omega), List.length_append]
    omega
theorem proj_byte {ls : List Lab} {ns : List ByteArray} (h : ∀ x ∈ ls, x.2.size ≤ 24) (k : Nat) : ∀ x ∈ proj ls ns k, x < 256 := by
  intro x hx
  simp only [proj, project, List.mem_flatMap] at hx
  obtain ⟨n, _, hx⟩ := hx
  exact ptext_byte (by have := getL_size (n := n) h; omega) x hx
theorem strOf_app (a b : List Nat) : strOf (a ++ b) = strOf a ++ strOf b := by
  refine WideShapes.bytes_inj ?_
  rw [ByteArray.data_append, Array.toList_append]
  simp only [strOf, strOfNums_data, List.map_append]
theorem strOf_nil : strOf [] = ⟨#[]⟩ := rfl
structure PjI (w : World) (ls : List Lab) (ns : List ByteArray) (k : Nat) (v : Value) (wr : World) : Prop where
  own : wr.ownsRow w.heap.size 5 1 v (proj ls ns k).length (by8 (proj ls ns k))
  bel : Below w.heap.size w wr

set_option maxRecDepth 100000 in
set_option maxHeartbeats 2000000 in
theorem project_any (ls : List Lab) (ns : List ByteArray) (A B : Option Addr) (ca cb : Nat) (w : World) (hl : ls.length ≤ 1048576) (hn : ns.length ≤ 20) (hv : ∀ x ∈ ls, x.2.size ≤ 24) (ha : IsLabs w A ls) (hb : IsStrs w B ns) :
    Calls Try.prog 10 #[.slice A ls.length ca, .slice B ns.length cb] w fun e w' => e = .returned (.string (strOf (project ls ns))) ∧ Below w.heap.size w w' := by
  have HA := Lib.hid ha
  have HB := Lib.hid hb
  have E := Lib.hid (proj_all ls ns)
  have P0 := Lib.hid (proj_zero ls ns)
  have PS := Lib.hid (fun k => proj_succ (ls := ls) (ns := ns) (k := k))
  have PL := Lib.hid (proj_len (ns := ns) hv)
  have PB := Lib.hid (proj_byte (ns := ns) hv)
  have GS := Lib.hid (fun n => getL_size (n := n) hv)
  clear ha hb hv
  obtain ⟨N, hN⟩ : ∃ N, ns.length = N := ⟨_, rfl⟩
  obtain ⟨M, hM⟩ : ∃ M, ls.length = M := ⟨_, rfl⟩
  rw [hN] at hn E PS PL ⊢
  rw [hM] at hl ⊢
  have HN := Lib.hid hN
  have HM := Lib.hid hM
  clear hN hM
  have I0 : Hid (PjI w ls ns 0 (.slice none 0 0) w) := ⟨by rw [P0.out]; exact World.ownsRow_nil _ _ _ _, Below.refl _ _⟩
  go_enter Try.func10, Try.ntmps10
  go_wp2
  go_loopw [5, 10] (fun v i wr => ∃ k : Nat, k ≤ N ∧ i = .int .i64 (k : Int) ∧ Hid (PjI w ls ns k v wr)) (fun _ i _ => N - (intOf i).toNat)
  case atStart => exact ⟨0, by omega, rfl, I0⟩
  case round =>
    clear I0
    obtain ⟨k, hk, rfl, HI⟩ := hrel
    by_cases hkn : k < N
    · have hkz : (k : Int) < (N : Int) := by omega
      obtain ⟨b, off, rfl, hc⟩ := (HB.out.below HI.out.bel) (by rw [HN.out]; omega)
      have c1 := hc k (by rw [HN.out]; exact hkn)
      clear hc
      have CG := Lib.hid (get_labs ls (snth ns k) A ca wr (by rw [HM.out]; omega) (HA.out.below HI.out.bel))
      rw [HM.out] at CG
      have gs := GS.out (snth ns k)
      have UK := Lib.hid (PS.out k hkn)
      have hlen := PL.out k hk
      obtain ⟨x, hx⟩ : ∃ x, snth ns k = x := ⟨_, rfl⟩
      rw [hx] at c1 CG gs UK
      clear hx
      obtain ⟨y, hy⟩ : ∃ y, getL ls x = y := ⟨_, rfl⟩
      rw [hy] at CG gs UK
      clear hy
      have hp := ptext_len y
      have P1 := Lib.hid (fun W => ptext_is y W gs)
      have O := Lib.hid HI.out.own
      have B := Lib.hid HI.out.bel
      clear HI
      go_wp2_with fail
      refine CG.out.mono ?_
      rintro e w2 ⟨rfl, b2⟩
      have o2 := own_keepL O.out b2
      have d2 := B.out.trans (b2.mono B.out.size)
      clear CG O B b2
      go_wp2_with fail
      refine (P1.out _).mono ?_
      rintro e w3 ⟨A1, k1, rfl, n1, i1, b3⟩
      have o3 := own_keepL o2 b3
      have d3 := d2.trans (b3.mono d2.size)
      clear o2 d2 b3 P1
      go_wp2_with (at_builtin; refine wpList_app _ rfl _ _ rfl w.heap.size _ (proj ls ns k) (putText y) _ _ rfl rfl rfl o3 A1 k1 rfl n1 i1 (by omega) d3.size ?_)
      intro v4 w4 o4 g4
      have I2 : Hid (PjI w ls ns (k + 1) v4 w4) := ⟨by rw [UK.out, List.length_append]; exact o4, d3.grown g4 d3.size (own_geL o3)⟩
      clear o3 d3 o4 g4 n1 i1
      go_wp2
      go_roundw
      case rel => exact ⟨k + 1, by omega, by go_num, I2⟩
      case measure => simp [intOf]; omega
    · obtain rfl : k = N := by omega
      have hkz : ¬ (k : Int) < (k : Int) := by omega
      have CV := own_conv HI.out.own (PB.out k)
      rw [E.out] at CV
      have B := Lib.hid HI.out.bel
      clear HI
      go_wp2
      go_ret
      exact ⟨rfl, B.out⟩

set_option maxRecDepth 100000 in
set_option maxHeartbeats 2000000 in
theorem rproject_any (ls : List Lab) (ns : List ByteArray) (A B : Option Addr) (ca cb : Nat) (w : World) (hl : ls.length ≤ 1048576) (hn : ns.length ≤ 20) (hv : ∀ x ∈ ls, x.2.size ≤ 24) (ha : IsLabs w A ls) (hb : IsStrs w B ns) :
    Calls Try.prog 28 #[.slice A ls.length ca, .slice B ns.length cb] w fun e w' => e = .returned (.string (strOf (project ls ns))) ∧ Below w.heap.size w w' := by
  have HA := Lib.hid ha
  have HB := Lib.hid hb
  have E := Lib.hid (proj_all ls ns)
  have P0 := Lib.hid (proj_zero ls ns)
  have PS := Lib.hid (fun k => proj_succ (ls := ls) (ns := ns) (k := k))
  have PL := Lib.hid (proj_len (ns := ns) hv)
  have GS := Lib.hid (fun n => getL_size (n := n) hv)
  clear ha hb hv
  obtain ⟨N, hN⟩ : ∃ N, ns.length = N := ⟨_, rfl⟩
  obtain ⟨M, hM⟩ : ∃ M, ls.length = M := ⟨_, rfl⟩
  rw [hN] at hn E PS PL ⊢
  rw [hM] at hl ⊢
  have HN := Lib.hid hN
  have HM := Lib.hid hM
  clear hN hM
  go_enter Try.func28, Try.ntmps28
  go_wp2
  go_loopw [5, 6] (fun v i wr => ∃ k : Nat, k ≤ N ∧ i = .int .i64 (k : Int) ∧ v = .string (strOf (proj ls ns k)) ∧ Hid (Below w.heap.size w wr)) (fun _ i _ => N - (intOf i).toNat)
  case atStart => exact ⟨0, by omega, rfl, by rw [P0.out]; rfl, Below.refl _ _⟩
  case round =>
    obtain ⟨k, hk, rfl, rfl, HI⟩ := hrel
    by_cases hkn : k < N
    · have hkz : (k : Int) < (N : Int) := by omega
      obtain ⟨b, off, rfl, hc⟩ := (HB.out.below HI.out) (by rw [HN.out]; omega)
      have c1 := hc k (by rw [HN.out]; exact hkn)
      clear hc
      have CG := Lib.hid (rget_labs ls (snth ns k) A ca wr (by rw [HM.out]; omega) (HA.out.below HI.out))
      rw [HM.out] at CG
      have gs := GS.out (snth ns k)
      have UK := Lib.hid (PS.out k hkn)
      have hlen := PL.out k hk
      obtain ⟨x, hx⟩ : ∃ x, snth ns k = x := ⟨_, rfl⟩
      rw [hx] at c1 CG gs UK
      clear hx
      obtain ⟨y, hy⟩ : ∃ y, getL ls x = y := ⟨_, rfl⟩
      rw [hy] at CG gs UK
      clear hy
      have hp := ptext_len y
      have P1 := Lib.hid (fun W => rptext_is y W gs)
      have US : Hid (strOf (proj ls ns k) ++ strOf (putText y) = strOf (proj ls ns (k + 1))) := by show _ = _; rw [UK.out, strOf_app]
      have s1 : (strOf (proj ls ns k)).size ≤ 700 := by rw [strOf_size]; omega
      have s2 : (strOf (putText y)).size ≤ 100 := by rw [strOf_size]; omega
      go_wp2_with fail
      refine CG.out.mono ?_
      rintro e w2 ⟨rfl, rfl⟩
      clear CG
      go_wp2_with fail
      refine (P1.out _).mono ?_
      rintro e w3 ⟨A1, k1, rfl, n1, i1, b3⟩
      have CV := is_conv (c := k1) i1
      have B3 := Lib.hid (HI.out.trans (b3.mono HI.out.size))
      clear P1 b3 HI i1 n1 UK
      generalize strOf (proj ls ns k) = S1 at *
      generalize strOf (putText y) = S2 at *
      have n1 : ¬ 9223372036854775807 < S1.size + S2.size := by omega
      go_wp2
      go_roundw
      case rel => exact ⟨k + 1, by omega, by go_num, by rw [US.out], B3⟩
      case measure => simp [intOf]; omega
    · obtain rfl : k = N := by omega
      have hkz : ¬ (k : Int) < (k : Int) := by omega
      rw [E.out]
      go_wp2
      go_ret
      exact ⟨rfl, HI.out⟩
end Go.Proofs.Ytbfpcolbkfcanaa
