/-
  What the program's Pad does, for all bytes: it returns a new slice of the padded bytes (Sm.pad), and writes nothing that was there. Condition: at most 2^40 bytes.
-/
import Derived.Test.YtolokcmlpecpdaaDoorPa
import Derived.OwnWalk
namespace Go.Proofs.YtolokcmlpecpdaaDoor
open Go.RowKit

theorem Sm.word_at (n j : Nat) (hj : j < 8) : (Vm.word n).take (j + 1) = (Vm.word n).take j ++ [n / 2 ^ (56 - 8 * j) % 256] := by
  match j, hj with
  | 0, _ => rfl
  | 1, _ => rfl
  | 2, _ => rfl
  | 3, _ => rfl
  | 4, _ => rfl
  | 5, _ => rfl
  | 6, _ => rfl
  | 7, _ => simp [Vm.word]
/-- Own bytes, and one more behind them. -/
theorem own_snoc {w wr w1 : World} {xs : List Nat} {n k : Nat} {v v' : Value} {o : Obj} (hown : wr.ownsRow w.heap.size 5 1 v n (by8 xs)) (hb : Below w.heap.size w wr)
    (hown' : w1.ownsRow w.heap.size 5 1 v' (n + 1) (by8 xs ++ [.int .u8 (k : Int)])) (hg : (wr.alloc o).grownBy w1 v.ownBlock) : w1.ownsRow w.heap.size 5 1 v' (n + 1) (by8 (xs ++ [k])) ∧ Below w.heap.size w w1 :=
  ⟨by rw [by8_snoc]; exact hown', (hb.alloc hb.size o).grown hg (by have := hb.size; simp; omega) (own_ge hown)⟩

set_option maxRecDepth 100000 in
set_option maxHeartbeats 400000 in
theorem pad_any (l : List Nat) (A : Option Addr) (cap : Nat) (w : World) (hl : l.length ≤ 1099511627776) (hA : A = none → cap = 0) (hb : IsBytes w A l) :
    Calls Tryd.prog 10 #[.slice A l.length cap] w (MadeBytes w (Sm.pad l)) := by
  obtain ⟨i0, hi, hz0, hz1, hz2⟩ := info_parts Tryd.info5
  have HA := Lib.hid hA
  have HB := Lib.hid hb
  clear hA hb
  have HP : Hid (Sm.pad l = l ++ [128] ++ List.replicate (Sm.zeros l.length) 0 ++ Vm.word (8 * l.length)) := by show _ = _; rfl
  have hZ : Sm.zeros l.length ≤ 63 := by unfold Sm.zeros; omega
  have ZA := zeros_any l.length hl w
  generalize hL : l.length = L at *
  have HL := Lib.hid hL
  clear hL
  generalize Sm.zeros L = Z at *
  go_enter Tryd.func10, Tryd.ntmps10
  go_wp2_with fail
  refine ZA.mono ?_
  rintro e w' ⟨rfl, rfl⟩
  go_wp2_with (at_make; refine wpList_make_own _ rfl _ _ 24 rfl w'.heap.size 5 i0 (.int .u8 0) 1 Tryd.underlying24 hi hz0 hz1 _ _ _ (L + 1 + Z + 8) rfl rfl (by omega) (by rw [hz2]; omega) (by unfold maxLen; omega) (Nat.le_refl _) ?_)
  intro w0 o0 g0
  have b0 : Below w'.heap.size w' w0 := (Below.refl _ _).grown g0 (Nat.le_refl _) (fun k h => by cases h)
  have I0 := Lib.hid (isBytes_below HB.out b0)
  clear g0
  go_wp2_with (at_builtin; refine wpList_app _ rfl _ _ rfl w'.heap.size _ [] l 0 _ rfl HL.out rfl o0 _ _ rfl HA.out I0.out (by omega) b0.size ?_)
  intro v1 w1 o1 g1
  have b1 : Below w'.heap.size w' w1 := b0.grown g1 b0.size (own_ge o0)
  clear o0 b0 g1 I0
  go_wp2_with (at_builtin; refine wpList_append_own _ rfl _ _ 24 rfl w'.heap.size 5 i0 (.int .u8 0) 1 1 Tryd.underlying24 hi hz0 hz1 hz2 rfl (by decide) _ _ _ rfl (o1.alloc _) ⟨w1.heap.size, 0, none⟩ 1 1 [.int .u8 128] rfl rfl (cell_one_new _ _ _) (one8 _) (by unfold maxLen; omega) (by omega) (bel_size b1) ?_)
  intro v2 w2 o2 g2 _
  obtain ⟨o3, b3⟩ := own_snoc (k := 128) o1 b1 o2 g2
  clear o1 b1 o2 g2
  go_wp2
  go_loopw [4, 24] (fun v i wr => ∃ z, z ≤ Z ∧ i = .int .i64 (z : Int) ∧ wr.ownsRow w'.heap.size 5 1 v (L + 1 + z) (by8 (l ++ [128] ++ List.replicate z 0)) ∧ Below w'.heap.size w' wr) (fun _ i _ => Z - (intOf i).toNat)
  case atStart => exact ⟨0, by omega, rfl, by simpa using o3, b3⟩
  case round =>
    obtain ⟨z, hz, rfl, hown, hb⟩ := hrel
    clear o3 b3
    generalize hxs : l ++ [128] ++ List.replicate z 0 = xs at hown
    have HXS := Lib.hid hxs
    clear hxs
    by_cases hzz : z < Z
    · go_wp2_with (at_builtin; refine wpList_append_own _ rfl _ _ 24 rfl w'.heap.size 5 i0 (.int .u8 0) 1 1 Tryd.underlying24 hi hz0 hz1 hz2 rfl (by decide) _ _ _ rfl (hown.alloc _) ⟨wr.heap.size, 0, none⟩ 1 1 [.int .u8 0] rfl rfl (cell_one_new _ _ _) (one8 _) (by unfold maxLen; omega) (by omega) (bel_size hb) ?_)
      intro v3 w3 o4 g4 _
      obtain ⟨o5, b5⟩ := own_snoc (k := 0) hown hb o4 g4
      clear hown hb o4 g4
      go_wp2
      go_roundw
      case rel => exact ⟨z + 1, by omega, by go_num, by rw [List.replicate_succ', ← List.append_assoc, HXS.out]; exact o5, b5⟩
      case measure => simp [intOf]; omega
    · obtain rfl : z = Z := by omega
      have hX : xs.length = L + 1 + z := own_len hown
      have HX := Lib.hid hX
      clear hX
      generalize hn : L + 1 + z = n at *
      have hn2 : n ≤ L + 64 := by omega
      clear hn
      go_wp2
      go_loopw [4, 6] (fun v i wr => ∃ j : Nat, j ≤ 8 ∧ i = .int .i64 (56 - 8 * (j : Int)) ∧ wr.ownsRow w'.heap.size 5 1 v (n + j) (by8 (xs ++ (Vm.word (8 * L)).take j)) ∧ Below w'.heap.size w' wr) (fun _ i _ => (8 + intOf i).toNat)
      case atStart => exact ⟨0, by omega, rfl, by simpa using hown, hb⟩
      case round =>
        obtain ⟨j, hj, rfl, ho, hbb⟩ := hrel
        clear hown hb
        by_cases h8 : j < 8
        · have HW := Lib.hid (Sm.word_at (8 * L) j h8)
          generalize hys : xs ++ (Vm.word (8 * L)).take j = ys at ho
          have HYS := Lib.hid hys
          clear hys
          have hq : (56 : Int) - 8 * (j : Int) = ((56 - 8 * j : Nat) : Int) := by omega
          have HQ := Lib.hid hq
          have hq2 : 56 - 8 * j < 64 := by omega
          simp only [hq]
          generalize 56 - 8 * j = q at *
          clear hq
          generalize hnj : n + j = nj at *
          have hnj2 : nj ≤ L + 72 := by omega
          go_wp2_with (at_builtin; refine wpList_append_own _ rfl _ _ 24 rfl w'.heap.size 5 i0 (.int .u8 0) 1 1 Tryd.underlying24 hi hz0 hz1 hz2 rfl (by decide) _ _ _ rfl (ho.alloc _) ⟨wr.heap.size, 0, none⟩ 1 1 [.int .u8 ((8 * L / 2 ^ q % 256 : Nat) : Int)] rfl rfl (cell_one_new _ _ _) (one8 _) (by unfold maxLen; omega) (by omega) (bel_size hbb) ?_)
          intro v3 w3 o4 g4 _
          obtain ⟨o5, b5⟩ := own_snoc (k := 8 * L / 2 ^ q % 256) ho hbb (by simpa using o4) g4
          clear ho hbb o4 g4
          have HNJ := Lib.hid hnj
          clear hnj
          go_wp2
          go_roundw
          case rel =>
            refine ⟨j + 1, by omega, ?_, ?_, b5⟩
            · have := HQ.out
              congr 1
              omega
            · rw [HW.out, ← List.append_assoc, HYS.out, ← Nat.add_assoc, HNJ.out]; exact o5
          case measure => simp [intOf]; omega
        · obtain rfl : j = 8 := by omega
          have R3 : ∀ v, wr.ownsRow w'.heap.size 5 1 v (n + 8) (by8 (xs ++ (Vm.word (8 * L)).take 8)) → MadeBytes w' (Sm.pad l) (.returned v) wr := by
            intro v ho
            refine ⟨v, rfl, ?_, hbb⟩
            have e : Sm.pad l = xs ++ (Vm.word (8 * L)).take 8 := by rw [HP.out, ← HXS.out]; rfl
            rw [e, List.length_append, HX.out]; exact ho
          have R4 := R3 _ ho
          clear R3
          go_wp2
          go_ret
          exact R4
end Go.Proofs.YtolokcmlpecpdaaDoor
