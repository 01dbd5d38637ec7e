/-
  What slices.insertionSortCmpFunc does to a row of ints: it sorts an ascending piece by the order. Conditions as in XQs; the order as in XQm.
-/
import Derived.Test.YtmdpeifpgnkbiaaDoorQs
namespace Go.Proofs.YtmdpeifpgnkbiaaDoor
open Go.RowKit
section
variable {B n : Nat} {c : FuncId} {cb : Array Value} {cf : Nat → Nat → Int} {S : (Nat → Nat) → World → Prop} {R : Nat → Nat → Prop}
/-- The comparison as a bool. -/
def ltf (cf : Nat → Nat → Int) (x y : Nat) : Bool := decide (cf x y < 0)
set_option maxRecDepth 100000 in
set_option maxHeartbeats 2000000 in
theorem ins_any (T : SortW B n c cb cf S) (O : So.Ord R (ltf cf)) (cap a b : Nat) (d : Nat → Nat) (w : World) (hS : S d w) (h1 : a ≤ b) (h3 : b ≤ n) (ha : So.Asc d a b) :
    Calls Tryd.prog 58 #[.slice (some ⟨B, 0, none⟩) n cap, .int .i64 (a : Int), .int .i64 (b : Int), .func (.func c) #[] cb] w fun e w' => e = .returned (.tuple #[]) ∧ ∃ d', S d' w' ∧ So.Via a b d d' ∧ So.Sorted R d' a b := by
  have HT := Lib.hid T
  have HO := Lib.hid O
  have hn := T.len
  have eg := T.enters
  have HS := Lib.hid hS
  have HAS := Lib.hid ha
  clear T hS O ha
  go_enter Tryd.func58, Tryd.ntmps58
  go_wp2
  go_loopw [8] (fun vi wr => ∃ i : Nat, vi = .int .i64 (i : Int) ∧ a < i ∧ i ≤ b + 1 ∧ Hid (∃ d', S d' wr ∧ So.Via a (min i b) d d' ∧ So.Sorted R d' a (min i b))) (fun vi _ => b + 1 - (intOf vi).toNat)
  case atStart => exact ⟨a + 1, by go_num, by omega, by omega, d, HS.out, .refl, fun i j _ _ _ => by omega⟩
  case round =>
    obtain ⟨i, rfl, hai, hib, HI⟩ := hrel
    clear HS
    by_cases hlt : i < b
    · have hltz : (i : Int) < (b : Int) := by omega
      have HI' : Hid (∃ d', S d' wr ∧ So.Ins R d d' a i i) := by
        obtain ⟨d', s', v', o'⟩ := HI.out
        rw [Nat.min_eq_left (by omega)] at v' o'
        exact ⟨d', s', So.Ins.start v' o' (fun k k1 k2 => HAS.out k i k1 k2 hlt)⟩
      clear HI
      go_wp2
      go_loopw [9] (fun vj wr2 => ∃ j : Nat, vj = .int .i64 (j : Int) ∧ a ≤ j ∧ j ≤ i ∧ Hid (∃ d', S d' wr2 ∧ So.Ins R d d' a i j)) (fun vj _ => (intOf vj).toNat)
      case atStart => exact ⟨i, rfl, by omega, Nat.le_refl _, HI'⟩
      case round =>
        clear HI'
        obtain ⟨j, rfl, haj, hji, HJ⟩ := hrel
        obtain ⟨dj, sj, ij⟩ := HJ.out
        have SJ := Lib.hid sj
        have IJ := Lib.hid ij
        clear HJ sj ij
        by_cases hja : a < j
        · obtain ⟨k, rfl⟩ : ∃ k, j = k + 1 := ⟨j - 1, by omega⟩
          have ck : ∀ q, (wr.drewN q).cell? ⟨B, k, none⟩ = some (.int .i64 ((dj k : Nat) : Int)) := fun q => HT.out.cell (HT.out.drew SJ.out q) k (by omega)
          have cj : ∀ q, (wr.drewN q).cell? ⟨B, k + 1, none⟩ = some (.int .i64 ((dj (k + 1) : Nat) : Int)) := fun q => HT.out.cell (HT.out.drew SJ.out q) (k + 1) (by omega)
          have CM := Lib.hid (fun q => HT.out.cmp (HT.out.drew SJ.out q) (k + 1) k (by omega) (by omega))
          have eg' : ∀ args w, (callFunc c args).run Tryd.prog w = .ok (.enter c args) w := eg
          cases hl : ltf cf (dj (k + 1)) (dj k)
          · have SO := Lib.hid (IJ.out.stop HO.out haj hji (.inr hl))
            have VI := Lib.hid IJ.out.via
            have hd : decide (cf (dj (k + 1)) (dj k) < 0) = false := hl
            have hv : ¬ cf (dj (k + 1)) (dj k) < 0 := of_decide_eq_false hl
            clear hl IJ
            have hjad : decide ((k : Int) + 1 > (a : Int)) = true := decide_eq_true (by omega)
            have hjaz : (a : Int) < (k : Int) + 1 := by omega
            generalize dj (k + 1) = x at *
            generalize dj k = y at *
            go_wp2_with fail
            go_quiet ((go_at_fn c; exact Calls.quiet_of (CM.out _)))
            have S2 := Lib.hid (HT.out.drew SJ.out nq)
            clear ck cj CM SJ
            generalize wr.drewN nq = w2 at *
            go_wp2
            go_roundw
            case rel => exact ⟨i + 1, by go_num, by omega, by omega, dj, S2.out, by rw [Nat.min_eq_left (by omega)]; exact VI.out, by rw [Nat.min_eq_left (by omega)]; exact SO.out⟩
            case measure => simp [intOf] <;> omega
          · have IS := Lib.hid (IJ.out.swap HO.out (by omega) hji hl)
            have hv : cf (dj (k + 1)) (dj k) < 0 := of_decide_eq_true hl
            have hd : decide (cf (dj (k + 1)) (dj k) < 0) = true := hl
            clear hl IJ
            have hjad : decide ((k : Int) + 1 > (a : Int)) = true := decide_eq_true (by omega)
            have hjaz : (a : Int) < (k : Int) + 1 := by omega
            have PS : Hid (∀ q, S (So.sw dj (k + 1) k) (((wr.drewN q).setCell ⟨B, k + 1, none⟩ (.int .i64 ((dj k : Nat) : Int))).setCell ⟨B, k, none⟩ (.int .i64 ((dj (k + 1) : Nat) : Int))).drew) := fun q => HT.out.drew (HT.out.put (HT.out.drew SJ.out q) (k + 1) k (by omega) (by omega)) 1
            have FR : Hid (∀ q, (wr.drewN q).frozen? ⟨B, k, none⟩ = false ∧ (wr.drewN q).frozen? ⟨B, k + 1, none⟩ = false) := fun q => ⟨HT.out.free (HT.out.drew SJ.out q) _ (by omega), HT.out.free (HT.out.drew SJ.out q) _ (by omega)⟩
            have TW : Hid (∀ q, ∃ u, ((wr.drewN q).setCell ⟨B, k + 1, none⟩ (.int .i64 ((dj k : Nat) : Int))).cell? ⟨B, k, none⟩ = some u) := fun q => HT.out.two (HT.out.drew SJ.out q) (k + 1) k (by omega) (by omega) _
            generalize dj (k + 1) = x at *
            generalize dj k = y at *
            go_wp2_with fail
            go_quiet ((go_at_fn c; exact Calls.quiet_of (CM.out _)))
            have ck2 := ck nq
            have cj2 := cj nq
            have P2 := Lib.hid (PS.out nq)
            obtain ⟨f1, f2⟩ := FR.out nq
            obtain ⟨u, cu⟩ := TW.out nq
            clear ck cj CM SJ PS FR TW
            generalize wr.drewN nq = w2 at *
            go_wp2_with fail
            go_region
            generalize ((w2.setCell ⟨B, k + 1, none⟩ (.int .i64 (y : Int))).setCell ⟨B, k, none⟩ (.int .i64 (x : Int))).drew = w3 at *
            clear ck2 cj2 f1 f2 cu
            go_wp2
            go_roundw
            case rel => exact ⟨k, by go_num, by omega, by omega, _, P2.out, IS.out⟩
            case measure => simp [intOf] <;> omega
        · obtain rfl : j = a := by omega
          have SO := Lib.hid (IJ.out.stop HO.out haj hji (.inl rfl))
          have VI := Lib.hid IJ.out.via
          have hjad : decide ((j : Int) > (j : Int)) = false := decide_eq_false (by omega)
          clear IJ
          go_wp2_with fail
          go_quiet (fail)
          have S2 := Lib.hid (HT.out.drew SJ.out nq)
          clear SJ
          generalize wr.drewN nq = w2 at *
          go_wp2
          go_roundw
          case rel => exact ⟨i + 1, by go_num, by omega, by omega, dj, S2.out, by rw [Nat.min_eq_left (by omega)]; exact VI.out, by rw [Nat.min_eq_left (by omega)]; exact SO.out⟩
          case measure => simp [intOf] <;> omega
    · obtain hib' : i = b ∨ i = b + 1 := by omega
      have hltz : ¬ (i : Int) < (b : Int) := by omega
      go_wp2
      go_end0
      refine ⟨rfl, ?_⟩
      obtain ⟨d', s', v', o'⟩ := HI.out
      rw [Nat.min_eq_right (by omega)] at v' o'
      exact ⟨d', s', v', o'⟩
end
end Go.Proofs.YtmdpeifpgnkbiaaDoor
