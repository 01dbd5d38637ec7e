/-
  What sordinekeep's Mats does: a list of matchers that may be, whatever is drawn. Conditions: the slice is as a machine has it.
  MatchDrawn as a contract: lists that may be, on label sets, hold as the document says. Conditions: the slices are as a machine has them; the library's table lies in its variable (DTab).
-/
import Derived.Test.YtlfcjjlgkcfkdaaGreatDoorProg
import Derived.Test.YtlfcjjlgkcfkdaaGreatDoorZ01
import Derived.Test.YtlfcjjlgkcfkdaaGreatDoorZ03
import Derived.Test.YtlfcjjlgkcfkdaaGreatDoorZ02
import Derived.Test.YtlfcjjlgkcfkdaaGreatDoorZ04
import Derived.Test.YtlfcjjlgkcfkdaaGreatDoorZ05
import Derived.Test.YtlfcjjlgkcfkdaaGreatDoorZ07
import Derived.Test.YtlfcjjlgkcfkdaaGreatDoorZ09
import Derived.Test.YtlfcjjlgkcfkdaaGreatDoorZ08
import Derived.Test.YtlfcjjlgkcfkdaaGreatDoorZ11
import Derived.Test.YtlfcjjlgkcfkdaaGreatDoorZ12
import Derived.Test.YtlfcjjlgkcfkdaaGreatDoorZ13
import Derived.Test.YtlfcjjlgkcfkdaaGreatDoorZ14
import Derived.Test.YtlfcjjlgkcfkdaaGreatDoorZ15
import Derived.Test.YtlfcjjlgkcfkdaaGreatDoorZ16
import Derived.Test.YtlfcjjlgkcfkdaaGreatDoorZ19
import Derived.Test.YtlfcjjlgkcfkdaaGreatDoorZ20
import Derived.Test.YtlfcjjlgkcfkdaaGreatDoorZ17
import Derived.Test.YtlfcjjlgkcfkdaaGreatDoorZ21
import Derived.Test.YtlfcjjlgkcfkdaaGreatDoorZ23
import Derived.Test.YtlfcjjlgkcfkdaaGreatDoorZ24
import Derived.Test.YtlfcjjlgkcfkdaaGreatDoorZ25
import Derived.Test.YtlfcjjlgkcfkdaaGreatDoorZ26
import Derived.Below
import Derived.WalkKit
import Derived.WalkSpells
import Derived.WalkLawsBesides
import Derived.Lib.Hide
import Derived.Lib.AppendStr
import Derived.Laws.BytesArg
import Derived.Laws.AppendOwnNone
import Derived.KernelRfl
import Derived.Lib.Bytealg
import Derived.Deep.RegionHeld3
import Derived.BigQuiet
import Derived.Lib.QuietBelow
import Derived.Laws.StructEq
import Derived.Laws.MakeOwn
import Derived.Laws.OwnMore
import Derived.OwnWalk
import Derived.Laws.CopyOwn
import Derived.Laws.AppendOwn
import Derived.Deep.QuietTactic
import Derived.Laws.Externs
import Derived.Maps.AppendAt
import Derived.StillTailTactics
import Derived.Laws.ResultCell
import Derived.Deep.LoopGhost
import Derived.Deep.MidRow
import Derived.Deep.Upon
import Derived.Deep.Cut
import Derived.Lib.TrailingZeros
import Derived.Laws.Bits64b
import Derived.Deep.CutRange
import Derived.Lib.LazyBuf
import Derived.Deep.Slices
import Derived.Deep.SlicePairs
import Derived.OpenShut
namespace Go.Proofs.YtlfcjjlgkcfkdaaGreatDoor
open Go.RowKit Go.Sort

theorem wrap_len {k N : Nat} (h : k < N) (hN : N ≤ maxLen) : IntKind.i64.wrap ((k : Int) + 1) = (k : Int) + 1 := by
  unfold maxLen at hN
  rw [IntKind.wrap_i64]; omega
/-- What is drawn for a matcher, in memory. -/
def dnth (l : List (Int × Int × Int)) (j : Nat) : Int × Int × Int := l.getD j (0, 0, 0)
def IsDraws (w : World) (a : Option Addr) (l : List (Int × Int × Int)) : Prop :=
  0 < l.length → ∃ b off, a = some ⟨b, off, none⟩ ∧ ∀ j, j < l.length → w.cell? ⟨b, off + j * 3, none⟩ = some (.int .i64 (dnth l j).1) ∧ w.cell? ⟨b, off + j * 3 + 1, none⟩ = some (.int .i64 (dnth l j).2.1) ∧ w.cell? ⟨b, off + j * 3 + 2, none⟩ = some (.int .i64 (dnth l j).2.2)
theorem IsDraws.below {w w' : World} {a : Option Addr} {l : List (Int × Int × Int)} (h : IsDraws w a l) (hb : Below w.heap.size w w') : IsDraws w' a l := by
  intro hp
  obtain ⟨b, off, e, hc⟩ := h hp
  refine ⟨b, off, e, fun j hj => ?_⟩
  obtain ⟨h1, h2, h3⟩ := hc j hj
  exact ⟨(hb.cell (World.block_lt_of_cell? w _ h1)).trans h1, (hb.cell (World.block_lt_of_cell? w _ h2)).trans h2, (hb.cell (World.block_lt_of_cell? w _ h3)).trans h3⟩
/-- What the outer loop keeps. -/
structure MsI (w : World) (acc : List Mat) (v : Value) (wr : World) : Prop where
  own : wr.ownsRow w.heap.size 32 3 v acc.length (mc acc)
  bel : Below w.heap.size w wr
  good : GoodM acc

set_option maxRecDepth 100000 in
set_option maxHeartbeats 4000000 in
theorem mats_any (ds : List (Int × Int × Int)) (A : Option Addr) (N cap : Nat) (w : World) (hN : ds.length = N) (hl : N ≤ maxLen) (ha : IsDraws w A ds) :
    Calls Tryz.prog 23 #[.slice A N cap, .bool false] w fun e w' => (∃ (l : List Mat) (v : Value), GoodM l ∧ l.length ≤ 5 ∧ e = .returned v ∧ w'.ownsRow w.heap.size 32 3 v l.length (mc l)) ∧ Below w.heap.size w w' := by
  have HA := Lib.hid ha
  have HN := Lib.hid hN
  have HWK := Lib.hid (fun k (h : k < N) => wrap_len h hl)
  clear ha hN hl
  go_enter Tryz.func23, Tryz.ntmps23
  go_wp2
  go_loopw [5, 6] (fun v i wr => ∃ (acc : List Mat) (k n : Nat), acc.length = n ∧ n ≤ 5 ∧ n ≤ k ∧ k ≤ N ∧ i = .int .i64 (k : Int) ∧ Hid (MsI w acc v wr)) (fun _ i _ => N - (intOf i).toNat)
  case atStart => exact ⟨[], 0, 0, rfl, by omega, by omega, by omega, rfl, World.ownsRow_nil _ _ _ _, Below.refl _ _, GoodM.nil⟩
  case round =>
    obtain ⟨acc, k, n, hn, hn5, hnk, hkN, rfl, HI⟩ := hrel
    have OL := Lib.hid hn
    have ow := HI.out.own
    rw [hn] at ow
    obtain ⟨A3, c3, rfl, hn3, ar, i3, _⟩ := own_formM2 ow
    clear ow
    have AR := Lib.hid ar
    by_cases hgo : k < N ∧ n < 5
    · obtain ⟨g1, g2⟩ := hgo
      have g1z : (k : Int) < (N : Int) := by omega
      have g2z : (n : Int) < 5 := by omega
      have hwk := HWK.out k g1
      have hc' := (HA.out.below HI.out.bel) (by rw [HN.out]; omega)
      obtain ⟨b, off, rfl, hc⟩ := hc'
      obtain ⟨c0, c1, c2⟩ := hc k (by rw [HN.out]; exact g1)
      obtain ⟨⟨xk, xn, xv⟩, xok, xkd, xsz, xc⟩ := matcher_any (dnth ds k).1 (dnth ds k).2.1 (dnth ds k).2.2
      have XOK := Lib.hid (⟨xok, xkd, xsz⟩ : _ ∧ _ ∧ _)
      have MC := Lib.hid xc
      have I3 := Lib.hid i3
      have GD := Lib.hid HI.out.good
      have OW := Lib.hid HI.out.own
      have B0 := Lib.hid HI.out.bel
      rw [hn] at OW
      clear xok xkd xsz xc hc i3 ar HI hn
      generalize (dnth ds k).1 = d0 at *
      generalize (dnth ds k).2.1 = d1 at *
      generalize (dnth ds k).2.2 = d2 at *
      go_wp2_with fail
      refine (MC.out _).mono ?_
      rintro e w1 ⟨rfl, b1⟩
      obtain ⟨w2, hw2⟩ : ∃ w2, w1.alloc (.cells #[.int .i64 xk, .string xn, .string xv] 32) = w2 := ⟨_, rfl⟩
      have b12 : Below w1.heap.size w1 w2 := by rw [← hw2]; exact (Below.refl _ _).alloc (Nat.le_refl _) _
      have br2 : Below wr.heap.size wr w2 := b1.trans (b12.mono b1.size)
      have B2 := Lib.hid (B0.out.trans (br2.mono B0.out.size))
      have XC : Hid (∀ W, Below w2.heap.size w2 W → W.cell? ⟨w1.heap.size, 0, none⟩ = some (.int .i64 xk) ∧ W.cell? ⟨w1.heap.size, 1, none⟩ = some (.string xn) ∧ W.cell? ⟨w1.heap.size, 2, none⟩ = some (.string xv)) := fun W hW =>
        (box3 (w := w1) (v0 := .int .i64 xk) (v1 := .string xn) (v2 := .string xv) (ty := 32) (W := W) (by rw [hw2]; exact hW.mono (by rw [← hw2]; simp))).1
      have RO : Hid (∀ W, Below w2.heap.size w2 W → IsMats W A3 acc) := fun W hW => I3.out.below (br2.trans (hW.mono br2.size))
      have OW2 : Hid (∀ W, Below w2.heap.size w2 W → W.ownsRow w.heap.size 32 3 (.slice A3 n c3) n (mc acc)) := fun W hW => own_keepL OW.out (br2.trans (hW.mono br2.size))
      have HW2 := Lib.hid hw2
      clear b1 hw2 b12 br2 MC c0 c1 c2 I3 OW B0
      go_wp2_with fail
      simp only [HW2.out]
      clear HW2
      go_loopw [8] (fun nn W => ∃ m : Nat, m ≤ n ∧ nn = .int .i64 (m : Int) ∧ Hid ((∀ j, m ≤ j → j < n → Mat.bf ⟨xk, xn, xv⟩ (Mat.nth acc j) = true) ∧ Below w2.heap.size w2 W)) (fun nn _ => (intOf nn).toNat)
      case atStart => exact ⟨n, by omega, rfl, (fun j h1 h2 => by omega), Below.refl _ _⟩
      case round =>
        obtain ⟨m, hmn, rfl, HI⟩ := hrel
        rename World => wi
        have HALL := Lib.hid HI.out.1
        have BW0 := Lib.hid HI.out.2
        clear HI
        rcases m with _ | p
        · have HST : Hid (GoodM (acc.take 0 ++ ⟨xk, xn, xv⟩ :: acc.drop 0)) := GD.out.put XOK.out (by omega) (fun j h1 h2 => HALL.out j h1 (by rw [OL.out] at h2; exact h2)) (fun h => by omega)
          clear HALL OW2 GD XOK
          go_wp2_with fail
          go_quiet (fail)
          have BW1 := Lib.hid (below_drewN BW0.out nq)
          clear BW0
          generalize wi.drewN nq = wj at *
          go_wp2_with fail
          go_quiet (fail)
          have BW := Lib.hid (below_drewN BW1.out nq)
          clear BW1
          generalize wj.drewN nq = wq at *
          have BQ := Lib.hid (B2.out.trans (BW.out.mono B2.out.size))
          have HCW : Hid (∀ W, Below wq.heap.size wq W → W.cell? ⟨w1.heap.size, 0, none⟩ = some (.int .i64 xk) ∧ W.cell? ⟨w1.heap.size, 1, none⟩ = some (.string xn) ∧ W.cell? ⟨w1.heap.size, 2, none⟩ = some (.string xv)) := fun W hW => XC.out W (BW.out.trans (hW.mono BW.out.size))
          have ROWT : Hid (∀ W, Below wq.heap.size wq W → IsMats W A3 (acc.take (0))) := fun W hW => mats_take (RO.out W (BW.out.trans (hW.mono BW.out.size))) _
          have ROWD : Hid (∀ W, Below wq.heap.size wq W → IsMats W (cutM A3 c3 (0)) (acc.drop (0))) := fun W hW => AR.out.drop (RO.out W (BW.out.trans (hW.mono BW.out.size))) _ OL.out hn3
          clear BW XC RO
          go_wp2_with fail
          refine wp_region_held_drew (S := fun W => Below wq.heap.size wq W) (by kernel_rfl) ((Below.refl _ _).drew) (fun hHeld => ?_)
          refine held_take 0 51 (v := (.slice A3 n c3)) rfl rfl (by kernel_rfl) (by kernel_rfl) (by kernel_rfl) (by rfl) (fun _ _ _ h => h) (by assumption) ?_ ?_
          · intro W hW
            go_simp
          simp only [List.setIfInBounds_toArray, List.set_cons_zero, List.set_cons_succ]
          refine held_take 1 52 (v := (.int .i64 0)) rfl rfl (by kernel_rfl) (by kernel_rfl) (by kernel_rfl) (by rfl) (fun _ _ _ h => h) (by assumption) ?_ ?_
          · intro W hW
            go_simp
          simp only [List.setIfInBounds_toArray, List.set_cons_zero, List.set_cons_succ]
          refine held_take 2 53 (v := (.slice A3 0 c3)) rfl rfl (by kernel_rfl) (by kernel_rfl) (by kernel_rfl) (by rfl) (fun _ _ _ h => h) (by assumption) ?_ ?_
          · intro W hW
            have sl : (Instr.slice 33 (.slice A3 n c3) none (some (.int .i64 0)) none).run Tryz.prog W = .ok (.slice A3 0 c3) W := AR.out.lo W 0 (by omega) (by omega)
            go_simp
          simp only [List.setIfInBounds_toArray, List.set_cons_zero, List.set_cons_succ]
          refine held_take 4 55 (v := (.agg #[.int .i64 xk, .string xn, .string xv])) rfl rfl (by kernel_rfl) (by kernel_rfl) (by kernel_rfl) (by rfl) (fun _ _ _ h => h) (by assumption) ?_ ?_
          · intro W hW
            obtain ⟨z0, z1, z2⟩ := HCW.out W hW
            go_simp
          simp only [List.setIfInBounds_toArray, List.set_cons_zero, List.set_cons_succ]
          refine held_take 7 58 (v := (.slice A3 n c3)) rfl rfl (by kernel_rfl) (by kernel_rfl) (by kernel_rfl) (by rfl) (fun _ _ _ h => h) (by assumption) ?_ ?_
          · intro W hW
            go_simp
          simp only [List.setIfInBounds_toArray, List.set_cons_zero, List.set_cons_succ]
          refine held_take 8 59 (v := (.int .i64 0)) rfl rfl (by kernel_rfl) (by kernel_rfl) (by kernel_rfl) (by rfl) (fun _ _ _ h => h) (by assumption) ?_ ?_
          · intro W hW
            go_simp
          simp only [List.setIfInBounds_toArray, List.set_cons_zero, List.set_cons_succ]
          refine held_take 9 60 (v := (.slice (cutM A3 c3 0) (n - 0) (c3 - 0))) rfl rfl (by kernel_rfl) (by kernel_rfl) (by kernel_rfl) (by rfl) (fun _ _ _ h => h) (by assumption) ?_ ?_
          · intro W hW
            have sl : (Instr.slice 33 (.slice A3 n c3) (some (.int .i64 0)) none none).run Tryz.prog W = .ok (.slice (cutM A3 c3 0) (n - 0) (c3 - 0)) W := AR.out.hi W 0 (by omega)
            go_simp
          simp only [List.setIfInBounds_toArray, List.set_cons_zero, List.set_cons_succ]
          have dG : ∀ {x y : World} {q : Option Nat}, x.grownBy y q → x.heap.size ≤ y.heap.size := fun h => h.size
          refine held_two 3 5 rfl rfl (by kernel_rfl) (by rfl) (by rfl) ?_ ?_
          · refine wp_appM (.const (.slice none 0 0)) (.tmp 53) rfl wq.heap.size (.slice none 0 0) 0 [] rfl (World.ownsRow_nil _ _ _ _) _ 0 _ (acc.take 0) rfl (by rw [List.length_take, OL.out]; omega) AR.out.nil (ROWT.out wq.drew ((Below.refl _ _).drew)) (by omega) (Nat.le_refl _) ?_
            intro v1 w4 o1 g1
            have o1' : w4.ownsRow wq.heap.size 32 3 v1 0 (mc (acc.take 0)) := by simpa using o1
            have d1 : Below wq.heap.size wq w4 := ((Below.refl _ _).drew).grown g1 (Nat.le_refl _) (fun _ h => by cases h)
            refine ⟨d1, ?_⟩
            show wpAnyH _ _ _ _ _ _ _ ⟨Array.setIfInBounds _ 54 v1, _⟩ _
            simp only [List.setIfInBounds_toArray, List.set_cons_zero, List.set_cons_succ]
            have dZ : Below wq.heap.size wq (w4.alloc (.cells #[.int .i64 xk, .string xn, .string xv] 32)) := d1.alloc d1.size _
            refine held_op 5 rfl (by kernel_rfl) (by rfl) ?_
            refine wp_run (v := .slice (some ⟨w4.heap.size, 0, none⟩) 1 1) (w' := w4.alloc (.cells #[.int .i64 xk, .string xn, .string xv] 32)) rfl (by go_simp) ⟨dZ, ?_⟩
            simp only [List.setIfInBounds_toArray, List.set_cons_zero, List.set_cons_succ]
            have oZ : (w4.alloc (.cells #[.int .i64 xk, .string xn, .string xv] 32)).ownsRow wq.heap.size 32 3 v1 0 (mc (acc.take 0)) := o1'.alloc _
            have hsZ : wq.heap.size ≤ (w4.alloc (.cells #[.int .i64 xk, .string xn, .string xv] 32)).heap.size := dZ.size
            refine held_op 6 rfl (by kernel_rfl) (by rfl) ?_
            refine wp_appM (.tmp 54) (.tmp 56) rfl wq.heap.size v1 0 (acc.take 0) rfl oZ (some ⟨w4.heap.size, 0, none⟩) 1 1 [⟨xk, xn, xv⟩] rfl rfl (fun e => by cases e) (lit_mat w4 ⟨xk, xn, xv⟩) (by omega) hsZ ?_
            clear o1 g1 o1' d1
            intro v2 w5 o2 g2
            have d2 : Below wq.heap.size wq w5 := dZ.grown g2 dZ.size (fun g hg => by have := own_geL oZ g hg; omega)
            refine ⟨d2, ?_⟩
            show wpAnyH _ _ _ _ _ _ _ ⟨Array.setIfInBounds _ 57 v2, _⟩ _
            simp only [List.setIfInBounds_toArray, List.set_cons_zero, List.set_cons_succ]
            have hs5 : wq.heap.size ≤ w5.heap.size := Nat.le_trans hsZ (dG g2)
            refine held_op 10 rfl (by kernel_rfl) (by rfl) ?_
            refine wp_appM (.tmp 57) (.tmp 60) rfl wq.heap.size v2 (0 + 1) (acc.take 0 ++ [⟨xk, xn, xv⟩]) rfl o2 _ (n - 0) (c3 - 0) (acc.drop 0) rfl (by rw [List.length_drop, OL.out]) AR.out.cutnil (ROWD.out w5 d2) (by omega) hs5 ?_
            intro v3 w6 o3 g3
            have d3 : Below wq.heap.size wq w6 := d2.grown g3 d2.size (fun g hg => by have := own_geL o2 g hg; omega)
            refine ⟨d3, ?_⟩
            show wpAnyH _ _ _ _ _ _ _ ⟨Array.setIfInBounds _ 61 v3, _⟩ _
            simp only [List.setIfInBounds_toArray, List.set_cons_zero, List.set_cons_succ]
            have R : Hid (MsI w (acc.take 0 ++ ⟨xk, xn, xv⟩ :: acc.drop 0) v3 w6) := by
              have e : 0 + 1 + (n - 0) = (acc.take 0 ++ (⟨xk, xn, xv⟩ : Mat) :: acc.drop 0).length := by rw [List.length_append, List.length_cons, List.length_take, List.length_drop, OL.out]; omega
              have e2 : acc.take 0 ++ [⟨xk, xn, xv⟩] ++ acc.drop 0 = acc.take 0 ++ ⟨xk, xn, xv⟩ :: acc.drop 0 := by simp
              rw [e, e2] at o3
              exact ⟨own_baseL o3 (by have := BQ.out.size; omega), BQ.out.trans (d3.mono BQ.out.size), HST.out⟩
            have EL : Hid ((acc.take 0 ++ (⟨xk, xn, xv⟩ : Mat) :: acc.drop 0).length = n + 1) := by show _ = _; rw [List.length_append, List.length_cons, List.length_take, List.length_drop, OL.out]; omega
            clear o3 g3 o2 g2
            refine held_take 11 5 (v := v3) rfl rfl (by kernel_rfl) (by kernel_rfl) (by kernel_rfl) (by rfl) (fun _ _ _ h => h) (by assumption) ?_ ?_
            · intro W hW
              go_simp
            simp only [List.setIfInBounds_toArray, List.set_cons_zero, List.set_cons_succ]
            refine wpAnyH_done (by kernel_rfl) ?_ _
            clear d2 d3 dZ oZ hsZ HST
            go_wp2
            go_roundw
            case rel => exact ⟨_, k + 1, n + 1, EL.out, by omega, by omega, by omega, by go_num, R⟩
            case measure => simp [intOf]; omega
          · have dA : Below wq.heap.size wq (wq.drew.alloc (.cells #[.int .i64 xk, .string xn, .string xv] 32)) := ((Below.refl _ _).drew).alloc (Nat.le_refl _) _
            refine wp_run (v := .slice (some ⟨wq.heap.size, 0, none⟩) 1 1) (w' := wq.drew.alloc (.cells #[.int .i64 xk, .string xn, .string xv] 32)) rfl (by go_simp) ⟨dA, ?_⟩
            simp only [List.setIfInBounds_toArray, List.set_cons_zero, List.set_cons_succ]
            have hsA : wq.heap.size + 1 ≤ (wq.drew.alloc (.cells #[.int .i64 xk, .string xn, .string xv] 32)).heap.size := by simp
            refine held_op 3 rfl (by kernel_rfl) (by rfl) ?_
            refine wp_appM (.const (.slice none 0 0)) (.tmp 53) rfl (wq.heap.size + 1) (.slice none 0 0) 0 [] rfl (World.ownsRow_nil _ _ _ _) _ 0 _ (acc.take 0) rfl (by rw [List.length_take, OL.out]; omega) AR.out.nil (ROWT.out (wq.drew.alloc (.cells #[.int .i64 xk, .string xn, .string xv] 32)) dA) (by omega) hsA ?_
            intro v1 w4 o1 g1
            have oZ : w4.ownsRow (wq.heap.size + 1) 32 3 v1 0 (mc (acc.take 0)) := by simpa using o1
            have dZ : Below wq.heap.size wq w4 := dA.grown g1 dA.size (fun _ h => by cases h)
            have dB : Below (wq.drew.alloc (.cells #[.int .i64 xk, .string xn, .string xv] 32)).heap.size (wq.drew.alloc (.cells #[.int .i64 xk, .string xn, .string xv] 32)) w4 := (Below.refl _ _).grown g1 (Nat.le_refl _) (fun _ h => by cases h)
            have lr : IsMats w4 (some ⟨wq.heap.size, 0, none⟩) [⟨xk, xn, xv⟩] := (lit_mat wq.drew ⟨xk, xn, xv⟩).below dB
            have hsZ : wq.heap.size + 1 ≤ w4.heap.size := Nat.le_trans hsA dB.size
            refine ⟨dZ, ?_⟩
            show wpAnyH _ _ _ _ _ _ _ ⟨Array.setIfInBounds _ 54 v1, _⟩ _
            simp only [List.setIfInBounds_toArray, List.set_cons_zero, List.set_cons_succ]
            refine held_op 6 rfl (by kernel_rfl) (by rfl) ?_
            refine wp_appM (.tmp 54) (.tmp 56) rfl (wq.heap.size + 1) v1 0 (acc.take 0) rfl oZ (some ⟨wq.heap.size, 0, none⟩) 1 1 [⟨xk, xn, xv⟩] rfl rfl (fun e => by cases e) lr (by omega) hsZ ?_
            clear o1 g1 dA dB lr
            intro v2 w5 o2 g2
            have d2 : Below wq.heap.size wq w5 := dZ.grown g2 dZ.size (fun g hg => by have := own_geL oZ g hg; omega)
            refine ⟨d2, ?_⟩
            show wpAnyH _ _ _ _ _ _ _ ⟨Array.setIfInBounds _ 57 v2, _⟩ _
            simp only [List.setIfInBounds_toArray, List.set_cons_zero, List.set_cons_succ]
            have hs5 : (wq.heap.size + 1) ≤ w5.heap.size := Nat.le_trans hsZ (dG g2)
            refine held_op 10 rfl (by kernel_rfl) (by rfl) ?_
            refine wp_appM (.tmp 57) (.tmp 60) rfl (wq.heap.size + 1) v2 (0 + 1) (acc.take 0 ++ [⟨xk, xn, xv⟩]) rfl o2 _ (n - 0) (c3 - 0) (acc.drop 0) rfl (by rw [List.length_drop, OL.out]) AR.out.cutnil (ROWD.out w5 d2) (by omega) hs5 ?_
            intro v3 w6 o3 g3
            have d3 : Below wq.heap.size wq w6 := d2.grown g3 d2.size (fun g hg => by have := own_geL o2 g hg; omega)
            refine ⟨d3, ?_⟩
            show wpAnyH _ _ _ _ _ _ _ ⟨Array.setIfInBounds _ 61 v3, _⟩ _
            simp only [List.setIfInBounds_toArray, List.set_cons_zero, List.set_cons_succ]
            have R : Hid (MsI w (acc.take 0 ++ ⟨xk, xn, xv⟩ :: acc.drop 0) v3 w6) := by
              have e : 0 + 1 + (n - 0) = (acc.take 0 ++ (⟨xk, xn, xv⟩ : Mat) :: acc.drop 0).length := by rw [List.length_append, List.length_cons, List.length_take, List.length_drop, OL.out]; omega
              have e2 : acc.take 0 ++ [⟨xk, xn, xv⟩] ++ acc.drop 0 = acc.take 0 ++ ⟨xk, xn, xv⟩ :: acc.drop 0 := by simp
              rw [e, e2] at o3
              exact ⟨own_baseL o3 (by have := BQ.out.size; omega), BQ.out.trans (d3.mono BQ.out.size), HST.out⟩
            have EL : Hid ((acc.take 0 ++ (⟨xk, xn, xv⟩ : Mat) :: acc.drop 0).length = n + 1) := by show _ = _; rw [List.length_append, List.length_cons, List.length_take, List.length_drop, OL.out]; omega
            clear o3 g3 o2 g2
            refine held_take 11 5 (v := v3) rfl rfl (by kernel_rfl) (by kernel_rfl) (by kernel_rfl) (by rfl) (fun _ _ _ h => h) (by assumption) ?_ ?_
            · intro W hW
              go_simp
            simp only [List.setIfInBounds_toArray, List.set_cons_zero, List.set_cons_succ]
            refine wpAnyH_done (by kernel_rfl) ?_ _
            clear d2 d3 dZ oZ hsZ HST
            go_wp2
            go_roundw
            case rel => exact ⟨_, k + 1, n + 1, EL.out, by omega, by omega, by omega, by go_num, R⟩
            case measure => simp [intOf]; omega
        · have hp : p < acc.length := by rw [OL.out]; omega
          obtain ⟨pb, po, hpA, hpc⟩ := RO.out wi BW0.out (by omega)
          obtain ⟨e0, e1, e2⟩ := hpc p hp
          obtain ⟨x0, x1, x2⟩ := XC.out wi BW0.out
          have hpz : (p : Int) < (n : Int) := by omega
          have hp0 : decide ((p : Int) + 1 > 0) = true := decide_eq_true (by omega)
          have wk : IntKind.i64.wrap (p : Int) = (p : Int) := by rw [IntKind.wrap_i64]; omega
          have KA0 : Hid (∀ W, Calls Tryz.prog 43 #[.agg #[.int .i64 xk, .string xn, .string xv], .agg #[.int .i64 (Mat.nth acc p).k, .string (Mat.nth acc p).n, .string (Mat.nth acc p).v]] W fun e w' => e = .returned (.bool (Mat.bf ⟨xk, xn, xv⟩ (Mat.nth acc p))) ∧ Below W.heap.size W w') := fun W => kahead_any xk (Mat.nth acc p).k xn xv (Mat.nth acc p).n (Mat.nth acc p).v W
          have EQ0 := Lib.hid (fun W => mat_eql W (Mat.nth acc p) ⟨xk, xn, xv⟩)
          have PTH : Hid (Mat.bf ⟨xk, xn, xv⟩ (Mat.nth acc p) = true → ∀ j, p ≤ j → j < n → Mat.bf ⟨xk, xn, xv⟩ (Mat.nth acc j) = true) := fun h j h1 h2 => by
            rcases Nat.lt_or_ge j (p + 1) with h3 | h3
            · obtain rfl : j = p := by omega
              exact h
            · exact HALL.out j h3 h2
          have PUT : Hid (Mat.bf ⟨xk, xn, xv⟩ (Mat.nth acc p) = false → decide (Mat.nth acc p = ⟨xk, xn, xv⟩) = false → GoodM (acc.take (p + 1) ++ ⟨xk, xn, xv⟩ :: acc.drop (p + 1))) := fun h1 h2 =>
            GD.out.put XOK.out (by omega) (fun j h1 h2 => HALL.out j h1 (by rw [OL.out] at h2; exact h2)) (fun _ => ⟨h1, of_decide_eq_false h2⟩)
          obtain ⟨bb, hbb⟩ : ∃ q, Mat.bf ⟨xk, xn, xv⟩ (Mat.nth acc p) = q := ⟨_, rfl⟩
          obtain ⟨eb, heb⟩ : ∃ q, decide (Mat.nth acc p = ⟨xk, xn, xv⟩) = q := ⟨_, rfl⟩
          rw [hbb] at KA0 PTH PUT
          rw [heb] at EQ0 PUT
          clear hbb heb hpc HALL
          generalize (Mat.nth acc p).k = y0 at *
          generalize (Mat.nth acc p).n = y1 at *
          generalize (Mat.nth acc p).v = y2 at *
          have KA : Hid (∀ q os, Calls Tryz.prog 43 #[.agg #[.int .i64 xk, .string xn, .string xv], .agg #[.int .i64 y0, .string y1, .string y2]] (grow (redrawn wi q) os) fun e w'' => e = .returned (.bool bb) ∧ ∃ p : Regrown, w'' = grow (redrawn wi p.d) p.os) := fun q os => Calls.regrown_of (KA0.out _)
          have EC := Lib.hid (⟨e0, e1, e2⟩ : _ ∧ _ ∧ _)
          replace e0 := cell_regrown e0
          replace e1 := cell_regrown e1
          replace e2 := cell_regrown e2
          replace x0 := cell_regrown x0
          replace x1 := cell_regrown x1
          replace x2 := cell_regrown x2
          subst hpA
          clear KA0
          cases bb
          case true =>
            go_wp2_with fail
            refine wp_region_quiet_below (by kernel_rfl) (by kernel_rfl) ?_
            repeat (go_big_quiet_step (exact KA.out _ _))
            refine wpQuiet_nil ?_
            intro _ hw'
            obtain ⟨⟨dq, osq⟩, hw''⟩ := hw'
            subst hw''
            have G := Lib.hid (below_regrown wi dq osq)
            generalize grow (redrawn wi dq) osq = wj at *
            have BW := Lib.hid (BW0.out.trans (G.out.mono BW0.out.size))
            clear G BW0 e0 e1 e2 x0 x1 x2 KA EQ0 PUT EC
            go_wp2
            go_roundw
            case rel => exact ⟨p, by omega, by go_num, PTH.out (by trivial), BW.out⟩
            case measure => simp [intOf]
          go_wp2_with fail
          refine wp_region_quiet_below (by kernel_rfl) (by kernel_rfl) ?_
          repeat (go_big_quiet_step (exact KA.out _ _))
          refine wpQuiet_nil ?_
          intro _ hw'
          obtain ⟨⟨dq, osq⟩, hw''⟩ := hw'
          subst hw''
          have G := Lib.hid (below_regrown wi dq osq)
          generalize grow (redrawn wi dq) osq = wj at *
          have BW1 := Lib.hid (BW0.out.trans (G.out.mono BW0.out.size))
          clear e0 e1 e2 x0 x1 x2
          obtain ⟨e0', e1', e2'⟩ := EC.out
          have e0 := cell_grow G.out e0'
          have e1 := cell_grow G.out e1'
          have e2 := cell_grow G.out e2'
          obtain ⟨x0, x1, x2⟩ := XC.out wj BW1.out
          clear G BW0 KA EC e0' e1' e2' PTH
          have EQ := EQ0.out
          clear EQ0
          cases eb
          case true =>
            go_wp2_with fail
            go_quiet (fail)
            have BW := Lib.hid (below_drewN BW1.out nq)
            have R : Hid (MsI w acc (.slice (some ⟨pb, po, none⟩) n c3) (wj.drewN nq)) := ⟨by rw [OL.out]; exact OW2.out _ BW.out, B2.out.trans (BW.out.mono B2.out.size), GD.out⟩
            clear e0 e1 e2 x0 x1 x2 BW1 PUT EQ BW
            generalize wj.drewN nq = wq at *
            go_wp2
            go_roundw
            case rel => exact ⟨acc, k + 1, n, OL.out, by omega, by omega, by omega, by go_num, R⟩
            case measure => simp [intOf]; omega
          have HST := Lib.hid (PUT.out (by trivial) (by trivial))
          go_wp2_with fail
          go_quiet (fail)
          have BW := Lib.hid (below_drewN BW1.out nq)
          clear e0 e1 e2 x0 x1 x2 BW1 PUT EQ OW2 GD XOK
          generalize wj.drewN nq = wq at *
          obtain ⟨A3, hA3⟩ : ∃ A3, (some ⟨pb, po, none⟩ : Option Addr) = A3 := ⟨_, rfl⟩
          rw [hA3] at RO AR
          simp only [hA3]
          clear hA3
          have BQ := Lib.hid (B2.out.trans (BW.out.mono B2.out.size))
          have HCW : Hid (∀ W, Below wq.heap.size wq W → W.cell? ⟨w1.heap.size, 0, none⟩ = some (.int .i64 xk) ∧ W.cell? ⟨w1.heap.size, 1, none⟩ = some (.string xn) ∧ W.cell? ⟨w1.heap.size, 2, none⟩ = some (.string xv)) := fun W hW => XC.out W (BW.out.trans (hW.mono BW.out.size))
          have ROWT : Hid (∀ W, Below wq.heap.size wq W → IsMats W A3 (acc.take ((p + 1)))) := fun W hW => mats_take (RO.out W (BW.out.trans (hW.mono BW.out.size))) _
          have ROWD : Hid (∀ W, Below wq.heap.size wq W → IsMats W (cutM A3 c3 ((p + 1))) (acc.drop ((p + 1)))) := fun W hW => AR.out.drop (RO.out W (BW.out.trans (hW.mono BW.out.size))) _ OL.out hn3
          clear BW XC RO
          go_wp2_with fail
          refine wp_region_held_drew (S := fun W => Below wq.heap.size wq W) (by kernel_rfl) ((Below.refl _ _).drew) (fun hHeld => ?_)
          refine held_take 0 51 (v := (.slice A3 n c3)) rfl rfl (by kernel_rfl) (by kernel_rfl) (by kernel_rfl) (by rfl) (fun _ _ _ h => h) (by assumption) ?_ ?_
          · intro W hW
            go_simp
          simp only [List.setIfInBounds_toArray, List.set_cons_zero, List.set_cons_succ]
          refine held_take 1 52 (v := (.int .i64 ((p : Int) + 1))) rfl rfl (by kernel_rfl) (by kernel_rfl) (by kernel_rfl) (by rfl) (fun _ _ _ h => h) (by assumption) ?_ ?_
          · intro W hW
            go_simp
          simp only [List.setIfInBounds_toArray, List.set_cons_zero, List.set_cons_succ]
          refine held_take 2 53 (v := (.slice A3 (p + 1) c3)) rfl rfl (by kernel_rfl) (by kernel_rfl) (by kernel_rfl) (by rfl) (fun _ _ _ h => h) (by assumption) ?_ ?_
          · intro W hW
            have sl : (Instr.slice 33 (.slice A3 n c3) none (some (.int .i64 ((p : Int) + 1))) none).run Tryz.prog W = .ok (.slice A3 (p + 1) c3) W := AR.out.lo W (p + 1) (by omega) (by omega)
            go_simp
          simp only [List.setIfInBounds_toArray, List.set_cons_zero, List.set_cons_succ]
          refine held_take 4 55 (v := (.agg #[.int .i64 xk, .string xn, .string xv])) rfl rfl (by kernel_rfl) (by kernel_rfl) (by kernel_rfl) (by rfl) (fun _ _ _ h => h) (by assumption) ?_ ?_
          · intro W hW
            obtain ⟨z0, z1, z2⟩ := HCW.out W hW
            go_simp
          simp only [List.setIfInBounds_toArray, List.set_cons_zero, List.set_cons_succ]
          refine held_take 7 58 (v := (.slice A3 n c3)) rfl rfl (by kernel_rfl) (by kernel_rfl) (by kernel_rfl) (by rfl) (fun _ _ _ h => h) (by assumption) ?_ ?_
          · intro W hW
            go_simp
          simp only [List.setIfInBounds_toArray, List.set_cons_zero, List.set_cons_succ]
          refine held_take 8 59 (v := (.int .i64 ((p : Int) + 1))) rfl rfl (by kernel_rfl) (by kernel_rfl) (by kernel_rfl) (by rfl) (fun _ _ _ h => h) (by assumption) ?_ ?_
          · intro W hW
            go_simp
          simp only [List.setIfInBounds_toArray, List.set_cons_zero, List.set_cons_succ]
          refine held_take 9 60 (v := (.slice (cutM A3 c3 (p + 1)) (n - (p + 1)) (c3 - (p + 1)))) rfl rfl (by kernel_rfl) (by kernel_rfl) (by kernel_rfl) (by rfl) (fun _ _ _ h => h) (by assumption) ?_ ?_
          · intro W hW
            have sl : (Instr.slice 33 (.slice A3 n c3) (some (.int .i64 ((p : Int) + 1))) none none).run Tryz.prog W = .ok (.slice (cutM A3 c3 (p + 1)) (n - (p + 1)) (c3 - (p + 1))) W := AR.out.hi W (p + 1) (by omega)
            go_simp
          simp only [List.setIfInBounds_toArray, List.set_cons_zero, List.set_cons_succ]
          have dG : ∀ {x y : World} {q : Option Nat}, x.grownBy y q → x.heap.size ≤ y.heap.size := fun h => h.size
          refine held_two 3 5 rfl rfl (by kernel_rfl) (by rfl) (by rfl) ?_ ?_
          · refine wp_appM (.const (.slice none 0 0)) (.tmp 53) rfl wq.heap.size (.slice none 0 0) 0 [] rfl (World.ownsRow_nil _ _ _ _) _ (p + 1) _ (acc.take (p + 1)) rfl (by rw [List.length_take, OL.out]; omega) AR.out.nil (ROWT.out wq.drew ((Below.refl _ _).drew)) (by omega) (Nat.le_refl _) ?_
            intro v1 w4 o1 g1
            have o1' : w4.ownsRow wq.heap.size 32 3 v1 (p + 1) (mc (acc.take (p + 1))) := by simpa using o1
            have d1 : Below wq.heap.size wq w4 := ((Below.refl _ _).drew).grown g1 (Nat.le_refl _) (fun _ h => by cases h)
            refine ⟨d1, ?_⟩
            show wpAnyH _ _ _ _ _ _ _ ⟨Array.setIfInBounds _ 54 v1, _⟩ _
            simp only [List.setIfInBounds_toArray, List.set_cons_zero, List.set_cons_succ]
            have dZ : Below wq.heap.size wq (w4.alloc (.cells #[.int .i64 xk, .string xn, .string xv] 32)) := d1.alloc d1.size _
            refine held_op 5 rfl (by kernel_rfl) (by rfl) ?_
            refine wp_run (v := .slice (some ⟨w4.heap.size, 0, none⟩) 1 1) (w' := w4.alloc (.cells #[.int .i64 xk, .string xn, .string xv] 32)) rfl (by go_simp) ⟨dZ, ?_⟩
            simp only [List.setIfInBounds_toArray, List.set_cons_zero, List.set_cons_succ]
            have oZ : (w4.alloc (.cells #[.int .i64 xk, .string xn, .string xv] 32)).ownsRow wq.heap.size 32 3 v1 (p + 1) (mc (acc.take (p + 1))) := o1'.alloc _
            have hsZ : wq.heap.size ≤ (w4.alloc (.cells #[.int .i64 xk, .string xn, .string xv] 32)).heap.size := dZ.size
            refine held_op 6 rfl (by kernel_rfl) (by rfl) ?_
            refine wp_appM (.tmp 54) (.tmp 56) rfl wq.heap.size v1 (p + 1) (acc.take (p + 1)) rfl oZ (some ⟨w4.heap.size, 0, none⟩) 1 1 [⟨xk, xn, xv⟩] rfl rfl (fun e => by cases e) (lit_mat w4 ⟨xk, xn, xv⟩) (by omega) hsZ ?_
            clear o1 g1 o1' d1
            intro v2 w5 o2 g2
            have d2 : Below wq.heap.size wq w5 := dZ.grown g2 dZ.size (fun g hg => by have := own_geL oZ g hg; omega)
            refine ⟨d2, ?_⟩
            show wpAnyH _ _ _ _ _ _ _ ⟨Array.setIfInBounds _ 57 v2, _⟩ _
            simp only [List.setIfInBounds_toArray, List.set_cons_zero, List.set_cons_succ]
            have hs5 : wq.heap.size ≤ w5.heap.size := Nat.le_trans hsZ (dG g2)
            refine held_op 10 rfl (by kernel_rfl) (by rfl) ?_
            refine wp_appM (.tmp 57) (.tmp 60) rfl wq.heap.size v2 ((p + 1) + 1) (acc.take (p + 1) ++ [⟨xk, xn, xv⟩]) rfl o2 _ (n - (p + 1)) (c3 - (p + 1)) (acc.drop (p + 1)) rfl (by rw [List.length_drop, OL.out]) AR.out.cutnil (ROWD.out w5 d2) (by omega) hs5 ?_
            intro v3 w6 o3 g3
            have d3 : Below wq.heap.size wq w6 := d2.grown g3 d2.size (fun g hg => by have := own_geL o2 g hg; omega)
            refine ⟨d3, ?_⟩
            show wpAnyH _ _ _ _ _ _ _ ⟨Array.setIfInBounds _ 61 v3, _⟩ _
            simp only [List.setIfInBounds_toArray, List.set_cons_zero, List.set_cons_succ]
            have R : Hid (MsI w (acc.take (p + 1) ++ ⟨xk, xn, xv⟩ :: acc.drop (p + 1)) v3 w6) := by
              have e : (p + 1) + 1 + (n - (p + 1)) = (acc.take (p + 1) ++ (⟨xk, xn, xv⟩ : Mat) :: acc.drop (p + 1)).length := by rw [List.length_append, List.length_cons, List.length_take, List.length_drop, OL.out]; omega
              have e2 : acc.take (p + 1) ++ [⟨xk, xn, xv⟩] ++ acc.drop (p + 1) = acc.take (p + 1) ++ ⟨xk, xn, xv⟩ :: acc.drop (p + 1) := by simp
              rw [e, e2] at o3
              exact ⟨own_baseL o3 (by have := BQ.out.size; omega), BQ.out.trans (d3.mono BQ.out.size), HST.out⟩
            have EL : Hid ((acc.take (p + 1) ++ (⟨xk, xn, xv⟩ : Mat) :: acc.drop (p + 1)).length = n + 1) := by show _ = _; rw [List.length_append, List.length_cons, List.length_take, List.length_drop, OL.out]; omega
            clear o3 g3 o2 g2
            refine held_take 11 5 (v := v3) rfl rfl (by kernel_rfl) (by kernel_rfl) (by kernel_rfl) (by rfl) (fun _ _ _ h => h) (by assumption) ?_ ?_
            · intro W hW
              go_simp
            simp only [List.setIfInBounds_toArray, List.set_cons_zero, List.set_cons_succ]
            refine wpAnyH_done (by kernel_rfl) ?_ _
            clear d2 d3 dZ oZ hsZ HST
            go_wp2
            go_roundw
            case rel => exact ⟨_, k + 1, n + 1, EL.out, by omega, by omega, by omega, by go_num, R⟩
            case measure => simp [intOf]; omega
          · have dA : Below wq.heap.size wq (wq.drew.alloc (.cells #[.int .i64 xk, .string xn, .string xv] 32)) := ((Below.refl _ _).drew).alloc (Nat.le_refl _) _
            refine wp_run (v := .slice (some ⟨wq.heap.size, 0, none⟩) 1 1) (w' := wq.drew.alloc (.cells #[.int .i64 xk, .string xn, .string xv] 32)) rfl (by go_simp) ⟨dA, ?_⟩
            simp only [List.setIfInBounds_toArray, List.set_cons_zero, List.set_cons_succ]
            have hsA : wq.heap.size + 1 ≤ (wq.drew.alloc (.cells #[.int .i64 xk, .string xn, .string xv] 32)).heap.size := by simp
            refine held_op 3 rfl (by kernel_rfl) (by rfl) ?_
            refine wp_appM (.const (.slice none 0 0)) (.tmp 53) rfl (wq.heap.size + 1) (.slice none 0 0) 0 [] rfl (World.ownsRow_nil _ _ _ _) _ (p + 1) _ (acc.take (p + 1)) rfl (by rw [List.length_take, OL.out]; omega) AR.out.nil (ROWT.out (wq.drew.alloc (.cells #[.int .i64 xk, .string xn, .string xv] 32)) dA) (by omega) hsA ?_
            intro v1 w4 o1 g1
            have oZ : w4.ownsRow (wq.heap.size + 1) 32 3 v1 (p + 1) (mc (acc.take (p + 1))) := by simpa using o1
            have dZ : Below wq.heap.size wq w4 := dA.grown g1 dA.size (fun _ h => by cases h)
            have dB : Below (wq.drew.alloc (.cells #[.int .i64 xk, .string xn, .string xv] 32)).heap.size (wq.drew.alloc (.cells #[.int .i64 xk, .string xn, .string xv] 32)) w4 := (Below.refl _ _).grown g1 (Nat.le_refl _) (fun _ h => by cases h)
            have lr : IsMats w4 (some ⟨wq.heap.size, 0, none⟩) [⟨xk, xn, xv⟩] := (lit_mat wq.drew ⟨xk, xn, xv⟩).below dB
            have hsZ : wq.heap.size + 1 ≤ w4.heap.size := Nat.le_trans hsA dB.size
            refine ⟨dZ, ?_⟩
            show wpAnyH _ _ _ _ _ _ _ ⟨Array.setIfInBounds _ 54 v1, _⟩ _
            simp only [List.setIfInBounds_toArray, List.set_cons_zero, List.set_cons_succ]
            refine held_op 6 rfl (by kernel_rfl) (by rfl) ?_
            refine wp_appM (.tmp 54) (.tmp 56) rfl (wq.heap.size + 1) v1 (p + 1) (acc.take (p + 1)) rfl oZ (some ⟨wq.heap.size, 0, none⟩) 1 1 [⟨xk, xn, xv⟩] rfl rfl (fun e => by cases e) lr (by omega) hsZ ?_
            clear o1 g1 dA dB lr
            intro v2 w5 o2 g2
            have d2 : Below wq.heap.size wq w5 := dZ.grown g2 dZ.size (fun g hg => by have := own_geL oZ g hg; omega)
            refine ⟨d2, ?_⟩
            show wpAnyH _ _ _ _ _ _ _ ⟨Array.setIfInBounds _ 57 v2, _⟩ _
            simp only [List.setIfInBounds_toArray, List.set_cons_zero, List.set_cons_succ]
            have hs5 : (wq.heap.size + 1) ≤ w5.heap.size := Nat.le_trans hsZ (dG g2)
            refine held_op 10 rfl (by kernel_rfl) (by rfl) ?_
            refine wp_appM (.tmp 57) (.tmp 60) rfl (wq.heap.size + 1) v2 ((p + 1) + 1) (acc.take (p + 1) ++ [⟨xk, xn, xv⟩]) rfl o2 _ (n - (p + 1)) (c3 - (p + 1)) (acc.drop (p + 1)) rfl (by rw [List.length_drop, OL.out]) AR.out.cutnil (ROWD.out w5 d2) (by omega) hs5 ?_
            intro v3 w6 o3 g3
            have d3 : Below wq.heap.size wq w6 := d2.grown g3 d2.size (fun g hg => by have := own_geL o2 g hg; omega)
            refine ⟨d3, ?_⟩
            show wpAnyH _ _ _ _ _ _ _ ⟨Array.setIfInBounds _ 61 v3, _⟩ _
            simp only [List.setIfInBounds_toArray, List.set_cons_zero, List.set_cons_succ]
            have R : Hid (MsI w (acc.take (p + 1) ++ ⟨xk, xn, xv⟩ :: acc.drop (p + 1)) v3 w6) := by
              have e : (p + 1) + 1 + (n - (p + 1)) = (acc.take (p + 1) ++ (⟨xk, xn, xv⟩ : Mat) :: acc.drop (p + 1)).length := by rw [List.length_append, List.length_cons, List.length_take, List.length_drop, OL.out]; omega
              have e2 : acc.take (p + 1) ++ [⟨xk, xn, xv⟩] ++ acc.drop (p + 1) = acc.take (p + 1) ++ ⟨xk, xn, xv⟩ :: acc.drop (p + 1) := by simp
              rw [e, e2] at o3
              exact ⟨own_baseL o3 (by have := BQ.out.size; omega), BQ.out.trans (d3.mono BQ.out.size), HST.out⟩
            have EL : Hid ((acc.take (p + 1) ++ (⟨xk, xn, xv⟩ : Mat) :: acc.drop (p + 1)).length = n + 1) := by show _ = _; rw [List.length_append, List.length_cons, List.length_take, List.length_drop, OL.out]; omega
            clear o3 g3 o2 g2
            refine held_take 11 5 (v := v3) rfl rfl (by kernel_rfl) (by kernel_rfl) (by kernel_rfl) (by rfl) (fun _ _ _ h => h) (by assumption) ?_ ?_
            · intro W hW
              go_simp
            simp only [List.setIfInBounds_toArray, List.set_cons_zero, List.set_cons_succ]
            refine wpAnyH_done (by kernel_rfl) ?_ _
            clear d2 d3 dZ oZ hsZ HST
            go_wp2
            go_roundw
            case rel => exact ⟨_, k + 1, n + 1, EL.out, by omega, by omega, by omega, by go_num, R⟩
            case measure => simp [intOf]; omega
    · have OW := Lib.hid HI.out.own
      have B := Lib.hid HI.out.bel
      have GD := Lib.hid HI.out.good
      clear HI i3 ar
      by_cases hkN2 : k < N
      · have g1z : (k : Int) < (N : Int) := by omega
        have g2z : ¬ (n : Int) < 5 := by omega
        go_wp2
        go_ret
        exact ⟨⟨acc, GD.out, by rw [OL.out]; exact hn5, _, rfl, by have := OW.out; rw [OL.out] at this ⊢; exact this⟩, B.out⟩
      · have g1z : ¬ (k : Int) < (N : Int) := by omega
        go_wp2
        go_ret
        exact ⟨⟨acc, GD.out, by rw [OL.out]; exact hn5, _, rfl, by have := OW.out; rw [OL.out] at this ⊢; exact this⟩, B.out⟩

end Go.Proofs.YtlfcjjlgkcfkdaaGreatDoor
