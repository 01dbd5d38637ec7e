/-
  What the reference's MakeSet does: the set of any labels, or that there is none (La.IsMk). Conditions: lengths fit.
  What slices.insertionSortCmpFunc does to a row of labels with Make's comparison: it sorts it by names. Conditions: no more than 6 labels.
-/
import Derived.Test.YtlfcjjlgkcfkdaaGreatDoorProg
import Derived.Test.YtlfcjjlgkcfkdaaGreatDoorZ01
import Derived.Test.YtlfcjjlgkcfkdaaGreatDoorZ03
import Derived.Test.YtlfcjjlgkcfkdaaGreatDoorZ04
import Derived.Test.YtlfcjjlgkcfkdaaGreatDoorZ16
import Derived.Test.YtlfcjjlgkcfkdaaGreatDoorZ19
import Derived.Test.YtlfcjjlgkcfkdaaGreatDoorZ20
import Derived.Below
import Derived.WalkKit
import Derived.WalkSpells
import Derived.WalkLawsBesides
import Derived.Lib.Hide
import Derived.Lib.AppendStr
import Derived.Laws.BytesArg
import Derived.Laws.AppendOwnNone
import Derived.KernelRfl
import Derived.Lib.Bytealg
import Derived.Deep.RegionHeld3
import Derived.Laws.AppendOwn
import Derived.BigQuiet
import Derived.Laws.StructEq
import Derived.Laws.OwnMore
import Derived.Lib.QuietBelow
import Derived.Laws.Externs
namespace Go.Proofs.YtlfcjjlgkcfkdaaGreatDoor
open Go.RowKit La

/-- One label more, put where it belongs. -/
theorem ins_step {ls out : List Lab} {k m : Nat} (hp : out.Perm (ls.take k)) (hs : out.Pairwise fun x y => lt y.1 x.1 = false) (hk : k < ls.length) (hol : out.length = k) (hm : m ≤ k)
    (h1 : ∀ j, m ≤ j → j < k → lt (nth ls k).1 (nth out j).1 = true) (h2 : 0 < m → lt (nth ls k).1 (nth out (m - 1)).1 = false) :
    (out.take m ++ nth ls k :: out.drop m).Perm (ls.take (k + 1)) ∧ (out.take m ++ nth ls k :: out.drop m).Pairwise fun x y => lt y.1 x.1 = false := by
  have hs' := hs
  rw [← List.take_append_drop m out, List.pairwise_append] at hs'
  obtain ⟨s1, s2, s3⟩ := hs'
  constructor
  · have e : ls.take (k + 1) = ls.take k ++ [nth ls k] := by rw [List.take_succ_eq_append_getElem hk, nth_eq hk]
    rw [e]
    refine List.perm_middle.trans ?_
    rw [List.take_append_drop]
    refine (List.Perm.cons _ hp).trans ?_
    exact (List.perm_append_comm (l₁ := [nth ls k]) (l₂ := ls.take k))
  · rw [List.pairwise_append]
    refine ⟨s1, ?_, ?_⟩
    · rw [List.pairwise_cons]
      refine ⟨fun y hy => ?_, s2⟩
      obtain ⟨j, hj, rfl⟩ := List.getElem_of_mem hy
      have hj' : m + j < out.length := by simp at hj; omega
      have := h1 (m + j) (by omega) (by omega)
      rw [nth_eq hj'] at this
      rw [List.getElem_drop]
      exact lt_asymm this
    · intro y hy z hz
      rcases List.mem_cons.1 hz with rfl | hz
      · obtain ⟨j, hj, rfl⟩ := List.getElem_of_mem hy
        have hj' : j < m ∧ j < out.length := by simp at hj; omega
        rw [List.getElem_take]
        have h3 := h2 (by omega)
        have hm1 : m - 1 < out.length := by omega
        rw [nth_eq hm1] at h3
        by_cases ej : j = m - 1
        · subst ej; exact h3
        · have h4 := List.pairwise_iff_getElem.1 hs j (m - 1) hj'.2 hm1 (by omega)
          cases h5 : lt (nth ls k).1 (out[j]).1 with
          | false => rfl
          | true =>
            cases h6 : lt (out[j]).1 (out[m - 1]).1 with
            | true => have := lt_trans h5 h6; rw [h3] at this; cases this
            | false => have := lt_total h6 h4; rw [this, h3] at h5; cases h5
      · exact s3 y hy z hz
/-- What the outer loop keeps. -/
structure MkI (w : World) (ls : List Lab) (k : Nat) (out : List Lab) (v : Value) (wr : World) : Prop where
  ko : wr.ownsRow w.heap.size 26 2 v k (lc out)
  kp : out.Perm (ls.take k)
  ks : out.Pairwise fun x y => lt y.1 x.1 = false
  kb : Below w.heap.size w wr
theorem isLabs_at {w : World} {b off : Nat} {l : List Lab} (h : IsLabs w (some ⟨b, off, none⟩) l) {j : Nat} (hj : j < l.length) : w.cell? ⟨b, off + j * 2, none⟩ = some (.string (nth l j).1) ∧ w.cell? ⟨b, off + j * 2 + 1, none⟩ = some (.string (nth l j).2) := by
  obtain ⟨b', off', e, hc⟩ := h (by omega)
  injection e with e; injection e with e1 e2
  subst e1 e2
  exact hc j hj
/-- What Make gives back. -/
def mkRes : Option (List Lab) → Value → Value → World → World → Prop
  | none, r, _, _, _ => r = .tuple #[.slice none 0 0, .bool false]
  | some l, r, v, w, w' => r = .tuple #[v, .bool true] ∧ w'.ownsRow w.heap.size 26 2 v l.length (lc l)

set_option maxRecDepth 100000 in
set_option maxHeartbeats 4000000 in
theorem makeset_any (ls : List Lab) (A : Option Addr) (cap : Nat) (w : World) (hl : ls.length ≤ 1048576) (hsm : Small ls) (ha : IsLabs w A ls) :
    Calls Tryz.prog 78 #[.slice A ls.length cap] w fun e w' => (∃ (o : Option (List Lab)) (r v : Value), IsMk ls o ∧ e = .returned r ∧ mkRes o r v w w') ∧ Below w.heap.size w w' := by
  have HA := Lib.hid ha
  have HSM := Lib.hid hsm
  clear ha hsm
  generalize hn : ls.length = n at *
  have HN := Lib.hid hn
  clear hn
  go_enter Tryz.func78, Tryz.ntmps78
  go_wp2
  go_loopw [4, 5] (fun v i wr => ∃ (k : Nat) (out : List Lab), k ≤ n ∧ i = .int .i64 (k : Int) ∧ Hid (MkI w ls k out v wr)) (fun _ i _ => n - (intOf i).toNat)
  case atStart => exact ⟨0, [], by omega, rfl, World.ownsRow_nil _ _ _ _, List.Perm.refl _, List.Pairwise.nil, Below.refl _ _⟩
  case round =>
    obtain ⟨k, out, hk, rfl, HT⟩ := hrel
    by_cases hkn : k < n
    · obtain ⟨b, off, rfl, hc⟩ := HA.out (by rw [HN.out]; omega)
      have hkz : (k : Int) < (n : Int) := by omega
      have HC : Hid (∀ W, Below w.heap.size w W → W.cell? ⟨b, off + k * 2, none⟩ = some (.string (nth ls k).1) ∧ W.cell? ⟨b, off + k * 2 + 1, none⟩ = some (.string (nth ls k).2)) := fun W hW => isLabs_at (HA.out.below hW) (by rw [HN.out]; exact hkn)
      clear hc
      obtain ⟨X, hX⟩ : ∃ X, (nth ls k).1 = X := ⟨_, rfl⟩
      obtain ⟨Y, hY⟩ : ∃ Y, (nth ls k).2 = Y := ⟨_, rfl⟩
      have HXY : Hid (nth ls k = (X, Y)) := by show _ = _; rw [← hX, ← hY]
      rw [hX, hY] at HC
      clear hX hY
      rcases HT.out.ko.2 with ⟨rfl, rfl⟩ | ⟨g, c, cur, rfl, hbg, hgh, hkc, _, _, _⟩
      · have HO : Hid (out = []) := List.Perm.eq_nil (by simpa using HT.out.kp)
        have kb := HT.out.kb
        clear HT
        rename World => wo
        have e0 : ((0 : Nat) : Int) = (0 : Int) := rfl
        simp only [e0, Nat.zero_mul, Nat.add_zero] at HC ⊢
        clear e0
        go_wp2_with fail
        go_loopw [6] (fun nn W => nn = .int .i64 0 ∧ ∃ q, W = wo.drewN q) (fun nn _ => (intOf nn).toNat)
        case atStart => exact ⟨rfl, 0, rfl⟩
        case round =>
          obtain ⟨rfl, hq⟩ := hrel
          have HQ := Lib.hid hq
          clear hq
          have HB : Hid (Below w.heap.size w wr) := by obtain ⟨q, rfl⟩ := HQ.out; exact ⟨kb.os, kb.tape, kb.output, kb.size, kb.block⟩
          go_wp2
          go_quiet (fail)
          have b0q : Below w.heap.size w (wr.drewN nq) := ⟨HB.out.os, HB.out.tape, HB.out.output, HB.out.size, HB.out.block⟩
          generalize wr.drewN nq = wq at b0q ⊢
          have HCW : Hid (∀ W, Below wq.heap.size wq W → W.cell? ⟨b, off, none⟩ = some (.string X) ∧ W.cell? ⟨b, off + 1, none⟩ = some (.string Y)) := fun W hW => HC.out W (b0q.trans (hW.mono b0q.size))
          have HST : Hid ((([] : List Lab).take 0 ++ (X, Y) :: ([] : List Lab).drop 0).Perm (ls.take (0 + 1)) ∧ (([] : List Lab).take 0 ++ (X, Y) :: ([] : List Lab).drop 0).Pairwise fun x y => lt y.1 x.1 = false) := by
            have := ins_step (ls := ls) (out := []) (k := 0) (m := 0) (by simp) List.Pairwise.nil (by rw [HN.out]; omega) rfl (by omega) (fun j _ h => by omega) (fun h => by omega)
            rw [HXY.out] at this
            exact this
          have ROWT : Hid (∀ W, Below wq.heap.size wq W → IsLabs W none (([] : List Lab).take 0)) := fun _ _ h => absurd h (by simp)
          have ROWD : Hid (∀ W, Below wq.heap.size wq W → IsLabs W none (([] : List Lab).drop 0)) := fun _ _ h => absurd h (by simp)
          have ol : ([] : List Lab).length = 0 := rfl
          clear HO
          go_wp2_with fail
          refine wp_region_held_drew (S := fun W => Below wq.heap.size wq W) (by kernel_rfl) ((Below.refl _ _).drew) (fun hHeld => ?_)
          refine held_take 0 33 (v := (.slice none 0 0)) rfl rfl (by kernel_rfl) (by kernel_rfl) (by kernel_rfl) (by rfl) (fun _ _ _ h => h) (by assumption) ?_ ?_
          · intro W hW
            go_simp
          simp only [List.setIfInBounds_toArray, List.set_cons_zero, List.set_cons_succ]
          refine held_take 1 34 (v := (.int .i64 (0 : Int))) rfl rfl (by kernel_rfl) (by kernel_rfl) (by kernel_rfl) (by rfl) (fun _ _ _ h => h) (by assumption) ?_ ?_
          · intro W hW
            go_simp
          simp only [List.setIfInBounds_toArray, List.set_cons_zero, List.set_cons_succ]
          refine held_take 2 35 (v := (.slice none 0 0)) rfl rfl (by kernel_rfl) (by kernel_rfl) (by kernel_rfl) (by rfl) (fun _ _ _ h => h) (by assumption) ?_ ?_
          · intro W hW
            go_simp
          simp only [List.setIfInBounds_toArray, List.set_cons_zero, List.set_cons_succ]
          refine held_take 4 37 (v := (.slice (some ⟨b, off, none⟩) n cap)) rfl rfl (by kernel_rfl) (by kernel_rfl) (by kernel_rfl) (by rfl) (fun _ _ _ h => h) (by assumption) ?_ ?_
          · intro W hW
            go_simp
          simp only [List.setIfInBounds_toArray, List.set_cons_zero, List.set_cons_succ]
          refine held_take 5 38 (v := (.int .i64 (0 : Int))) rfl rfl (by kernel_rfl) (by kernel_rfl) (by kernel_rfl) (by rfl) (fun _ _ _ h => h) (by assumption) ?_ ?_
          · intro W hW
            go_simp
          simp only [List.setIfInBounds_toArray, List.set_cons_zero, List.set_cons_succ]
          refine held_take 6 39 (v := (.pointer (some ⟨b, off, none⟩))) rfl rfl (by kernel_rfl) (by kernel_rfl) (by kernel_rfl) (by rfl) (fun _ _ _ h => h) (by assumption) ?_ ?_
          · intro W hW
            go_simp
          simp only [List.setIfInBounds_toArray, List.set_cons_zero, List.set_cons_succ]
          refine held_take 7 40 (v := (.agg #[.string X, .string Y])) rfl rfl (by kernel_rfl) (by kernel_rfl) (by kernel_rfl) (by rfl) (fun _ _ _ h => h) (by assumption) ?_ ?_
          · intro W hW
            obtain ⟨z1, z2⟩ := HCW.out W hW
            go_simp
          simp only [List.setIfInBounds_toArray, List.set_cons_zero, List.set_cons_succ]
          refine held_take 10 43 (v := (.slice none 0 0)) rfl rfl (by kernel_rfl) (by kernel_rfl) (by kernel_rfl) (by rfl) (fun _ _ _ h => h) (by assumption) ?_ ?_
          · intro W hW
            go_simp
          simp only [List.setIfInBounds_toArray, List.set_cons_zero, List.set_cons_succ]
          refine held_take 11 44 (v := (.int .i64 (0 : Int))) rfl rfl (by kernel_rfl) (by kernel_rfl) (by kernel_rfl) (by rfl) (fun _ _ _ h => h) (by assumption) ?_ ?_
          · intro W hW
            go_simp
          simp only [List.setIfInBounds_toArray, List.set_cons_zero, List.set_cons_succ]
          refine held_take 12 45 (v := (.slice none 0 0)) rfl rfl (by kernel_rfl) (by kernel_rfl) (by kernel_rfl) (by rfl) (fun _ _ _ h => h) (by assumption) ?_ ?_
          · intro W hW
            go_simp
          simp only [List.setIfInBounds_toArray, List.set_cons_zero, List.set_cons_succ]
          have dG : ∀ {x y : World} {q : Option Nat}, x.grownBy y q → x.heap.size ≤ y.heap.size := fun h => h.size
          refine held_two 3 8 rfl rfl (by kernel_rfl) (by rfl) (by rfl) ?_ ?_
          · refine wp_appL (.const (.slice none 0 0)) (.tmp 35) rfl wq.heap.size (.slice none 0 0) 0 [] rfl (World.ownsRow_nil _ _ _ _) _ 0 _ (([] : List Lab).take 0) rfl (by rw [List.length_take, ol]; omega) (fun _ => rfl) (ROWT.out wq.drew ((Below.refl _ _).drew)) (by omega) (Nat.le_refl _) ?_
            intro v1 w4 o1 g1
            have o1' : w4.ownsRow wq.heap.size 26 2 v1 0 (lc (([] : List Lab).take 0)) := by simpa using o1
            have d1 : Below wq.heap.size wq w4 := ((Below.refl _ _).drew).grown g1 (Nat.le_refl _) (fun _ h => by cases h)
            refine ⟨d1, ?_⟩
            show wpAnyH _ _ _ _ _ _ _ ⟨Array.setIfInBounds _ 36 v1, _⟩ _
            simp only [List.setIfInBounds_toArray, List.set_cons_zero, List.set_cons_succ]
            have dZ : Below wq.heap.size wq (w4.alloc (.cells #[.string X, .string Y] 26)) := d1.alloc d1.size _
            refine held_op 8 rfl (by kernel_rfl) (by rfl) ?_
            refine wp_run (v := .slice (some ⟨w4.heap.size, 0, none⟩) 1 1) (w' := w4.alloc (.cells #[.string X, .string Y] 26)) rfl (by go_simp) ⟨dZ, ?_⟩
            simp only [List.setIfInBounds_toArray, List.set_cons_zero, List.set_cons_succ]
            have oZ : (w4.alloc (.cells #[.string X, .string Y] 26)).ownsRow wq.heap.size 26 2 v1 0 (lc (([] : List Lab).take 0)) := o1'.alloc _
            have hsZ : wq.heap.size ≤ (w4.alloc (.cells #[.string X, .string Y] 26)).heap.size := dZ.size
            refine held_op 9 rfl (by kernel_rfl) (by rfl) ?_
            refine wp_appL (.tmp 36) (.tmp 41) rfl wq.heap.size v1 0 (([] : List Lab).take 0) rfl oZ (some ⟨w4.heap.size, 0, none⟩) 1 1 [(X, Y)] rfl rfl (fun e => by cases e) (lit_lab w4 (X, Y)) (by omega) hsZ ?_
            clear o1 g1 o1' d1
            intro v2 w5 o2 g2
            have d2 : Below wq.heap.size wq w5 := dZ.grown g2 dZ.size (fun g hg => by have := own_geL oZ g hg; omega)
            refine ⟨d2, ?_⟩
            show wpAnyH _ _ _ _ _ _ _ ⟨Array.setIfInBounds _ 42 v2, _⟩ _
            simp only [List.setIfInBounds_toArray, List.set_cons_zero, List.set_cons_succ]
            have hs5 : wq.heap.size ≤ w5.heap.size := Nat.le_trans hsZ (dG g2)
            refine held_op 13 rfl (by kernel_rfl) (by rfl) ?_
            refine wp_appL (.tmp 42) (.tmp 45) rfl wq.heap.size v2 (0 + 1) (([] : List Lab).take 0 ++ [(X, Y)]) rfl o2 _ (0 - 0) (0 - 0) (([] : List Lab).drop 0) rfl (by rw [List.length_drop, ol]) (fun _ => rfl) (ROWD.out w5 d2) (by omega) hs5 ?_
            intro v3 w6 o3 g3
            have d3 : Below wq.heap.size wq w6 := d2.grown g3 d2.size (fun g hg => by have := own_geL o2 g hg; omega)
            refine ⟨d3, ?_⟩
            show wpAnyH _ _ _ _ _ _ _ ⟨Array.setIfInBounds _ 46 v3, _⟩ _
            simp only [List.setIfInBounds_toArray, List.set_cons_zero, List.set_cons_succ]
            have R : Hid (MkI w ls (0 + 1) (([] : List Lab).take 0 ++ (X, Y) :: ([] : List Lab).drop 0) v3 w6) := by
              have e : 0 + 1 + (0 - 0) = 0 + 1 := by omega
              have e2 : ([] : List Lab).take 0 ++ [(X, Y)] ++ ([] : List Lab).drop 0 = ([] : List Lab).take 0 ++ (X, Y) :: ([] : List Lab).drop 0 := by simp
              rw [e, e2] at o3
              exact ⟨own_baseL o3 (by have := b0q.size; omega), HST.out.1, HST.out.2, b0q.trans (d3.mono b0q.size)⟩
            clear o3 g3 o2 g2
            refine held_take 14 4 (v := v3) rfl rfl (by kernel_rfl) (by kernel_rfl) (by kernel_rfl) (by rfl) (fun _ _ _ h => h) (by assumption) ?_ ?_
            · intro W hW
              go_simp
            simp only [List.setIfInBounds_toArray, List.set_cons_zero, List.set_cons_succ]
            refine wpAnyH_done (by kernel_rfl) ?_ _
            clear d2 d3 dZ oZ hsZ HST
            go_wp2
            go_roundw
            case rel => exact ⟨0 + 1, _, by omega, by go_num, R⟩
            case measure => simp [intOf]; omega
          · have dA : Below wq.heap.size wq (wq.drew.alloc (.cells #[.string X, .string Y] 26)) := ((Below.refl _ _).drew).alloc (Nat.le_refl _) _
            refine wp_run (v := .slice (some ⟨wq.heap.size, 0, none⟩) 1 1) (w' := wq.drew.alloc (.cells #[.string X, .string Y] 26)) rfl (by go_simp) ⟨dA, ?_⟩
            simp only [List.setIfInBounds_toArray, List.set_cons_zero, List.set_cons_succ]
            have hsA : wq.heap.size + 1 ≤ (wq.drew.alloc (.cells #[.string X, .string Y] 26)).heap.size := by simp
            refine held_op 3 rfl (by kernel_rfl) (by rfl) ?_
            refine wp_appL (.const (.slice none 0 0)) (.tmp 35) rfl (wq.heap.size + 1) (.slice none 0 0) 0 [] rfl (World.ownsRow_nil _ _ _ _) _ 0 _ (([] : List Lab).take 0) rfl (by rw [List.length_take, ol]; omega) (fun _ => rfl) (ROWT.out (wq.drew.alloc (.cells #[.string X, .string Y] 26)) dA) (by omega) hsA ?_
            intro v1 w4 o1 g1
            have oZ : w4.ownsRow (wq.heap.size + 1) 26 2 v1 0 (lc (([] : List Lab).take 0)) := by simpa using o1
            have dZ : Below wq.heap.size wq w4 := dA.grown g1 dA.size (fun _ h => by cases h)
            have dB : Below (wq.drew.alloc (.cells #[.string X, .string Y] 26)).heap.size (wq.drew.alloc (.cells #[.string X, .string Y] 26)) w4 := (Below.refl _ _).grown g1 (Nat.le_refl _) (fun _ h => by cases h)
            have lr : IsLabs w4 (some ⟨wq.heap.size, 0, none⟩) [(X, Y)] := (lit_lab wq.drew (X, Y)).below dB
            have hsZ : wq.heap.size + 1 ≤ w4.heap.size := Nat.le_trans hsA dB.size
            refine ⟨dZ, ?_⟩
            show wpAnyH _ _ _ _ _ _ _ ⟨Array.setIfInBounds _ 36 v1, _⟩ _
            simp only [List.setIfInBounds_toArray, List.set_cons_zero, List.set_cons_succ]
            refine held_op 9 rfl (by kernel_rfl) (by rfl) ?_
            refine wp_appL (.tmp 36) (.tmp 41) rfl (wq.heap.size + 1) v1 0 (([] : List Lab).take 0) rfl oZ (some ⟨wq.heap.size, 0, none⟩) 1 1 [(X, Y)] rfl rfl (fun e => by cases e) lr (by omega) hsZ ?_
            clear o1 g1 dA dB lr
            intro v2 w5 o2 g2
            have d2 : Below wq.heap.size wq w5 := dZ.grown g2 dZ.size (fun g hg => by have := own_geL oZ g hg; omega)
            refine ⟨d2, ?_⟩
            show wpAnyH _ _ _ _ _ _ _ ⟨Array.setIfInBounds _ 42 v2, _⟩ _
            simp only [List.setIfInBounds_toArray, List.set_cons_zero, List.set_cons_succ]
            have hs5 : (wq.heap.size + 1) ≤ w5.heap.size := Nat.le_trans hsZ (dG g2)
            refine held_op 13 rfl (by kernel_rfl) (by rfl) ?_
            refine wp_appL (.tmp 42) (.tmp 45) rfl (wq.heap.size + 1) v2 (0 + 1) (([] : List Lab).take 0 ++ [(X, Y)]) rfl o2 _ (0 - 0) (0 - 0) (([] : List Lab).drop 0) rfl (by rw [List.length_drop, ol]) (fun _ => rfl) (ROWD.out w5 d2) (by omega) hs5 ?_
            intro v3 w6 o3 g3
            have d3 : Below wq.heap.size wq w6 := d2.grown g3 d2.size (fun g hg => by have := own_geL o2 g hg; omega)
            refine ⟨d3, ?_⟩
            show wpAnyH _ _ _ _ _ _ _ ⟨Array.setIfInBounds _ 46 v3, _⟩ _
            simp only [List.setIfInBounds_toArray, List.set_cons_zero, List.set_cons_succ]
            have R : Hid (MkI w ls (0 + 1) (([] : List Lab).take 0 ++ (X, Y) :: ([] : List Lab).drop 0) v3 w6) := by
              have e : 0 + 1 + (0 - 0) = 0 + 1 := by omega
              have e2 : ([] : List Lab).take 0 ++ [(X, Y)] ++ ([] : List Lab).drop 0 = ([] : List Lab).take 0 ++ (X, Y) :: ([] : List Lab).drop 0 := by simp
              rw [e, e2] at o3
              exact ⟨own_baseL o3 (by have := b0q.size; omega), HST.out.1, HST.out.2, b0q.trans (d3.mono b0q.size)⟩
            clear o3 g3 o2 g2
            refine held_take 14 4 (v := v3) rfl rfl (by kernel_rfl) (by kernel_rfl) (by kernel_rfl) (by rfl) (fun _ _ _ h => h) (by assumption) ?_ ?_
            · intro W hW
              go_simp
            simp only [List.setIfInBounds_toArray, List.set_cons_zero, List.set_cons_succ]
            refine wpAnyH_done (by kernel_rfl) ?_ _
            clear d2 d3 dZ oZ hsZ HST
            go_wp2
            go_roundw
            case rel => exact ⟨0 + 1, _, by omega, by go_num, R⟩
            case measure => simp [intOf]; omega
      · have ol : out.length = k := (own_labs HT.out.ko).2
        have RO := Lib.hid (own_labs HT.out.ko).1
        have hgl : g < wr.heap.size := (Array.getElem?_eq_some_iff.1 hgh).1
        have kb := HT.out.kb
        clear hgh
        rename World => wo
        go_wp2_with fail
        go_loopw [6] (fun nn W => ∃ m : Nat, m ≤ k ∧ nn = .int .i64 (m : Int) ∧ Hid ((∀ j, m ≤ j → j < k → lt X (nth out j).1 = true) ∧ ∃ q, W = wo.drewN q)) (fun nn _ => (intOf nn).toNat)
        case atStart => exact ⟨k, by omega, rfl, fun j h1 h2 => by omega, 0, rfl⟩
        case round =>
          obtain ⟨m, hmk, rfl, HI⟩ := hrel
          have HALL := Lib.hid HI.out.1
          have HQ := Lib.hid HI.out.2
          clear HI
          have HB : Hid (Below w.heap.size w wr) := by obtain ⟨q, rfl⟩ := HQ.out; exact ⟨kb.os, kb.tape, kb.output, kb.size, kb.block⟩
          have HO : Hid (IsLabs wr (some ⟨g, 0, none⟩) out) := by obtain ⟨q, rfl⟩ := HQ.out; exact RO.out
          have HS : Hid (g < wr.heap.size) := by obtain ⟨q, rfl⟩ := HQ.out; exact hgl
          have hkb : k ≤ 1048576 := by omega
          by_cases m0 : m = 0
          · have g0 : decide ((0 : Int) < (m : Int)) = false := decide_eq_false (by omega)
            go_wp2
            go_quiet (fail)
            have HST : Hid ((out.take m ++ (X, Y) :: out.drop m).Perm (ls.take (k + 1)) ∧ (out.take m ++ (X, Y) :: out.drop m).Pairwise fun x y => lt y.1 x.1 = false) := by
              have := ins_step HT.out.kp HT.out.ks (m := m) (by rw [HN.out]; exact hkn) ol hmk (by rw [HXY.out]; exact HALL.out) (fun h => absurd h (by omega))
              rw [HXY.out] at this
              exact this
            have b0q : Below w.heap.size w (wr.drewN nq) := ⟨HB.out.os, HB.out.tape, HB.out.output, HB.out.size, HB.out.block⟩
            have ROWT : Hid (∀ W, Below wr.heap.size (wr.drewN nq) W → IsLabs W (some ⟨g, 0, none⟩) (out.take m)) := fun W hW => labs_take (IsLabs.below (w := wr.drewN nq) HO.out hW) m
            have ROWD : Hid (∀ W, Below wr.heap.size (wr.drewN nq) W → IsLabs W (some (if c = m then ⟨g, 0, none⟩ else ⟨g, m * 2, none⟩)) (out.drop m)) := fun W hW => labs_drop (IsLabs.below (w := wr.drewN nq) HO.out hW) m (by rw [ol]; exact hkc)
            have esz : (wr.drewN nq).heap.size = wr.heap.size := rfl
            rw [← esz] at ROWT ROWD
            clear esz
            generalize wr.drewN nq = wq at b0q ROWT ROWD ⊢
            have HCW : Hid (∀ W, Below wq.heap.size wq W → W.cell? ⟨b, off + k * 2, none⟩ = some (.string X) ∧ W.cell? ⟨b, off + k * 2 + 1, none⟩ = some (.string Y)) := fun W hW => HC.out W (b0q.trans (hW.mono b0q.size))
            go_wp2_with fail
            refine wp_region_held_drew (S := fun W => Below wq.heap.size wq W) (by kernel_rfl) ((Below.refl _ _).drew) (fun hHeld => ?_)
            refine held_take 0 33 (v := (.slice (some ⟨g, 0, none⟩) k c)) rfl rfl (by kernel_rfl) (by kernel_rfl) (by kernel_rfl) (by rfl) (fun _ _ _ h => h) (by assumption) ?_ ?_
            · intro W hW
              go_simp
            simp only [List.setIfInBounds_toArray, List.set_cons_zero, List.set_cons_succ]
            refine held_take 1 34 (v := (.int .i64 (m : Int))) rfl rfl (by kernel_rfl) (by kernel_rfl) (by kernel_rfl) (by rfl) (fun _ _ _ h => h) (by assumption) ?_ ?_
            · intro W hW
              go_simp
            simp only [List.setIfInBounds_toArray, List.set_cons_zero, List.set_cons_succ]
            refine held_take 2 35 (v := (.slice (some ⟨g, 0, none⟩) m c)) rfl rfl (by kernel_rfl) (by kernel_rfl) (by kernel_rfl) (by rfl) (fun _ _ _ h => h) (by assumption) ?_ ?_
            · intro W hW
              have sl := lcut_lo W g k c m (by omega)
              go_simp
            simp only [List.setIfInBounds_toArray, List.set_cons_zero, List.set_cons_succ]
            refine held_take 4 37 (v := (.slice (some ⟨b, off, none⟩) n cap)) rfl rfl (by kernel_rfl) (by kernel_rfl) (by kernel_rfl) (by rfl) (fun _ _ _ h => h) (by assumption) ?_ ?_
            · intro W hW
              go_simp
            simp only [List.setIfInBounds_toArray, List.set_cons_zero, List.set_cons_succ]
            refine held_take 5 38 (v := (.int .i64 (k : Int))) rfl rfl (by kernel_rfl) (by kernel_rfl) (by kernel_rfl) (by rfl) (fun _ _ _ h => h) (by assumption) ?_ ?_
            · intro W hW
              go_simp
            simp only [List.setIfInBounds_toArray, List.set_cons_zero, List.set_cons_succ]
            refine held_take 6 39 (v := (.pointer (some ⟨b, off + k * 2, none⟩))) rfl rfl (by kernel_rfl) (by kernel_rfl) (by kernel_rfl) (by rfl) (fun _ _ _ h => h) (by assumption) ?_ ?_
            · intro W hW
              go_simp
            simp only [List.setIfInBounds_toArray, List.set_cons_zero, List.set_cons_succ]
            refine held_take 7 40 (v := (.agg #[.string X, .string Y])) rfl rfl (by kernel_rfl) (by kernel_rfl) (by kernel_rfl) (by rfl) (fun _ _ _ h => h) (by assumption) ?_ ?_
            · intro W hW
              obtain ⟨z1, z2⟩ := HCW.out W hW
              go_simp
            simp only [List.setIfInBounds_toArray, List.set_cons_zero, List.set_cons_succ]
            refine held_take 10 43 (v := (.slice (some ⟨g, 0, none⟩) k c)) rfl rfl (by kernel_rfl) (by kernel_rfl) (by kernel_rfl) (by rfl) (fun _ _ _ h => h) (by assumption) ?_ ?_
            · intro W hW
              go_simp
            simp only [List.setIfInBounds_toArray, List.set_cons_zero, List.set_cons_succ]
            refine held_take 11 44 (v := (.int .i64 (m : Int))) rfl rfl (by kernel_rfl) (by kernel_rfl) (by kernel_rfl) (by rfl) (fun _ _ _ h => h) (by assumption) ?_ ?_
            · intro W hW
              go_simp
            simp only [List.setIfInBounds_toArray, List.set_cons_zero, List.set_cons_succ]
            refine held_take 12 45 (v := (.slice (some (if c = m then ⟨g, 0, none⟩ else ⟨g, m * 2, none⟩)) (k - m) (c - m))) rfl rfl (by kernel_rfl) (by kernel_rfl) (by kernel_rfl) (by rfl) (fun _ _ _ h => h) (by assumption) ?_ ?_
            · intro W hW
              have sl := lcut_hi W g k c m (by omega)
              go_simp
            simp only [List.setIfInBounds_toArray, List.set_cons_zero, List.set_cons_succ]
            have dG : ∀ {x y : World} {q : Option Nat}, x.grownBy y q → x.heap.size ≤ y.heap.size := fun h => h.size
            refine held_two 3 8 rfl rfl (by kernel_rfl) (by rfl) (by rfl) ?_ ?_
            · refine wp_appL (.const (.slice none 0 0)) (.tmp 35) rfl wq.heap.size (.slice none 0 0) 0 [] rfl (World.ownsRow_nil _ _ _ _) _ m _ (out.take m) rfl (by rw [List.length_take, ol]; omega) (fun e => by cases e) (ROWT.out wq.drew ((Below.refl _ _).drew)) (by omega) (Nat.le_refl _) ?_
              intro v1 w4 o1 g1
              have o1' : w4.ownsRow wq.heap.size 26 2 v1 m (lc (out.take m)) := by simpa using o1
              have d1 : Below wq.heap.size wq w4 := ((Below.refl _ _).drew).grown g1 (Nat.le_refl _) (fun _ h => by cases h)
              refine ⟨d1, ?_⟩
              show wpAnyH _ _ _ _ _ _ _ ⟨Array.setIfInBounds _ 36 v1, _⟩ _
              simp only [List.setIfInBounds_toArray, List.set_cons_zero, List.set_cons_succ]
              have dZ : Below wq.heap.size wq (w4.alloc (.cells #[.string X, .string Y] 26)) := d1.alloc d1.size _
              refine held_op 8 rfl (by kernel_rfl) (by rfl) ?_
              refine wp_run (v := .slice (some ⟨w4.heap.size, 0, none⟩) 1 1) (w' := w4.alloc (.cells #[.string X, .string Y] 26)) rfl (by go_simp) ⟨dZ, ?_⟩
              simp only [List.setIfInBounds_toArray, List.set_cons_zero, List.set_cons_succ]
              have oZ : (w4.alloc (.cells #[.string X, .string Y] 26)).ownsRow wq.heap.size 26 2 v1 m (lc (out.take m)) := o1'.alloc _
              have hsZ : wq.heap.size ≤ (w4.alloc (.cells #[.string X, .string Y] 26)).heap.size := dZ.size
              refine held_op 9 rfl (by kernel_rfl) (by rfl) ?_
              refine wp_appL (.tmp 36) (.tmp 41) rfl wq.heap.size v1 m (out.take m) rfl oZ (some ⟨w4.heap.size, 0, none⟩) 1 1 [(X, Y)] rfl rfl (fun e => by cases e) (lit_lab w4 (X, Y)) (by omega) hsZ ?_
              clear o1 g1 o1' d1
              intro v2 w5 o2 g2
              have d2 : Below wq.heap.size wq w5 := dZ.grown g2 dZ.size (fun g hg => by have := own_geL oZ g hg; omega)
              refine ⟨d2, ?_⟩
              show wpAnyH _ _ _ _ _ _ _ ⟨Array.setIfInBounds _ 42 v2, _⟩ _
              simp only [List.setIfInBounds_toArray, List.set_cons_zero, List.set_cons_succ]
              have hs5 : wq.heap.size ≤ w5.heap.size := Nat.le_trans hsZ (dG g2)
              refine held_op 13 rfl (by kernel_rfl) (by rfl) ?_
              refine wp_appL (.tmp 42) (.tmp 45) rfl wq.heap.size v2 (m + 1) (out.take m ++ [(X, Y)]) rfl o2 _ (k - m) (c - m) (out.drop m) rfl (by rw [List.length_drop, ol]) (fun e => by cases e) (ROWD.out w5 d2) (by omega) hs5 ?_
              intro v3 w6 o3 g3
              have d3 : Below wq.heap.size wq w6 := d2.grown g3 d2.size (fun g hg => by have := own_geL o2 g hg; omega)
              refine ⟨d3, ?_⟩
              show wpAnyH _ _ _ _ _ _ _ ⟨Array.setIfInBounds _ 46 v3, _⟩ _
              simp only [List.setIfInBounds_toArray, List.set_cons_zero, List.set_cons_succ]
              have R : Hid (MkI w ls (k + 1) (out.take m ++ (X, Y) :: out.drop m) v3 w6) := by
                have e : m + 1 + (k - m) = k + 1 := by omega
                have e2 : out.take m ++ [(X, Y)] ++ out.drop m = out.take m ++ (X, Y) :: out.drop m := by simp
                rw [e, e2] at o3
                exact ⟨own_baseL o3 (by have := b0q.size; omega), HST.out.1, HST.out.2, b0q.trans (d3.mono b0q.size)⟩
              clear o3 g3 o2 g2
              refine held_take 14 4 (v := v3) rfl rfl (by kernel_rfl) (by kernel_rfl) (by kernel_rfl) (by rfl) (fun _ _ _ h => h) (by assumption) ?_ ?_
              · intro W hW
                go_simp
              simp only [List.setIfInBounds_toArray, List.set_cons_zero, List.set_cons_succ]
              refine wpAnyH_done (by kernel_rfl) ?_ _
              clear d2 d3 dZ oZ hsZ HST
              go_wp2
              go_roundw
              case rel => exact ⟨k + 1, _, by omega, by go_num, R⟩
              case measure => simp [intOf]; omega
            · have dA : Below wq.heap.size wq (wq.drew.alloc (.cells #[.string X, .string Y] 26)) := ((Below.refl _ _).drew).alloc (Nat.le_refl _) _
              refine wp_run (v := .slice (some ⟨wq.heap.size, 0, none⟩) 1 1) (w' := wq.drew.alloc (.cells #[.string X, .string Y] 26)) rfl (by go_simp) ⟨dA, ?_⟩
              simp only [List.setIfInBounds_toArray, List.set_cons_zero, List.set_cons_succ]
              have hsA : wq.heap.size + 1 ≤ (wq.drew.alloc (.cells #[.string X, .string Y] 26)).heap.size := by simp
              refine held_op 3 rfl (by kernel_rfl) (by rfl) ?_
              refine wp_appL (.const (.slice none 0 0)) (.tmp 35) rfl (wq.heap.size + 1) (.slice none 0 0) 0 [] rfl (World.ownsRow_nil _ _ _ _) _ m _ (out.take m) rfl (by rw [List.length_take, ol]; omega) (fun e => by cases e) (ROWT.out (wq.drew.alloc (.cells #[.string X, .string Y] 26)) dA) (by omega) hsA ?_
              intro v1 w4 o1 g1
              have oZ : w4.ownsRow (wq.heap.size + 1) 26 2 v1 m (lc (out.take m)) := by simpa using o1
              have dZ : Below wq.heap.size wq w4 := dA.grown g1 dA.size (fun _ h => by cases h)
              have dB : Below (wq.drew.alloc (.cells #[.string X, .string Y] 26)).heap.size (wq.drew.alloc (.cells #[.string X, .string Y] 26)) w4 := (Below.refl _ _).grown g1 (Nat.le_refl _) (fun _ h => by cases h)
              have lr : IsLabs w4 (some ⟨wq.heap.size, 0, none⟩) [(X, Y)] := (lit_lab wq.drew (X, Y)).below dB
              have hsZ : wq.heap.size + 1 ≤ w4.heap.size := Nat.le_trans hsA dB.size
              refine ⟨dZ, ?_⟩
              show wpAnyH _ _ _ _ _ _ _ ⟨Array.setIfInBounds _ 36 v1, _⟩ _
              simp only [List.setIfInBounds_toArray, List.set_cons_zero, List.set_cons_succ]
              refine held_op 9 rfl (by kernel_rfl) (by rfl) ?_
              refine wp_appL (.tmp 36) (.tmp 41) rfl (wq.heap.size + 1) v1 m (out.take m) rfl oZ (some ⟨wq.heap.size, 0, none⟩) 1 1 [(X, Y)] rfl rfl (fun e => by cases e) lr (by omega) hsZ ?_
              clear o1 g1 dA dB lr
              intro v2 w5 o2 g2
              have d2 : Below wq.heap.size wq w5 := dZ.grown g2 dZ.size (fun g hg => by have := own_geL oZ g hg; omega)
              refine ⟨d2, ?_⟩
              show wpAnyH _ _ _ _ _ _ _ ⟨Array.setIfInBounds _ 42 v2, _⟩ _
              simp only [List.setIfInBounds_toArray, List.set_cons_zero, List.set_cons_succ]
              have hs5 : (wq.heap.size + 1) ≤ w5.heap.size := Nat.le_trans hsZ (dG g2)
              refine held_op 13 rfl (by kernel_rfl) (by rfl) ?_
              refine wp_appL (.tmp 42) (.tmp 45) rfl (wq.heap.size + 1) v2 (m + 1) (out.take m ++ [(X, Y)]) rfl o2 _ (k - m) (c - m) (out.drop m) rfl (by rw [List.length_drop, ol]) (fun e => by cases e) (ROWD.out w5 d2) (by omega) hs5 ?_
              intro v3 w6 o3 g3
              have d3 : Below wq.heap.size wq w6 := d2.grown g3 d2.size (fun g hg => by have := own_geL o2 g hg; omega)
              refine ⟨d3, ?_⟩
              show wpAnyH _ _ _ _ _ _ _ ⟨Array.setIfInBounds _ 46 v3, _⟩ _
              simp only [List.setIfInBounds_toArray, List.set_cons_zero, List.set_cons_succ]
              have R : Hid (MkI w ls (k + 1) (out.take m ++ (X, Y) :: out.drop m) v3 w6) := by
                have e : m + 1 + (k - m) = k + 1 := by omega
                have e2 : out.take m ++ [(X, Y)] ++ out.drop m = out.take m ++ (X, Y) :: out.drop m := by simp
                rw [e, e2] at o3
                exact ⟨own_baseL o3 (by have := b0q.size; omega), HST.out.1, HST.out.2, b0q.trans (d3.mono b0q.size)⟩
              clear o3 g3 o2 g2
              refine held_take 14 4 (v := v3) rfl rfl (by kernel_rfl) (by kernel_rfl) (by kernel_rfl) (by rfl) (fun _ _ _ h => h) (by assumption) ?_ ?_
              · intro W hW
                go_simp
              simp only [List.setIfInBounds_toArray, List.set_cons_zero, List.set_cons_succ]
              refine wpAnyH_done (by kernel_rfl) ?_ _
              clear d2 d3 dZ oZ hsZ HST
              go_wp2
              go_roundw
              case rel => exact ⟨k + 1, _, by omega, by go_num, R⟩
              case measure => simp [intOf]; omega
          · obtain ⟨p, hp⟩ : ∃ p, m = p + 1 := ⟨m - 1, by omega⟩
            have g0 : decide ((0 : Int) < (m : Int)) = true := decide_eq_true (by omega)
            obtain ⟨c1, c2⟩ := HC.out wr HB.out
            have c3 : wr.cell? ⟨g, p * 2, none⟩ = some (.string (nth out p).1) := by have := (isLabs_at HO.out (j := p) (by omega)).1; rwa [Nat.zero_add] at this
            have i1 : IntKind.i64.wrap ((m : Int) - 1) = (p : Int) := by rw [IntWalk.i64_in _ (by omega)]; omega
            have i2 : (p : Int) < (k : Int) := by omega
            obtain ⟨Z, hZ⟩ : ∃ Z, (nth out p).1 = Z := ⟨_, rfl⟩
            rw [hZ] at c3
            cases hr : Op.bytesLess X.toList Z.toList
            · have HT2 : Hid (lt X (nth out p).1 = false) := by show _ = _; rw [hZ]; exact hr
              clear hZ
              go_wp2
              go_quiet (fail)
              clear c1 c2 c3 i1 i2 hr
              have HST : Hid ((out.take m ++ (X, Y) :: out.drop m).Perm (ls.take (k + 1)) ∧ (out.take m ++ (X, Y) :: out.drop m).Pairwise fun x y => lt y.1 x.1 = false) := by
                have := ins_step HT.out.kp HT.out.ks (m := m) (by rw [HN.out]; exact hkn) ol hmk (by rw [HXY.out]; exact HALL.out) (fun _ => by rw [HXY.out, hp, Nat.add_sub_cancel]; exact HT2.out)
                rw [HXY.out] at this
                exact this
              clear hp m0 g0 HT2
              have b0q : Below w.heap.size w (wr.drewN nq) := ⟨HB.out.os, HB.out.tape, HB.out.output, HB.out.size, HB.out.block⟩
              have ROWT : Hid (∀ W, Below wr.heap.size (wr.drewN nq) W → IsLabs W (some ⟨g, 0, none⟩) (out.take m)) := fun W hW => labs_take (IsLabs.below (w := wr.drewN nq) HO.out hW) m
              have ROWD : Hid (∀ W, Below wr.heap.size (wr.drewN nq) W → IsLabs W (some (if c = m then ⟨g, 0, none⟩ else ⟨g, m * 2, none⟩)) (out.drop m)) := fun W hW => labs_drop (IsLabs.below (w := wr.drewN nq) HO.out hW) m (by rw [ol]; exact hkc)
              have esz : (wr.drewN nq).heap.size = wr.heap.size := rfl
              rw [← esz] at ROWT ROWD
              clear esz
              generalize wr.drewN nq = wq at b0q ROWT ROWD ⊢
              have HCW : Hid (∀ W, Below wq.heap.size wq W → W.cell? ⟨b, off + k * 2, none⟩ = some (.string X) ∧ W.cell? ⟨b, off + k * 2 + 1, none⟩ = some (.string Y)) := fun W hW => HC.out W (b0q.trans (hW.mono b0q.size))
              go_wp2_with fail
              refine wp_region_held_drew (S := fun W => Below wq.heap.size wq W) (by kernel_rfl) ((Below.refl _ _).drew) (fun hHeld => ?_)
              refine held_take 0 33 (v := (.slice (some ⟨g, 0, none⟩) k c)) rfl rfl (by kernel_rfl) (by kernel_rfl) (by kernel_rfl) (by rfl) (fun _ _ _ h => h) (by assumption) ?_ ?_
              · intro W hW
                go_simp
              simp only [List.setIfInBounds_toArray, List.set_cons_zero, List.set_cons_succ]
              refine held_take 1 34 (v := (.int .i64 (m : Int))) rfl rfl (by kernel_rfl) (by kernel_rfl) (by kernel_rfl) (by rfl) (fun _ _ _ h => h) (by assumption) ?_ ?_
              · intro W hW
                go_simp
              simp only [List.setIfInBounds_toArray, List.set_cons_zero, List.set_cons_succ]
              refine held_take 2 35 (v := (.slice (some ⟨g, 0, none⟩) m c)) rfl rfl (by kernel_rfl) (by kernel_rfl) (by kernel_rfl) (by rfl) (fun _ _ _ h => h) (by assumption) ?_ ?_
              · intro W hW
                have sl := lcut_lo W g k c m (by omega)
                go_simp
              simp only [List.setIfInBounds_toArray, List.set_cons_zero, List.set_cons_succ]
              refine held_take 4 37 (v := (.slice (some ⟨b, off, none⟩) n cap)) rfl rfl (by kernel_rfl) (by kernel_rfl) (by kernel_rfl) (by rfl) (fun _ _ _ h => h) (by assumption) ?_ ?_
              · intro W hW
                go_simp
              simp only [List.setIfInBounds_toArray, List.set_cons_zero, List.set_cons_succ]
              refine held_take 5 38 (v := (.int .i64 (k : Int))) rfl rfl (by kernel_rfl) (by kernel_rfl) (by kernel_rfl) (by rfl) (fun _ _ _ h => h) (by assumption) ?_ ?_
              · intro W hW
                go_simp
              simp only [List.setIfInBounds_toArray, List.set_cons_zero, List.set_cons_succ]
              refine held_take 6 39 (v := (.pointer (some ⟨b, off + k * 2, none⟩))) rfl rfl (by kernel_rfl) (by kernel_rfl) (by kernel_rfl) (by rfl) (fun _ _ _ h => h) (by assumption) ?_ ?_
              · intro W hW
                go_simp
              simp only [List.setIfInBounds_toArray, List.set_cons_zero, List.set_cons_succ]
              refine held_take 7 40 (v := (.agg #[.string X, .string Y])) rfl rfl (by kernel_rfl) (by kernel_rfl) (by kernel_rfl) (by rfl) (fun _ _ _ h => h) (by assumption) ?_ ?_
              · intro W hW
                obtain ⟨z1, z2⟩ := HCW.out W hW
                go_simp
              simp only [List.setIfInBounds_toArray, List.set_cons_zero, List.set_cons_succ]
              refine held_take 10 43 (v := (.slice (some ⟨g, 0, none⟩) k c)) rfl rfl (by kernel_rfl) (by kernel_rfl) (by kernel_rfl) (by rfl) (fun _ _ _ h => h) (by assumption) ?_ ?_
              · intro W hW
                go_simp
              simp only [List.setIfInBounds_toArray, List.set_cons_zero, List.set_cons_succ]
              refine held_take 11 44 (v := (.int .i64 (m : Int))) rfl rfl (by kernel_rfl) (by kernel_rfl) (by kernel_rfl) (by rfl) (fun _ _ _ h => h) (by assumption) ?_ ?_
              · intro W hW
                go_simp
              simp only [List.setIfInBounds_toArray, List.set_cons_zero, List.set_cons_succ]
              refine held_take 12 45 (v := (.slice (some (if c = m then ⟨g, 0, none⟩ else ⟨g, m * 2, none⟩)) (k - m) (c - m))) rfl rfl (by kernel_rfl) (by kernel_rfl) (by kernel_rfl) (by rfl) (fun _ _ _ h => h) (by assumption) ?_ ?_
              · intro W hW
                have sl := lcut_hi W g k c m (by omega)
                go_simp
              simp only [List.setIfInBounds_toArray, List.set_cons_zero, List.set_cons_succ]
              have dG : ∀ {x y : World} {q : Option Nat}, x.grownBy y q → x.heap.size ≤ y.heap.size := fun h => h.size
              refine held_two 3 8 rfl rfl (by kernel_rfl) (by rfl) (by rfl) ?_ ?_
              · refine wp_appL (.const (.slice none 0 0)) (.tmp 35) rfl wq.heap.size (.slice none 0 0) 0 [] rfl (World.ownsRow_nil _ _ _ _) _ m _ (out.take m) rfl (by rw [List.length_take, ol]; omega) (fun e => by cases e) (ROWT.out wq.drew ((Below.refl _ _).drew)) (by omega) (Nat.le_refl _) ?_
                intro v1 w4 o1 g1
                have o1' : w4.ownsRow wq.heap.size 26 2 v1 m (lc (out.take m)) := by simpa using o1
                have d1 : Below wq.heap.size wq w4 := ((Below.refl _ _).drew).grown g1 (Nat.le_refl _) (fun _ h => by cases h)
                refine ⟨d1, ?_⟩
                show wpAnyH _ _ _ _ _ _ _ ⟨Array.setIfInBounds _ 36 v1, _⟩ _
                simp only [List.setIfInBounds_toArray, List.set_cons_zero, List.set_cons_succ]
                have dZ : Below wq.heap.size wq (w4.alloc (.cells #[.string X, .string Y] 26)) := d1.alloc d1.size _
                refine held_op 8 rfl (by kernel_rfl) (by rfl) ?_
                refine wp_run (v := .slice (some ⟨w4.heap.size, 0, none⟩) 1 1) (w' := w4.alloc (.cells #[.string X, .string Y] 26)) rfl (by go_simp) ⟨dZ, ?_⟩
                simp only [List.setIfInBounds_toArray, List.set_cons_zero, List.set_cons_succ]
                have oZ : (w4.alloc (.cells #[.string X, .string Y] 26)).ownsRow wq.heap.size 26 2 v1 m (lc (out.take m)) := o1'.alloc _
                have hsZ : wq.heap.size ≤ (w4.alloc (.cells #[.string X, .string Y] 26)).heap.size := dZ.size
                refine held_op 9 rfl (by kernel_rfl) (by rfl) ?_
                refine wp_appL (.tmp 36) (.tmp 41) rfl wq.heap.size v1 m (out.take m) rfl oZ (some ⟨w4.heap.size, 0, none⟩) 1 1 [(X, Y)] rfl rfl (fun e => by cases e) (lit_lab w4 (X, Y)) (by omega) hsZ ?_
                clear o1 g1 o1' d1
                intro v2 w5 o2 g2
                have d2 : Below wq.heap.size wq w5 := dZ.grown g2 dZ.size (fun g hg => by have := own_geL oZ g hg; omega)
                refine ⟨d2, ?_⟩
                show wpAnyH _ _ _ _ _ _ _ ⟨Array.setIfInBounds _ 42 v2, _⟩ _
                simp only [List.setIfInBounds_toArray, List.set_cons_zero, List.set_cons_succ]
                have hs5 : wq.heap.size ≤ w5.heap.size := Nat.le_trans hsZ (dG g2)
                refine held_op 13 rfl (by kernel_rfl) (by rfl) ?_
                refine wp_appL (.tmp 42) (.tmp 45) rfl wq.heap.size v2 (m + 1) (out.take m ++ [(X, Y)]) rfl o2 _ (k - m) (c - m) (out.drop m) rfl (by rw [List.length_drop, ol]) (fun e => by cases e) (ROWD.out w5 d2) (by omega) hs5 ?_
                intro v3 w6 o3 g3
                have d3 : Below wq.heap.size wq w6 := d2.grown g3 d2.size (fun g hg => by have := own_geL o2 g hg; omega)
                refine ⟨d3, ?_⟩
                show wpAnyH _ _ _ _ _ _ _ ⟨Array.setIfInBounds _ 46 v3, _⟩ _
                simp only [List.setIfInBounds_toArray, List.set_cons_zero, List.set_cons_succ]
                have R : Hid (MkI w ls (k + 1) (out.take m ++ (X, Y) :: out.drop m) v3 w6) := by
                  have e : m + 1 + (k - m) = k + 1 := by omega
                  have e2 : out.take m ++ [(X, Y)] ++ out.drop m = out.take m ++ (X, Y) :: out.drop m := by simp
                  rw [e, e2] at o3
                  exact ⟨own_baseL o3 (by have := b0q.size; omega), HST.out.1, HST.out.2, b0q.trans (d3.mono b0q.size)⟩
                clear o3 g3 o2 g2
                refine held_take 14 4 (v := v3) rfl rfl (by kernel_rfl) (by kernel_rfl) (by kernel_rfl) (by rfl) (fun _ _ _ h => h) (by assumption) ?_ ?_
                · intro W hW
                  go_simp
                simp only [List.setIfInBounds_toArray, List.set_cons_zero, List.set_cons_succ]
                refine wpAnyH_done (by kernel_rfl) ?_ _
                clear d2 d3 dZ oZ hsZ HST
                go_wp2
                go_roundw
                case rel => exact ⟨k + 1, _, by omega, by go_num, R⟩
                case measure => simp [intOf]; omega
              · have dA : Below wq.heap.size wq (wq.drew.alloc (.cells #[.string X, .string Y] 26)) := ((Below.refl _ _).drew).alloc (Nat.le_refl _) _
                refine wp_run (v := .slice (some ⟨wq.heap.size, 0, none⟩) 1 1) (w' := wq.drew.alloc (.cells #[.string X, .string Y] 26)) rfl (by go_simp) ⟨dA, ?_⟩
                simp only [List.setIfInBounds_toArray, List.set_cons_zero, List.set_cons_succ]
                have hsA : wq.heap.size + 1 ≤ (wq.drew.alloc (.cells #[.string X, .string Y] 26)).heap.size := by simp
                refine held_op 3 rfl (by kernel_rfl) (by rfl) ?_
                refine wp_appL (.const (.slice none 0 0)) (.tmp 35) rfl (wq.heap.size + 1) (.slice none 0 0) 0 [] rfl (World.ownsRow_nil _ _ _ _) _ m _ (out.take m) rfl (by rw [List.length_take, ol]; omega) (fun e => by cases e) (ROWT.out (wq.drew.alloc (.cells #[.string X, .string Y] 26)) dA) (by omega) hsA ?_
                intro v1 w4 o1 g1
                have oZ : w4.ownsRow (wq.heap.size + 1) 26 2 v1 m (lc (out.take m)) := by simpa using o1
                have dZ : Below wq.heap.size wq w4 := dA.grown g1 dA.size (fun _ h => by cases h)
                have dB : Below (wq.drew.alloc (.cells #[.string X, .string Y] 26)).heap.size (wq.drew.alloc (.cells #[.string X, .string Y] 26)) w4 := (Below.refl _ _).grown g1 (Nat.le_refl _) (fun _ h => by cases h)
                have lr : IsLabs w4 (some ⟨wq.heap.size, 0, none⟩) [(X, Y)] := (lit_lab wq.drew (X, Y)).below dB
                have hsZ : wq.heap.size + 1 ≤ w4.heap.size := Nat.le_trans hsA dB.size
                refine ⟨dZ, ?_⟩
                show wpAnyH _ _ _ _ _ _ _ ⟨Array.setIfInBounds _ 36 v1, _⟩ _
                simp only [List.setIfInBounds_toArray, List.set_cons_zero, List.set_cons_succ]
                refine held_op 9 rfl (by kernel_rfl) (by rfl) ?_
                refine wp_appL (.tmp 36) (.tmp 41) rfl (wq.heap.size + 1) v1 m (out.take m) rfl oZ (some ⟨wq.heap.size, 0, none⟩) 1 1 [(X, Y)] rfl rfl (fun e => by cases e) lr (by omega) hsZ ?_
                clear o1 g1 dA dB lr
                intro v2 w5 o2 g2
                have d2 : Below wq.heap.size wq w5 := dZ.grown g2 dZ.size (fun g hg => by have := own_geL oZ g hg; omega)
                refine ⟨d2, ?_⟩
                show wpAnyH _ _ _ _ _ _ _ ⟨Array.setIfInBounds _ 42 v2, _⟩ _
                simp only [List.setIfInBounds_toArray, List.set_cons_zero, List.set_cons_succ]
                have hs5 : (wq.heap.size + 1) ≤ w5.heap.size := Nat.le_trans hsZ (dG g2)
                refine held_op 13 rfl (by kernel_rfl) (by rfl) ?_
                refine wp_appL (.tmp 42) (.tmp 45) rfl (wq.heap.size + 1) v2 (m + 1) (out.take m ++ [(X, Y)]) rfl o2 _ (k - m) (c - m) (out.drop m) rfl (by rw [List.length_drop, ol]) (fun e => by cases e) (ROWD.out w5 d2) (by omega) hs5 ?_
                intro v3 w6 o3 g3
                have d3 : Below wq.heap.size wq w6 := d2.grown g3 d2.size (fun g hg => by have := own_geL o2 g hg; omega)
                refine ⟨d3, ?_⟩
                show wpAnyH _ _ _ _ _ _ _ ⟨Array.setIfInBounds _ 46 v3, _⟩ _
                simp only [List.setIfInBounds_toArray, List.set_cons_zero, List.set_cons_succ]
                have R : Hid (MkI w ls (k + 1) (out.take m ++ (X, Y) :: out.drop m) v3 w6) := by
                  have e : m + 1 + (k - m) = k + 1 := by omega
                  have e2 : out.take m ++ [(X, Y)] ++ out.drop m = out.take m ++ (X, Y) :: out.drop m := by simp
                  rw [e, e2] at o3
                  exact ⟨own_baseL o3 (by have := b0q.size; omega), HST.out.1, HST.out.2, b0q.trans (d3.mono b0q.size)⟩
                clear o3 g3 o2 g2
                refine held_take 14 4 (v := v3) rfl rfl (by kernel_rfl) (by kernel_rfl) (by kernel_rfl) (by rfl) (fun _ _ _ h => h) (by assumption) ?_ ?_
                · intro W hW
                  go_simp
                simp only [List.setIfInBounds_toArray, List.set_cons_zero, List.set_cons_succ]
                refine wpAnyH_done (by kernel_rfl) ?_ _
                clear d2 d3 dZ oZ hsZ HST
                go_wp2
                go_roundw
                case rel => exact ⟨k + 1, _, by omega, by go_num, R⟩
                case measure => simp [intOf]; omega
            · have HALL2 : Hid (∀ j, p ≤ j → j < k → lt X (nth out j).1 = true) := fun j h1 h2 => by
                by_cases hj : m ≤ j
                · exact HALL.out j hj h2
                · obtain rfl : j = p := by omega
                  rw [hZ]; exact hr
              clear hZ
              go_wp2
              go_quiet (fail)
              clear c1 c2 c3
              go_wp2
              go_roundw
              case rel => exact ⟨p, by omega, rfl, HALL2.out, by obtain ⟨q, rfl⟩ := HQ.out; exact ⟨_, World.drewN_drewN _ _ _⟩⟩
              case measure => simp [intOf]; omega
    · obtain rfl : k = n := by omega
      obtain ⟨A', c', rfl, _, _, hi, hol⟩ := own_formL HT.out.ko
      have hkz : ¬ (k : Int) < (k : Int) := by omega
      have HP : Hid (out.Perm ls) := by have := HT.out.kp; rwa [List.take_of_length_le (by rw [HN.out]; omega)] at this
      have SO : Hid (Small out) := fun x hx => HSM.out x (HP.out.mem_iff.1 hx)
      have MO := Lib.hid (mk_of HT.out.ks HP.out)
      have KO := Lib.hid HT.out.ko
      have B := Lib.hid HT.out.kb
      have CI := Lib.hid (isset_any out A' c' wr (by omega) SO.out hi)
      rw [hol] at CI
      rw [← hol] at KO
      have HL := Lib.hid hol
      clear HT hi hol SO
      cases hb : isSet out
      · rw [hb] at CI MO
        clear hb
        go_wp2_with fail
        refine CI.out.mono ?_
        rintro e w' ⟨rfl, bw⟩
        have B2 := Lib.hid (B.out.trans (bw.mono B.out.size))
        clear bw CI
        go_wp2
        go_ret2
        exact ⟨⟨none, _, .bool false, MO.out, rfl, rfl⟩, B2.out⟩
      · rw [hb] at CI MO
        clear hb
        go_wp2_with fail
        refine CI.out.mono ?_
        rintro e w' ⟨rfl, bw⟩
        have B2 := Lib.hid (B.out.trans (bw.mono B.out.size))
        have K2 := Lib.hid (own_keepL KO.out bw)
        rw [HL.out] at K2
        clear bw CI KO
        go_wp2
        go_ret2
        exact ⟨⟨some out, _, _, MO.out, rfl, rfl, by rw [HL.out]; exact K2.out⟩, B2.out⟩

end Go.Proofs.YtlfcjjlgkcfkdaaGreatDoor
namespace Go.Proofs.YtlfcjjlgkcfkdaaGreatDoor
open Go.RowKit La Go.Sort

/-- The labels in the order that d tells. -/
def rowL (ls : List Lab) (n : Nat) (d : Nat → Nat) : List Lab := (List.range n).map fun j => nth ls (d j)
theorem rowL_len (ls : List Lab) (n : Nat) (d : Nat → Nat) : (rowL ls n d).length = n := by simp [rowL]
theorem rowL_nth {ls : List Lab} {n j : Nat} {d : Nat → Nat} (h : j < n) : nth (rowL ls n d) j = nth ls (d j) := by simp [rowL, nth, h]
/-- The row that is sorted: one's own; nothing else is written. -/
structure LabS (base B n cap : Nat) (ls : List Lab) (w0 : World) (d : Nat → Nat) (w : World) : Prop where
  own : w.ownsRow base 26 2 (.slice (some ⟨B, 0, none⟩) n cap) n (lc (rowL ls n d))
  bel : Below base w0 w
  siz : base ≤ w.heap.size
section
variable {base B n cap : Nat} {ls : List Lab} {w0 w : World} {d : Nat → Nat}
theorem LabS.cell (h : LabS base B n cap ls w0 d w) (j : Nat) (hj : j < n) : w.cell? ⟨B, j * 2, none⟩ = some (.string (nth ls (d j)).1) ∧ w.cell? ⟨B, j * 2 + 1, none⟩ = some (.string (nth ls (d j)).2) := by
  have := isLabs_at (own_labs h.own).1 (j := j) (by rw [rowL_len]; exact hj)
  rwa [Nat.zero_add, rowL_nth hj] at this
theorem LabS.free (h : LabS base B n cap ls w0 d w) (j : Nat) : w.frozen? ⟨B, j, none⟩ = false := h.own.frozenAt j
theorem LabS.grow {w' : World} (h : LabS base B n cap ls w0 d w) (hb : Below w.heap.size w w') : LabS base B n cap ls w0 d w' :=
  ⟨own_keepL h.own hb, h.bel.trans (hb.mono h.siz), Nat.le_trans h.siz hb.size⟩
theorem lc_set (l : List Lab) (i : Nat) (x : Lab) : ((lc l).set (i * 2) (.string x.1)).set (i * 2 + 1) (.string x.2) = lc (l.set i x) := by
  induction l generalizing i with
  | nil => rfl
  | cons y r ih =>
    cases i with
    | zero => simp [lc]
    | succ i =>
      have e1 : (i + 1) * 2 = i * 2 + 1 + 1 := by omega
      have e2 : ∀ (z : Lab) (m : List Lab), lc (z :: m) = .string z.1 :: .string z.2 :: lc m := fun _ _ => rfl
      rw [e1, e2, List.set_cons_succ, List.set_cons_succ, List.set_cons_succ, List.set_cons_succ, ih, List.set_cons_succ, e2]
theorem rowL_sw (ls : List Lab) (n : Nat) (d : Nat → Nat) (i j : Nat) (hi : i < n) (hj : j < n) : ((rowL ls n d).set i (nth ls (d j))).set j (nth ls (d i)) = rowL ls n (So.sw d i j) := by
  refine ext_nth (by simp [rowL]) fun k hk => ?_
  have hk' : k < n := by simpa [rowL] using hk
  rw [rowL_nth hk']
  unfold So.sw
  have hl : ∀ {a : List Lab} {x : Lab} {p : Nat}, p < a.length → nth (a.set p x) k = if p = k then x else nth a k := by
    intro a x p hp
    by_cases e : p = k
    · subst e; simp [nth, hp]
    · simp [nth, e]
  rw [hl (by rw [List.length_set, rowL_len]; exact hj), hl (by rw [rowL_len]; exact hi), rowL_nth hk']
  by_cases c1 : j = k
  · subst c1
    by_cases c2 : j = i
    · subst c2; simp
    · simp [c2]
  · rw [if_neg c1]
    by_cases c2 : i = k
    · subst c2; simp
    · rw [if_neg c2, if_neg (Ne.symm c2), if_neg (Ne.symm c1)]
theorem LabS.put (h : LabS base B n cap ls w0 d w) (i j : Nat) (hi : i < n) (hj : j < n) :
    LabS base B n cap ls w0 (So.sw d i j) ((((w.setCell ⟨B, i * 2, none⟩ (.string (nth ls (d j)).1)).setCell ⟨B, i * 2 + 1, none⟩ (.string (nth ls (d j)).2)).setCell ⟨B, j * 2, none⟩ (.string (nth ls (d i)).1)).setCell ⟨B, j * 2 + 1, none⟩ (.string (nth ls (d i)).2)) := by
  obtain ⟨s1, g1⟩ := h.own.stored (i * 2) (.string (nth ls (d j)).1)
  obtain ⟨s2, g2⟩ := s1.stored (i * 2 + 1) (.string (nth ls (d j)).2)
  obtain ⟨s3, g3⟩ := s2.stored (j * 2) (.string (nth ls (d i)).1)
  obtain ⟨s4, g4⟩ := s3.stored (j * 2 + 1) (.string (nth ls (d i)).2)
  rw [lc_set, lc_set, rowL_sw ls n d i j hi hj] at s4
  have g := ((g1.trans g2).trans g3).trans g4
  refine ⟨s4, h.bel.grown g h.siz (fun q hq => ?_), by have := g.size; have := h.siz; omega⟩
  have := own_geL h.own q hq
  exact this
end
end Go.Proofs.YtlfcjjlgkcfkdaaGreatDoor

