/-
  What sordinekeep.Labels does: it draws a label set, whatever the numbers. Conditions: none but the length's.
  The order of matchers; a matcher put into a list where it belongs; '==' of matchers; slices of matchers cut. No conditions.
-/
import Derived.Test.YtlfcjjlgkcfkdaaGreatDoorProg
import Derived.Test.YtlfcjjlgkcfkdaaGreatDoorZ01
import Derived.Test.YtlfcjjlgkcfkdaaGreatDoorZ03
import Derived.Test.YtlfcjjlgkcfkdaaGreatDoorZ04
import Derived.Test.YtlfcjjlgkcfkdaaGreatDoorZ16
import Derived.Test.YtlfcjjlgkcfkdaaGreatDoorZ19
import Derived.Test.YtlfcjjlgkcfkdaaGreatDoorZ20
import Derived.Test.YtlfcjjlgkcfkdaaGreatDoorZ21
import Derived.Test.YtlfcjjlgkcfkdaaGreatDoorZ23
import Derived.Test.YtlfcjjlgkcfkdaaGreatDoorZ24
import Derived.Test.YtlfcjjlgkcfkdaaGreatDoorZ02
import Derived.Test.YtlfcjjlgkcfkdaaGreatDoorZ05
import Derived.Test.YtlfcjjlgkcfkdaaGreatDoorZ07
import Derived.Test.YtlfcjjlgkcfkdaaGreatDoorZ06
import Derived.Test.YtlfcjjlgkcfkdaaGreatDoorZ08
import Derived.Test.YtlfcjjlgkcfkdaaGreatDoorZ09
import Derived.Test.YtlfcjjlgkcfkdaaGreatDoorZ10
import Derived.Test.YtlfcjjlgkcfkdaaGreatDoorZ11
import Derived.Test.YtlfcjjlgkcfkdaaGreatDoorZ13
import Derived.Test.YtlfcjjlgkcfkdaaGreatDoorZ14
import Derived.Test.YtlfcjjlgkcfkdaaGreatDoorZ15
import Derived.Test.YtlfcjjlgkcfkdaaGreatDoorZ17
import Derived.Below
import Derived.WalkKit
import Derived.WalkSpells
import Derived.WalkLawsBesides
import Derived.Lib.Hide
import Derived.Lib.AppendStr
import Derived.Laws.BytesArg
import Derived.Laws.AppendOwnNone
import Derived.KernelRfl
import Derived.Lib.Bytealg
import Derived.Deep.RegionHeld3
import Derived.Laws.AppendOwn
import Derived.BigQuiet
import Derived.Laws.StructEq
import Derived.Laws.OwnMore
import Derived.Lib.QuietBelow
import Derived.Laws.Externs
import Derived.Lib.LazyBuf
import Derived.Laws.ResultCell
import Derived.Deep.Slices
import Derived.Deep.SlicePairs
import Derived.OpenShut
import Derived.Laws.MakeOwn
import Derived.OwnWalk
import Derived.Laws.CopyOwn
import Derived.Deep.QuietTactic
import Derived.Maps.AppendAt
import Derived.StillTailTactics
import Derived.Deep.LoopGhost
import Derived.Deep.MidRow
import Derived.Deep.Upon
import Derived.Deep.Cut
import Derived.Lib.TrailingZeros
import Derived.Laws.Bits64b
import Derived.Deep.CutRange
namespace Go.Proofs.YtlfcjjlgkcfkdaaGreatDoor
open Go.RowKit La

/-- Labels that may stand in one set. -/
structure Apart (acc : List Lab) : Prop where
  ok : ∀ x ∈ acc, name x.1 = true ∧ value x.2 = true
  di : acc.Pairwise fun x y => x.1 ≠ y.1
theorem apart_nil : Apart [] := ⟨(fun x hx => by cases hx), List.Pairwise.nil⟩
theorem value_size {s : ByteArray} (h : value s = true) : 1 ≤ s.size ∧ s.size ≤ 24 := by simpa [value] using h
theorem name_size {s : ByteArray} (h : name s = true) : 1 ≤ s.size ∧ s.size ≤ 12 := by
  simp only [name, decide_eq_true_eq] at h
  exact ⟨h.1, h.2.1⟩
theorem getL_empty {acc : List Lab} (h : ∀ x ∈ acc, value x.2 = true) {n : ByteArray} (he : (getL acc n).toList = []) : ∀ x ∈ acc, x.1 ≠ n := by
  induction acc with
  | nil => intro x hx; cases hx
  | cons y r ih =>
    rw [getL] at he
    split at he
    · have h1 := value_size (h y (by simp))
      rw [ByteArray.toList_eq] at he
      have h2 : y.2.data.size = 0 := by have := congrArg List.length he; simpa using this
      have h3 : y.2.size = y.2.data.size := rfl
      omega
    · rename_i hne
      intro x hx
      rcases List.mem_cons.1 hx with rfl | hx
      · intro e; exact hne (beq_iff.2 e)
      · exact ih (fun z hz => h z (by simp [hz])) he x hx
theorem Apart.snoc {acc : List Lab} (h : Apart acc) {x y : ByteArray} (hx : name x = true) (hy : value y = true) (he : (getL acc x).toList = []) : Apart (acc ++ [(x, y)]) := by
  refine ⟨fun z hz => ?_, ?_⟩
  · rcases List.mem_append.1 hz with hz | hz
    · exact h.ok z hz
    · simp at hz; subst hz; exact ⟨hx, hy⟩
  · rw [List.pairwise_append]
    refine ⟨h.di, List.pairwise_singleton _ _, fun a ha b hb => ?_⟩
    simp at hb; subst hb
    exact getL_empty (fun z hz => (h.ok z hz).2) he a ha
theorem Apart.sorted {acc : List Lab} (h : Apart acc) (h1 : 1 ≤ acc.length) (h6 : acc.length ≤ 6) : ∃ r : List Lab, r.Perm acc ∧ isSet r = true := by
  let le : Lab → Lab → Bool := fun a b => !lt b.1 a.1
  have tr : ∀ a b c, le a b = true → le b c = true → le a c = true := by
    intro a b c x y
    simp only [le, Bool.not_eq_true'] at x y ⊢
    cases e : lt c.1 a.1 with
    | false => rfl
    | true =>
      cases e2 : lt b.1 c.1 with
      | true => have := lt_trans e2 e; rw [x] at this; cases this
      | false => have := lt_total e2 y; rw [← this, x] at e; cases e
  have tot : ∀ a b, (le a b || le b a) = true := by
    intro a b
    simp only [le]
    cases e : lt b.1 a.1 with
    | false => rfl
    | true => rw [lt_asymm e]; rfl
  have hp := List.mergeSort_perm acc le
  have hs := List.pairwise_mergeSort tr tot acc
  refine ⟨acc.mergeSort le, hp, isSet_iff.2 ⟨by rw [hp.length_eq]; exact h1, by rw [hp.length_eq]; exact h6, fun k hk => ?_⟩⟩
  have hd : (acc.mergeSort le).Pairwise fun x y => x.1 ≠ y.1 := hp.symm.pairwise h.di (fun {x y} e => Ne.symm e)
  have ok := h.ok _ (hp.mem_iff.1 (nth_mem hk))
  rw [okAt, ok.1, ok.2]
  by_cases hk0 : k = 0
  · simp [hk0]
  · have hk1 : k - 1 < (acc.mergeSort le).length := by omega
    have g1 := List.pairwise_iff_getElem.1 hs (k - 1) k hk1 hk (by omega)
    have g2 := List.pairwise_iff_getElem.1 hd (k - 1) k hk1 hk (by omega)
    rw [nth_eq hk, nth_eq hk1]
    simp only [le, Bool.not_eq_true'] at g1
    cases e : lt ((acc.mergeSort le)[k - 1]).1 ((acc.mergeSort le)[k]).1 with
    | true => simp
    | false => exact absurd (lt_total e g1) g2
theorem Apart.made {acc : List Lab} (h : Apart acc) (h1 : 1 ≤ acc.length) (h6 : acc.length ≤ 6) {o : Option (List Lab)} (ho : IsMk acc o) : ∃ l, o = some l ∧ isSet l = true := by
  cases o with
  | none =>
    obtain ⟨r, hp, hs⟩ := h.sorted h1 h6
    have := ho r hp
    rw [hs] at this; cases this
  | some l => exact ⟨l, rfl, ho.2⟩
theorem Apart.small {acc : List Lab} (h : Apart acc) : Small acc := fun x hx => by
  have a := name_size (h.ok x hx).1
  have b := value_size (h.ok x hx).2
  omega
/-- What the loop keeps. -/
structure KpI (w : World) (acc : List Lab) (v : Value) (wr : World) : Prop where
  own : wr.ownsRow w.heap.size 26 2 v acc.length (lc acc)
  bel : Below w.heap.size w wr
  ap : Apart acc

set_option maxRecDepth 100000 in
set_option maxHeartbeats 4000000 in
theorem keep_any (zs : List Int) (A : Option Addr) (cap : Nat) (w : World) (ha : IsInts w A zs) :
    Calls Tryz.prog 55 #[.slice A zs.length cap] w fun e w' => (∃ (l : List Lab) (v : Value), isSet l = true ∧ e = .returned v ∧ w'.ownsRow w.heap.size 26 2 v l.length (lc l)) ∧ Below w.heap.size w w' := by
  have HA := Lib.hid ha
  clear ha
  obtain ⟨N, hN⟩ : ∃ N, zs.length = N := ⟨_, rfl⟩
  rw [hN]
  have HN := Lib.hid hN
  clear hN
  go_enter Tryz.func55, Tryz.ntmps55
  go_wp2
  go_loopw [3, 4] (fun v i wr => ∃ (acc : List Lab) (k n : Nat), acc.length = n ∧ n ≤ k ∧ k ≤ N ∧ k ≤ 5 ∧ i = .int .i64 (k : Int) ∧ Hid (KpI w acc v wr)) (fun _ i _ => N - (intOf i).toNat)
  case atStart => exact ⟨[], 0, 0, rfl, by omega, by omega, by omega, rfl, World.ownsRow_nil _ _ _ _, Below.refl _ _, apart_nil⟩
  case round =>
    obtain ⟨acc, k, n, hn, hnk, hkN, hk5, rfl, HI⟩ := hrel
    by_cases hgo : k < N ∧ k < 5
    · obtain ⟨g1, g2⟩ := hgo
      have g1z : (k : Int) < (N : Int) := by omega
      have g2z : (k : Int) < 5 := by omega
      obtain ⟨b, off, rfl, _⟩ := (HA.out.below HI.out.bel) (by rw [HN.out]; omega)
      have HC0 : Hid (∀ W, Below w.heap.size w W → W.cell? ⟨b, off + k, none⟩ = some (.int .i64 (zs.getD k 0))) := fun W hW => by
        obtain ⟨b', off', e, hc⟩ := (HA.out.below hW) (by rw [HN.out]; omega)
        injection e with e; injection e with e1 e2
        subst e1 e2
        exact hc k (by rw [HN.out]; exact g1)
      obtain ⟨z, hz⟩ : ∃ z, zs.getD k 0 = z := ⟨_, rfl⟩
      rw [hz] at HC0
      have HC := HC0
      clear HC0 hz
      obtain ⟨q, hq⟩ : ∃ q : Int, IntKind.i64.wrap (z.tdiv 5) = q := ⟨_, rfl⟩
      obtain ⟨A3, c3, rfl, _, hA3, i3, _⟩ := own_formL HI.out.own
      have I3 := Lib.hid i3
      have HA3 := Lib.hid hA3
      clear i3 hA3
      go_wp2_with fail
      refine wp_region_held_drew (S := fun W => Below w.heap.size w W) (by kernel_rfl) (HI.out.bel.drew) (fun hHeld => ?_)
      refine held_take 0 18 (v := (.slice (some ⟨b, off, none⟩) N cap)) rfl rfl (by kernel_rfl) (by kernel_rfl) (by kernel_rfl) (by rfl) (fun _ _ _ h => h) (by assumption) ?_ ?_
      · intro W hW
        go_simp
      simp only [List.setIfInBounds_toArray, List.set_cons_zero, List.set_cons_succ]
      refine held_take 1 19 (v := (.int .i64 (k : Int))) rfl rfl (by kernel_rfl) (by kernel_rfl) (by kernel_rfl) (by rfl) (fun _ _ _ h => h) (by assumption) ?_ ?_
      · intro W hW
        go_simp
      simp only [List.setIfInBounds_toArray, List.set_cons_zero, List.set_cons_succ]
      refine held_take 2 20 (v := (.pointer (some ⟨b, off + k, none⟩))) rfl rfl (by kernel_rfl) (by kernel_rfl) (by kernel_rfl) (by rfl) (fun _ _ _ h => h) (by assumption) ?_ ?_
      · intro W hW
        go_simp
      simp only [List.setIfInBounds_toArray, List.set_cons_zero, List.set_cons_succ]
      refine held_take 3 21 (v := (.int .i64 z)) rfl rfl (by kernel_rfl) (by kernel_rfl) (by kernel_rfl) (by rfl) (fun _ _ _ h => h) (by assumption) ?_ ?_
      · intro W hW
        have c1 := HC.out W hW
        go_simp
      simp only [List.setIfInBounds_toArray, List.set_cons_zero, List.set_cons_succ]
      refine held_take 6 24 (v := (.slice (some ⟨b, off, none⟩) N cap)) rfl rfl (by kernel_rfl) (by kernel_rfl) (by kernel_rfl) (by rfl) (fun _ _ _ h => h) (by assumption) ?_ ?_
      · intro W hW
        go_simp
      simp only [List.setIfInBounds_toArray, List.set_cons_zero, List.set_cons_succ]
      refine held_take 7 25 (v := (.int .i64 (k : Int))) rfl rfl (by kernel_rfl) (by kernel_rfl) (by kernel_rfl) (by rfl) (fun _ _ _ h => h) (by assumption) ?_ ?_
      · intro W hW
        go_simp
      simp only [List.setIfInBounds_toArray, List.set_cons_zero, List.set_cons_succ]
      refine held_take 8 26 (v := (.pointer (some ⟨b, off + k, none⟩))) rfl rfl (by kernel_rfl) (by kernel_rfl) (by kernel_rfl) (by rfl) (fun _ _ _ h => h) (by assumption) ?_ ?_
      · intro W hW
        go_simp
      simp only [List.setIfInBounds_toArray, List.set_cons_zero, List.set_cons_succ]
      refine held_take 9 27 (v := (.int .i64 z)) rfl rfl (by kernel_rfl) (by kernel_rfl) (by kernel_rfl) (by rfl) (fun _ _ _ h => h) (by assumption) ?_ ?_
      · intro W hW
        have c1 := HC.out W hW
        go_simp
      simp only [List.setIfInBounds_toArray, List.set_cons_zero, List.set_cons_succ]
      refine held_take 10 28 (v := (.int .i64 q)) rfl rfl (by kernel_rfl) (by kernel_rfl) (by kernel_rfl) (by rfl) (fun _ _ _ h => h) (by assumption) ?_ ?_
      · intro W hW
        go_simp
      simp only [List.setIfInBounds_toArray, List.set_cons_zero, List.set_cons_succ]
      refine held_two 4 14 rfl rfl (by kernel_rfl) (by rfl) (by rfl) ?_ ?_
      · refine wp_call (f := 77) (args := #[.int .i64 z, .int .i64 0, .int .i64 4]) rfl (by go_simp) ?_
        refine (within4 z _).mono ?_
        rintro e w' ⟨⟨i1, hi1, rfl⟩, hw'⟩
        subst hw'
        refine ⟨_, rfl, by assumption, ?_⟩
        simp only [List.setIfInBounds_toArray, List.set_cons_zero, List.set_cons_succ]
        refine held_two 5 14 rfl rfl (by kernel_rfl) (by rfl) (by rfl) ?_ ?_
        · refine wp_call (f := 63) (args := #[.int .i64 (i1 : Int)]) rfl (by go_simp) ?_
          refine (kname_any i1 hi1 _).mono ?_
          rintro e w' ⟨⟨x, hx, rfl⟩, hw'⟩
          subst hw'
          refine ⟨_, rfl, by assumption, ?_⟩
          simp only [List.setIfInBounds_toArray, List.set_cons_zero, List.set_cons_succ]
          refine held_two 11 14 rfl rfl (by kernel_rfl) (by rfl) (by rfl) ?_ ?_
          · refine wp_call (f := 77) (args := #[.int .i64 q, .int .i64 0, .int .i64 6]) rfl (by go_simp) ?_
            refine (within6 q _).mono ?_
            rintro e w' ⟨⟨i2, hi2, rfl⟩, hw'⟩
            subst hw'
            refine ⟨_, rfl, by assumption, ?_⟩
            simp only [List.setIfInBounds_toArray, List.set_cons_zero, List.set_cons_succ]
            refine held_two 12 14 rfl rfl (by kernel_rfl) (by rfl) (by rfl) ?_ ?_
            · refine wp_call (f := 65) (args := #[.int .i64 (i2 : Int)]) rfl (by go_simp) ?_
              refine (kvalue_any i2 hi2 _).mono ?_
              rintro e w' ⟨⟨y, hy, rfl⟩, hw'⟩
              subst hw'
              refine ⟨_, rfl, by assumption, ?_⟩
              simp only [List.setIfInBounds_toArray, List.set_cons_zero, List.set_cons_succ]
              refine held_take 13 31 (v := (.agg #[.string x, .string y])) rfl rfl (by kernel_rfl) (by kernel_rfl) (by kernel_rfl) (by rfl) (fun _ _ _ h => h) (by assumption) ?_ ?_
              · intro W hW
                go_simp
              simp only [List.setIfInBounds_toArray, List.set_cons_zero, List.set_cons_succ]
              refine held_op 14 rfl (by kernel_rfl) (by rfl) ?_
              have dA : Below w.heap.size w (wr.drew.alloc (.cells #[.string ⟨#[]⟩, .string ⟨#[]⟩] 26)) := HI.out.bel.drew.alloc HI.out.bel.size _
              refine wp_run (v := .pointer (some ⟨wr.heap.size, 0, none⟩)) (w' := wr.drew.alloc (.cells #[.string ⟨#[]⟩, .string ⟨#[]⟩] 26)) rfl (by go_simp) ⟨dA, ?_⟩
              simp only [List.setIfInBounds_toArray, List.set_cons_zero, List.set_cons_succ]
              have dB : Below w.heap.size w (wr.drew.alloc (.cells #[.string x, .string y] 26)) := HI.out.bel.drew.alloc HI.out.bel.size _
              refine held_op 15 rfl (by kernel_rfl) (by rfl) ?_
              refine wp_skip (w' := wr.drew.alloc (.cells #[.string x, .string y] 26)) rfl (by go_simp) ⟨dB, ?_⟩
              refine wpAnyH_done (by kernel_rfl) ?_ _
              clear dB dA hHeld
              have bl : Below wr.heap.size wr (wr.drew.alloc (.cells #[.string x, .string y] 26)) := ((Below.refl _ _).drew).alloc (Nat.le_refl _) _
              have CG := Lib.hid (rget_labs acc x A3 c3 (wr.drew.alloc (.cells #[.string x, .string y] 26)) (by omega) (I3.out.below bl))
              have O4 := Lib.hid (own_keepL HI.out.own bl)
              have D4 : Hid (Below w.heap.size w (wr.drew.alloc (.cells #[.string x, .string y] 26))) := HI.out.bel.trans (bl.mono HI.out.bel.size)
              have AP := Lib.hid HI.out.ap
              obtain ⟨G, hG⟩ : ∃ G, getL acc x = G := ⟨_, rfl⟩
              rw [hG, hn] at CG
              rw [hn] at O4
              have HG := Lib.hid hG
              clear bl hG HI HC hq
              go_wp2_with fail
              refine CG.out.mono ?_
              rintro e w' ⟨rfl, hw'⟩
              subst hw'
              clear CG
              by_cases he : G.toList = []
              · have AP2 := Lib.hid (AP.out.snoc hx hy (by rw [HG.out]; exact he))
                have hed : (G.toList == []) = true := by simp [he]
                have D5 := Lib.hid (D4.out.alloc D4.out.size (.cells #[.string x, .string y] 26))
                have O5 := Lib.hid (O4.out.alloc (.cells #[.string x, .string y] 26))
                have LIT := Lib.hid (lit_lab (wr.drew.alloc (.cells #[.string x, .string y] 26)) (x, y))
                have hsz : (wr.drew.alloc (.cells #[.string x, .string y] 26)).heap.size = wr.heap.size + 1 := by simp
                rw [hsz] at LIT
                clear hsz D4 O4
                go_wp2_with (at_builtin; refine wpList_appL rfl _ _ rfl w.heap.size _ n acc rfl O5.out (some ⟨wr.heap.size + 1, 0, none⟩) 1 1 [(x, y)] rfl rfl (fun e => by cases e) LIT.out (by omega) D5.out.size ?_)
                intro v6 w6 o6 g6
                have I2 : Hid (KpI w (acc ++ [(x, y)]) v6 w6) := ⟨by rw [List.length_append, hn]; exact o6, D5.out.grown g6 D5.out.size (own_geL O5.out), AP2.out⟩
                clear o6 g6 O5 D5 LIT
                go_wp2
                go_roundw
                case rel => exact ⟨acc ++ [(x, y)], k + 1, n + 1, by simp [hn], by omega, by omega, by omega, by go_num, I2⟩
                case measure => simp [intOf]; omega
              · have hed : (G.toList == []) = false := by simp [he]
                have I2 : Hid (KpI w acc (.slice A3 n c3) (wr.drew.alloc (.cells #[.string x, .string y] 26))) := ⟨by rw [hn]; exact O4.out, D4.out, AP.out⟩
                go_wp2
                go_roundw
                case rel => exact ⟨acc, k + 1, n, hn, by omega, by omega, by omega, by go_num, I2⟩
                case measure => simp [intOf]; omega
            · have dA : Below w.heap.size w (wr.drew.alloc (.cells #[.string ⟨#[]⟩, .string ⟨#[]⟩] 26)) := HI.out.bel.drew.alloc HI.out.bel.size _
              refine wp_run (v := .pointer (some ⟨wr.heap.size, 0, none⟩)) (w' := wr.drew.alloc (.cells #[.string ⟨#[]⟩, .string ⟨#[]⟩] 26)) rfl (by go_simp) ⟨dA, ?_⟩
              simp only [List.setIfInBounds_toArray, List.set_cons_zero, List.set_cons_succ]
              refine held_op 12 rfl (by kernel_rfl) (by rfl) ?_
              refine wp_call (f := 65) (args := #[.int .i64 (i2 : Int)]) rfl (by go_simp) ?_
              refine (kvalue_any i2 hi2 _).mono ?_
              rintro e w' ⟨⟨y, hy, rfl⟩, hw'⟩
              subst hw'
              refine ⟨_, rfl, by assumption, ?_⟩
              simp only [List.setIfInBounds_toArray, List.set_cons_zero, List.set_cons_succ]
              refine held_take 13 31 (v := (.agg #[.string x, .string y])) rfl rfl (by kernel_rfl) (by kernel_rfl) (by kernel_rfl) (by rfl) (fun _ _ _ h => h) (by assumption) ?_ ?_
              · intro W hW
                go_simp
              simp only [List.setIfInBounds_toArray, List.set_cons_zero, List.set_cons_succ]
              have dB : Below w.heap.size w (wr.drew.alloc (.cells #[.string x, .string y] 26)) := HI.out.bel.drew.alloc HI.out.bel.size _
              refine held_op 15 rfl (by kernel_rfl) (by rfl) ?_
              refine wp_skip (w' := wr.drew.alloc (.cells #[.string x, .string y] 26)) rfl (by go_simp) ⟨dB, ?_⟩
              refine wpAnyH_done (by kernel_rfl) ?_ _
              clear dB dA hHeld
              have bl : Below wr.heap.size wr (wr.drew.alloc (.cells #[.string x, .string y] 26)) := ((Below.refl _ _).drew).alloc (Nat.le_refl _) _
              have CG := Lib.hid (rget_labs acc x A3 c3 (wr.drew.alloc (.cells #[.string x, .string y] 26)) (by omega) (I3.out.below bl))
              have O4 := Lib.hid (own_keepL HI.out.own bl)
              have D4 : Hid (Below w.heap.size w (wr.drew.alloc (.cells #[.string x, .string y] 26))) := HI.out.bel.trans (bl.mono HI.out.bel.size)
              have AP := Lib.hid HI.out.ap
              obtain ⟨G, hG⟩ : ∃ G, getL acc x = G := ⟨_, rfl⟩
              rw [hG, hn] at CG
              rw [hn] at O4
              have HG := Lib.hid hG
              clear bl hG HI HC hq
              go_wp2_with fail
              refine CG.out.mono ?_
              rintro e w' ⟨rfl, hw'⟩
              subst hw'
              clear CG
              by_cases he : G.toList = []
              · have AP2 := Lib.hid (AP.out.snoc hx hy (by rw [HG.out]; exact he))
                have hed : (G.toList == []) = true := by simp [he]
                have D5 := Lib.hid (D4.out.alloc D4.out.size (.cells #[.string x, .string y] 26))
                have O5 := Lib.hid (O4.out.alloc (.cells #[.string x, .string y] 26))
                have LIT := Lib.hid (lit_lab (wr.drew.alloc (.cells #[.string x, .string y] 26)) (x, y))
                have hsz : (wr.drew.alloc (.cells #[.string x, .string y] 26)).heap.size = wr.heap.size + 1 := by simp
                rw [hsz] at LIT
                clear hsz D4 O4
                go_wp2_with (at_builtin; refine wpList_appL rfl _ _ rfl w.heap.size _ n acc rfl O5.out (some ⟨wr.heap.size + 1, 0, none⟩) 1 1 [(x, y)] rfl rfl (fun e => by cases e) LIT.out (by omega) D5.out.size ?_)
                intro v6 w6 o6 g6
                have I2 : Hid (KpI w (acc ++ [(x, y)]) v6 w6) := ⟨by rw [List.length_append, hn]; exact o6, D5.out.grown g6 D5.out.size (own_geL O5.out), AP2.out⟩
                clear o6 g6 O5 D5 LIT
                go_wp2
                go_roundw
                case rel => exact ⟨acc ++ [(x, y)], k + 1, n + 1, by simp [hn], by omega, by omega, by omega, by go_num, I2⟩
                case measure => simp [intOf]; omega
              · have hed : (G.toList == []) = false := by simp [he]
                have I2 : Hid (KpI w acc (.slice A3 n c3) (wr.drew.alloc (.cells #[.string x, .string y] 26))) := ⟨by rw [hn]; exact O4.out, D4.out, AP.out⟩
                go_wp2
                go_roundw
                case rel => exact ⟨acc, k + 1, n, hn, by omega, by omega, by omega, by go_num, I2⟩
                case measure => simp [intOf]; omega
          · have dA : Below w.heap.size w (wr.drew.alloc (.cells #[.string ⟨#[]⟩, .string ⟨#[]⟩] 26)) := HI.out.bel.drew.alloc HI.out.bel.size _
            refine wp_run (v := .pointer (some ⟨wr.heap.size, 0, none⟩)) (w' := wr.drew.alloc (.cells #[.string ⟨#[]⟩, .string ⟨#[]⟩] 26)) rfl (by go_simp) ⟨dA, ?_⟩
            simp only [List.setIfInBounds_toArray, List.set_cons_zero, List.set_cons_succ]
            refine held_op 11 rfl (by kernel_rfl) (by rfl) ?_
            refine wp_call (f := 77) (args := #[.int .i64 q, .int .i64 0, .int .i64 6]) rfl (by go_simp) ?_
            refine (within6 q _).mono ?_
            rintro e w' ⟨⟨i2, hi2, rfl⟩, hw'⟩
            subst hw'
            refine ⟨_, rfl, by assumption, ?_⟩
            simp only [List.setIfInBounds_toArray, List.set_cons_zero, List.set_cons_succ]
            refine held_op 12 rfl (by kernel_rfl) (by rfl) ?_
            refine wp_call (f := 65) (args := #[.int .i64 (i2 : Int)]) rfl (by go_simp) ?_
            refine (kvalue_any i2 hi2 _).mono ?_
            rintro e w' ⟨⟨y, hy, rfl⟩, hw'⟩
            subst hw'
            refine ⟨_, rfl, by assumption, ?_⟩
            simp only [List.setIfInBounds_toArray, List.set_cons_zero, List.set_cons_succ]
            refine held_take 13 31 (v := (.agg #[.string x, .string y])) rfl rfl (by kernel_rfl) (by kernel_rfl) (by kernel_rfl) (by rfl) (fun _ _ _ h => h) (by assumption) ?_ ?_
            · intro W hW
              go_simp
            simp only [List.setIfInBounds_toArray, List.set_cons_zero, List.set_cons_succ]
            have dB : Below w.heap.size w (wr.drew.alloc (.cells #[.string x, .string y] 26)) := HI.out.bel.drew.alloc HI.out.bel.size _
            refine held_op 15 rfl (by kernel_rfl) (by rfl) ?_
            refine wp_skip (w' := wr.drew.alloc (.cells #[.string x, .string y] 26)) rfl (by go_simp) ⟨dB, ?_⟩
            refine wpAnyH_done (by kernel_rfl) ?_ _
            clear dB dA hHeld
            have bl : Below wr.heap.size wr (wr.drew.alloc (.cells #[.string x, .string y] 26)) := ((Below.refl _ _).drew).alloc (Nat.le_refl _) _
            have CG := Lib.hid (rget_labs acc x A3 c3 (wr.drew.alloc (.cells #[.string x, .string y] 26)) (by omega) (I3.out.below bl))
            have O4 := Lib.hid (own_keepL HI.out.own bl)
            have D4 : Hid (Below w.heap.size w (wr.drew.alloc (.cells #[.string x, .string y] 26))) := HI.out.bel.trans (bl.mono HI.out.bel.size)
            have AP := Lib.hid HI.out.ap
            obtain ⟨G, hG⟩ : ∃ G, getL acc x = G := ⟨_, rfl⟩
            rw [hG, hn] at CG
            rw [hn] at O4
            have HG := Lib.hid hG
            clear bl hG HI HC hq
            go_wp2_with fail
            refine CG.out.mono ?_
            rintro e w' ⟨rfl, hw'⟩
            subst hw'
            clear CG
            by_cases he : G.toList = []
            · have AP2 := Lib.hid (AP.out.snoc hx hy (by rw [HG.out]; exact he))
              have hed : (G.toList == []) = true := by simp [he]
              have D5 := Lib.hid (D4.out.alloc D4.out.size (.cells #[.string x, .string y] 26))
              have O5 := Lib.hid (O4.out.alloc (.cells #[.string x, .string y] 26))
              have LIT := Lib.hid (lit_lab (wr.drew.alloc (.cells #[.string x, .string y] 26)) (x, y))
              have hsz : (wr.drew.alloc (.cells #[.string x, .string y] 26)).heap.size = wr.heap.size + 1 := by simp
              rw [hsz] at LIT
              clear hsz D4 O4
              go_wp2_with (at_builtin; refine wpList_appL rfl _ _ rfl w.heap.size _ n acc rfl O5.out (some ⟨wr.heap.size + 1, 0, none⟩) 1 1 [(x, y)] rfl rfl (fun e => by cases e) LIT.out (by omega) D5.out.size ?_)
              intro v6 w6 o6 g6
              have I2 : Hid (KpI w (acc ++ [(x, y)]) v6 w6) := ⟨by rw [List.length_append, hn]; exact o6, D5.out.grown g6 D5.out.size (own_geL O5.out), AP2.out⟩
              clear o6 g6 O5 D5 LIT
              go_wp2
              go_roundw
              case rel => exact ⟨acc ++ [(x, y)], k + 1, n + 1, by simp [hn], by omega, by omega, by omega, by go_num, I2⟩
              case measure => simp [intOf]; omega
            · have hed : (G.toList == []) = false := by simp [he]
              have I2 : Hid (KpI w acc (.slice A3 n c3) (wr.drew.alloc (.cells #[.string x, .string y] 26))) := ⟨by rw [hn]; exact O4.out, D4.out, AP.out⟩
              go_wp2
              go_roundw
              case rel => exact ⟨acc, k + 1, n, hn, by omega, by omega, by omega, by go_num, I2⟩
              case measure => simp [intOf]; omega
        · have dA : Below w.heap.size w (wr.drew.alloc (.cells #[.string ⟨#[]⟩, .string ⟨#[]⟩] 26)) := HI.out.bel.drew.alloc HI.out.bel.size _
          refine wp_run (v := .pointer (some ⟨wr.heap.size, 0, none⟩)) (w' := wr.drew.alloc (.cells #[.string ⟨#[]⟩, .string ⟨#[]⟩] 26)) rfl (by go_simp) ⟨dA, ?_⟩
          simp only [List.setIfInBounds_toArray, List.set_cons_zero, List.set_cons_succ]
          refine held_op 5 rfl (by kernel_rfl) (by rfl) ?_
          refine wp_call (f := 63) (args := #[.int .i64 (i1 : Int)]) rfl (by go_simp) ?_
          refine (kname_any i1 hi1 _).mono ?_
          rintro e w' ⟨⟨x, hx, rfl⟩, hw'⟩
          subst hw'
          refine ⟨_, rfl, by assumption, ?_⟩
          simp only [List.setIfInBounds_toArray, List.set_cons_zero, List.set_cons_succ]
          refine held_op 11 rfl (by kernel_rfl) (by rfl) ?_
          refine wp_call (f := 77) (args := #[.int .i64 q, .int .i64 0, .int .i64 6]) rfl (by go_simp) ?_
          refine (within6 q _).mono ?_
          rintro e w' ⟨⟨i2, hi2, rfl⟩, hw'⟩
          subst hw'
          refine ⟨_, rfl, by assumption, ?_⟩
          simp only [List.setIfInBounds_toArray, List.set_cons_zero, List.set_cons_succ]
          refine held_op 12 rfl (by kernel_rfl) (by rfl) ?_
          refine wp_call (f := 65) (args := #[.int .i64 (i2 : Int)]) rfl (by go_simp) ?_
          refine (kvalue_any i2 hi2 _).mono ?_
          rintro e w' ⟨⟨y, hy, rfl⟩, hw'⟩
          subst hw'
          refine ⟨_, rfl, by assumption, ?_⟩
          simp only [List.setIfInBounds_toArray, List.set_cons_zero, List.set_cons_succ]
          refine held_take 13 31 (v := (.agg #[.string x, .string y])) rfl rfl (by kernel_rfl) (by kernel_rfl) (by kernel_rfl) (by rfl) (fun _ _ _ h => h) (by assumption) ?_ ?_
          · intro W hW
            go_simp
          simp only [List.setIfInBounds_toArray, List.set_cons_zero, List.set_cons_succ]
          have dB : Below w.heap.size w (wr.drew.alloc (.cells #[.string x, .string y] 26)) := HI.out.bel.drew.alloc HI.out.bel.size _
          refine held_op 15 rfl (by kernel_rfl) (by rfl) ?_
          refine wp_skip (w' := wr.drew.alloc (.cells #[.string x, .string y] 26)) rfl (by go_simp) ⟨dB, ?_⟩
          refine wpAnyH_done (by kernel_rfl) ?_ _
          clear dB dA hHeld
          have bl : Below wr.heap.size wr (wr.drew.alloc (.cells #[.string x, .string y] 26)) := ((Below.refl _ _).drew).alloc (Nat.le_refl _) _
          have CG := Lib.hid (rget_labs acc x A3 c3 (wr.drew.alloc (.cells #[.string x, .string y] 26)) (by omega) (I3.out.below bl))
          have O4 := Lib.hid (own_keepL HI.out.own bl)
          have D4 : Hid (Below w.heap.size w (wr.drew.alloc (.cells #[.string x, .string y] 26))) := HI.out.bel.trans (bl.mono HI.out.bel.size)
          have AP := Lib.hid HI.out.ap
          obtain ⟨G, hG⟩ : ∃ G, getL acc x = G := ⟨_, rfl⟩
          rw [hG, hn] at CG
          rw [hn] at O4
          have HG := Lib.hid hG
          clear bl hG HI HC hq
          go_wp2_with fail
          refine CG.out.mono ?_
          rintro e w' ⟨rfl, hw'⟩
          subst hw'
          clear CG
          by_cases he : G.toList = []
          · have AP2 := Lib.hid (AP.out.snoc hx hy (by rw [HG.out]; exact he))
            have hed : (G.toList == []) = true := by simp [he]
            have D5 := Lib.hid (D4.out.alloc D4.out.size (.cells #[.string x, .string y] 26))
            have O5 := Lib.hid (O4.out.alloc (.cells #[.string x, .string y] 26))
            have LIT := Lib.hid (lit_lab (wr.drew.alloc (.cells #[.string x, .string y] 26)) (x, y))
            have hsz : (wr.drew.alloc (.cells #[.string x, .string y] 26)).heap.size = wr.heap.size + 1 := by simp
            rw [hsz] at LIT
            clear hsz D4 O4
            go_wp2_with (at_builtin; refine wpList_appL rfl _ _ rfl w.heap.size _ n acc rfl O5.out (some ⟨wr.heap.size + 1, 0, none⟩) 1 1 [(x, y)] rfl rfl (fun e => by cases e) LIT.out (by omega) D5.out.size ?_)
            intro v6 w6 o6 g6
            have I2 : Hid (KpI w (acc ++ [(x, y)]) v6 w6) := ⟨by rw [List.length_append, hn]; exact o6, D5.out.grown g6 D5.out.size (own_geL O5.out), AP2.out⟩
            clear o6 g6 O5 D5 LIT
            go_wp2
            go_roundw
            case rel => exact ⟨acc ++ [(x, y)], k + 1, n + 1, by simp [hn], by omega, by omega, by omega, by go_num, I2⟩
            case measure => simp [intOf]; omega
          · have hed : (G.toList == []) = false := by simp [he]
            have I2 : Hid (KpI w acc (.slice A3 n c3) (wr.drew.alloc (.cells #[.string x, .string y] 26))) := ⟨by rw [hn]; exact O4.out, D4.out, AP.out⟩
            go_wp2
            go_roundw
            case rel => exact ⟨acc, k + 1, n, hn, by omega, by omega, by omega, by go_num, I2⟩
            case measure => simp [intOf]; omega
      · have dA : Below w.heap.size w (wr.drew.alloc (.cells #[.string ⟨#[]⟩, .string ⟨#[]⟩] 26)) := HI.out.bel.drew.alloc HI.out.bel.size _
        refine wp_run (v := .pointer (some ⟨wr.heap.size, 0, none⟩)) (w' := wr.drew.alloc (.cells #[.string ⟨#[]⟩, .string ⟨#[]⟩] 26)) rfl (by go_simp) ⟨dA, ?_⟩
        simp only [List.setIfInBounds_toArray, List.set_cons_zero, List.set_cons_succ]
        refine held_op 4 rfl (by kernel_rfl) (by rfl) ?_
        refine wp_call (f := 77) (args := #[.int .i64 z, .int .i64 0, .int .i64 4]) rfl (by go_simp) ?_
        refine (within4 z _).mono ?_
        rintro e w' ⟨⟨i1, hi1, rfl⟩, hw'⟩
        subst hw'
        refine ⟨_, rfl, by assumption, ?_⟩
        simp only [List.setIfInBounds_toArray, List.set_cons_zero, List.set_cons_succ]
        refine held_op 5 rfl (by kernel_rfl) (by rfl) ?_
        refine wp_call (f := 63) (args := #[.int .i64 (i1 : Int)]) rfl (by go_simp) ?_
        refine (kname_any i1 hi1 _).mono ?_
        rintro e w' ⟨⟨x, hx, rfl⟩, hw'⟩
        subst hw'
        refine ⟨_, rfl, by assumption, ?_⟩
        simp only [List.setIfInBounds_toArray, List.set_cons_zero, List.set_cons_succ]
        refine held_op 11 rfl (by kernel_rfl) (by rfl) ?_
        refine wp_call (f := 77) (args := #[.int .i64 q, .int .i64 0, .int .i64 6]) rfl (by go_simp) ?_
        refine (within6 q _).mono ?_
        rintro e w' ⟨⟨i2, hi2, rfl⟩, hw'⟩
        subst hw'
        refine ⟨_, rfl, by assumption, ?_⟩
        simp only [List.setIfInBounds_toArray, List.set_cons_zero, List.set_cons_succ]
        refine held_op 12 rfl (by kernel_rfl) (by rfl) ?_
        refine wp_call (f := 65) (args := #[.int .i64 (i2 : Int)]) rfl (by go_simp) ?_
        refine (kvalue_any i2 hi2 _).mono ?_
        rintro e w' ⟨⟨y, hy, rfl⟩, hw'⟩
        subst hw'
        refine ⟨_, rfl, by assumption, ?_⟩
        simp only [List.setIfInBounds_toArray, List.set_cons_zero, List.set_cons_succ]
        refine held_take 13 31 (v := (.agg #[.string x, .string y])) rfl rfl (by kernel_rfl) (by kernel_rfl) (by kernel_rfl) (by rfl) (fun _ _ _ h => h) (by assumption) ?_ ?_
        · intro W hW
          go_simp
        simp only [List.setIfInBounds_toArray, List.set_cons_zero, List.set_cons_succ]
        have dB : Below w.heap.size w (wr.drew.alloc (.cells #[.string x, .string y] 26)) := HI.out.bel.drew.alloc HI.out.bel.size _
        refine held_op 15 rfl (by kernel_rfl) (by rfl) ?_
        refine wp_skip (w' := wr.drew.alloc (.cells #[.string x, .string y] 26)) rfl (by go_simp) ⟨dB, ?_⟩
        refine wpAnyH_done (by kernel_rfl) ?_ _
        clear dB dA hHeld
        have bl : Below wr.heap.size wr (wr.drew.alloc (.cells #[.string x, .string y] 26)) := ((Below.refl _ _).drew).alloc (Nat.le_refl _) _
        have CG := Lib.hid (rget_labs acc x A3 c3 (wr.drew.alloc (.cells #[.string x, .string y] 26)) (by omega) (I3.out.below bl))
        have O4 := Lib.hid (own_keepL HI.out.own bl)
        have D4 : Hid (Below w.heap.size w (wr.drew.alloc (.cells #[.string x, .string y] 26))) := HI.out.bel.trans (bl.mono HI.out.bel.size)
        have AP := Lib.hid HI.out.ap
        obtain ⟨G, hG⟩ : ∃ G, getL acc x = G := ⟨_, rfl⟩
        rw [hG, hn] at CG
        rw [hn] at O4
        have HG := Lib.hid hG
        clear bl hG HI HC hq
        go_wp2_with fail
        refine CG.out.mono ?_
        rintro e w' ⟨rfl, hw'⟩
        subst hw'
        clear CG
        by_cases he : G.toList = []
        · have AP2 := Lib.hid (AP.out.snoc hx hy (by rw [HG.out]; exact he))
          have hed : (G.toList == []) = true := by simp [he]
          have D5 := Lib.hid (D4.out.alloc D4.out.size (.cells #[.string x, .string y] 26))
          have O5 := Lib.hid (O4.out.alloc (.cells #[.string x, .string y] 26))
          have LIT := Lib.hid (lit_lab (wr.drew.alloc (.cells #[.string x, .string y] 26)) (x, y))
          have hsz : (wr.drew.alloc (.cells #[.string x, .string y] 26)).heap.size = wr.heap.size + 1 := by simp
          rw [hsz] at LIT
          clear hsz D4 O4
          go_wp2_with (at_builtin; refine wpList_appL rfl _ _ rfl w.heap.size _ n acc rfl O5.out (some ⟨wr.heap.size + 1, 0, none⟩) 1 1 [(x, y)] rfl rfl (fun e => by cases e) LIT.out (by omega) D5.out.size ?_)
          intro v6 w6 o6 g6
          have I2 : Hid (KpI w (acc ++ [(x, y)]) v6 w6) := ⟨by rw [List.length_append, hn]; exact o6, D5.out.grown g6 D5.out.size (own_geL O5.out), AP2.out⟩
          clear o6 g6 O5 D5 LIT
          go_wp2
          go_roundw
          case rel => exact ⟨acc ++ [(x, y)], k + 1, n + 1, by simp [hn], by omega, by omega, by omega, by go_num, I2⟩
          case measure => simp [intOf]; omega
        · have hed : (G.toList == []) = false := by simp [he]
          have I2 : Hid (KpI w acc (.slice A3 n c3) (wr.drew.alloc (.cells #[.string x, .string y] 26))) := ⟨by rw [hn]; exact O4.out, D4.out, AP.out⟩
          go_wp2
          go_roundw
          case rel => exact ⟨acc, k + 1, n, hn, by omega, by omega, by omega, by go_num, I2⟩
          case measure => simp [intOf]; omega
    · obtain ⟨A3, c3, rfl, _, hA3, i3, _⟩ := own_formL HI.out.own
      have I3 := Lib.hid i3
      have O3 := Lib.hid HI.out.own
      have D3 := Lib.hid HI.out.bel
      have AP := Lib.hid HI.out.ap
      rw [hn] at O3
      clear i3 hA3 HI HA
      have FIN : Hid (∀ (acc : List Lab) (n c : Nat) (A : Option Addr) (W : World), acc.length = n → 1 ≤ n → n ≤ 5 → Apart acc → Below w.heap.size w W → IsLabs W A acc →
          Calls Tryz.prog 78 #[.slice A n c] W fun e w' => ∃ l v, isSet l = true ∧ e = .returned (.tuple #[v, .bool true]) ∧ w'.ownsRow w.heap.size 26 2 v l.length (lc l) ∧ Below w.heap.size w w') := by
        intro acc n c A W h1 h2 h3 h4 h5 h6
        have C := makeset_any acc A c W (by omega) h4.small h6
        rw [h1] at C
        refine C.mono ?_
        rintro e w' ⟨⟨o, r, v, m, rfl, q⟩, b⟩
        obtain ⟨l, rfl, hs⟩ := h4.made (by omega) (by omega) m
        obtain ⟨rfl, o⟩ := q
        exact ⟨l, v, hs, rfl, own_baseL o h5.size, h5.trans (b.mono h5.size)⟩
      by_cases hkN2 : k < N
      · have g1z : (k : Int) < (N : Int) := by omega
        have g2z : ¬ (k : Int) < 5 := by omega
        by_cases hn0 : n = 0
        · have e0 : acc = [] := List.eq_nil_of_length_eq_zero (by omega)
          subst e0
          subst hn0
          have D5 := Lib.hid (D3.out.alloc D3.out.size (.cells #[.string ⟨#[115, 101, 118]⟩, .string ⟨#[97]⟩] 26))
          have O5 := Lib.hid (O3.out.alloc (.cells #[.string ⟨#[115, 101, 118]⟩, .string ⟨#[97]⟩] 26))
          have LIT := Lib.hid (lit_lab wr (⟨#[115, 101, 118]⟩, ⟨#[97]⟩))
          have AP2 : Hid (Apart [(⟨#[115, 101, 118]⟩, ⟨#[97]⟩)]) := AP.out.snoc (by decide +kernel) (by decide +kernel) (by decide +kernel)
          clear O3 D3 AP I3

          go_wp2_with (at_builtin; refine wpList_appL rfl _ _ rfl w.heap.size _ 0 [] rfl O5.out (some ⟨wr.heap.size, 0, none⟩) 1 1 [(⟨#[115, 101, 118]⟩, ⟨#[97]⟩)] rfl rfl (fun e => by cases e) LIT.out (by omega) D5.out.size ?_)
          intro v6 w6 o6 g6
          have d6 := D5.out.grown g6 D5.out.size (own_geL O5.out)
          obtain ⟨A6, c6, rfl, _, _, i6, _⟩ := own_formL o6
          have CF := Lib.hid (FIN.out _ 1 c6 A6 w6 rfl (by omega) (by omega) AP2.out d6 i6)
          clear o6 g6 O5 D5 LIT d6 i6 FIN
          go_wp2_with fail
          refine CF.out.mono ?_
          rintro e w7 ⟨l, v, hs, rfl, o7, b7⟩
          have HS := Lib.hid hs
          have O7 := Lib.hid o7
          have B7 := Lib.hid b7
          clear CF hs o7 b7
          go_wp2
          go_ret
          exact ⟨⟨l, v, HS.out, rfl, O7.out⟩, B7.out⟩
        · have hn0z : ((n : Int) == 0) = false := by simp; omega
          have CF := Lib.hid (FIN.out acc n c3 A3 wr hn (by omega) (by omega) AP.out D3.out I3.out)
          clear FIN O3 D3 AP I3
          go_wp2_with fail
          refine CF.out.mono ?_
          rintro e w7 ⟨l, v, hs, rfl, o7, b7⟩
          have HS := Lib.hid hs
          have O7 := Lib.hid o7
          have B7 := Lib.hid b7
          clear CF hs o7 b7
          go_wp2
          go_ret
          exact ⟨⟨l, v, HS.out, rfl, O7.out⟩, B7.out⟩
      · have g1z : ¬ (k : Int) < (N : Int) := by omega
        by_cases hn0 : n = 0
        · have e0 : acc = [] := List.eq_nil_of_length_eq_zero (by omega)
          subst e0
          subst hn0
          have D5 := Lib.hid (D3.out.alloc D3.out.size (.cells #[.string ⟨#[115, 101, 118]⟩, .string ⟨#[97]⟩] 26))
          have O5 := Lib.hid (O3.out.alloc (.cells #[.string ⟨#[115, 101, 118]⟩, .string ⟨#[97]⟩] 26))
          have LIT := Lib.hid (lit_lab wr (⟨#[115, 101, 118]⟩, ⟨#[97]⟩))
          have AP2 : Hid (Apart [(⟨#[115, 101, 118]⟩, ⟨#[97]⟩)]) := AP.out.snoc (by decide +kernel) (by decide +kernel) (by decide +kernel)
          clear O3 D3 AP I3

          go_wp2_with (at_builtin; refine wpList_appL rfl _ _ rfl w.heap.size _ 0 [] rfl O5.out (some ⟨wr.heap.size, 0, none⟩) 1 1 [(⟨#[115, 101, 118]⟩, ⟨#[97]⟩)] rfl rfl (fun e => by cases e) LIT.out (by omega) D5.out.size ?_)
          intro v6 w6 o6 g6
          have d6 := D5.out.grown g6 D5.out.size (own_geL O5.out)
          obtain ⟨A6, c6, rfl, _, _, i6, _⟩ := own_formL o6
          have CF := Lib.hid (FIN.out _ 1 c6 A6 w6 rfl (by omega) (by omega) AP2.out d6 i6)
          clear o6 g6 O5 D5 LIT d6 i6 FIN
          go_wp2_with fail
          refine CF.out.mono ?_
          rintro e w7 ⟨l, v, hs, rfl, o7, b7⟩
          have HS := Lib.hid hs
          have O7 := Lib.hid o7
          have B7 := Lib.hid b7
          clear CF hs o7 b7
          go_wp2
          go_ret
          exact ⟨⟨l, v, HS.out, rfl, O7.out⟩, B7.out⟩
        · have hn0z : ((n : Int) == 0) = false := by simp; omega
          have CF := Lib.hid (FIN.out acc n c3 A3 wr hn (by omega) (by omega) AP.out D3.out I3.out)
          clear FIN O3 D3 AP I3
          go_wp2_with fail
          refine CF.out.mono ?_
          rintro e w7 ⟨l, v, hs, rfl, o7, b7⟩
          have HS := Lib.hid hs
          have O7 := Lib.hid o7
          have B7 := Lib.hid b7
          clear CF hs o7 b7
          go_wp2
          go_ret
          exact ⟨⟨l, v, HS.out, rfl, O7.out⟩, B7.out⟩

end Go.Proofs.YtlfcjjlgkcfkdaaGreatDoor
namespace Go.Proofs.YtlfcjjlgkcfkdaaGreatDoor
open Go.RowKit Go.Sort

theorem Mat.ext {a b : Mat} (h1 : a.k = b.k) (h2 : a.n = b.n) (h3 : a.v = b.v) : a = b := by
  obtain ⟨_, _, _⟩ := a
  obtain ⟨_, _, _⟩ := b
  simp only at h1 h2 h3
  subst h1 h2 h3; rfl
instance : DecidableEq Mat := fun a b =>
  if h : a.k = b.k ∧ a.n = b.n ∧ a.v = b.v then isTrue (Mat.ext h.1 h.2.1 h.2.2) else isFalse fun e => h ⟨by rw [e], by rw [e], by rw [e]⟩
theorem Mat.bf_iff {a b : Mat} : Mat.bf a b = true ↔ (La.lt a.n b.n = true ∨ (a.n = b.n ∧ (a.k < b.k ∨ (a.k = b.k ∧ La.lt a.v b.v = true)))) := by
  unfold Mat.bf
  by_cases h1 : a.n = b.n
  · rw [if_pos (La.beq_iff.2 h1)]
    have hirr : ¬ La.lt a.n b.n = true := by rw [h1, La.lt_irrefl]; simp
    by_cases h2 : a.k = b.k
    · rw [if_pos h2]
      constructor
      · intro h; exact .inr ⟨h1, .inr ⟨h2, h⟩⟩
      · rintro (h | ⟨_, h | ⟨_, h⟩⟩)
        · exact absurd h hirr
        · omega
        · exact h
    · rw [if_neg h2, decide_eq_true_eq]
      constructor
      · intro h; exact .inr ⟨h1, .inl h⟩
      · rintro (h | ⟨_, h | ⟨h, _⟩⟩)
        · exact absurd h hirr
        · exact h
        · exact absurd h h2
  · rw [if_neg (fun h => h1 (La.beq_iff.1 h))]
    constructor
    · intro h; exact .inl h
    · rintro (h | ⟨h, _⟩)
      · exact h
      · exact absurd h h1
theorem Mat.bf_trans {a b c : Mat} (h1 : Mat.bf a b = true) (h2 : Mat.bf b c = true) : Mat.bf a c = true := by
  rw [Mat.bf_iff] at h1 h2 ⊢
  rcases h1 with h1 | ⟨e1, h1⟩
  · rcases h2 with h2 | ⟨e2, _⟩
    · exact .inl (La.lt_trans h1 h2)
    · exact .inl (by rw [← e2]; exact h1)
  · rcases h2 with h2 | ⟨e2, h2⟩
    · exact .inl (by rw [e1]; exact h2)
    · refine .inr ⟨e1.trans e2, ?_⟩
      rcases h1 with h1 | ⟨k1, h1⟩
      · rcases h2 with h2 | ⟨k2, _⟩
        · exact .inl (by omega)
        · exact .inl (by omega)
      · rcases h2 with h2 | ⟨k2, h2⟩
        · exact .inl (by omega)
        · exact .inr ⟨by omega, La.lt_trans h1 h2⟩
theorem Mat.bf_total {a b : Mat} (h1 : Mat.bf a b = false) (h2 : Mat.bf b a = false) : a = b := by
  have n1 : ¬ Mat.bf a b = true := by rw [h1]; simp
  have n2 : ¬ Mat.bf b a = true := by rw [h2]; simp
  rw [Mat.bf_iff] at n1 n2
  have en : a.n = b.n := La.lt_total (by cases h : La.lt a.n b.n <;> simp_all) (by cases h : La.lt b.n a.n <;> simp_all)
  have ek : a.k = b.k := by
    rcases Int.lt_trichotomy a.k b.k with h | h | h
    · exact absurd (.inr ⟨en, .inl h⟩) n1
    · exact h
    · exact absurd (.inr ⟨en.symm, .inl h⟩) n2
  refine Mat.ext ek en (La.lt_total ?_ ?_)
  · cases h : La.lt a.v b.v
    · rfl
    · exact absurd (.inr ⟨en, .inr ⟨ek, h⟩⟩) n1
  · cases h : La.lt b.v a.v
    · rfl
    · exact absurd (.inr ⟨en.symm, .inr ⟨ek.symm, h⟩⟩) n2
/-- Matchers that may stand in one list, in their order. -/
structure GoodM (acc : List Mat) : Prop where
  ok : ∀ m ∈ acc, m.ok = true ∧ (m.k = 1 ∨ m.k = 2 ∨ m.k = 3 ∨ m.k = 4) ∧ m.n.size ≤ 12 ∧ m.v.size ≤ 40
  pw : acc.Pairwise fun a b => Mat.bf a b = true
theorem GoodM.nil : GoodM [] := ⟨fun m hm => by (cases hm), List.Pairwise.nil⟩
theorem GoodM.small {acc : List Mat} (h : GoodM acc) : SmallM acc := fun m hm => by have := h.ok m hm; omega
theorem GoodM.put {acc : List Mat} {x : Mat} {m : Nat} (h : GoodM acc) (hx : x.ok = true ∧ (x.k = 1 ∨ x.k = 2 ∨ x.k = 3 ∨ x.k = 4) ∧ x.n.size ≤ 12 ∧ x.v.size ≤ 40) (hm : m ≤ acc.length)
    (h1 : ∀ j, m ≤ j → j < acc.length → Mat.bf x (Mat.nth acc j) = true) (h2 : 0 < m → Mat.bf x (Mat.nth acc (m - 1)) = false ∧ Mat.nth acc (m - 1) ≠ x) : GoodM (acc.take m ++ x :: acc.drop m) := by
  constructor
  · intro y hy
    rcases List.mem_append.1 hy with hy | hy
    · exact h.ok y (List.mem_of_mem_take hy)
    · rcases List.mem_cons.1 hy with rfl | hy
      · exact hx
      · exact h.ok y (List.mem_of_mem_drop hy)
  · have hs' := h.pw
    rw [← List.take_append_drop m acc, List.pairwise_append] at hs'
    obtain ⟨s1, s2, s3⟩ := hs'
    rw [List.pairwise_append]
    refine ⟨s1, ?_, ?_⟩
    · rw [List.pairwise_cons]
      refine ⟨fun y hy => ?_, s2⟩
      obtain ⟨j, hj, rfl⟩ := List.getElem_of_mem hy
      have hj' : m + j < acc.length := by simp at hj; omega
      have := h1 (m + j) (by omega) hj'
      rw [Mat.nth_eq hj'] at this
      rw [List.getElem_drop]
      exact this
    · intro y hy z hz
      rcases List.mem_cons.1 hz with rfl | hz
      · obtain ⟨j, hj, rfl⟩ := List.getElem_of_mem hy
        have hj' : j < m ∧ j < acc.length := by simp at hj; omega
        rw [List.getElem_take]
        obtain ⟨g1, g2⟩ := h2 (by omega)
        have hm1 : m - 1 < acc.length := by omega
        rw [Mat.nth_eq hm1] at g1 g2
        have g3 : Mat.bf (acc[m - 1]) z = true := by
          cases g : Mat.bf (acc[m - 1]) z
          · exact absurd (Mat.bf_total g g1) g2
          · rfl
        by_cases ej : j = m - 1
        · subst ej; exact g3
        · exact Mat.bf_trans (List.pairwise_iff_getElem.1 h.pw j (m - 1) hj'.2 hm1 (by omega)) g3
      · exact s3 y hy z hz
theorem mat_eql (w : World) (a b : Mat) : (binOp .eql 32 (.agg #[.int .i64 a.k, .string a.n, .string a.v]) (.agg #[.int .i64 b.k, .string b.n, .string b.v])).run Tryz.prog w = .ok (.bool (decide (a = b))) w := by
  have hs : Tryz.prog.stoodInHeld 32 = false := by kernel_rfl
  rw [run_eql_struct, run_equalIn_agg _ 9999 _ _ _ (by kernel_rfl) hs]
  simp only [Program.fieldsOf, Tryz.underlying32]
  go_simp
  have i1 : (a.n.toList = b.n.toList) = (a.n = b.n) := propext ⟨La.toL_inj, fun h => by rw [h]⟩
  have i2 : (a.v.toList = b.v.toList) = (a.v = b.v) := propext ⟨La.toL_inj, fun h => by rw [h]⟩
  obtain ⟨ak, an, av⟩ := a
  obtain ⟨bk, bn, bv⟩ := b
  simp only at i1 i2
  simp only [i1, i2]
  by_cases h0 : ak = bk <;> by_cases h1 : an = bn <;> by_cases h2 : av = bv <;> simp [h0, h1, h2]
/-- Where a slice of matchers begins that is cut at m. -/
def cutM (A : Option Addr) (c m : Nat) : Option Addr := A.map fun ad => if c = m then ad else ⟨ad.block, m * 3, none⟩
/-- A slice that one owns: none, or a row's beginning. -/
def AtRow (A : Option Addr) (k c : Nat) : Prop := (A = none ∧ k = 0 ∧ c = 0) ∨ ∃ g, A = some ⟨g, 0, none⟩
theorem own_formM2 {w : World} {base n : Nat} {v : Value} {l : List Mat} (h : w.ownsRow base 32 3 v n (mc l)) : ∃ A c, v = .slice A n c ∧ n ≤ c ∧ AtRow A n c ∧ IsMats w A l ∧ l.length = n := by
  rcases h.2 with ⟨rfl, rfl⟩ | ⟨g, cap, cur, rfl, _, _, hc, _⟩
  · obtain ⟨h1, h2⟩ := own_mats h
    exact ⟨_, _, rfl, Nat.le_refl _, .inl ⟨rfl, rfl, rfl⟩, h1, h2⟩
  · obtain ⟨h1, h2⟩ := own_mats h
    exact ⟨_, _, rfl, hc, .inr ⟨g, rfl⟩, h1, h2⟩
theorem AtRow.nil {A : Option Addr} {k c : Nat} (h : AtRow A k c) : A = none → c = 0 := fun e => by
  rcases h with ⟨_, _, h⟩ | ⟨g, h⟩
  · exact h
  · rw [e] at h; cases h
theorem AtRow.lo {A : Option Addr} {k c : Nat} (h : AtRow A k c) (W : World) (m : Nat) (hm : m ≤ k) (hk : k ≤ c) : (Instr.slice 33 (.slice A k c) none (some (.int .i64 (m : Int))) none).run Tryz.prog W = .ok (.slice A m c) W := by
  rcases h with ⟨rfl, rfl, rfl⟩ | ⟨g, rfl⟩
  · obtain rfl : m = 0 := by omega
    obtain ⟨i0, hi, hz0, hz1, hz2⟩ := info_parts Tryz.infoM
    simp [Instr.slice, Instr.sliceBounds, Instr.sliceBound, run_underlying Tryz.underlying33, asIntOf, sizeOf, typeInfo, hi, go_sem]
  · exact mcut_lo W g k c m (by omega)
theorem AtRow.hi {A : Option Addr} {k c : Nat} (h : AtRow A k c) (W : World) (m : Nat) (hm : m ≤ k) : (Instr.slice 33 (.slice A k c) (some (.int .i64 (m : Int))) none none).run Tryz.prog W = .ok (.slice (cutM A c m) (k - m) (c - m)) W := by
  rcases h with ⟨rfl, rfl, rfl⟩ | ⟨g, rfl⟩
  · obtain rfl : m = 0 := by omega
    obtain ⟨i0, hi, hz0, hz1, hz2⟩ := info_parts Tryz.infoM
    simp [cutM, Instr.slice, Instr.sliceBounds, Instr.sliceBound, run_underlying Tryz.underlying33, asIntOf, sizeOf, typeInfo, hi, go_sem]
  · exact mcut_hi W g k c m hm
theorem AtRow.drop {A : Option Addr} {k c : Nat} {w : World} {l : List Mat} (h : AtRow A k c) (hi : IsMats w A l) (m : Nat) (hl : l.length = k) (hc : k ≤ c) : IsMats w (cutM A c m) (l.drop m) := by
  rcases h with ⟨rfl, rfl, rfl⟩ | ⟨g, rfl⟩
  · have : l = [] := List.eq_nil_of_length_eq_zero hl
    subst this; simp only [List.drop_nil]; exact IsMats.nil _ _
  · exact mats_drop hi m (by omega)
theorem AtRow.cutnil {A : Option Addr} {k c m : Nat} (h : AtRow A k c) : cutM A c m = none → c - m = 0 := fun e => by
  rcases h with ⟨_, _, h⟩ | ⟨g, rfl⟩
  · omega
  · cases e

end Go.Proofs.YtlfcjjlgkcfkdaaGreatDoor

