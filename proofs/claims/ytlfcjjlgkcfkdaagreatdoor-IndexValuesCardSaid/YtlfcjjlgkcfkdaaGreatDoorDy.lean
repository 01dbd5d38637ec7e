/-
  What sordinekeep.Labels does, and which labels it draws. Conditions: none but the length's.
-/
import Derived.Test.YtlfcjjlgkcfkdaaGreatDoorZ26
namespace Go.Proofs.YtlfcjjlgkcfkdaaGreatDoor
open Go.RowKit La

def nms : List ByteArray := [⟨#[115, 101, 118]⟩, ⟨#[106, 111, 98]⟩, ⟨#[104, 111, 115, 116]⟩, ⟨#[95, 120]⟩, ⟨#[90, 111, 110, 101, 57]⟩]
def nm5 (s : ByteArray) : Bool := nms.any fun t => t.data == s.data
/-- Not nobody. -/
def vlo (s : ByteArray) : Bool := !(s.data == #[110, 111, 98, 111, 100, 121])
/-- A label of those that are drawn. -/
def okL (y : Lab) : Prop := nm5 y.1 = true ∧ vlo y.2 = true
theorem nm5_mem {s : ByteArray} (h : nm5 s = true) : s ∈ nms := by
  obtain ⟨t, ht, e⟩ := List.any_eq_true.1 h
  have e2 : t.data = s.data := by simpa using e
  have : t = s := by cases t; cases s; simp_all
  exact this ▸ ht
theorem okL_snoc {acc : List Lab} {x y : ByteArray} (h : ∀ z ∈ acc, okL z) (hx : nm5 x = true) (hy : vlo y = true) : ∀ z ∈ acc ++ [(x, y)], okL z := fun z hz => by
  rcases List.mem_append.1 hz with hz | hz
  · exact h z hz
  · obtain rfl : z = (x, y) := by simpa using hz
    exact ⟨hx, hy⟩
set_option maxRecDepth 100000 in
set_option maxHeartbeats 1000000 in
theorem kname2_any (i : Nat) (hi : i ≤ 4) (w : World) : Calls Tryz.prog 63 #[.int .i64 (i : Int)] w fun e w' => (∃ s, (La.name s = true ∧ nm5 s = true) ∧ e = .returned (.string s)) ∧ w' = w := by
  have C := Lib.hid (fun i hi => in_any i 4 hi w)
  match i, hi with
  | 0, hi =>
    have C2 := Lib.hid (C.out 0 hi)
    have IX : ∀ W, (Instr.index 129 (.agg #[.string ⟨#[115, 101, 118]⟩, .string ⟨#[106, 111, 98]⟩, .string ⟨#[104, 111, 115, 116]⟩, .string ⟨#[95, 120]⟩, .string ⟨#[90, 111, 110, 101, 57]⟩]) (.int .i64 0)).run Tryz.prog W = .ok (.string ⟨#[115, 101, 118]⟩) W := fun W => by rfl
    clear C
    go_enter Tryz.func63, Tryz.ntmps63
    go_wp2_with fail
    refine C2.out.mono ?_
    rintro e w' ⟨rfl, rfl⟩
    clear C2
    go_wp2
    go_ret
    exact ⟨⟨_, by decide +kernel, rfl⟩, rfl⟩
  | 1, hi =>
    have C2 := Lib.hid (C.out 1 hi)
    have IX : ∀ W, (Instr.index 129 (.agg #[.string ⟨#[115, 101, 118]⟩, .string ⟨#[106, 111, 98]⟩, .string ⟨#[104, 111, 115, 116]⟩, .string ⟨#[95, 120]⟩, .string ⟨#[90, 111, 110, 101, 57]⟩]) (.int .i64 1)).run Tryz.prog W = .ok (.string ⟨#[106, 111, 98]⟩) W := fun W => by rfl
    clear C
    go_enter Tryz.func63, Tryz.ntmps63
    go_wp2_with fail
    refine C2.out.mono ?_
    rintro e w' ⟨rfl, rfl⟩
    clear C2
    go_wp2
    go_ret
    exact ⟨⟨_, by decide +kernel, rfl⟩, rfl⟩
  | 2, hi =>
    have C2 := Lib.hid (C.out 2 hi)
    have IX : ∀ W, (Instr.index 129 (.agg #[.string ⟨#[115, 101, 118]⟩, .string ⟨#[106, 111, 98]⟩, .string ⟨#[104, 111, 115, 116]⟩, .string ⟨#[95, 120]⟩, .string ⟨#[90, 111, 110, 101, 57]⟩]) (.int .i64 2)).run Tryz.prog W = .ok (.string ⟨#[104, 111, 115, 116]⟩) W := fun W => by rfl
    clear C
    go_enter Tryz.func63, Tryz.ntmps63
    go_wp2_with fail
    refine C2.out.mono ?_
    rintro e w' ⟨rfl, rfl⟩
    clear C2
    go_wp2
    go_ret
    exact ⟨⟨_, by decide +kernel, rfl⟩, rfl⟩
  | 3, hi =>
    have C2 := Lib.hid (C.out 3 hi)
    have IX : ∀ W, (Instr.index 129 (.agg #[.string ⟨#[115, 101, 118]⟩, .string ⟨#[106, 111, 98]⟩, .string ⟨#[104, 111, 115, 116]⟩, .string ⟨#[95, 120]⟩, .string ⟨#[90, 111, 110, 101, 57]⟩]) (.int .i64 3)).run Tryz.prog W = .ok (.string ⟨#[95, 120]⟩) W := fun W => by rfl
    clear C
    go_enter Tryz.func63, Tryz.ntmps63
    go_wp2_with fail
    refine C2.out.mono ?_
    rintro e w' ⟨rfl, rfl⟩
    clear C2
    go_wp2
    go_ret
    exact ⟨⟨_, by decide +kernel, rfl⟩, rfl⟩
  | 4, hi =>
    have C2 := Lib.hid (C.out 4 hi)
    have IX : ∀ W, (Instr.index 129 (.agg #[.string ⟨#[115, 101, 118]⟩, .string ⟨#[106, 111, 98]⟩, .string ⟨#[104, 111, 115, 116]⟩, .string ⟨#[95, 120]⟩, .string ⟨#[90, 111, 110, 101, 57]⟩]) (.int .i64 4)).run Tryz.prog W = .ok (.string ⟨#[90, 111, 110, 101, 57]⟩) W := fun W => by rfl
    clear C
    go_enter Tryz.func63, Tryz.ntmps63
    go_wp2_with fail
    refine C2.out.mono ?_
    rintro e w' ⟨rfl, rfl⟩
    clear C2
    go_wp2
    go_ret
    exact ⟨⟨_, by decide +kernel, rfl⟩, rfl⟩
set_option maxRecDepth 100000 in
set_option maxHeartbeats 1000000 in
theorem kvalue2_any (i : Nat) (hi : i ≤ 6) (w : World) : Calls Tryz.prog 65 #[.int .i64 (i : Int)] w fun e w' => (∃ s, (La.value s = true ∧ vlo s = true) ∧ e = .returned (.string s)) ∧ w' = w := by
  have C := Lib.hid (fun i hi => in_any i 6 hi w)
  match i, hi with
  | 0, hi =>
    have C2 := Lib.hid (C.out 0 hi)
    have IX : ∀ W, (Instr.index 131 (.agg #[.string ⟨#[97]⟩, .string ⟨#[98]⟩, .string ⟨#[99, 114, 105, 116]⟩, .string ⟨#[119, 97, 114, 110]⟩, .string ⟨#[97, 98]⟩, .string ⟨#[0, 255]⟩, .string ⟨#[97, 98, 97, 98, 97, 98, 97, 98, 97, 98, 97, 98, 97, 98, 97, 98, 97, 98, 97, 98, 97, 98, 97, 98]⟩]) (.int .i64 0)).run Tryz.prog W = .ok (.string ⟨#[97]⟩) W := fun W => by rfl
    clear C
    go_enter Tryz.func65, Tryz.ntmps65
    go_wp2_with fail
    refine C2.out.mono ?_
    rintro e w' ⟨rfl, rfl⟩
    clear C2
    go_wp2
    go_ret
    exact ⟨⟨_, by decide +kernel, rfl⟩, rfl⟩
  | 1, hi =>
    have C2 := Lib.hid (C.out 1 hi)
    have IX : ∀ W, (Instr.index 131 (.agg #[.string ⟨#[97]⟩, .string ⟨#[98]⟩, .string ⟨#[99, 114, 105, 116]⟩, .string ⟨#[119, 97, 114, 110]⟩, .string ⟨#[97, 98]⟩, .string ⟨#[0, 255]⟩, .string ⟨#[97, 98, 97, 98, 97, 98, 97, 98, 97, 98, 97, 98, 97, 98, 97, 98, 97, 98, 97, 98, 97, 98, 97, 98]⟩]) (.int .i64 1)).run Tryz.prog W = .ok (.string ⟨#[98]⟩) W := fun W => by rfl
    clear C
    go_enter Tryz.func65, Tryz.ntmps65
    go_wp2_with fail
    refine C2.out.mono ?_
    rintro e w' ⟨rfl, rfl⟩
    clear C2
    go_wp2
    go_ret
    exact ⟨⟨_, by decide +kernel, rfl⟩, rfl⟩
  | 2, hi =>
    have C2 := Lib.hid (C.out 2 hi)
    have IX : ∀ W, (Instr.index 131 (.agg #[.string ⟨#[97]⟩, .string ⟨#[98]⟩, .string ⟨#[99, 114, 105, 116]⟩, .string ⟨#[119, 97, 114, 110]⟩, .string ⟨#[97, 98]⟩, .string ⟨#[0, 255]⟩, .string ⟨#[97, 98, 97, 98, 97, 98, 97, 98, 97, 98, 97, 98, 97, 98, 97, 98, 97, 98, 97, 98, 97, 98, 97, 98]⟩]) (.int .i64 2)).run Tryz.prog W = .ok (.string ⟨#[99, 114, 105, 116]⟩) W := fun W => by rfl
    clear C
    go_enter Tryz.func65, Tryz.ntmps65
    go_wp2_with fail
    refine C2.out.mono ?_
    rintro e w' ⟨rfl, rfl⟩
    clear C2
    go_wp2
    go_ret
    exact ⟨⟨_, by decide +kernel, rfl⟩, rfl⟩
  | 3, hi =>
    have C2 := Lib.hid (C.out 3 hi)
    have IX : ∀ W, (Instr.index 131 (.agg #[.string ⟨#[97]⟩, .string ⟨#[98]⟩, .string ⟨#[99, 114, 105, 116]⟩, .string ⟨#[119, 97, 114, 110]⟩, .string ⟨#[97, 98]⟩, .string ⟨#[0, 255]⟩, .string ⟨#[97, 98, 97, 98, 97, 98, 97, 98, 97, 98, 97, 98, 97, 98, 97, 98, 97, 98, 97, 98, 97, 98, 97, 98]⟩]) (.int .i64 3)).run Tryz.prog W = .ok (.string ⟨#[119, 97, 114, 110]⟩) W := fun W => by rfl
    clear C
    go_enter Tryz.func65, Tryz.ntmps65
    go_wp2_with fail
    refine C2.out.mono ?_
    rintro e w' ⟨rfl, rfl⟩
    clear C2
    go_wp2
    go_ret
    exact ⟨⟨_, by decide +kernel, rfl⟩, rfl⟩
  | 4, hi =>
    have C2 := Lib.hid (C.out 4 hi)
    have IX : ∀ W, (Instr.index 131 (.agg #[.string ⟨#[97]⟩, .string ⟨#[98]⟩, .string ⟨#[99, 114, 105, 116]⟩, .string ⟨#[119, 97, 114, 110]⟩, .string ⟨#[97, 98]⟩, .string ⟨#[0, 255]⟩, .string ⟨#[97, 98, 97, 98, 97, 98, 97, 98, 97, 98, 97, 98, 97, 98, 97, 98, 97, 98, 97, 98, 97, 98, 97, 98]⟩]) (.int .i64 4)).run Tryz.prog W = .ok (.string ⟨#[97, 98]⟩) W := fun W => by rfl
    clear C
    go_enter Tryz.func65, Tryz.ntmps65
    go_wp2_with fail
    refine C2.out.mono ?_
    rintro e w' ⟨rfl, rfl⟩
    clear C2
    go_wp2
    go_ret
    exact ⟨⟨_, by decide +kernel, rfl⟩, rfl⟩
  | 5, hi =>
    have C2 := Lib.hid (C.out 5 hi)
    have IX : ∀ W, (Instr.index 131 (.agg #[.string ⟨#[97]⟩, .string ⟨#[98]⟩, .string ⟨#[99, 114, 105, 116]⟩, .string ⟨#[119, 97, 114, 110]⟩, .string ⟨#[97, 98]⟩, .string ⟨#[0, 255]⟩, .string ⟨#[97, 98, 97, 98, 97, 98, 97, 98, 97, 98, 97, 98, 97, 98, 97, 98, 97, 98, 97, 98, 97, 98, 97, 98]⟩]) (.int .i64 5)).run Tryz.prog W = .ok (.string ⟨#[0, 255]⟩) W := fun W => by rfl
    clear C
    go_enter Tryz.func65, Tryz.ntmps65
    go_wp2_with fail
    refine C2.out.mono ?_
    rintro e w' ⟨rfl, rfl⟩
    clear C2
    go_wp2
    go_ret
    exact ⟨⟨_, by decide +kernel, rfl⟩, rfl⟩
  | 6, hi =>
    have C2 := Lib.hid (C.out 6 hi)
    have IX : ∀ W, (Instr.index 131 (.agg #[.string ⟨#[97]⟩, .string ⟨#[98]⟩, .string ⟨#[99, 114, 105, 116]⟩, .string ⟨#[119, 97, 114, 110]⟩, .string ⟨#[97, 98]⟩, .string ⟨#[0, 255]⟩, .string ⟨#[97, 98, 97, 98, 97, 98, 97, 98, 97, 98, 97, 98, 97, 98, 97, 98, 97, 98, 97, 98, 97, 98, 97, 98]⟩]) (.int .i64 6)).run Tryz.prog W = .ok (.string ⟨#[97, 98, 97, 98, 97, 98, 97, 98, 97, 98, 97, 98, 97, 98, 97, 98, 97, 98, 97, 98, 97, 98, 97, 98]⟩) W := fun W => by rfl
    clear C
    go_enter Tryz.func65, Tryz.ntmps65
    go_wp2_with fail
    refine C2.out.mono ?_
    rintro e w' ⟨rfl, rfl⟩
    clear C2
    go_wp2
    go_ret
    exact ⟨⟨_, by decide +kernel, rfl⟩, rfl⟩
/-- What the loop keeps. -/
structure KpJ (w : World) (acc : List Lab) (v : Value) (wr : World) : Prop where
  own : wr.ownsRow w.heap.size 26 2 v acc.length (lc acc)
  bel : Below w.heap.size w wr
  ap : Apart acc
  oks : ∀ y ∈ acc, okL y

set_option maxRecDepth 100000 in
set_option maxHeartbeats 4000000 in
theorem keep2_any (zs : List Int) (A : Option Addr) (cap : Nat) (w : World) (ha : IsInts w A zs) :
    Calls Tryz.prog 55 #[.slice A zs.length cap] w fun e w' => (∃ (l : List Lab) (v : Value), (isSet l = true ∧ ∀ y ∈ l, okL y) ∧ e = .returned v ∧ w'.ownsRow w.heap.size 26 2 v l.length (lc l)) ∧ Below w.heap.size w w' := by
  have HA := Lib.hid ha
  clear ha
  obtain ⟨N, hN⟩ : ∃ N, zs.length = N := ⟨_, rfl⟩
  rw [hN]
  have HN := Lib.hid hN
  clear hN
  go_enter Tryz.func55, Tryz.ntmps55
  go_wp2
  go_loopw [3, 4] (fun v i wr => ∃ (acc : List Lab) (k n : Nat), acc.length = n ∧ n ≤ k ∧ k ≤ N ∧ k ≤ 5 ∧ i = .int .i64 (k : Int) ∧ Hid (KpJ w acc v wr)) (fun _ i _ => N - (intOf i).toNat)
  case atStart => exact ⟨[], 0, 0, rfl, by omega, by omega, by omega, rfl, World.ownsRow_nil _ _ _ _, Below.refl _ _, apart_nil, fun y hy => by cases hy⟩
  case round =>
    obtain ⟨acc, k, n, hn, hnk, hkN, hk5, rfl, HI⟩ := hrel
    by_cases hgo : k < N ∧ k < 5
    · obtain ⟨g1, g2⟩ := hgo
      have g1z : (k : Int) < (N : Int) := by omega
      have g2z : (k : Int) < 5 := by omega
      obtain ⟨b, off, rfl, _⟩ := (HA.out.below HI.out.bel) (by rw [HN.out]; omega)
      have HC0 : Hid (∀ W, Below w.heap.size w W → W.cell? ⟨b, off + k, none⟩ = some (.int .i64 (zs.getD k 0))) := fun W hW => by
        obtain ⟨b', off', e, hc⟩ := (HA.out.below hW) (by rw [HN.out]; omega)
        injection e with e; injection e with e1 e2
        subst e1 e2
        exact hc k (by rw [HN.out]; exact g1)
      obtain ⟨z, hz⟩ : ∃ z, zs.getD k 0 = z := ⟨_, rfl⟩
      rw [hz] at HC0
      have HC := HC0
      clear HC0 hz
      obtain ⟨q, hq⟩ : ∃ q : Int, IntKind.i64.wrap (z.tdiv 5) = q := ⟨_, rfl⟩
      obtain ⟨A3, c3, rfl, _, hA3, i3, _⟩ := own_formL HI.out.own
      have I3 := Lib.hid i3
      have HA3 := Lib.hid hA3
      clear i3 hA3
      go_wp2_with fail
      refine wp_region_held_drew (S := fun W => Below w.heap.size w W) (by kernel_rfl) (HI.out.bel.drew) (fun hHeld => ?_)
      refine held_take 0 18 (v := (.slice (some ⟨b, off, none⟩) N cap)) rfl rfl (by kernel_rfl) (by kernel_rfl) (by kernel_rfl) (by rfl) (fun _ _ _ h => h) (by assumption) ?_ ?_
      · intro W hW
        go_simp
      simp only [List.setIfInBounds_toArray, List.set_cons_zero, List.set_cons_succ]
      refine held_take 1 19 (v := (.int .i64 (k : Int))) rfl rfl (by kernel_rfl) (by kernel_rfl) (by kernel_rfl) (by rfl) (fun _ _ _ h => h) (by assumption) ?_ ?_
      · intro W hW
        go_simp
      simp only [List.setIfInBounds_toArray, List.set_cons_zero, List.set_cons_succ]
      refine held_take 2 20 (v := (.pointer (some ⟨b, off + k, none⟩))) rfl rfl (by kernel_rfl) (by kernel_rfl) (by kernel_rfl) (by rfl) (fun _ _ _ h => h) (by assumption) ?_ ?_
      · intro W hW
        go_simp
      simp only [List.setIfInBounds_toArray, List.set_cons_zero, List.set_cons_succ]
      refine held_take 3 21 (v := (.int .i64 z)) rfl rfl (by kernel_rfl) (by kernel_rfl) (by kernel_rfl) (by rfl) (fun _ _ _ h => h) (by assumption) ?_ ?_
      · intro W hW
        have c1 := HC.out W hW
        go_simp
      simp only [List.setIfInBounds_toArray, List.set_cons_zero, List.set_cons_succ]
      refine held_take 6 24 (v := (.slice (some ⟨b, off, none⟩) N cap)) rfl rfl (by kernel_rfl) (by kernel_rfl) (by kernel_rfl) (by rfl) (fun _ _ _ h => h) (by assumption) ?_ ?_
      · intro W hW
        go_simp
      simp only [List.setIfInBounds_toArray, List.set_cons_zero, List.set_cons_succ]
      refine held_take 7 25 (v := (.int .i64 (k : Int))) rfl rfl (by kernel_rfl) (by kernel_rfl) (by kernel_rfl) (by rfl) (fun _ _ _ h => h) (by assumption) ?_ ?_
      · intro W hW
        go_simp
      simp only [List.setIfInBounds_toArray, List.set_cons_zero, List.set_cons_succ]
      refine held_take 8 26 (v := (.pointer (some ⟨b, off + k, none⟩))) rfl rfl (by kernel_rfl) (by kernel_rfl) (by kernel_rfl) (by rfl) (fun _ _ _ h => h) (by assumption) ?_ ?_
      · intro W hW
        go_simp
      simp only [List.setIfInBounds_toArray, List.set_cons_zero, List.set_cons_succ]
      refine held_take 9 27 (v := (.int .i64 z)) rfl rfl (by kernel_rfl) (by kernel_rfl) (by kernel_rfl) (by rfl) (fun _ _ _ h => h) (by assumption) ?_ ?_
      · intro W hW
        have c1 := HC.out W hW
        go_simp
      simp only [List.setIfInBounds_toArray, List.set_cons_zero, List.set_cons_succ]
      refine held_take 10 28 (v := (.int .i64 q)) rfl rfl (by kernel_rfl) (by kernel_rfl) (by kernel_rfl) (by rfl) (fun _ _ _ h => h) (by assumption) ?_ ?_
      · intro W hW
        go_simp
      simp only [List.setIfInBounds_toArray, List.set_cons_zero, List.set_cons_succ]
      refine held_two 4 14 rfl rfl (by kernel_rfl) (by rfl) (by rfl) ?_ ?_
      · refine wp_call (f := 77) (args := #[.int .i64 z, .int .i64 0, .int .i64 4]) rfl (by go_simp) ?_
        refine (within4 z _).mono ?_
        rintro e w' ⟨⟨i1, hi1, rfl⟩, hw'⟩
        subst hw'
        refine ⟨_, rfl, by assumption, ?_⟩
        simp only [List.setIfInBounds_toArray, List.set_cons_zero, List.set_cons_succ]
        refine held_two 5 14 rfl rfl (by kernel_rfl) (by rfl) (by rfl) ?_ ?_
        · refine wp_call (f := 63) (args := #[.int .i64 (i1 : Int)]) rfl (by go_simp) ?_
          refine (kname2_any i1 hi1 _).mono ?_
          rintro e w' ⟨⟨x, ⟨hx, hx5⟩, rfl⟩, hw'⟩
          subst hw'
          refine ⟨_, rfl, by assumption, ?_⟩
          simp only [List.setIfInBounds_toArray, List.set_cons_zero, List.set_cons_succ]
          refine held_two 11 14 rfl rfl (by kernel_rfl) (by rfl) (by rfl) ?_ ?_
          · refine wp_call (f := 77) (args := #[.int .i64 q, .int .i64 0, .int .i64 6]) rfl (by go_simp) ?_
            refine (within6 q _).mono ?_
            rintro e w' ⟨⟨i2, hi2, rfl⟩, hw'⟩
            subst hw'
            refine ⟨_, rfl, by assumption, ?_⟩
            simp only [List.setIfInBounds_toArray, List.set_cons_zero, List.set_cons_succ]
            refine held_two 12 14 rfl rfl (by kernel_rfl) (by rfl) (by rfl) ?_ ?_
            · refine wp_call (f := 65) (args := #[.int .i64 (i2 : Int)]) rfl (by go_simp) ?_
              refine (kvalue2_any i2 hi2 _).mono ?_
              rintro e w' ⟨⟨y, ⟨hy, hy5⟩, rfl⟩, hw'⟩
              subst hw'
              refine ⟨_, rfl, by assumption, ?_⟩
              simp only [List.setIfInBounds_toArray, List.set_cons_zero, List.set_cons_succ]
              refine held_take 13 31 (v := (.agg #[.string x, .string y])) rfl rfl (by kernel_rfl) (by kernel_rfl) (by kernel_rfl) (by rfl) (fun _ _ _ h => h) (by assumption) ?_ ?_
              · intro W hW
                go_simp
              simp only [List.setIfInBounds_toArray, List.set_cons_zero, List.set_cons_succ]
              refine held_op 14 rfl (by kernel_rfl) (by rfl) ?_
              have dA : Below w.heap.size w (wr.drew.alloc (.cells #[.string ⟨#[]⟩, .string ⟨#[]⟩] 26)) := HI.out.bel.drew.alloc HI.out.bel.size _
              refine wp_run (v := .pointer (some ⟨wr.heap.size, 0, none⟩)) (w' := wr.drew.alloc (.cells #[.string ⟨#[]⟩, .string ⟨#[]⟩] 26)) rfl (by go_simp) ⟨dA, ?_⟩
              simp only [List.setIfInBounds_toArray, List.set_cons_zero, List.set_cons_succ]
              have dB : Below w.heap.size w (wr.drew.alloc (.cells #[.string x, .string y] 26)) := HI.out.bel.drew.alloc HI.out.bel.size _
              refine held_op 15 rfl (by kernel_rfl) (by rfl) ?_
              refine wp_skip (w' := wr.drew.alloc (.cells #[.string x, .string y] 26)) rfl (by go_simp) ⟨dB, ?_⟩
              refine wpAnyH_done (by kernel_rfl) ?_ _
              clear dB dA hHeld
              have bl : Below wr.heap.size wr (wr.drew.alloc (.cells #[.string x, .string y] 26)) := ((Below.refl _ _).drew).alloc (Nat.le_refl _) _
              have CG := Lib.hid (rget_labs acc x A3 c3 (wr.drew.alloc (.cells #[.string x, .string y] 26)) (by omega) (I3.out.below bl))
              have O4 := Lib.hid (own_keepL HI.out.own bl)
              have D4 : Hid (Below w.heap.size w (wr.drew.alloc (.cells #[.string x, .string y] 26))) := HI.out.bel.trans (bl.mono HI.out.bel.size)
              have AP := Lib.hid HI.out.ap
              have OK := Lib.hid HI.out.oks
              obtain ⟨G, hG⟩ : ∃ G, getL acc x = G := ⟨_, rfl⟩
              rw [hG, hn] at CG
              rw [hn] at O4
              have HG := Lib.hid hG
              clear bl hG HI HC hq
              go_wp2_with fail
              refine CG.out.mono ?_
              rintro e w' ⟨rfl, hw'⟩
              subst hw'
              clear CG
              by_cases he : G.toList = []
              · have AP2 := Lib.hid (AP.out.snoc hx hy (by rw [HG.out]; exact he))
                have OK2 := Lib.hid (okL_snoc OK.out hx5 hy5)
                have hed : (G.toList == []) = true := by simp [he]
                have D5 := Lib.hid (D4.out.alloc D4.out.size (.cells #[.string x, .string y] 26))
                have O5 := Lib.hid (O4.out.alloc (.cells #[.string x, .string y] 26))
                have LIT := Lib.hid (lit_lab (wr.drew.alloc (.cells #[.string x, .string y] 26)) (x, y))
                have hsz : (wr.drew.alloc (.cells #[.string x, .string y] 26)).heap.size = wr.heap.size + 1 := by simp
                rw [hsz] at LIT
                clear hsz D4 O4
                go_wp2_with (at_builtin; refine wpList_appL rfl _ _ rfl w.heap.size _ n acc rfl O5.out (some ⟨wr.heap.size + 1, 0, none⟩) 1 1 [(x, y)] rfl rfl (fun e => by cases e) LIT.out (by omega) D5.out.size ?_)
                intro v6 w6 o6 g6
                have I2 : Hid (KpJ w (acc ++ [(x, y)]) v6 w6) := ⟨by rw [List.length_append, hn]; exact o6, D5.out.grown g6 D5.out.size (own_geL O5.out), AP2.out, OK2.out⟩
                clear o6 g6 O5 D5 LIT
                go_wp2
                go_roundw
                case rel => exact ⟨acc ++ [(x, y)], k + 1, n + 1, by simp [hn], by omega, by omega, by omega, by go_num, I2⟩
                case measure => simp [intOf]; omega
              · have hed : (G.toList == []) = false := by simp [he]
                have I2 : Hid (KpJ w acc (.slice A3 n c3) (wr.drew.alloc (.cells #[.string x, .string y] 26))) := ⟨by rw [hn]; exact O4.out, D4.out, AP.out, OK.out⟩
                go_wp2
                go_roundw
                case rel => exact ⟨acc, k + 1, n, hn, by omega, by omega, by omega, by go_num, I2⟩
                case measure => simp [intOf]; omega
            · have dA : Below w.heap.size w (wr.drew.alloc (.cells #[.string ⟨#[]⟩, .string ⟨#[]⟩] 26)) := HI.out.bel.drew.alloc HI.out.bel.size _
              refine wp_run (v := .pointer (some ⟨wr.heap.size, 0, none⟩)) (w' := wr.drew.alloc (.cells #[.string ⟨#[]⟩, .string ⟨#[]⟩] 26)) rfl (by go_simp) ⟨dA, ?_⟩
              simp only [List.setIfInBounds_toArray, List.set_cons_zero, List.set_cons_succ]
              refine held_op 12 rfl (by kernel_rfl) (by rfl) ?_
              refine wp_call (f := 65) (args := #[.int .i64 (i2 : Int)]) rfl (by go_simp) ?_
              refine (kvalue2_any i2 hi2 _).mono ?_
              rintro e w' ⟨⟨y, ⟨hy, hy5⟩, rfl⟩, hw'⟩
              subst hw'
              refine ⟨_, rfl, by assumption, ?_⟩
              simp only [List.setIfInBounds_toArray, List.set_cons_zero, List.set_cons_succ]
              refine held_take 13 31 (v := (.agg #[.string x, .string y])) rfl rfl (by kernel_rfl) (by kernel_rfl) (by kernel_rfl) (by rfl) (fun _ _ _ h => h) (by assumption) ?_ ?_
              · intro W hW
                go_simp
              simp only [List.setIfInBounds_toArray, List.set_cons_zero, List.set_cons_succ]
              have dB : Below w.heap.size w (wr.drew.alloc (.cells #[.string x, .string y] 26)) := HI.out.bel.drew.alloc HI.out.bel.size _
              refine held_op 15 rfl (by kernel_rfl) (by rfl) ?_
              refine wp_skip (w' := wr.drew.alloc (.cells #[.string x, .string y] 26)) rfl (by go_simp) ⟨dB, ?_⟩
              refine wpAnyH_done (by kernel_rfl) ?_ _
              clear dB dA hHeld
              have bl : Below wr.heap.size wr (wr.drew.alloc (.cells #[.string x, .string y] 26)) := ((Below.refl _ _).drew).alloc (Nat.le_refl _) _
              have CG := Lib.hid (rget_labs acc x A3 c3 (wr.drew.alloc (.cells #[.string x, .string y] 26)) (by omega) (I3.out.below bl))
              have O4 := Lib.hid (own_keepL HI.out.own bl)
              have D4 : Hid (Below w.heap.size w (wr.drew.alloc (.cells #[.string x, .string y] 26))) := HI.out.bel.trans (bl.mono HI.out.bel.size)
              have AP := Lib.hid HI.out.ap
              have OK := Lib.hid HI.out.oks
              obtain ⟨G, hG⟩ : ∃ G, getL acc x = G := ⟨_, rfl⟩
              rw [hG, hn] at CG
              rw [hn] at O4
              have HG := Lib.hid hG
              clear bl hG HI HC hq
              go_wp2_with fail
              refine CG.out.mono ?_
              rintro e w' ⟨rfl, hw'⟩
              subst hw'
              clear CG
              by_cases he : G.toList = []
              · have AP2 := Lib.hid (AP.out.snoc hx hy (by rw [HG.out]; exact he))
                have OK2 := Lib.hid (okL_snoc OK.out hx5 hy5)
                have hed : (G.toList == []) = true := by simp [he]
                have D5 := Lib.hid (D4.out.alloc D4.out.size (.cells #[.string x, .string y] 26))
                have O5 := Lib.hid (O4.out.alloc (.cells #[.string x, .string y] 26))
                have LIT := Lib.hid (lit_lab (wr.drew.alloc (.cells #[.string x, .string y] 26)) (x, y))
                have hsz : (wr.drew.alloc (.cells #[.string x, .string y] 26)).heap.size = wr.heap.size + 1 := by simp
                rw [hsz] at LIT
                clear hsz D4 O4
                go_wp2_with (at_builtin; refine wpList_appL rfl _ _ rfl w.heap.size _ n acc rfl O5.out (some ⟨wr.heap.size + 1, 0, none⟩) 1 1 [(x, y)] rfl rfl (fun e => by cases e) LIT.out (by omega) D5.out.size ?_)
                intro v6 w6 o6 g6
                have I2 : Hid (KpJ w (acc ++ [(x, y)]) v6 w6) := ⟨by rw [List.length_append, hn]; exact o6, D5.out.grown g6 D5.out.size (own_geL O5.out), AP2.out, OK2.out⟩
                clear o6 g6 O5 D5 LIT
                go_wp2
                go_roundw
                case rel => exact ⟨acc ++ [(x, y)], k + 1, n + 1, by simp [hn], by omega, by omega, by omega, by go_num, I2⟩
                case measure => simp [intOf]; omega
              · have hed : (G.toList == []) = false := by simp [he]
                have I2 : Hid (KpJ w acc (.slice A3 n c3) (wr.drew.alloc (.cells #[.string x, .string y] 26))) := ⟨by rw [hn]; exact O4.out, D4.out, AP.out, OK.out⟩
                go_wp2
                go_roundw
                case rel => exact ⟨acc, k + 1, n, hn, by omega, by omega, by omega, by go_num, I2⟩
                case measure => simp [intOf]; omega
          · have dA : Below w.heap.size w (wr.drew.alloc (.cells #[.string ⟨#[]⟩, .string ⟨#[]⟩] 26)) := HI.out.bel.drew.alloc HI.out.bel.size _
            refine wp_run (v := .pointer (some ⟨wr.heap.size, 0, none⟩)) (w' := wr.drew.alloc (.cells #[.string ⟨#[]⟩, .string ⟨#[]⟩] 26)) rfl (by go_simp) ⟨dA, ?_⟩
            simp only [List.setIfInBounds_toArray, List.set_cons_zero, List.set_cons_succ]
            refine held_op 11 rfl (by kernel_rfl) (by rfl) ?_
            refine wp_call (f := 77) (args := #[.int .i64 q, .int .i64 0, .int .i64 6]) rfl (by go_simp) ?_
            refine (within6 q _).mono ?_
            rintro e w' ⟨⟨i2, hi2, rfl⟩, hw'⟩
            subst hw'
            refine ⟨_, rfl, by assumption, ?_⟩
            simp only [List.setIfInBounds_toArray, List.set_cons_zero, List.set_cons_succ]
            refine held_op 12 rfl (by kernel_rfl) (by rfl) ?_
            refine wp_call (f := 65) (args := #[.int .i64 (i2 : Int)]) rfl (by go_simp) ?_
            refine (kvalue2_any i2 hi2 _).mono ?_
            rintro e w' ⟨⟨y, ⟨hy, hy5⟩, rfl⟩, hw'⟩
            subst hw'
            refine ⟨_, rfl, by assumption, ?_⟩
            simp only [List.setIfInBounds_toArray, List.set_cons_zero, List.set_cons_succ]
            refine held_take 13 31 (v := (.agg #[.string x, .string y])) rfl rfl (by kernel_rfl) (by kernel_rfl) (by kernel_rfl) (by rfl) (fun _ _ _ h => h) (by assumption) ?_ ?_
            · intro W hW
              go_simp
            simp only [List.setIfInBounds_toArray, List.set_cons_zero, List.set_cons_succ]
            have dB : Below w.heap.size w (wr.drew.alloc (.cells #[.string x, .string y] 26)) := HI.out.bel.drew.alloc HI.out.bel.size _
            refine held_op 15 rfl (by kernel_rfl) (by rfl) ?_
            refine wp_skip (w' := wr.drew.alloc (.cells #[.string x, .string y] 26)) rfl (by go_simp) ⟨dB, ?_⟩
            refine wpAnyH_done (by kernel_rfl) ?_ _
            clear dB dA hHeld
            have bl : Below wr.heap.size wr (wr.drew.alloc (.cells #[.string x, .string y] 26)) := ((Below.refl _ _).drew).alloc (Nat.le_refl _) _
            have CG := Lib.hid (rget_labs acc x A3 c3 (wr.drew.alloc (.cells #[.string x, .string y] 26)) (by omega) (I3.out.below bl))
            have O4 := Lib.hid (own_keepL HI.out.own bl)
            have D4 : Hid (Below w.heap.size w (wr.drew.alloc (.cells #[.string x, .string y] 26))) := HI.out.bel.trans (bl.mono HI.out.bel.size)
            have AP := Lib.hid HI.out.ap
            have OK := Lib.hid HI.out.oks
            obtain ⟨G, hG⟩ : ∃ G, getL acc x = G := ⟨_, rfl⟩
            rw [hG, hn] at CG
            rw [hn] at O4
            have HG := Lib.hid hG
            clear bl hG HI HC hq
            go_wp2_with fail
            refine CG.out.mono ?_
            rintro e w' ⟨rfl, hw'⟩
            subst hw'
            clear CG
            by_cases he : G.toList = []
            · have AP2 := Lib.hid (AP.out.snoc hx hy (by rw [HG.out]; exact he))
              have OK2 := Lib.hid (okL_snoc OK.out hx5 hy5)
              have hed : (G.toList == []) = true := by simp [he]
              have D5 := Lib.hid (D4.out.alloc D4.out.size (.cells #[.string x, .string y] 26))
              have O5 := Lib.hid (O4.out.alloc (.cells #[.string x, .string y] 26))
              have LIT := Lib.hid (lit_lab (wr.drew.alloc (.cells #[.string x, .string y] 26)) (x, y))
              have hsz : (wr.drew.alloc (.cells #[.string x, .string y] 26)).heap.size = wr.heap.size + 1 := by simp
              rw [hsz] at LIT
              clear hsz D4 O4
              go_wp2_with (at_builtin; refine wpList_appL rfl _ _ rfl w.heap.size _ n acc rfl O5.out (some ⟨wr.heap.size + 1, 0, none⟩) 1 1 [(x, y)] rfl rfl (fun e => by cases e) LIT.out (by omega) D5.out.size ?_)
              intro v6 w6 o6 g6
              have I2 : Hid (KpJ w (acc ++ [(x, y)]) v6 w6) := ⟨by rw [List.length_append, hn]; exact o6, D5.out.grown g6 D5.out.size (own_geL O5.out), AP2.out, OK2.out⟩
              clear o6 g6 O5 D5 LIT
              go_wp2
              go_roundw
              case rel => exact ⟨acc ++ [(x, y)], k + 1, n + 1, by simp [hn], by omega, by omega, by omega, by go_num, I2⟩
              case measure => simp [intOf]; omega
            · have hed : (G.toList == []) = false := by simp [he]
              have I2 : Hid (KpJ w acc (.slice A3 n c3) (wr.drew.alloc (.cells #[.string x, .string y] 26))) := ⟨by rw [hn]; exact O4.out, D4.out, AP.out, OK.out⟩
              go_wp2
              go_roundw
              case rel => exact ⟨acc, k + 1, n, hn, by omega, by omega, by omega, by go_num, I2⟩
              case measure => simp [intOf]; omega
        · have dA : Below w.heap.size w (wr.drew.alloc (.cells #[.string ⟨#[]⟩, .string ⟨#[]⟩] 26)) := HI.out.bel.drew.alloc HI.out.bel.size _
          refine wp_run (v := .pointer (some ⟨wr.heap.size, 0, none⟩)) (w' := wr.drew.alloc (.cells #[.string ⟨#[]⟩, .string ⟨#[]⟩] 26)) rfl (by go_simp) ⟨dA, ?_⟩
          simp only [List.setIfInBounds_toArray, List.set_cons_zero, List.set_cons_succ]
          refine held_op 5 rfl (by kernel_rfl) (by rfl) ?_
          refine wp_call (f := 63) (args := #[.int .i64 (i1 : Int)]) rfl (by go_simp) ?_
          refine (kname2_any i1 hi1 _).mono ?_
          rintro e w' ⟨⟨x, ⟨hx, hx5⟩, rfl⟩, hw'⟩
          subst hw'
          refine ⟨_, rfl, by assumption, ?_⟩
          simp only [List.setIfInBounds_toArray, List.set_cons_zero, List.set_cons_succ]
          refine held_op 11 rfl (by kernel_rfl) (by rfl) ?_
          refine wp_call (f := 77) (args := #[.int .i64 q, .int .i64 0, .int .i64 6]) rfl (by go_simp) ?_
          refine (within6 q _).mono ?_
          rintro e w' ⟨⟨i2, hi2, rfl⟩, hw'⟩
          subst hw'
          refine ⟨_, rfl, by assumption, ?_⟩
          simp only [List.setIfInBounds_toArray, List.set_cons_zero, List.set_cons_succ]
          refine held_op 12 rfl (by kernel_rfl) (by rfl) ?_
          refine wp_call (f := 65) (args := #[.int .i64 (i2 : Int)]) rfl (by go_simp) ?_
          refine (kvalue2_any i2 hi2 _).mono ?_
          rintro e w' ⟨⟨y, ⟨hy, hy5⟩, rfl⟩, hw'⟩
          subst hw'
          refine ⟨_, rfl, by assumption, ?_⟩
          simp only [List.setIfInBounds_toArray, List.set_cons_zero, List.set_cons_succ]
          refine held_take 13 31 (v := (.agg #[.string x, .string y])) rfl rfl (by kernel_rfl) (by kernel_rfl) (by kernel_rfl) (by rfl) (fun _ _ _ h => h) (by assumption) ?_ ?_
          · intro W hW
            go_simp
          simp only [List.setIfInBounds_toArray, List.set_cons_zero, List.set_cons_succ]
          have dB : Below w.heap.size w (wr.drew.alloc (.cells #[.string x, .string y] 26)) := HI.out.bel.drew.alloc HI.out.bel.size _
          refine held_op 15 rfl (by kernel_rfl) (by rfl) ?_
          refine wp_skip (w' := wr.drew.alloc (.cells #[.string x, .string y] 26)) rfl (by go_simp) ⟨dB, ?_⟩
          refine wpAnyH_done (by kernel_rfl) ?_ _
          clear dB dA hHeld
          have bl : Below wr.heap.size wr (wr.drew.alloc (.cells #[.string x, .string y] 26)) := ((Below.refl _ _).drew).alloc (Nat.le_refl _) _
          have CG := Lib.hid (rget_labs acc x A3 c3 (wr.drew.alloc (.cells #[.string x, .string y] 26)) (by omega) (I3.out.below bl))
          have O4 := Lib.hid (own_keepL HI.out.own bl)
          have D4 : Hid (Below w.heap.size w (wr.drew.alloc (.cells #[.string x, .string y] 26))) := HI.out.bel.trans (bl.mono HI.out.bel.size)
          have AP := Lib.hid HI.out.ap
          have OK := Lib.hid HI.out.oks
          obtain ⟨G, hG⟩ : ∃ G, getL acc x = G := ⟨_, rfl⟩
          rw [hG, hn] at CG
          rw [hn] at O4
          have HG := Lib.hid hG
          clear bl hG HI HC hq
          go_wp2_with fail
          refine CG.out.mono ?_
          rintro e w' ⟨rfl, hw'⟩
          subst hw'
          clear CG
          by_cases he : G.toList = []
          · have AP2 := Lib.hid (AP.out.snoc hx hy (by rw [HG.out]; exact he))
            have OK2 := Lib.hid (okL_snoc OK.out hx5 hy5)
            have hed : (G.toList == []) = true := by simp [he]
            have D5 := Lib.hid (D4.out.alloc D4.out.size (.cells #[.string x, .string y] 26))
            have O5 := Lib.hid (O4.out.alloc (.cells #[.string x, .string y] 26))
            have LIT := Lib.hid (lit_lab (wr.drew.alloc (.cells #[.string x, .string y] 26)) (x, y))
            have hsz : (wr.drew.alloc (.cells #[.string x, .string y] 26)).heap.size = wr.heap.size + 1 := by simp
            rw [hsz] at LIT
            clear hsz D4 O4
            go_wp2_with (at_builtin; refine wpList_appL rfl _ _ rfl w.heap.size _ n acc rfl O5.out (some ⟨wr.heap.size + 1, 0, none⟩) 1 1 [(x, y)] rfl rfl (fun e => by cases e) LIT.out (by omega) D5.out.size ?_)
            intro v6 w6 o6 g6
            have I2 : Hid (KpJ w (acc ++ [(x, y)]) v6 w6) := ⟨by rw [List.length_append, hn]; exact o6, D5.out.grown g6 D5.out.size (own_geL O5.out), AP2.out, OK2.out⟩
            clear o6 g6 O5 D5 LIT
            go_wp2
            go_roundw
            case rel => exact ⟨acc ++ [(x, y)], k + 1, n + 1, by simp [hn], by omega, by omega, by omega, by go_num, I2⟩
            case measure => simp [intOf]; omega
          · have hed : (G.toList == []) = false := by simp [he]
            have I2 : Hid (KpJ w acc (.slice A3 n c3) (wr.drew.alloc (.cells #[.string x, .string y] 26))) := ⟨by rw [hn]; exact O4.out, D4.out, AP.out, OK.out⟩
            go_wp2
            go_roundw
            case rel => exact ⟨acc, k + 1, n, hn, by omega, by omega, by omega, by go_num, I2⟩
            case measure => simp [intOf]; omega
      · have dA : Below w.heap.size w (wr.drew.alloc (.cells #[.string ⟨#[]⟩, .string ⟨#[]⟩] 26)) := HI.out.bel.drew.alloc HI.out.bel.size _
        refine wp_run (v := .pointer (some ⟨wr.heap.size, 0, none⟩)) (w' := wr.drew.alloc (.cells #[.string ⟨#[]⟩, .string ⟨#[]⟩] 26)) rfl (by go_simp) ⟨dA, ?_⟩
        simp only [List.setIfInBounds_toArray, List.set_cons_zero, List.set_cons_succ]
        refine held_op 4 rfl (by kernel_rfl) (by rfl) ?_
        refine wp_call (f := 77) (args := #[.int .i64 z, .int .i64 0, .int .i64 4]) rfl (by go_simp) ?_
        refine (within4 z _).mono ?_
        rintro e w' ⟨⟨i1, hi1, rfl⟩, hw'⟩
        subst hw'
        refine ⟨_, rfl, by assumption, ?_⟩
        simp only [List.setIfInBounds_toArray, List.set_cons_zero, List.set_cons_succ]
        refine held_op 5 rfl (by kernel_rfl) (by rfl) ?_
        refine wp_call (f := 63) (args := #[.int .i64 (i1 : Int)]) rfl (by go_simp) ?_
        refine (kname2_any i1 hi1 _).mono ?_
        rintro e w' ⟨⟨x, ⟨hx, hx5⟩, rfl⟩, hw'⟩
        subst hw'
        refine ⟨_, rfl, by assumption, ?_⟩
        simp only [List.setIfInBounds_toArray, List.set_cons_zero, List.set_cons_succ]
        refine held_op 11 rfl (by kernel_rfl) (by rfl) ?_
        refine wp_call (f := 77) (args := #[.int .i64 q, .int .i64 0, .int .i64 6]) rfl (by go_simp) ?_
        refine (within6 q _).mono ?_
        rintro e w' ⟨⟨i2, hi2, rfl⟩, hw'⟩
        subst hw'
        refine ⟨_, rfl, by assumption, ?_⟩
        simp only [List.setIfInBounds_toArray, List.set_cons_zero, List.set_cons_succ]
        refine held_op 12 rfl (by kernel_rfl) (by rfl) ?_
        refine wp_call (f := 65) (args := #[.int .i64 (i2 : Int)]) rfl (by go_simp) ?_
        refine (kvalue2_any i2 hi2 _).mono ?_
        rintro e w' ⟨⟨y, ⟨hy, hy5⟩, rfl⟩, hw'⟩
        subst hw'
        refine ⟨_, rfl, by assumption, ?_⟩
        simp only [List.setIfInBounds_toArray, List.set_cons_zero, List.set_cons_succ]
        refine held_take 13 31 (v := (.agg #[.string x, .string y])) rfl rfl (by kernel_rfl) (by kernel_rfl) (by kernel_rfl) (by rfl) (fun _ _ _ h => h) (by assumption) ?_ ?_
        · intro W hW
          go_simp
        simp only [List.setIfInBounds_toArray, List.set_cons_zero, List.set_cons_succ]
        have dB : Below w.heap.size w (wr.drew.alloc (.cells #[.string x, .string y] 26)) := HI.out.bel.drew.alloc HI.out.bel.size _
        refine held_op 15 rfl (by kernel_rfl) (by rfl) ?_
        refine wp_skip (w' := wr.drew.alloc (.cells #[.string x, .string y] 26)) rfl (by go_simp) ⟨dB, ?_⟩
        refine wpAnyH_done (by kernel_rfl) ?_ _
        clear dB dA hHeld
        have bl : Below wr.heap.size wr (wr.drew.alloc (.cells #[.string x, .string y] 26)) := ((Below.refl _ _).drew).alloc (Nat.le_refl _) _
        have CG := Lib.hid (rget_labs acc x A3 c3 (wr.drew.alloc (.cells #[.string x, .string y] 26)) (by omega) (I3.out.below bl))
        have O4 := Lib.hid (own_keepL HI.out.own bl)
        have D4 : Hid (Below w.heap.size w (wr.drew.alloc (.cells #[.string x, .string y] 26))) := HI.out.bel.trans (bl.mono HI.out.bel.size)
        have AP := Lib.hid HI.out.ap
        have OK := Lib.hid HI.out.oks
        obtain ⟨G, hG⟩ : ∃ G, getL acc x = G := ⟨_, rfl⟩
        rw [hG, hn] at CG
        rw [hn] at O4
        have HG := Lib.hid hG
        clear bl hG HI HC hq
        go_wp2_with fail
        refine CG.out.mono ?_
        rintro e w' ⟨rfl, hw'⟩
        subst hw'
        clear CG
        by_cases he : G.toList = []
        · have AP2 := Lib.hid (AP.out.snoc hx hy (by rw [HG.out]; exact he))
          have OK2 := Lib.hid (okL_snoc OK.out hx5 hy5)
          have hed : (G.toList == []) = true := by simp [he]
          have D5 := Lib.hid (D4.out.alloc D4.out.size (.cells #[.string x, .string y] 26))
          have O5 := Lib.hid (O4.out.alloc (.cells #[.string x, .string y] 26))
          have LIT := Lib.hid (lit_lab (wr.drew.alloc (.cells #[.string x, .string y] 26)) (x, y))
          have hsz : (wr.drew.alloc (.cells #[.string x, .string y] 26)).heap.size = wr.heap.size + 1 := by simp
          rw [hsz] at LIT
          clear hsz D4 O4
          go_wp2_with (at_builtin; refine wpList_appL rfl _ _ rfl w.heap.size _ n acc rfl O5.out (some ⟨wr.heap.size + 1, 0, none⟩) 1 1 [(x, y)] rfl rfl (fun e => by cases e) LIT.out (by omega) D5.out.size ?_)
          intro v6 w6 o6 g6
          have I2 : Hid (KpJ w (acc ++ [(x, y)]) v6 w6) := ⟨by rw [List.length_append, hn]; exact o6, D5.out.grown g6 D5.out.size (own_geL O5.out), AP2.out, OK2.out⟩
          clear o6 g6 O5 D5 LIT
          go_wp2
          go_roundw
          case rel => exact ⟨acc ++ [(x, y)], k + 1, n + 1, by simp [hn], by omega, by omega, by omega, by go_num, I2⟩
          case measure => simp [intOf]; omega
        · have hed : (G.toList == []) = false := by simp [he]
          have I2 : Hid (KpJ w acc (.slice A3 n c3) (wr.drew.alloc (.cells #[.string x, .string y] 26))) := ⟨by rw [hn]; exact O4.out, D4.out, AP.out, OK.out⟩
          go_wp2
          go_roundw
          case rel => exact ⟨acc, k + 1, n, hn, by omega, by omega, by omega, by go_num, I2⟩
          case measure => simp [intOf]; omega
    · obtain ⟨A3, c3, rfl, _, hA3, i3, _⟩ := own_formL HI.out.own
      have I3 := Lib.hid i3
      have O3 := Lib.hid HI.out.own
      have D3 := Lib.hid HI.out.bel
      have AP := Lib.hid HI.out.ap
      have OK := Lib.hid HI.out.oks
      rw [hn] at O3
      clear i3 hA3 HI HA
      have FIN : Hid (∀ (acc : List Lab) (n c : Nat) (A : Option Addr) (W : World), acc.length = n → 1 ≤ n → n ≤ 5 → Apart acc → Below w.heap.size w W → IsLabs W A acc → (∀ y ∈ acc, okL y) →
          Calls Tryz.prog 78 #[.slice A n c] W fun e w' => ∃ (l : List Lab) (v : Value), (isSet l = true ∧ ∀ y ∈ l, okL y) ∧ e = .returned (.tuple #[v, .bool true]) ∧ w'.ownsRow w.heap.size 26 2 v l.length (lc l) ∧ Below w.heap.size w w') := by
        intro acc n c A W h1 h2 h3 h4 h5 h6 h7
        have C := makeset_any acc A c W (by omega) h4.small h6
        rw [h1] at C
        refine C.mono ?_
        rintro e w' ⟨⟨o, r, v, m, rfl, q⟩, b⟩
        obtain ⟨l, rfl, hs⟩ := h4.made (by omega) (by omega) m
        have mp := m.1
        obtain ⟨rfl, o⟩ := q
        exact ⟨l, v, ⟨hs, fun y hy => h7 y (mp.mem_iff.1 hy)⟩, rfl, own_baseL o h5.size, h5.trans (b.mono h5.size)⟩
      by_cases hkN2 : k < N
      · have g1z : (k : Int) < (N : Int) := by omega
        have g2z : ¬ (k : Int) < 5 := by omega
        by_cases hn0 : n = 0
        · have e0 : acc = [] := List.eq_nil_of_length_eq_zero (by omega)
          subst e0
          subst hn0
          have D5 := Lib.hid (D3.out.alloc D3.out.size (.cells #[.string ⟨#[115, 101, 118]⟩, .string ⟨#[97]⟩] 26))
          have O5 := Lib.hid (O3.out.alloc (.cells #[.string ⟨#[115, 101, 118]⟩, .string ⟨#[97]⟩] 26))
          have LIT := Lib.hid (lit_lab wr (⟨#[115, 101, 118]⟩, ⟨#[97]⟩))
          have AP2 : Hid (Apart [(⟨#[115, 101, 118]⟩, ⟨#[97]⟩)]) := AP.out.snoc (by decide +kernel) (by decide +kernel) (by decide +kernel)
          have OK2 : Hid (∀ y ∈ [((⟨#[115, 101, 118]⟩, ⟨#[97]⟩) : Lab)], okL y) := okL_snoc OK.out (by decide +kernel) (by decide +kernel)
          clear O3 D3 AP I3
        
          go_wp2_with (at_builtin; refine wpList_appL rfl _ _ rfl w.heap.size _ 0 [] rfl O5.out (some ⟨wr.heap.size, 0, none⟩) 1 1 [(⟨#[115, 101, 118]⟩, ⟨#[97]⟩)] rfl rfl (fun e => by cases e) LIT.out (by omega) D5.out.size ?_)
          intro v6 w6 o6 g6
          have d6 := D5.out.grown g6 D5.out.size (own_geL O5.out)
          obtain ⟨A6, c6, rfl, _, _, i6, _⟩ := own_formL o6
          have CF := Lib.hid (FIN.out _ 1 c6 A6 w6 rfl (by omega) (by omega) AP2.out d6 i6 OK2.out)
          clear o6 g6 O5 D5 LIT d6 i6 FIN
          go_wp2_with fail
          refine CF.out.mono ?_
          rintro e w7 ⟨l, v, hs, rfl, o7, b7⟩
          have HS := Lib.hid hs
          have O7 := Lib.hid o7
          have B7 := Lib.hid b7
          clear CF hs o7 b7
          go_wp2
          go_ret
          exact ⟨⟨l, v, HS.out, rfl, O7.out⟩, B7.out⟩
        · have hn0z : ((n : Int) == 0) = false := by simp; omega
          have CF := Lib.hid (FIN.out acc n c3 A3 wr hn (by omega) (by omega) AP.out D3.out I3.out OK.out)
          clear FIN O3 D3 AP I3
          go_wp2_with fail
          refine CF.out.mono ?_
          rintro e w7 ⟨l, v, hs, rfl, o7, b7⟩
          have HS := Lib.hid hs
          have O7 := Lib.hid o7
          have B7 := Lib.hid b7
          clear CF hs o7 b7
          go_wp2
          go_ret
          exact ⟨⟨l, v, HS.out, rfl, O7.out⟩, B7.out⟩
      · have g1z : ¬ (k : Int) < (N : Int) := by omega
        by_cases hn0 : n = 0
        · have e0 : acc = [] := List.eq_nil_of_length_eq_zero (by omega)
          subst e0
          subst hn0
          have D5 := Lib.hid (D3.out.alloc D3.out.size (.cells #[.string ⟨#[115, 101, 118]⟩, .string ⟨#[97]⟩] 26))
          have O5 := Lib.hid (O3.out.alloc (.cells #[.string ⟨#[115, 101, 118]⟩, .string ⟨#[97]⟩] 26))
          have LIT := Lib.hid (lit_lab wr (⟨#[115, 101, 118]⟩, ⟨#[97]⟩))
          have AP2 : Hid (Apart [(⟨#[115, 101, 118]⟩, ⟨#[97]⟩)]) := AP.out.snoc (by decide +kernel) (by decide +kernel) (by decide +kernel)
          have OK2 : Hid (∀ y ∈ [((⟨#[115, 101, 118]⟩, ⟨#[97]⟩) : Lab)], okL y) := okL_snoc OK.out (by decide +kernel) (by decide +kernel)
          clear O3 D3 AP I3
        
          go_wp2_with (at_builtin; refine wpList_appL rfl _ _ rfl w.heap.size _ 0 [] rfl O5.out (some ⟨wr.heap.size, 0, none⟩) 1 1 [(⟨#[115, 101, 118]⟩, ⟨#[97]⟩)] rfl rfl (fun e => by cases e) LIT.out (by omega) D5.out.size ?_)
          intro v6 w6 o6 g6
          have d6 := D5.out.grown g6 D5.out.size (own_geL O5.out)
          obtain ⟨A6, c6, rfl, _, _, i6, _⟩ := own_formL o6
          have CF := Lib.hid (FIN.out _ 1 c6 A6 w6 rfl (by omega) (by omega) AP2.out d6 i6 OK2.out)
          clear o6 g6 O5 D5 LIT d6 i6 FIN
          go_wp2_with fail
          refine CF.out.mono ?_
          rintro e w7 ⟨l, v, hs, rfl, o7, b7⟩
          have HS := Lib.hid hs
          have O7 := Lib.hid o7
          have B7 := Lib.hid b7
          clear CF hs o7 b7
          go_wp2
          go_ret
          exact ⟨⟨l, v, HS.out, rfl, O7.out⟩, B7.out⟩
        · have hn0z : ((n : Int) == 0) = false := by simp; omega
          have CF := Lib.hid (FIN.out acc n c3 A3 wr hn (by omega) (by omega) AP.out D3.out I3.out OK.out)
          clear FIN O3 D3 AP I3
          go_wp2_with fail
          refine CF.out.mono ?_
          rintro e w7 ⟨l, v, hs, rfl, o7, b7⟩
          have HS := Lib.hid hs
          have O7 := Lib.hid o7
          have B7 := Lib.hid b7
          clear CF hs o7 b7
          go_wp2
          go_ret
          exact ⟨⟨l, v, HS.out, rfl, O7.out⟩, B7.out⟩
end Go.Proofs.YtlfcjjlgkcfkdaaGreatDoor
