/-
  LabelsBytes as a contract: true, whatever the arguments. Conditions: the slices are as a machine has them.
-/
import Derived.Test.YtbfpcolbkfcanaaNm
import Derived.Test.YtbfpcolbkfcanaaNb
namespace Go.Proofs.Ytbfpcolbkfcanaa
open Go.RowKit La

def resL : Option (List Lab × Nat) → List Lab × Nat × Bool
  | none => ([], 0, false)
  | some (l, k) => (l, k, true)
theorem res_form {o : Option (List Lab × Nat)} {r v : Value} {w w' : World} (h : setRes o r v w w') : ∃ A c, r = .tuple #[.slice A (resL o).1.length c, .int .i64 ((resL o).2.1 : Int), .bool (resL o).2.2] ∧ IsLabs w' A (resL o).1 := by
  cases o with
  | none => exact ⟨none, 0, h, fun hp => by simp [resL] at hp⟩
  | some q =>
    obtain ⟨l, k⟩ := q
    obtain ⟨rfl, ho⟩ := h
    obtain ⟨A, c, rfl, _, _, i, _⟩ := own_formL ho
    exact ⟨A, c, rfl, i⟩
theorem resL_len (l : List Nat) : (resL (readSet l)).1.length ≤ 6 := by
  unfold readSet
  cases Vm.dec l with
  | none => simp [resL]
  | some q =>
    obtain ⟨n, k⟩ := q
    simp only
    split
    · simp [resL]
    · cases readN n (l.drop k) with
      | none => simp [resL]
      | some q =>
        obtain ⟨ls, m⟩ := q
        simp only
        split
        · rename_i hs
          exact (isSet_iff.1 hs).2.1
        · simp [resL]
theorem bytesOf_byte (ls : List Lab) : ∀ x ∈ bytesOf ls, x < 256 := by
  cases h : isSet ls with
  | true => exact bytes_byte h
  | false => intro x hx; rw [bytesOf, h] at hx; cases hx

set_option maxRecDepth 100000 in
set_option maxHeartbeats 4000000 in
theorem bytes_law (ls : List Lab) (l : List Nat) (A B : Option Addr) (cap cb : Nat) (w : World) (hcb : l.length ≤ cb) (ha : IsLabs w A ls) (hb : IsBytes w B l) :
    Calls Try.prog 7 #[.slice A ls.length cap, .slice B l.length cb] w fun e w' => e = .returned (.bool true) ∧ Below w.heap.size w w' := by
  have RU := Lib.hid (fun W => runs_any W)
  have CW := Lib.hid (weight_any ls A cap w ha)
  have CR := Lib.hid (fun W (h : l.length ≤ 300) (hW : Below w.heap.size w W) => read_any l B cb W (by omega) hcb (isBytes_below hb hW))
  have CR2 := Lib.hid (fun W (h : l.length ≤ 300) (hW : Below w.heap.size w W) => readset_any l B cb W (by omega) hcb (isBytes_below hb hW))
  have CB0 := Lib.hid (fun W (h : Few ls) (hW : Below w.heap.size w W) => bytes_any ls A cap W (by have := h.1; omega) h.small (ha.below hW))
  have CS0 := Lib.hid (fun W (h : Few ls) (hW : Below w.heap.size w W) => setbytes_any ls A cap W (by have := h.1; omega) h.small (ha.below hW))
  have BB := Lib.hid (bytesOf_byte ls)
  have RL := Lib.hid (resL_len l)
  have RF := Lib.hid (fun r v W W' => res_form (o := readSet l) (r := r) (v := v) (w := W) (w' := W'))
  clear ha hb hcb
  obtain ⟨S, hS⟩ : ∃ S, strOf (bytesOf ls) = S := ⟨_, rfl⟩
  have HS := Lib.hid hS
  clear hS
  obtain ⟨q, hq⟩ : ∃ q, resL (readSet l) = q := ⟨_, rfl⟩
  rw [hq] at RL RF
  clear hq
  obtain ⟨lx, kk, ok⟩ := q
  simp only at RL RF
  generalize readSet l = o at *
  generalize ls.length = N at *
  generalize l.length = N2 at *
  go_enter Try.func7, Try.ntmps7
  go_wp2_with fail
  refine CW.out.mono ?_
  rintro e w1 ⟨⟨r, rfl, hr⟩, b1⟩
  have HR := Lib.hid hr
  clear CW hr
  by_cases hr3 : 300 < r
  · have hrd : decide ((r : Int) > 300) = true := decide_eq_true (by omega)
    go_wp2_with fail
    refine (RU.out _).mono ?_
    rintro e w' ⟨rfl, b⟩
    have B := Lib.hid (b1.trans (b.mono b1.size))
    clear b RU b1
    go_wp2
    go_ret
    exact ⟨rfl, B.out⟩
  have hrd : decide ((r : Int) > 300) = false := decide_eq_false (by omega)
  have HF := Lib.hid (HR.out (by omega))
  by_cases h3 : 300 < N2
  · have h3d : decide ((N2 : Int) > 300) = true := decide_eq_true (by omega)
    go_wp2_with fail
    refine (RU.out _).mono ?_
    rintro e w' ⟨rfl, b⟩
    have B := Lib.hid (b1.trans (b.mono b1.size))
    clear b RU b1
    go_wp2
    go_ret
    exact ⟨rfl, B.out⟩
  have h3d : decide ((N2 : Int) > 300) = false := decide_eq_false (by omega)
  go_wp2_with fail
  refine (CR.out w1 (by omega) b1).mono ?_
  rintro e w2 ⟨⟨r2, v2, rfl, q2⟩, b2⟩
  have d2 := b1.trans (b2.mono b1.size)
  obtain ⟨A2, c2, rfl, i2⟩ := RF.out _ _ _ _ q2
  clear q2 CR b2 b1
  go_wp2_with fail
  refine (CR2.out w2 (by omega) d2).mono ?_
  rintro e w3 ⟨⟨r3, v3, rfl, q3⟩, b3⟩
  have d3 := d2.trans (b3.mono d2.size)
  obtain ⟨A3, c3, rfl, i3⟩ := RF.out _ _ _ _ q3
  have i2' := i2.below b3
  have SL := Lib.hid (fun W (hW : Below w3.heap.size w3 W) => samelabs_any lx lx A2 A3 c2 c3 W (by have := RL.out; omega) (by have := RL.out; omega) (i2'.below hW) (i3.below hW))
  have dt : decide (lx = lx) = true := by simp
  rw [dt] at SL
  have e4 : ∀ {W : World}, Below w3.heap.size w3.drew W → Below w3.heap.size w3 W := fun h => ⟨h.os, h.tape, h.output, h.size, h.block⟩
  have CB := Lib.hid (fun W (hW : Below w3.heap.size w3 W) => CB0.out W HF.out (d3.trans (hW.mono d3.size)))
  have CS := Lib.hid (fun W (hW : Below w3.heap.size w3 W) => CS0.out W HF.out (d3.trans (hW.mono d3.size)))
  have D3 := Lib.hid d3
  clear q3 CR2 b3 d2 d3 i2 i2' i3 dt CB0 CS0 RF
  generalize lx.length = nx at *
  go_wp2_with fail
  refine wp_region_held_drew (S := fun W => Below w3.heap.size w3 W) (by kernel_rfl) ((Below.refl _ _).drew) (fun hHeld => ?_)
  refine held_take 0 32 (v := (.slice A N cap)) rfl rfl (by kernel_rfl) (by kernel_rfl) (by kernel_rfl) (by rfl) (fun _ _ _ h => h) (by assumption) ?_ ?_
  · intro W hW
    go_simp
  simp only [List.setIfInBounds_toArray, List.set_cons_zero, List.set_cons_succ]
  refine held_take 3 35 (v := (.slice A N cap)) rfl rfl (by kernel_rfl) (by kernel_rfl) (by kernel_rfl) (by rfl) (fun _ _ _ h => h) (by assumption) ?_ ?_
  · intro W hW
    go_simp
  simp only [List.setIfInBounds_toArray, List.set_cons_zero, List.set_cons_succ]
  refine held_op 1 rfl (by kernel_rfl) (by rfl) ?_
  refine wp_call (f := 12) (args := #[.slice A N cap]) rfl (by go_simp) ?_
  refine (CB.out w3.drew ((Below.refl _ _).drew)).mono ?_
  rintro e w4 ⟨v4, rfl, o4, b4⟩
  replace b4 := e4 b4
  refine ⟨_, rfl, b4, ?_⟩
  simp only [List.setIfInBounds_toArray, List.set_cons_zero, List.set_cons_succ]
  have heldw4 := Below.refl w4.heap.size w4
  refine held_more (S' := fun W => Below w4.heap.size w4 W) (fun W h => b4.trans (h.mono b4.size)) _ _ _ _ ?_
  refine held_take 2 34 (v := (.string S)) rfl rfl (by kernel_rfl) (by kernel_rfl) (by kernel_rfl) (by rfl) (fun _ _ _ h => h) (by assumption) ?_ ?_
  · intro W hW
    have cv := own_conv (own_keepL o4 hW) BB.out
    rw [HS.out] at cv
    go_simp
  simp only [List.setIfInBounds_toArray, List.set_cons_zero, List.set_cons_succ]
  refine held_op 4 rfl (by kernel_rfl) (by rfl) ?_
  refine wp_call (f := 26) (args := #[.slice A N cap]) rfl (by go_simp) ?_
  refine (CS.out w4 b4).mono ?_
  rintro e w5 ⟨v5, rfl, o5, b5⟩
  refine ⟨_, rfl, b5, ?_⟩
  simp only [List.setIfInBounds_toArray, List.set_cons_zero, List.set_cons_succ]
  have heldw5 := Below.refl w5.heap.size w5
  refine held_more (S' := fun W => Below w5.heap.size w5 W) (fun W h => b5.trans (h.mono b5.size)) _ _ _ _ ?_
  refine held_take 5 37 (v := (.string S)) rfl rfl (by kernel_rfl) (by kernel_rfl) (by kernel_rfl) (by rfl) (fun _ _ _ h => h) (by assumption) ?_ ?_
  · intro W hW
    have cv := own_conv (own_keepL o5 hW) BB.out
    rw [HS.out] at cv
    go_simp
  simp only [List.setIfInBounds_toArray, List.set_cons_zero, List.set_cons_succ]
  refine held_take 6 38 (v := (.bool true)) rfl rfl (by kernel_rfl) (by kernel_rfl) (by kernel_rfl) (by rfl) (fun _ _ _ h => h) (by assumption) ?_ ?_
  · intro W hW
    go_simp
  simp only [List.setIfInBounds_toArray, List.set_cons_zero, List.set_cons_succ]
  refine held_take 7 39 (v := (.bool true)) rfl rfl (by kernel_rfl) (by kernel_rfl) (by kernel_rfl) (by rfl) (fun _ _ _ h => h) (by assumption) ?_ ?_
  · intro W hW
    go_simp
  simp only [List.setIfInBounds_toArray, List.set_cons_zero, List.set_cons_succ]
  refine held_take 8 40 (v := (.bool ok)) rfl rfl (by kernel_rfl) (by kernel_rfl) (by kernel_rfl) (by rfl) (fun _ _ _ h => h) (by assumption) ?_ ?_
  · intro W hW
    go_simp
  simp only [List.setIfInBounds_toArray, List.set_cons_zero, List.set_cons_succ]
  refine held_take 9 41 (v := (.bool ok)) rfl rfl (by kernel_rfl) (by kernel_rfl) (by kernel_rfl) (by rfl) (fun _ _ _ h => h) (by assumption) ?_ ?_
  · intro W hW
    go_simp
  simp only [List.setIfInBounds_toArray, List.set_cons_zero, List.set_cons_succ]
  refine held_take 10 42 (v := (.bool true)) rfl rfl (by kernel_rfl) (by kernel_rfl) (by kernel_rfl) (by rfl) (fun _ _ _ h => h) (by assumption) ?_ ?_
  · intro W hW
    go_simp
  simp only [List.setIfInBounds_toArray, List.set_cons_zero, List.set_cons_succ]
  refine held_take 11 43 (v := (.bool true)) rfl rfl (by kernel_rfl) (by kernel_rfl) (by kernel_rfl) (by rfl) (fun _ _ _ h => h) (by assumption) ?_ ?_
  · intro W hW
    go_simp
  simp only [List.setIfInBounds_toArray, List.set_cons_zero, List.set_cons_succ]
  refine held_take 12 44 (v := (.bool true)) rfl rfl (by kernel_rfl) (by kernel_rfl) (by kernel_rfl) (by rfl) (fun _ _ _ h => h) (by assumption) ?_ ?_
  · intro W hW
    go_simp
  simp only [List.setIfInBounds_toArray, List.set_cons_zero, List.set_cons_succ]
  refine held_take 13 45 (v := (.int .i64 (kk : Int))) rfl rfl (by kernel_rfl) (by kernel_rfl) (by kernel_rfl) (by rfl) (fun _ _ _ h => h) (by assumption) ?_ ?_
  · intro W hW
    go_simp
  simp only [List.setIfInBounds_toArray, List.set_cons_zero, List.set_cons_succ]
  refine held_take 14 46 (v := (.int .i64 (kk : Int))) rfl rfl (by kernel_rfl) (by kernel_rfl) (by kernel_rfl) (by rfl) (fun _ _ _ h => h) (by assumption) ?_ ?_
  · intro W hW
    go_simp
  simp only [List.setIfInBounds_toArray, List.set_cons_zero, List.set_cons_succ]
  refine held_take 15 47 (v := (.bool true)) rfl rfl (by kernel_rfl) (by kernel_rfl) (by kernel_rfl) (by rfl) (fun _ _ _ h => h) (by assumption) ?_ ?_
  · intro W hW
    go_simp
  simp only [List.setIfInBounds_toArray, List.set_cons_zero, List.set_cons_succ]
  refine held_take 16 48 (v := (.bool true)) rfl rfl (by kernel_rfl) (by kernel_rfl) (by kernel_rfl) (by rfl) (fun _ _ _ h => h) (by assumption) ?_ ?_
  · intro W hW
    go_simp
  simp only [List.setIfInBounds_toArray, List.set_cons_zero, List.set_cons_succ]
  refine held_take 17 49 (v := (.bool true)) rfl rfl (by kernel_rfl) (by kernel_rfl) (by kernel_rfl) (by rfl) (fun _ _ _ h => h) (by assumption) ?_ ?_
  · intro W hW
    go_simp
  simp only [List.setIfInBounds_toArray, List.set_cons_zero, List.set_cons_succ]
  refine held_take 18 50 (v := (.slice A2 nx c2)) rfl rfl (by kernel_rfl) (by kernel_rfl) (by kernel_rfl) (by rfl) (fun _ _ _ h => h) (by assumption) ?_ ?_
  · intro W hW
    go_simp
  simp only [List.setIfInBounds_toArray, List.set_cons_zero, List.set_cons_succ]
  refine held_take 19 51 (v := (.slice A3 nx c3)) rfl rfl (by kernel_rfl) (by kernel_rfl) (by kernel_rfl) (by rfl) (fun _ _ _ h => h) (by assumption) ?_ ?_
  · intro W hW
    go_simp
  simp only [List.setIfInBounds_toArray, List.set_cons_zero, List.set_cons_succ]
  refine held_op 20 rfl (by kernel_rfl) (by rfl) ?_
  refine wp_call (f := 23) (args := #[.slice A2 nx c2, .slice A3 nx c3]) rfl (by go_simp) ?_
  refine (SL.out w5 (b4.trans (b5.mono b4.size))).mono ?_
  rintro e w6 ⟨rfl, b6⟩
  refine ⟨_, rfl, b6, ?_⟩
  simp only [List.setIfInBounds_toArray, List.set_cons_zero, List.set_cons_succ]
  have heldw6 := Below.refl w6.heap.size w6
  refine held_more (S' := fun W => Below w6.heap.size w6 W) (fun W h => b6.trans (h.mono b6.size)) _ _ _ _ ?_
  refine held_take 21 53 (v := (.bool true)) rfl rfl (by kernel_rfl) (by kernel_rfl) (by kernel_rfl) (by rfl) (fun _ _ _ h => h) (by assumption) ?_ ?_
  · intro W hW
    go_simp
  simp only [List.setIfInBounds_toArray, List.set_cons_zero, List.set_cons_succ]
  refine held_take 22 54 (v := (.bool true)) rfl rfl (by kernel_rfl) (by kernel_rfl) (by kernel_rfl) (by rfl) (fun _ _ _ h => h) (by assumption) ?_ ?_
  · intro W hW
    go_simp
  simp only [List.setIfInBounds_toArray, List.set_cons_zero, List.set_cons_succ]
  refine held_op 23 rfl (by kernel_rfl) (by rfl) ?_
  refine wp_call (f := 3) (args := #[]) rfl (by go_simp) ?_
  refine (RU.out w6).mono ?_
  rintro e w7 ⟨rfl, b7⟩
  refine ⟨_, rfl, b7, ?_⟩
  simp only [List.setIfInBounds_toArray, List.set_cons_zero, List.set_cons_succ]
  have heldw7 := Below.refl w7.heap.size w7
  refine held_more (S' := fun W => Below w7.heap.size w7 W) (fun W h => b7.trans (h.mono b7.size)) _ _ _ _ ?_
  refine held_take 24 56 (v := (.bool true)) rfl rfl (by kernel_rfl) (by kernel_rfl) (by kernel_rfl) (by rfl) (fun _ _ _ h => h) (by assumption) ?_ ?_
  · intro W hW
    go_simp
  simp only [List.setIfInBounds_toArray, List.set_cons_zero, List.set_cons_succ]
  refine held_take 25 4 (v := (.bool true)) rfl rfl (by kernel_rfl) (by kernel_rfl) (by kernel_rfl) (by rfl) (fun _ _ _ h => h) (by assumption) ?_ ?_
  · intro W hW
    go_simp
  simp only [List.setIfInBounds_toArray, List.set_cons_zero, List.set_cons_succ]
  refine wpAnyH_done (by kernel_rfl) ?_ _
  have B := Lib.hid (D3.out.trans ((((b4.trans (b5.mono b4.size)).trans (b6.mono (b4.trans (b5.mono b4.size)).size)).trans (b7.mono ((b4.trans (b5.mono b4.size)).trans (b6.mono (b4.trans (b5.mono b4.size)).size)).size)).mono D3.out.size))
  go_wp2
  go_ret
  exact ⟨rfl, B.out⟩
end Go.Proofs.Ytbfpcolbkfcanaa
