/-
  What the reference's ReadSet does: the label set that bytes begin with, or that there is none. Conditions: lengths fit.
-/
import Derived.Test.YtbfpcolbkfcanaaMv
namespace Go.Proofs.Ytbfpcolbkfcanaa
open Go.RowKit La

set_option maxRecDepth 100000 in
set_option maxHeartbeats 2000000 in
theorem readset_any (l : List Nat) (A : Option Addr) (cap : Nat) (w : World) (hl : l.length ≤ 1048576) (hc : l.length ≤ cap) (ha : IsBytes w A l) :
    Calls Try.prog 25 #[.slice A l.length cap] w fun e w' => (∃ r v, e = .returned r ∧ setRes (readSet l) r v w w') ∧ Below w.heap.size w w' := by
  have CG := Lib.hid (rget_any l A cap w (by unfold maxLen; omega) ha)
  have HA := Lib.hid ha
  have hlt := Lib.hid ha.1
  clear ha
  obtain ⟨N, hN⟩ : ∃ N, l.length = N := ⟨_, rfl⟩
  rw [hN] at hl hc CG ⊢
  have HN := Lib.hid hN
  clear hN
  cases hd : Vm.dec l with
  | none =>
    have R := Lib.hid (readSet_none1 hd)
    rw [hd] at CG
    clear hd
    simp only [getRes] at CG
    go_enter Try.func25, Try.ntmps25
    go_wp2_with fail
    refine CG.out.mono ?_
    rintro e w' ⟨rfl, rfl⟩
    clear CG
    go_wp2
    go_ret3
    exact ⟨⟨_, .bool false, rfl, by rw [R.out]; exact rfl⟩, Below.refl _ _⟩
  | some q =>
    obtain ⟨n, k⟩ := q
    obtain ⟨k1, k2, k3, _⟩ := Vm.dec_ok hd hlt.out
    rw [HN.out] at k2
    rw [hd] at CG
    simp only [getRes] at CG
    by_cases h6 : 6 < n
    · have R := Lib.hid (readSet_many hd h6)
      have h6d : decide ((n : Int) > 6) = true := decide_eq_true (by omega)
      clear hd
      go_enter Try.func25, Try.ntmps25
      go_wp2_with fail
      refine CG.out.mono ?_
      rintro e w' ⟨rfl, rfl⟩
      clear CG
      go_wp2
      go_ret3
      exact ⟨⟨_, .bool false, rfl, by rw [R.out]; exact rfl⟩, Below.refl _ _⟩
    have h6d : decide ((n : Int) > 6) = false := decide_eq_false (by omega)
    have NO := Lib.hid (readSet_none hd h6)
    have EN := Lib.hid (fun acc p => readSet_end (acc := acc) (p := p) hd h6)
    have I0 : Hid (RdI w l n k [] k (.slice none 0 0) w) := ⟨World.ownsRow_nil _ _ _ _, Below.refl _ _, readRel_start (by rw [HN.out]; exact k2), fun x hx => by cases hx⟩
    obtain ⟨b, off, rfl, _⟩ := HA.out.2 (by rw [HN.out]; omega)
    have wn : IntKind.i64.wrap (n : Int) = (n : Int) := by rw [IntKind.wrap_i64]; omega
    clear hd
    go_enter Try.func25, Try.ntmps25
    go_wp2_with fail
    refine CG.out.mono ?_
    rintro e w' ⟨rfl, rfl⟩
    clear CG
    go_wp2
    clear h6d
    go_loopw [6, 8, 9] (fun a v i wr => ∃ (acc : List Lab) (p m : Nat), acc.length = m ∧ m ≤ n ∧ p ≤ N ∧ a = .int .i64 (p : Int) ∧ i = .int .i64 (m : Int) ∧ Hid (RdI w l n k acc p v wr)) (fun _ _ i _ => n - (intOf i).toNat)
    case atStart => exact ⟨[], k, 0, rfl, by omega, k2, rfl, rfl, I0⟩
    case round =>
      clear I0
      obtain ⟨acc, p, m, hm, hmn, hpN, rfl, rfl, HI⟩ := hrel
      by_cases hlt2 : m < n
      · have hmz : (m : Int) < (n : Int) := by omega
        have SC := fun W => bcut W b off N cap p hpN
        have IB := Lib.hid (fun q => bcut_is (isBytes_below HA.out HI.out.bel) q (by rw [HN.out]; exact hc))
        have C1 := Lib.hid (rgtext_at (l.drop p) (N - p) (by rw [List.length_drop, HN.out]) (cutA b off cap p) (cap - p) 12 wr (by omega) (by omega) (by omega) (IB.out p))
        cases h1 : Vm.getText (l.drop p) 12 with
        | none =>
          have R := Lib.hid (NO.out (readRel_none1 HI.out.rel (by omega) h1))
          have B := Lib.hid HI.out.bel
          rw [h1] at C1
          simp only [textRes] at C1
          clear h1 HI
          go_wp2_with fail
          refine C1.out.mono ?_
          rintro e w3 ⟨rfl, rfl⟩
          clear C1
          go_wp2
          go_ret3
          exact ⟨⟨_, .bool false, rfl, by rw [R.out]; exact rfl⟩, B.out⟩
        | some q =>
          obtain ⟨t, j⟩ := q
          have e1 := getText_le h1 (drop_byte hlt.out p)
          rw [List.length_drop, HN.out] at e1
          have hpj : p + j ≤ N := by omega
          have SC2 := fun W => bcut W b off N cap (p + j) hpj
          have ep : ((p + j : Nat) : Int) = (p : Int) + (j : Int) := by simp
          rw [ep] at SC2
          have C2 := Lib.hid (rgtext_at (l.drop (p + j)) (N - (p + j)) (by rw [List.length_drop, HN.out]) (cutA b off cap (p + j)) (cap - (p + j)) 24 wr (by omega) (by omega) (by omega) (IB.out (p + j)))
          rw [h1] at C1
          simp only [textRes] at C1
          have wpj : IntKind.i64.wrap ((p : Int) + (j : Int)) = (p : Int) + (j : Int) := by rw [IntKind.wrap_i64]; omega
          cases h2 : Vm.getText (l.drop (p + j)) 24 with
          | none =>
            have R := Lib.hid (NO.out (readRel_none2 HI.out.rel (by omega) h1 h2))
            have B := Lib.hid HI.out.bel
            rw [h2] at C2
            simp only [textRes] at C2
            clear h1 h2 HI e1 ep
            generalize strOf t = T at *
            go_wp2_with fail
            refine C1.out.mono ?_
            rintro e w3 ⟨rfl, rfl⟩
            clear C1
            go_wp2_with fail
            refine C2.out.mono ?_
            rintro e w3 ⟨rfl, rfl⟩
            clear C2
            go_wp2
            go_ret3
            exact ⟨⟨_, .bool false, rfl, by rw [R.out]; exact rfl⟩, B.out⟩
          | some q =>
            obtain ⟨u, s⟩ := q
            have e2 := getText_le h2 (drop_byte hlt.out (p + j))
            rw [List.length_drop, HN.out] at e2
            have RL := Lib.hid (readRel_step hlt.out HI.out.rel (by omega) h1 h2)
            have z1 : (strOf t).size ≤ 24 := by rw [strOf_size]; omega
            have z2 : (strOf u).size ≤ 24 := by rw [strOf_size]; omega
            have SM : Hid (∀ y ∈ acc ++ [(strOf t, strOf u)], y.1.size ≤ 24 ∧ y.2.size ≤ 24) := fun y hy => by
              rcases List.mem_append.1 hy with h | h
              · exact HI.out.small y h
              · simp at h; subst h; exact ⟨z1, z2⟩
            have B := Lib.hid HI.out.bel
            have O := Lib.hid HI.out.own
            rw [hm] at O
            rw [h2] at C2
            simp only [textRes] at C2
            have hps : p + j + s ≤ N := by omega
            have hjs : j ≤ 1048576 ∧ s ≤ 1048576 := by omega
            clear h1 h2 HI e1 e2 z1 z2 ep
            generalize strOf t = x1 at *
            generalize strOf u = x2 at *
            have wps : IntKind.i64.wrap ((p : Int) + (j : Int) + (s : Int)) = (p : Int) + (j : Int) + (s : Int) := by rw [IntKind.wrap_i64]; omega
            have d5 := B.out.alloc B.out.size (.cells #[.string x1, .string x2] 23)
            have o5 := O.out.alloc (.cells #[.string x1, .string x2] 23)
            have lit := lit_lab wr (x1, x2)
            have D5 := Lib.hid d5
            have O5 := Lib.hid o5
            have LIT := Lib.hid lit
            clear d5 o5 lit B O
            go_wp2_with fail
            refine C1.out.mono ?_
            rintro e w3 ⟨rfl, rfl⟩
            clear C1
            go_wp2_with fail
            refine C2.out.mono ?_
            rintro e w3 ⟨rfl, rfl⟩
            clear C2
            go_wp2_with (at_builtin; refine wpList_appL rfl _ _ rfl w.heap.size _ m acc rfl O5.out (some ⟨wr.heap.size, 0, none⟩) 1 1 [(x1, x2)] rfl rfl (fun e => by cases e) LIT.out (by omega) D5.out.size ?_)
            intro v' w6 o6 g6
            have I2 : Hid (RdI w l n k (acc ++ [(x1, x2)]) (p + j + s) v' w6) := ⟨by rw [List.length_append, hm]; exact o6, D5.out.grown g6 D5.out.size (own_geL O5.out), RL.out, SM.out⟩
            clear o6 g6 O5 D5 LIT
            go_wp2
            go_roundw
            case rel => exact ⟨acc ++ [(x1, x2)], p + j + s, m + 1, by simp [hm], by omega, by omega, by simp, by go_num, I2⟩
            case measure => simp [intOf]; omega
      · obtain rfl : m = n := by omega
        have hmz : ¬ (m : Int) < (m : Int) := by omega
        have R := Lib.hid (EN.out acc p HI.out.rel hm)
        obtain ⟨A', c', rfl, _, _, hi, hol⟩ := own_formL HI.out.own
        have CI := Lib.hid (isset_any acc A' c' wr (by omega) (fun x hx => by have := HI.out.small x hx; omega) hi)
        have O := Lib.hid HI.out.own
        have B := Lib.hid HI.out.bel
        rw [hm] at CI O ⊢
        have HM := Lib.hid hm
        clear HI hi hol hm
        cases hb : isSet acc
        · rw [hb] at CI R
          simp only [Bool.false_eq_true, if_false] at R
          clear hb
          go_wp2_with fail
          refine CI.out.mono ?_
          rintro e w' ⟨rfl, bw⟩
          have B2 := Lib.hid (B.out.trans (bw.mono B.out.size))
          clear bw CI
          go_wp2
          go_ret3
          exact ⟨⟨_, .bool false, rfl, by rw [R.out]; exact rfl⟩, B2.out⟩
        · rw [hb] at CI R
          simp only [if_true] at R
          clear hb
          go_wp2_with fail
          refine CI.out.mono ?_
          rintro e w' ⟨rfl, bw⟩
          have B2 := Lib.hid (B.out.trans (bw.mono B.out.size))
          have K2 := Lib.hid (own_keepL O.out bw)
          clear bw CI O
          go_wp2
          go_ret3
          exact ⟨⟨_, _, rfl, by rw [R.out]; exact ⟨rfl, by rw [HM.out]; exact K2.out⟩⟩, B2.out⟩
end Go.Proofs.Ytbfpcolbkfcanaa
