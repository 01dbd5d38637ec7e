/-
  What the reference's SetBytes does: a new slice with the set's bytes, none of labels that are no set. Conditions: lengths fit.
-/
import Derived.Test.YtbfpcolbkfcanaaMy
namespace Go.Proofs.Ytbfpcolbkfcanaa
open Go.RowKit La

theorem wp_call {P : Program} {o : Oper} {ts : Array Value} {ds : List Deferred} {w : World} {f : FuncId} {args : Array Value} {d : Nat} {K : Act → World → Prop} {Q : Exit → Act → World → Prop} (hd : o.dst = some d)
    (hx : (execOp (Act.mk ts ds).eval o).run P w = .ok (.enter f args) w) (h : Calls P f args w fun e w' => ∃ v, e = .returned v ∧ K ⟨ts.setIfInBounds d v, ds⟩ w') : o.wp P ⟨ts, ds⟩ w K Q := by
  unfold Oper.wp
  rw [hx]
  refine Calls.mono h fun e w' he => ?_
  obtain ⟨v, rfl, hh⟩ := he
  show K _ _
  rw [hd]; exact hh
/-- append(v, l...) of bytes: v is one's own, l is read. -/
theorem wp_appB {o : Oper} {a : Act} {w : World} {K : Act → World → Prop} {Q : Exit → Act → World → Prop} (s x : Operand) (ho : o.op = .call { callee := .builtin .append, args := #[s, x], argTypes := #[28, 28] })
    (base : Nat) (v : Value) (n : Nat) (xs : List Nat) (hs : a.eval s = v) (hown : w.ownsRow base 5 1 v n (by8 xs)) (A : Option Addr) (L c : Nat) (l : List Nat) (hx : a.eval x = .slice A L c) (hn : xs.length = n) (hL : l.length = L) (hA : A = none → c = 0) (hi : IsBytes w A l)
    (hlen : n + L ≤ 1099511627776) (hbase : base ≤ w.heap.size)
    (h : ∀ v' w', w'.ownsRow base 5 1 v' (n + L) (by8 (xs ++ l)) → w.grownBy w' v.ownBlock → K (a.put o.dst v') w') : o.wp Try.prog a w K Q := by
  obtain ⟨i0, hi0, hz0, hz1, hz2⟩ := info_parts Try.info5
  subst hL hn
  rcases A with _ | ad
  · obtain rfl := hA rfl
    have hl0 : l = [] := by
      rcases Nat.eq_zero_or_pos l.length with h0 | h0
      · exact List.eq_nil_of_length_eq_zero h0
      · obtain ⟨_, _, e, _⟩ := hi.2 h0; cases e
    subst hl0
    have hrun := run_append_owned_none (P := Try.prog) (w := w) base 28 o.type 5 i0 1 Try.underlying28 hi0 v _ _ hown
    have hx' : a.eval x = .slice none 0 0 := hx
    unfold Oper.wp
    simp [execOp, ho, resolve, invoke, builtin, hs, hx', hrun, Result.andThen]
    exact h v w (by simpa using hown) (World.grownBy.refl w _)
  · have hcells : ∀ j u, (by8 l)[j]? = some u → w.cell? (ad.add j) = some u := by
      intro j u hu
      by_cases hj : j < l.length
      · obtain ⟨b, off, e, hc⟩ := hi.2 (by omega)
        injection e with e
        subst e
        have e2 : (⟨b, off, none⟩ : Addr).add j = ⟨b, off + j, none⟩ := by unfold Addr.add; split <;> simp_all
        rw [e2, hc j hj, ← hu]
        simp [by8, List.getElem?_eq_getElem hj]
      · rw [List.getElem?_eq_none (by simp [by8]; omega)] at hu; cases hu
    refine wp_append_own w s x 28 ho base 5 i0 (.int .u8 0) 1 1 Try.underlying28 hi0 hz0 hz1 hz2 rfl (by decide) v _ _ hs hown ad l.length c (by8 l) hx (by simp [by8]) hcells (by8_one l) (by unfold maxLen; omega) (by omega) hbase ?_
    intro v' w' h1 h2 _
    exact h v' w' (by rw [by8_app]; exact h1) h2

set_option maxRecDepth 100000 in
set_option maxHeartbeats 4000000 in
theorem setbytes_any (ls : List Lab) (A : Option Addr) (cap : Nat) (w : World) (hl : ls.length ≤ 1048576) (hsm : Small ls) (ha : IsLabs w A ls) :
    Calls Try.prog 26 #[.slice A ls.length cap] w (MadeBytes w (bytesOf ls)) := by
  have CI := Lib.hid (isset_any ls A cap w (by omega) hsm ha)
  have HA := Lib.hid ha
  clear ha hsm
  cases hs : isSet ls
  · rw [hs] at CI
    have E : Hid (bytesOf ls = []) := by show _ = _; rw [bytesOf, hs]; rfl
    clear hs HA
    go_enter Try.func26, Try.ntmps26
    go_wp2_with fail
    refine CI.out.mono ?_
    rintro e w' ⟨rfl, b⟩
    have B := Lib.hid b
    clear b CI
    go_wp2
    go_ret
    exact ⟨_, rfl, by rw [E.out]; exact World.ownsRow_nil _ _ _ _, B.out⟩
  · rw [hs] at CI
    have h6 := (isSet_iff.1 hs).2.1
    have E : Hid (bytesOf ls = upTo ls ls.length) := by show _ = _; rw [bytesOf, hs, upTo_all]; rfl
    have HL := Lib.hid (upTo_len (m := 24) (set_sizes hs))
    have SZ := Lib.hid (fun k hk => set_sizes hs _ (nth_mem (ls := ls) (j := k) hk))
    have US := Lib.hid (fun k => upTo_succ (ls := ls) (k := k))
    have U0 := Lib.hid (upTo_zero ls)
    clear hs hl
    obtain ⟨N, hN⟩ : ∃ N, ls.length = N := ⟨_, rfl⟩
    rw [hN] at h6 CI E U0 HL SZ US ⊢
    have HN := Lib.hid hN
    clear hN
    have PN := Lib.hid (fun W => rput_any N W (by unfold Vm.Fits; omega))
    go_enter Try.func26, Try.ntmps26
    go_wp2_with fail
    refine CI.out.mono ?_
    rintro e w1 ⟨rfl, b1⟩
    clear CI
    go_wp2_with fail
    refine (PN.out w1).mono ?_
    rintro e w2 ⟨v, rfl, o2, b2⟩
    have I0 : Hid (ByI w ls 0 v w2) := ⟨by rw [U0.out]; exact own_baseL o2 b1.size, b1.trans (b2.mono b1.size)⟩
    clear o2 b1 b2 PN U0
    go_wp2
    go_loopw [3, 4] (fun v i wr => ∃ k : Nat, k ≤ N ∧ i = .int .i64 (k : Int) ∧ Hid (ByI w ls k v wr)) (fun _ i _ => N - (intOf i).toNat)
    case atStart => exact ⟨0, by omega, rfl, I0⟩
    case round =>
      clear I0
      obtain ⟨k, hk, rfl, HI⟩ := hrel
      by_cases hkn : k < N
      · obtain ⟨b, off, rfl, _⟩ := (HA.out.below HI.out.bel) (by rw [HN.out]; omega)
        have HC : Hid (∀ W, Below w.heap.size w W → W.cell? ⟨b, off + k * 2, none⟩ = some (.string (nth ls k).1) ∧ W.cell? ⟨b, off + k * 2 + 1, none⟩ = some (.string (nth ls k).2)) := fun W hW => isLabs_at (HA.out.below hW) (by rw [HN.out]; exact hkn)
        have hkz : (k : Int) < (N : Int) := by omega
        obtain ⟨s1, s2⟩ := SZ.out k hkn
        have UK := Lib.hid (US.out k hkn)
        have hlen := HL.out k hk
        have hp1 := ptext_len (nth ls k).1
        have hp2 := ptext_len (nth ls k).2
        obtain ⟨x, hx⟩ : ∃ x, (nth ls k).1 = x := ⟨_, rfl⟩
        obtain ⟨y, hy⟩ : ∃ y, (nth ls k).2 = y := ⟨_, rfl⟩
        rw [hx] at s1 hp1 UK HC
        rw [hy] at s2 hp2 UK HC
        clear hx hy
        have P1 := Lib.hid (fun W => rptext_is x W s1)
        have P2 := Lib.hid (fun W => rptext_is y W s2)
        go_wp2_with fail
        refine wp_region_held_drew (S := fun W => Below w.heap.size w W) (by kernel_rfl) (HI.out.bel.drew) (fun hHeld => ?_)
        refine held_take 0 18 (v := u3) rfl rfl (by kernel_rfl) (by kernel_rfl) (by kernel_rfl) (by rfl) (fun _ _ _ h => h) (by assumption) ?_ ?_
        · intro W hW
          go_simp
        simp only [List.setIfInBounds_toArray, List.set_cons_zero, List.set_cons_succ]
        refine held_take 1 19 (v := (.slice (some ⟨b, off, none⟩) N cap)) rfl rfl (by kernel_rfl) (by kernel_rfl) (by kernel_rfl) (by rfl) (fun _ _ _ h => h) (by assumption) ?_ ?_
        · intro W hW
          go_simp
        simp only [List.setIfInBounds_toArray, List.set_cons_zero, List.set_cons_succ]
        refine held_take 2 20 (v := (.int .i64 (k : Int))) rfl rfl (by kernel_rfl) (by kernel_rfl) (by kernel_rfl) (by rfl) (fun _ _ _ h => h) (by assumption) ?_ ?_
        · intro W hW
          go_simp
        simp only [List.setIfInBounds_toArray, List.set_cons_zero, List.set_cons_succ]
        refine held_take 3 21 (v := (.pointer (some ⟨b, off + k * 2, none⟩))) rfl rfl (by kernel_rfl) (by kernel_rfl) (by kernel_rfl) (by rfl) (fun _ _ _ h => h) (by assumption) ?_ ?_
        · intro W hW
          go_simp
        simp only [List.setIfInBounds_toArray, List.set_cons_zero, List.set_cons_succ]
        refine held_take 4 22 (v := (.pointer (some ⟨b, off + k * 2, none⟩))) rfl rfl (by kernel_rfl) (by kernel_rfl) (by kernel_rfl) (by rfl) (fun _ _ _ h => h) (by assumption) ?_ ?_
        · intro W hW
          go_simp
        simp only [List.setIfInBounds_toArray, List.set_cons_zero, List.set_cons_succ]
        refine held_take 5 23 (v := (.string x)) rfl rfl (by kernel_rfl) (by kernel_rfl) (by kernel_rfl) (by rfl) (fun _ _ _ h => h) (by assumption) ?_ ?_
        · intro W hW
          obtain ⟨c1, c2⟩ := HC.out W hW
          go_simp
        simp only [List.setIfInBounds_toArray, List.set_cons_zero, List.set_cons_succ]
        refine held_take 8 26 (v := (.slice (some ⟨b, off, none⟩) N cap)) rfl rfl (by kernel_rfl) (by kernel_rfl) (by kernel_rfl) (by rfl) (fun _ _ _ h => h) (by assumption) ?_ ?_
        · intro W hW
          go_simp
        simp only [List.setIfInBounds_toArray, List.set_cons_zero, List.set_cons_succ]
        refine held_take 9 27 (v := (.int .i64 (k : Int))) rfl rfl (by kernel_rfl) (by kernel_rfl) (by kernel_rfl) (by rfl) (fun _ _ _ h => h) (by assumption) ?_ ?_
        · intro W hW
          go_simp
        simp only [List.setIfInBounds_toArray, List.set_cons_zero, List.set_cons_succ]
        refine held_take 10 28 (v := (.pointer (some ⟨b, off + k * 2, none⟩))) rfl rfl (by kernel_rfl) (by kernel_rfl) (by kernel_rfl) (by rfl) (fun _ _ _ h => h) (by assumption) ?_ ?_
        · intro W hW
          go_simp
        simp only [List.setIfInBounds_toArray, List.set_cons_zero, List.set_cons_succ]
        refine held_take 11 29 (v := (.pointer (some ⟨b, off + k * 2 + 1, none⟩))) rfl rfl (by kernel_rfl) (by kernel_rfl) (by kernel_rfl) (by rfl) (fun _ _ _ h => h) (by assumption) ?_ ?_
        · intro W hW
          go_simp
        simp only [List.setIfInBounds_toArray, List.set_cons_zero, List.set_cons_succ]
        refine held_take 12 30 (v := (.string y)) rfl rfl (by kernel_rfl) (by kernel_rfl) (by kernel_rfl) (by rfl) (fun _ _ _ h => h) (by assumption) ?_ ?_
        · intro W hW
          obtain ⟨c1, c2⟩ := HC.out W hW
          go_simp
        simp only [List.setIfInBounds_toArray, List.set_cons_zero, List.set_cons_succ]
        refine held_op 6 rfl (by kernel_rfl) (by rfl) ?_
        refine wp_call (f := 42) (args := #[.string x]) rfl (by go_simp) ?_
        refine (P1.out _).mono ?_
        rintro e w3 ⟨A1, k1, rfl, n1, i1, b3⟩
        have o3 : w3.ownsRow w.heap.size 5 1 u3 (upTo ls k).length (by8 (upTo ls k)) := own_keepL (w1 := wr.drew) HI.out.own b3
        have d3 : Below w.heap.size w w3 := HI.out.bel.drew.trans (b3.mono HI.out.bel.size)
        refine ⟨_, rfl, d3, ?_⟩
        simp only [List.setIfInBounds_toArray, List.set_cons_zero, List.set_cons_succ]
        clear b3 P1 HI
        refine held_op 7 rfl (by kernel_rfl) (by rfl) ?_
        refine wp_appB (.tmp 18) (.tmp 24) rfl w.heap.size u3 _ (upTo ls k) rfl o3 A1 _ k1 (putText x) rfl rfl rfl n1 i1 (by omega) d3.size ?_
        intro v4 w4 o4 g4
        have d4 := d3.grown g4 d3.size (own_geL o3)
        refine ⟨d4, ?_⟩
        show wpAnyH _ _ _ _ _ _ _ ⟨Array.setIfInBounds _ 25 v4, _⟩ _
        simp only [List.setIfInBounds_toArray, List.set_cons_zero, List.set_cons_succ]
        refine held_op 13 rfl (by kernel_rfl) (by rfl) ?_
        refine wp_call (f := 42) (args := #[.string y]) rfl (by go_simp) ?_
        refine (P2.out _).mono ?_
        rintro e w5 ⟨A2, k2, rfl, n2, i2, b5⟩
        have o5 := own_keepL o4 b5
        have d5 := d4.trans (b5.mono d4.size)
        refine ⟨_, rfl, d5, ?_⟩
        simp only [List.setIfInBounds_toArray, List.set_cons_zero, List.set_cons_succ]
        clear o4 d4 b5 P2 o3 d3 g4 n1 i1
        refine held_op 14 rfl (by kernel_rfl) (by rfl) ?_
        refine wp_appB (.tmp 25) (.tmp 31) rfl w.heap.size v4 _ (upTo ls k ++ putText x) rfl o5 A2 _ k2 (putText y) rfl (by rw [List.length_append]) rfl n2 i2 (by omega) d5.size ?_
        intro v6 w6 o6 g6
        have d6 := d5.grown g6 d5.size (own_geL o5)
        refine ⟨d6, ?_⟩
        show wpAnyH _ _ _ _ _ _ _ ⟨Array.setIfInBounds _ 32 v6, _⟩ _
        simp only [List.setIfInBounds_toArray, List.set_cons_zero, List.set_cons_succ]
        have I2 : Hid (ByI w ls (k + 1) v6 w6) := ⟨by rw [UK.out, List.length_append, List.length_append]; exact o6, d6⟩
        clear o5 d5 o6 g6 n2 i2
        refine held_take 15 3 (v := v6) rfl rfl (by kernel_rfl) (by kernel_rfl) (by kernel_rfl) (by rfl) (fun _ _ _ h => h) (by assumption) ?_ ?_
        · intro W hW
          go_simp
        simp only [List.setIfInBounds_toArray, List.set_cons_zero, List.set_cons_succ]
        refine wpAnyH_done (by kernel_rfl) ?_ _
        clear d6
        go_wp2
        go_roundw
        case rel => exact ⟨k + 1, by omega, by go_num, I2⟩
        case measure => simp [intOf]; omega
      · obtain rfl : k = N := by omega
        have hkz : ¬ (k : Int) < (k : Int) := by omega
        have R : Hid (MadeBytes w (bytesOf ls) (.returned u3) wr) := by rw [E.out]; exact ⟨_, rfl, HI.out.own, HI.out.bel⟩
        clear HI
        go_wp2
        go_ret
        exact R.out
end Go.Proofs.Ytbfpcolbkfcanaa
