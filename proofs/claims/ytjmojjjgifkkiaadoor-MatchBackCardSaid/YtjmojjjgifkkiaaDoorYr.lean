/-
  What readMatcher, Read and the reference's ReadList do: the list that bytes begin with, or that there is none. Conditions: at most 1048576 bytes.
-/
import Derived.Test.YtjmojjjgifkkiaaDoorYq
namespace Go.Proofs.YtjmojjjgifkkiaaDoor
open Go.RowKit Go.Sort

def matRes : Option (Mat × Nat) → Value
  | none => .tuple #[.agg #[.int .i64 0, .string ⟨#[]⟩, .string ⟨#[]⟩], .int .i64 0, .bool false]
  | some (x, j) => .tuple #[.agg #[.int .i64 x.k, .string x.n, .string x.v], .int .i64 (j : Int), .bool true]

set_option maxRecDepth 100000 in
set_option maxHeartbeats 4000000 in
theorem readmat_any (l : List Nat) (N : Nat) (hN : l.length = N) (A : Option Addr) (cap : Nat) (w : World) (hl : N ≤ 1048576) (hc : N ≤ cap) (ha : IsBytes w A l) :
    Calls Tryd.prog 53 #[.slice A N cap] w fun e w' => e = .returned (matRes (readM1 l)) ∧ Below w.heap.size w w' := by
  have HA := Lib.hid ha
  have hlt := Lib.hid ha.1
  have HN := Lib.hid hN
  clear ha hN
  have ba : Below w.heap.size w (w.alloc (.cells #[.int .i64 0, .string ⟨#[]⟩, .string ⟨#[]⟩] 26)) := (Below.refl _ _).alloc (Nat.le_refl _) _
  by_cases h0 : N = 0
  · have R : Hid (readM1 l = none) := readM1_nil (by rw [HN.out]; exact h0)
    subst h0
    go_enter Tryd.func53, Tryd.ntmps53
    go_wp2
    refine bodyPost_ret (v := matRes none) ?_ rfl ?_
    · rw [results_ctt rfl]
      simp only [matRes]
      go_simp
    · exact ⟨by rw [R.out], ba⟩
  have hz0 : ((N : Int) == 0) = false := by simp; omega
  obtain ⟨b, off, rfl, hcell⟩ := HA.out.2 (by rw [HN.out]; omega)
  have S1 := fun W => bcut W b off N cap 1 (by omega)
  have G1 := Lib.hid (fun W (hW : Below w.heap.size w W) => gtext_at (l.drop 1) (N - 1) (by rw [List.length_drop, HN.out]) (cutA b off cap 1) (cap - 1) 12 W (by omega) (by omega) (by omega) (bcut_is (isBytes_below HA.out hW) 1 (by rw [HN.out]; exact hc)))
  have hc1 : ((1 : Nat) : Int) = 1 := rfl
  simp only [hc1] at S1
  cases h1 : Vm.getText (l.drop 1) 12 with
  | none =>
    have R := Lib.hid (readM1_no1 (by rw [HN.out]; omega) h1)
    rw [h1] at G1
    clear h1 hcell
    go_enter Tryd.func53, Tryd.ntmps53
    go_wp2_with fail
    refine (G1.out _ ba).mono ?_
    rintro e w' ⟨rfl, rfl⟩
    simp only [textRes]
    clear G1
    go_wp2
    refine bodyPost_ret (v := matRes none) ?_ rfl ?_
    · rw [results_ctt rfl]
      simp only [matRes]
      go_simp
    · exact ⟨by rw [R.out], ba⟩
  | some q =>
    obtain ⟨t, j⟩ := q
    have gl := La.getText_le h1 (La.drop_byte hlt.out 1)
    rw [List.length_drop, HN.out] at gl
    have S2 := fun W => bcut W b off N cap (1 + j) (by omega)
    have G2 := Lib.hid (fun W (hW : Below w.heap.size w W) => gtext_at (l.drop (1 + j)) (N - (1 + j)) (by rw [List.length_drop, HN.out]) (cutA b off cap (1 + j)) (cap - (1 + j)) 40 W (by omega) (by omega) (by omega) (bcut_is (isBytes_below HA.out hW) (1 + j) (by rw [HN.out]; exact hc)))
    have hc2 : ((1 + j : Nat) : Int) = 1 + (j : Int) := by omega
    simp only [hc2] at S2
    rw [h1] at G1
    have wj : IntKind.i64.wrap (1 + (j : Int)) = 1 + (j : Int) := by rw [IntKind.wrap_i64]; omega
    cases h2 : Vm.getText (l.drop (1 + j)) 40 with
    | none =>
      have R := Lib.hid (readM1_no2 (by rw [HN.out]; omega) h1 h2)
      rw [h2] at G2
      clear h1 h2 hcell
      simp only [textRes] at G1 G2
      generalize strOf t = T at *
      go_enter Tryd.func53, Tryd.ntmps53
      go_wp2_with fail
      refine (G1.out _ ba).mono ?_
      rintro e w' ⟨rfl, rfl⟩
      clear G1
      go_wp2_with fail
      refine (G2.out _ ba).mono ?_
      rintro e w' ⟨rfl, rfl⟩
      clear G2
      go_wp2
      refine bodyPost_ret (v := matRes none) ?_ rfl ?_
      · rw [results_ctt rfl]
        simp only [matRes]
        go_simp
      · exact ⟨by rw [R.out], ba⟩
    | some q =>
      obtain ⟨u, m⟩ := q
      have gl2 := La.getText_le h2 (La.drop_byte hlt.out (1 + j))
      rw [List.length_drop, HN.out] at gl2
      have R := Lib.hid (readM1_yes (by rw [HN.out]; omega) h1 h2)
      rw [h2] at G2
      have c0 := hcell 0 (by rw [HN.out]; omega)
      have cA := cell_grow ba c0
      have HC := Lib.hid cA
      obtain ⟨kb, hkb⟩ : ∃ kb, l.getD 0 0 = kb := ⟨_, rfl⟩
      have hkb2 : kb < 256 := by rw [← hkb]; exact hlt.out 0
      rw [hkb] at HC R
      clear h1 h2 hcell c0 cA hkb
      simp only [textRes] at G1 G2
      generalize strOf t = T at *
      generalize strOf u = U at *
      have BB : Hid (Below w.heap.size w (w.alloc (.cells #[.int .i64 (kb : Int), .string T, .string U] 26))) := (Below.refl _ _).alloc (Nat.le_refl _) _
      have wm : IntKind.i64.wrap (1 + (j : Int) + (m : Int)) = 1 + (j : Int) + (m : Int) := by rw [IntKind.wrap_i64]; omega
      have wk : IntKind.i64.wrap (kb : Int) = (kb : Int) := by rw [IntKind.wrap_i64]; omega
      have hN0 : (0 : Int) < (N : Int) := by omega
      go_enter Tryd.func53, Tryd.ntmps53
      go_wp2_with fail
      refine (G1.out _ ba).mono ?_
      rintro e w' ⟨rfl, rfl⟩
      clear G1
      go_wp2_with fail
      refine (G2.out _ ba).mono ?_
      rintro e w' ⟨rfl, rfl⟩
      clear G2
      have c0 := HC.out
      simp only [Nat.add_zero] at c0
      go_wp2
      refine bodyPost_ret (v := matRes (some (⟨kb, T, U⟩, 1 + j + m))) ?_ rfl ?_
      · rw [results_ctt rfl]
        simp only [matRes]
        go_simp
      · exact ⟨by rw [R.out], BB.out⟩

/-- What Read gives back. -/
def matsRes : Option (List Mat × Nat) → Value → Value → World → World → Prop
  | none, r, _, _, _ => r = .tuple #[.slice none 0 0, .int .i64 0, .bool false]
  | some (l, k), r, v, w, w' => r = .tuple #[v, .int .i64 (k : Int), .bool true] ∧ w'.ownsRow w.heap.size 26 3 v l.length (mc l)
/-- What the loop keeps. -/
structure RdM (w : World) (l : List Nat) (n k : Nat) (acc : List Mat) (p : Nat) (v : Value) (wr : World) : Prop where
  own : wr.ownsRow w.heap.size 26 3 v acc.length (mc acc)
  bel : Below w.heap.size w wr
  rel : ReadRelM l n k acc p
  small : SmallM acc
theorem small_snoc {acc : List Mat} {x : Mat} (h : SmallM acc) (h1 : x.n.size ≤ 12) (h2 : x.v.size ≤ 40) : SmallM (acc ++ [x]) := fun y hy => by
  rcases List.mem_append.1 hy with hy | hy
  · exact h y hy
  · rw [List.mem_singleton] at hy; subst hy; omega

set_option maxRecDepth 100000 in
set_option maxHeartbeats 4000000 in
theorem mread_any (l : List Nat) (A : Option Addr) (N cap : Nat) (w : World) (hN : l.length = N) (hl : N ≤ 1048576) (hc : N ≤ cap) (ha : IsBytes w A l) :
    Calls Tryd.prog 26 #[.slice A N cap] w fun e w' => (∃ r v, e = .returned r ∧ matsRes (readMats l) r v w w') ∧ Below w.heap.size w w' := by
  have CG : Hid (Calls Tryd.prog 52 #[.slice A N cap] w fun e w' => e = .returned (getRes (Vm.dec l)) ∧ w = w') := by subst hN; exact get_any l A cap w (by unfold maxLen; omega) ha
  have HA := Lib.hid ha
  have hlt := Lib.hid ha.1
  have HN := Lib.hid hN
  clear ha hN
  cases hd : Vm.dec l with
  | none =>
    have R := Lib.hid (readMats_none1 hd)
    rw [hd] at CG
    clear hd
    simp only [getRes] at CG
    go_enter Tryd.func26, Tryd.ntmps26
    go_wp2_with fail
    refine CG.out.mono ?_
    rintro e w' ⟨rfl, rfl⟩
    clear CG
    go_wp2
    go_ret3
    exact ⟨⟨_, .bool false, rfl, by rw [R.out]; exact rfl⟩, Below.refl _ _⟩
  | some q =>
    obtain ⟨n, k⟩ := q
    obtain ⟨k1, k2, k3, _⟩ := Vm.dec_ok hd hlt.out
    rw [HN.out] at k2
    rw [hd] at CG
    simp only [getRes] at CG
    by_cases h6 : 5 < n
    · have R := Lib.hid (readMats_many hd h6)
      have h6d : decide ((n : Int) > 5) = true := decide_eq_true (by omega)
      clear hd
      go_enter Tryd.func26, Tryd.ntmps26
      go_wp2_with fail
      refine CG.out.mono ?_
      rintro e w' ⟨rfl, rfl⟩
      clear CG
      go_wp2
      go_ret3
      exact ⟨⟨_, .bool false, rfl, by rw [R.out]; exact rfl⟩, Below.refl _ _⟩
    have h6d : decide ((n : Int) > 5) = false := decide_eq_false (by omega)
    have NO := Lib.hid (readMats_none hd h6)
    have EN := Lib.hid (fun acc p => readMats_end (acc := acc) (p := p) hd h6)
    have I0 : Hid (RdM w l n k [] k (.slice none 0 0) w) := ⟨World.ownsRow_nil _ _ _ _, Below.refl _ _, readRelM_start (by rw [HN.out]; exact k2), fun x hx => by cases hx⟩
    obtain ⟨b, off, rfl, hcell⟩ := HA.out.2 (by rw [HN.out]; omega)
    have wn : IntKind.i64.wrap (n : Int) = (n : Int) := by rw [IntKind.wrap_i64]; omega
    have HCELL := Lib.hid hcell
    clear hd hcell
    go_enter Tryd.func26, Tryd.ntmps26
    go_wp2_with fail
    refine CG.out.mono ?_
    rintro e w' ⟨rfl, rfl⟩
    clear CG
    go_wp2
    clear h6d
    go_loopw [6, 8, 25] (fun a v i wr => ∃ (acc : List Mat) (p m : Nat), acc.length = m ∧ m ≤ n ∧ p ≤ N ∧ a = .int .i64 (p : Int) ∧ i = .int .u64 (m : Int) ∧ Hid (RdM w l n k acc p v wr)) (fun _ _ i _ => n - (intOf i).toNat)
    case atStart => exact ⟨[], k, 0, rfl, by omega, k2, rfl, rfl, I0⟩
    case round =>
      clear I0
      obtain ⟨acc, p, m, hm, hmn, hpN, rfl, rfl, HI⟩ := hrel
      by_cases hlt2 : m < n
      · have hmz : (m : Int) < (n : Int) := by omega
        have SC := fun W => bcut W b off N cap p hpN
        have CR := Lib.hid (readmat_any (l.drop p) (N - p) (by rw [List.length_drop, HN.out]) (cutA b off cap p) (cap - p) wr (by omega) (by omega) (bcut_is (isBytes_below HA.out HI.out.bel) p (by rw [HN.out]; exact hc)))
        cases h1 : readM1 (l.drop p) with
        | none =>
          have R := Lib.hid (NO.out (readRelM_none HI.out.rel (by omega) h1))
          have B := Lib.hid HI.out.bel
          rw [h1] at CR
          simp only [matRes] at CR
          clear h1 HI
          go_wp2_with fail
          refine CR.out.mono ?_
          rintro e w3 ⟨rfl, b3⟩
          have B3 : Hid (Below w.heap.size w (w3.alloc (.cells #[.int .i64 0, .string ⟨#[]⟩, .string ⟨#[]⟩] 26))) := by
            have := B.out.trans (b3.mono B.out.size)
            exact this.alloc this.size _
          clear CR b3
          go_wp2
          go_ret3
          exact ⟨⟨_, .bool false, rfl, by rw [R.out]; exact rfl⟩, B3.out⟩
        | some q =>
          obtain ⟨x, s⟩ := q
          have r2 := readRelM_step hlt.out HI.out.rel (by omega) h1
          obtain ⟨hs1, hs2, z1, z2⟩ := readM1_le h1 (La.drop_byte hlt.out p)
          have hps := r2.2.2.1
          rw [HN.out] at hps
          have RL := Lib.hid r2
          have SM := Lib.hid (small_snoc HI.out.small z1 z2)
          have B := Lib.hid HI.out.bel
          have O := Lib.hid HI.out.own
          rw [hm] at O
          rw [h1] at CR
          simp only [matRes] at CR
          clear h1 HI r2 z1 z2 hs1 hs2
          have wp : IntKind.i64.wrap ((p : Int) + (s : Int)) = (p : Int) + (s : Int) := by rw [IntKind.wrap_i64]; omega
          have wm : IntKind.u64.wrap ((m : Int) + 1) = (m : Int) + 1 := by rw [IntKind.wrap_u64]; omega
          obtain ⟨xk, xn, xv⟩ := x
          simp only at CR
          go_wp2_with fail
          refine CR.out.mono ?_
          rintro e w3 ⟨rfl, b3⟩
          have d3 := B.out.trans (b3.mono B.out.size)
          have o3 := own_keepL O.out b3
          have d4 := d3.alloc d3.size (.cells #[.int .i64 xk, .string xn, .string xv] 26)
          have o4 := o3.alloc (.cells #[.int .i64 xk, .string xn, .string xv] 26)
          have d5 := d4.alloc d4.size (.cells #[.int .i64 xk, .string xn, .string xv] 26)
          have o5 := o4.alloc (.cells #[.int .i64 xk, .string xn, .string xv] 26)
          have lit := lit_mat (w3.alloc (.cells #[.int .i64 xk, .string xn, .string xv] 26)) ⟨xk, xn, xv⟩
          have hsz : (w3.alloc (.cells #[.int .i64 xk, .string xn, .string xv] 26)).heap.size = w3.heap.size + 1 := by simp
          rw [hsz] at lit
          clear CR b3 B O o3 o4 d3 d4 hsz
          go_wp2_with (at_builtin; refine wpList_appM rfl _ _ rfl w.heap.size _ m acc rfl o5 (some ⟨w3.heap.size + 1, 0, none⟩) 1 1 [⟨xk, xn, xv⟩] rfl rfl (fun e => by cases e) lit (by omega) d5.size ?_)
          intro v' w6 o6 g6
          have I2 : Hid (RdM w l n k (acc ++ [⟨xk, xn, xv⟩]) (p + s) v' w6) := ⟨by rw [List.length_append, hm]; exact o6, d5.grown g6 d5.size (own_geL o5), RL.out, SM.out⟩
          clear o5 d5 o6 g6 lit
          go_wp2
          go_roundw
          case rel => exact ⟨acc ++ [⟨xk, xn, xv⟩], p + s, m + 1, by simp [hm], by omega, by omega, by simp, by simp, I2⟩
          case measure => simp [intOf]; omega
      · obtain rfl : m = n := by omega
        have hmz : ¬ (m : Int) < (m : Int) := by omega
        have R := Lib.hid (EN.out acc p HI.out.rel hm)
        obtain ⟨A', c', rfl, _, _, hi, hol⟩ := own_formM HI.out.own
        have CI := Lib.hid (mlist_any acc A' acc.length c' wr rfl (by omega) HI.out.small hi)
        have O := Lib.hid HI.out.own
        have B := Lib.hid HI.out.bel
        rw [hm] at CI O ⊢
        have HM := Lib.hid hm
        clear HI hi hol hm
        cases hb : Mat.isList acc
        · rw [hb] at CI R
          simp only [Bool.false_eq_true, if_false] at R
          clear hb
          go_wp2_with fail
          refine CI.out.mono ?_
          rintro e w' ⟨rfl, bw⟩
          have B2 := Lib.hid (B.out.trans (bw.mono B.out.size))
          clear bw CI
          go_wp2
          go_ret3
          exact ⟨⟨_, .bool false, rfl, by rw [R.out]; exact rfl⟩, B2.out⟩
        · rw [hb] at CI R
          simp only [if_true] at R
          clear hb
          go_wp2_with fail
          refine CI.out.mono ?_
          rintro e w' ⟨rfl, bw⟩
          have B2 := Lib.hid (B.out.trans (bw.mono B.out.size))
          have K2 := Lib.hid (own_keepL O.out bw)
          clear bw CI O
          go_wp2
          go_ret3
          exact ⟨⟨_, _, rfl, by rw [R.out]; exact ⟨rfl, by rw [HM.out]; exact K2.out⟩⟩, B2.out⟩

set_option maxRecDepth 100000 in
set_option maxHeartbeats 4000000 in
theorem rreadlist_any (l : List Nat) (A : Option Addr) (N cap : Nat) (w : World) (hN : l.length = N) (hl : N ≤ 1048576) (hc : N ≤ cap) (ha : IsBytes w A l) :
    Calls Tryd.prog 27 #[.slice A N cap] w fun e w' => (∃ r v, e = .returned r ∧ matsRes (readMats l) r v w w') ∧ Below w.heap.size w w' := by
  have CG : Hid (Calls Tryd.prog 54 #[.slice A N cap] w fun e w' => e = .returned (getRes (Vm.dec l)) ∧ w = w') := by subst hN; exact rget_any l A cap w (by unfold maxLen; omega) ha
  have HA := Lib.hid ha
  have hlt := Lib.hid ha.1
  have HN := Lib.hid hN
  clear ha hN
  cases hd : Vm.dec l with
  | none =>
    have R := Lib.hid (readMats_none1 hd)
    rw [hd] at CG
    clear hd
    simp only [getRes] at CG
    go_enter Tryd.func27, Tryd.ntmps27
    go_wp2_with fail
    refine CG.out.mono ?_
    rintro e w' ⟨rfl, rfl⟩
    clear CG
    go_wp2
    go_ret3
    exact ⟨⟨_, .bool false, rfl, by rw [R.out]; exact rfl⟩, Below.refl _ _⟩
  | some q =>
    obtain ⟨n, k⟩ := q
    obtain ⟨k1, k2, k3, _⟩ := Vm.dec_ok hd hlt.out
    rw [HN.out] at k2
    rw [hd] at CG
    simp only [getRes] at CG
    by_cases h6 : 5 < n
    · have R := Lib.hid (readMats_many hd h6)
      have h6d : decide ((n : Int) > 5) = true := decide_eq_true (by omega)
      clear hd
      go_enter Tryd.func27, Tryd.ntmps27
      go_wp2_with fail
      refine CG.out.mono ?_
      rintro e w' ⟨rfl, rfl⟩
      clear CG
      go_wp2
      go_ret3
      exact ⟨⟨_, .bool false, rfl, by rw [R.out]; exact rfl⟩, Below.refl _ _⟩
    have h6d : decide ((n : Int) > 5) = false := decide_eq_false (by omega)
    have NO := Lib.hid (readMats_none hd h6)
    have EN := Lib.hid (fun acc p => readMats_end (acc := acc) (p := p) hd h6)
    have I0 : Hid (RdM w l n k [] k (.slice none 0 0) w) := ⟨World.ownsRow_nil _ _ _ _, Below.refl _ _, readRelM_start (by rw [HN.out]; exact k2), fun x hx => by cases hx⟩
    obtain ⟨b, off, rfl, hcell⟩ := HA.out.2 (by rw [HN.out]; omega)
    have wn : IntKind.i64.wrap (n : Int) = (n : Int) := by rw [IntKind.wrap_i64]; omega
    have HCELL := Lib.hid hcell
    clear hd hcell
    go_enter Tryd.func27, Tryd.ntmps27
    go_wp2_with fail
    refine CG.out.mono ?_
    rintro e w' ⟨rfl, rfl⟩
    clear CG
    go_wp2
    clear h6d
    go_loopw [6, 8, 9] (fun a v i wr => ∃ (acc : List Mat) (p m : Nat), acc.length = m ∧ m ≤ n ∧ p ≤ N ∧ a = .int .i64 (p : Int) ∧ i = .int .i64 (m : Int) ∧ Hid (RdM w l n k acc p v wr)) (fun _ _ i _ => n - (intOf i).toNat)
    case atStart => exact ⟨[], k, 0, rfl, by omega, k2, rfl, rfl, I0⟩
    case round =>
      clear I0
      obtain ⟨acc, p, m, hm, hmn, hpN, rfl, rfl, HI⟩ := hrel
      by_cases hlt2 : m < n
      · have hmz : (m : Int) < (n : Int) := by omega
        by_cases hpe : N ≤ p
        · have R := Lib.hid (NO.out (readRelM_none HI.out.rel (by omega) (readM1_nil (by rw [List.length_drop, HN.out]; omega))))
          have B := Lib.hid HI.out.bel
          have hpz : decide ((p : Int) ≥ (N : Int)) = true := decide_eq_true (by omega)
          have hpz2 : (N : Int) ≤ (p : Int) := by omega
          clear HI
          go_wp2
          go_ret3
          exact ⟨⟨_, .bool false, rfl, by rw [R.out]; exact rfl⟩, B.out⟩
        have hpz : decide ((p : Int) ≥ (N : Int)) = false := decide_eq_false (by omega)
        have hpz2 : ¬ (N : Int) ≤ (p : Int) := by omega
        have hpz3 : (p : Int) < (N : Int) := by omega
        have h0 : 0 < (l.drop p).length := by rw [List.length_drop, HN.out]; omega
        have cb := cell_grow HI.out.bel (HCELL.out p (by rw [HN.out]; omega))
        obtain ⟨kb, hkb⟩ : ∃ kb, l.getD p 0 = kb := ⟨_, rfl⟩
        have hkb2 : kb < 256 := by rw [← hkb]; exact hlt.out p
        have hkb3 : (l.drop p).getD 0 0 = kb := by rw [← hkb]; simp [List.getD, List.getElem?_drop]
        rw [hkb] at cb
        have wkb : IntKind.i64.wrap (kb : Int) = (kb : Int) := by rw [IntKind.wrap_i64]; omega
        have wp1 : IntKind.i64.wrap ((p : Int) + 1) = (p : Int) + 1 := by rw [IntKind.wrap_i64]; omega
        have SC := fun W => bcut W b off N cap (p + 1) (by omega)
        have ep1 : ((p + 1 : Nat) : Int) = (p : Int) + 1 := by omega
        rw [ep1] at SC
        have IB := Lib.hid (fun q => bcut_is (isBytes_below HA.out HI.out.bel) q (by rw [HN.out]; exact hc))
        have C1 := Lib.hid (rgtext_at (l.drop (p + 1)) (N - (p + 1)) (by rw [List.length_drop, HN.out]) (cutA b off cap (p + 1)) (cap - (p + 1)) 12 wr (by omega) (by omega) (by omega) (IB.out (p + 1)))
        have ED1 : (l.drop p).drop 1 = l.drop (p + 1) := by rw [List.drop_drop]
        cases h1 : Vm.getText (l.drop (p + 1)) 12 with
        | none =>
          have R := Lib.hid (NO.out (readRelM_none HI.out.rel (by omega) (readM1_no1 h0 (by rw [ED1]; exact h1))))
          have B := Lib.hid HI.out.bel
          rw [h1] at C1
          simp only [textRes] at C1
          clear h1 HI hkb hkb3 h0 ED1 ep1
          go_wp2_with fail
          refine C1.out.mono ?_
          rintro e w3 ⟨rfl, rfl⟩
          clear C1
          go_wp2
          go_ret3
          exact ⟨⟨_, .bool false, rfl, by rw [R.out]; exact rfl⟩, B.out⟩
        | some q =>
          obtain ⟨t, j⟩ := q
          have e1 := La.getText_le h1 (La.drop_byte hlt.out (p + 1))
          rw [List.length_drop, HN.out] at e1
          have hpj : p + 1 + j ≤ N := by omega
          have SC2 := fun W => bcut W b off N cap (p + 1 + j) hpj
          have ep : ((p + 1 + j : Nat) : Int) = (p : Int) + 1 + (j : Int) := by omega
          rw [ep] at SC2
          have C2 := Lib.hid (rgtext_at (l.drop (p + 1 + j)) (N - (p + 1 + j)) (by rw [List.length_drop, HN.out]) (cutA b off cap (p + 1 + j)) (cap - (p + 1 + j)) 40 wr (by omega) (by omega) (by omega) (IB.out (p + 1 + j)))
          have ED2 : (l.drop p).drop (1 + j) = l.drop (p + 1 + j) := by rw [List.drop_drop, ← Nat.add_assoc]
          rw [h1] at C1
          simp only [textRes] at C1
          have wpj : IntKind.i64.wrap ((p : Int) + 1 + (j : Int)) = (p : Int) + 1 + (j : Int) := by rw [IntKind.wrap_i64]; omega
          cases h2 : Vm.getText (l.drop (p + 1 + j)) 40 with
          | none =>
            have R := Lib.hid (NO.out (readRelM_none HI.out.rel (by omega) (readM1_no2 h0 (by rw [ED1]; exact h1) (by rw [ED2]; exact h2))))
            have B := Lib.hid HI.out.bel
            rw [h2] at C2
            simp only [textRes] at C2
            clear h1 h2 HI e1 ep ep1 hkb hkb3 h0 ED1 ED2
            generalize strOf t = T at *
            go_wp2_with fail
            refine C1.out.mono ?_
            rintro e w3 ⟨rfl, rfl⟩
            clear C1
            go_wp2_with fail
            refine C2.out.mono ?_
            rintro e w3 ⟨rfl, rfl⟩
            clear C2
            go_wp2
            go_ret3
            exact ⟨⟨_, .bool false, rfl, by rw [R.out]; exact rfl⟩, B.out⟩
          | some q =>
            obtain ⟨u, s⟩ := q
            have e2 := La.getText_le h2 (La.drop_byte hlt.out (p + 1 + j))
            rw [List.length_drop, HN.out] at e2
            have hy := readM1_yes h0 (by rw [ED1]; exact h1) (by rw [ED2]; exact h2)
            rw [hkb3] at hy
            have r2 := readRelM_step hlt.out HI.out.rel (by omega) hy
            obtain ⟨_, _, z1, z2⟩ := readM1_le hy (La.drop_byte hlt.out p)
            have er : p + (1 + j + s) = p + 1 + j + s := by omega
            rw [er] at r2
            have RL := Lib.hid r2
            have SM := Lib.hid (small_snoc HI.out.small z1 z2)
            have B := Lib.hid HI.out.bel
            have O := Lib.hid HI.out.own
            rw [hm] at O
            rw [h2] at C2
            simp only [textRes] at C2
            have hps : p + 1 + j + s ≤ N := by omega
            have hjs : j ≤ 1048576 ∧ s ≤ 1048576 := by omega
            have wps : IntKind.i64.wrap ((p : Int) + 1 + (j : Int) + (s : Int)) = (p : Int) + 1 + (j : Int) + (s : Int) := by rw [IntKind.wrap_i64]; omega
            clear h1 h2 HI e1 e2 z1 z2 ep ep1 hkb hkb3 h0 ED1 ED2 hy r2 er
            generalize strOf t = xn at *
            generalize strOf u = xv at *
            go_wp2_with fail
            refine C1.out.mono ?_
            rintro e w3 ⟨rfl, rfl⟩
            clear C1
            go_wp2_with fail
            refine C2.out.mono ?_
            rintro e w3 ⟨rfl, rfl⟩
            have D5 := Lib.hid (B.out.alloc B.out.size (.cells #[.int .i64 (kb : Int), .string xn, .string xv] 26))
            have O5 := Lib.hid (O.out.alloc (.cells #[.int .i64 (kb : Int), .string xn, .string xv] 26))
            have LIT := Lib.hid (lit_mat wr ⟨(kb : Int), xn, xv⟩)
            clear C2 B O
            go_wp2_with (at_builtin; refine wpList_appM rfl _ _ rfl w.heap.size _ m acc rfl O5.out (some ⟨wr.heap.size, 0, none⟩) 1 1 [⟨(kb : Int), xn, xv⟩] rfl rfl (fun e => by cases e) LIT.out (by omega) D5.out.size ?_)
            intro v' w6 o6 g6
            have I2 : Hid (RdM w l n k (acc ++ [⟨(kb : Int), xn, xv⟩]) (p + 1 + j + s) v' w6) := ⟨by rw [List.length_append, hm]; exact o6, D5.out.grown g6 D5.out.size (own_geL O5.out), RL.out, SM.out⟩
            clear O5 D5 o6 g6 LIT
            go_wp2
            go_roundw
            case rel => exact ⟨acc ++ [⟨(kb : Int), xn, xv⟩], p + 1 + j + s, m + 1, by simp [hm], by omega, by omega, by simp, by go_num, I2⟩
            case measure => simp [intOf]; omega
      · obtain rfl : m = n := by omega
        have hmz : ¬ (m : Int) < (m : Int) := by omega
        have R := Lib.hid (EN.out acc p HI.out.rel hm)
        obtain ⟨A', c', rfl, _, _, hi, hol⟩ := own_formM HI.out.own
        have CI := Lib.hid (rlist_any acc A' acc.length c' wr rfl (by omega) HI.out.small hi)
        have O := Lib.hid HI.out.own
        have B := Lib.hid HI.out.bel
        rw [hm] at CI O ⊢
        have HM := Lib.hid hm
        clear HI hi hol hm
        cases hb : Mat.isList acc
        · rw [hb] at CI R
          simp only [Bool.false_eq_true, if_false] at R
          clear hb
          go_wp2_with fail
          refine CI.out.mono ?_
          rintro e w' ⟨rfl, bw⟩
          have B2 := Lib.hid (B.out.trans (bw.mono B.out.size))
          clear bw CI
          go_wp2
          go_ret3
          exact ⟨⟨_, .bool false, rfl, by rw [R.out]; exact rfl⟩, B2.out⟩
        · rw [hb] at CI R
          simp only [if_true] at R
          clear hb
          go_wp2_with fail
          refine CI.out.mono ?_
          rintro e w' ⟨rfl, bw⟩
          have B2 := Lib.hid (B.out.trans (bw.mono B.out.size))
          have K2 := Lib.hid (own_keepL O.out bw)
          clear bw CI O
          go_wp2
          go_ret3
          exact ⟨⟨_, _, rfl, by rw [R.out]; exact ⟨rfl, by rw [HM.out]; exact K2.out⟩⟩, B2.out⟩
end Go.Proofs.YtjmojjjgifkkiaaDoor
