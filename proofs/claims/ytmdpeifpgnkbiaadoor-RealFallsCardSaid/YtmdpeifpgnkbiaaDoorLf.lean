/-
  The law RealFalls over the contracts of package real. Conditions: words have 64 bits; G.
-/
import Derived.Test.YtmdpeifpgnkbiaaDoorLk
import Derived.OwnWalk
namespace Go.Proofs.YtmdpeifpgnkbiaaDoor
open Go.RowKit

theorem Tryd.infoB : (Tryd.prog.info? 4).map (fun i => (i.zero, i.size, i.bytes)) = some (some (.bool false), 1, 1) := by kernel_rfl
/-- Which of n places stand among the first k of r. -/
def seenA (r : List Nat) (n k : Nat) : Array Value := ((List.range n).map fun j => Value.bool (decide (j ∈ r.take k))).toArray
theorem seen_start (r : List Nat) (n : Nat) : seenA r n 0 = (List.replicate n (Value.bool false)).toArray := by
  unfold seenA
  congr 1
  refine List.ext_getElem (by simp) fun i h1 h2 => by simp
theorem seen_at {r : List Nat} {n k q : Nat} (hq : q < n) : (seenA r n k)[q]? = some (.bool (decide (q ∈ r.take k))) := by
  simp [seenA, hq]
theorem seen_step {r : List Nat} {n k q : Nat} (hk : k < r.length) (hq : r.getD k 0 = q) : (seenA r n k).setIfInBounds q (.bool true) = seenA r n (k + 1) := by
  have ht : r.take (k + 1) = r.take k ++ [q] := by rw [Vm.take_snoc r k hk, hq]
  unfold seenA
  rw [List.setIfInBounds_toArray, ht]
  congr 1
  refine List.ext_getElem (by simp) fun i h1 h2 => ?_
  rw [List.getElem_set]
  by_cases e : q = i
  · subst e
    rw [if_pos rfl]
    simp
  · rw [if_neg e]
    have : ¬ i = q := fun h => e h.symm
    simp [this]
theorem own_has {w : World} {base g n : Nat} {xs : List Value} (h : w.ownsRow base 4 1 (.slice (some ⟨g, 0, none⟩) n n) n xs) : Has w g 4 xs.toArray := by
  rcases h.2 with ⟨e, _⟩ | ⟨g', cap, cur, e, _, hg, _, _, hs, ht⟩
  · cases e
  · injection e with e1 e2 e3
    injection e1 with e1; injection e1 with e1 _
    subst e1 e3
    have : xs.toArray = cur := by
      have h1 : cur.toList.take (n * 1) = cur.toList := List.take_of_length_le (by simp; omega)
      rw [h1] at ht
      rw [← ht]
    rw [this]; exact hg
namespace Fm
theorem rank_len {l r : List Nat} (h : IsRank l r) : r.length = l.length := by have := h.1.length_eq; simpa using this
theorem rank_lt {l r : List Nat} (h : IsRank l r) {k : Nat} (hk : k < r.length) : r.getD k 0 < l.length := List.mem_range.1 (h.1.mem_iff.1 (mem_getD hk))
theorem rank_new {l r : List Nat} (h : IsRank l r) {k : Nat} (hk : k < r.length) : r.getD k 0 ∉ r.take k := by
  have nd : r.Nodup := h.1.nodup_iff.2 List.nodup_range
  intro hm
  obtain ⟨j, hj, e⟩ := List.getElem_of_mem hm
  have hj2 : j < k := by simp at hj; omega
  have e2 : r[j]'(by omega) = r[k] := by
    rw [List.getElem_take] at e
    rw [e]; simp [List.getD, List.getElem?_eq_getElem hk]
  exact absurd (List.getElem_inj nd |>.1 e2) (by omega)
theorem rank_next {l r : List Nat} (h : IsRank l r) {p : Nat} (hp : p + 1 < r.length) : R l (r.getD p 0) (r.getD (p + 1) 0) := by
  have := List.pairwise_iff_getElem.1 h.2 p (p + 1) (by omega) hp (by omega)
  simpa [List.getD, List.getElem?_eq_getElem hp, List.getElem?_eq_getElem (show p < r.length by omega)] using this
theorem kk_zero {x : Nat} (h : W x) (e : kk x = 0) : isN x = true := by
  cases n : isN x with
  | true => rfl
  | false => have := key_pos h n; unfold kk at e; rw [n] at e; simp at e; omega
theorem kk_bits {x y : Nat} (hx : bits x = bits y) : kk x = kk y := by
  have hn : isN x = isN y := by rw [← isN_bits x, ← isN_bits y, hx]
  unfold kk key
  rw [hn, hx]
end Fm
section
variable {G : World → Prop}
attribute [local go_sem] Fm.order_eql Fm.order_neq Fm.order_lss Fm.order_gtr Fm.lt_or_eq
set_option maxRecDepth 100000 in
set_option maxHeartbeats 4000000 in
theorem falls_law (C : RealC 60 G) (l : List Nat) (A : Option Addr) (cap : Nat) (w : World) (hl : l.length ≤ maxLen) (hA : A = none → cap = 0) (hcap : l.length ≤ cap) (hw : ∀ x ∈ l, Fm.W x) (hr : IsRow1 w A (fl64 l)) (hG : G w) :
    Gives 11 #[.slice A l.length cap] w (.bool true) := by
  have HC := Lib.hid C
  have HG := Lib.hid hG
  have HR := Lib.hid hr
  have HW := Lib.hid hw
  have HA := Lib.hid hA
  have HCP := Lib.hid hcap
  clear C hG hr hw hA hcap
  unfold Gives
  by_cases h : 60 < l.length
  · have HL := Lib.hid hl
    clear hl
    go_enter Tryd.func11, Tryd.ntmps11
    go_wp2_with fail
    refine (HC.out.runs _ HG.out).mono ?_
    rintro e w3 ⟨rfl, hb3⟩
    go_wp2
    go_ret
    exact ⟨rfl, hb3⟩
  · clear hl
    obtain ⟨i0, hi, hz0, hz1, hz2⟩ := info_parts Tryd.infoB
    go_enter Tryd.func11, Tryd.ntmps11
    go_wp2_with fail
    refine (HC.out.rank l A cap w HG.out (by omega) HW.out HA.out HCP.out HR.out).mono ?_
    rintro e w1 ⟨⟨r, B, c, h1, rfl, hB⟩, b1⟩
    have H1 := Lib.hid h1
    have HB := Lib.hid hB
    have hrl := Fm.rank_len h1
    clear h1 hB
    rw [hrl]
    generalize hn : l.length = n at *
    have HN := Lib.hid hn
    have HRL := Lib.hid hrl
    clear hn hrl
    go_wp2_with (at_make; refine wpList_make_full _ rfl _ _ 47 rfl w1.heap.size 4 i0 (.bool false) 1 Tryd.underlying47 hi hz0 hz1 _ _ _ _ n rfl rfl rfl rfl (by rw [hz2]; omega) (by unfold maxLen; omega) (Nat.le_refl _) ?_)
    intro w2 o2 g2
    have S2 : Has w2 w1.heap.size 4 (seenA r n 0) := by
      have := own_has o2
      rw [toList_madeCells_one, ← seen_start r n] at this
      exact this
    have d2 : Below w1.heap.size w1 w2 := (Below.refl _ _).grown g2 (Nat.le_refl _) (fun _ h => by cases h)
    clear o2 g2
    go_wp2
    generalize hgg : w1.heap.size = gs at *
    go_loopw [5] (fun i wr => ∃ k : Nat, k ≤ n ∧ i = .int .i64 (k : Int) ∧ Has wr gs 4 (seenA r n k) ∧ Below gs w1 wr) (fun i _ => n - (intOf i).toNat)
    case atStart => exact ⟨0, by omega, rfl, S2, d2⟩
    case round =>
      obtain ⟨k, hk, rfl, S, D⟩ := hrel
      clear S2 d2
      by_cases hkn : k < n
      · obtain ⟨bi, oi, rfl, _⟩ := HB.out (by rw [in64_len, HRL.out]; omega)
        obtain ⟨bl, ol, rfl, _⟩ := HR.out (by rw [fl64_len, HN.out]; omega)
        have HBc : Hid (∀ W, Below gs w1 W → ∀ j, j < n → W.cell? ⟨bi, oi + j, none⟩ = some (.int .i64 ((r.getD j 0 : Nat) : Int))) := fun W hW j hj => by
          subst hgg
          obtain ⟨b', o', e, hc'⟩ := (HB.out.below hW) (by rw [in64_len, HRL.out]; omega)
          injection e with e; injection e with e1 e2
          subst e1 e2
          exact in64_cell hc' (by rw [HRL.out]; exact hj)
        have HLc : Hid (∀ W, Below gs w1 W → ∀ j, j < n → W.cell? ⟨bl, ol + j, none⟩ = some (.float .f64 (l.getD j 0))) := fun W hW j hj => by
          subst hgg
          obtain ⟨b', o', e, hc'⟩ := ((HR.out.below b1).below hW) (by rw [fl64_len, HN.out]; omega)
          injection e with e; injection e with e1 e2
          subst e1 e2
          exact fl64_cell hc' (by rw [HN.out]; exact hj)
        have hqn : r.getD k 0 < n := by have := Fm.rank_lt H1.out (k := k) (by rw [HRL.out]; exact hkn); rw [HN.out] at this; exact this
        have cS : wr.cell? ⟨gs, r.getD k 0, none⟩ = some (.bool false) := by
          rw [S.cell, seen_at hqn, decide_eq_false (Fm.rank_new H1.out (by rw [HRL.out]; exact hkn))]
        have c1 := HBc.out wr D k hkn
        have S' : Has (wr.setCell ⟨gs, r.getD k 0, none⟩ (.bool true)) gs 4 (seenA r n (k + 1)) := by
          have := S.stored (r.getD k 0) (.bool true)
          rwa [seen_step (by rw [HRL.out]; exact hkn) rfl] at this
        have D' : Below gs w1 (wr.setCell ⟨gs, r.getD k 0, none⟩ (.bool true)) := D.setCell (Nat.le_refl _) _
        have fz := S.frozen (r.getD k 0)
        have HQ : Hid (r.getD k 0 = r.getD k 0) := by show _ = _; rfl
        generalize hq : r.getD k 0 = q at *
        have hq0 : decide ((q : Int) < 0) = false := decide_eq_false (by omega)
        have hq1 : (q : Int) < (n : Int) := by omega
        have hq2 : ¬ ((n : Int) ≤ (q : Int)) := by omega
        have HQ2 := Lib.hid hq
        clear S HQ hq
        by_cases hk0 : k = 0
        · have keq : ((k : Int) == 0) = true := by rw [beq_iff_eq]; omega
          clear hk0
          go_wp2
          go_roundw
          case rel => exact ⟨k + 1, by omega, by go_num, S', D'⟩
          case measure => simp [intOf]; omega
        · have kne : ((k : Int) == 0) = false := by rw [beq_eq_false_iff_ne]; omega
          obtain ⟨p, hp⟩ : ∃ p, k = p + 1 := ⟨k - 1, by omega⟩
          have hqa : r.getD p 0 < n := by have := Fm.rank_lt H1.out (k := p) (by rw [HRL.out]; omega); rw [HN.out] at this; exact this
          have hR : Fm.R l (r.getD p 0) q := by
            have := Fm.rank_next H1.out (p := p) (by rw [HRL.out]; omega)
            rw [← hp, HQ2.out] at this
            exact this
          have wa : Fm.W (l.getD (r.getD p 0) 0) := HW.out _ (Fm.mem_getD (by rw [HN.out]; exact hqa))
          have wb : Fm.W (l.getD q 0) := HW.out _ (Fm.mem_getD (by rw [HN.out]; exact hqn))
          have i1 : IntKind.i64.wrap ((k : Int) - 1) = (p : Int) := by rw [IntWalk.i64_in _ (by omega)]; omega
          have i2 : (p : Int) < (n : Int) := by omega
          have hpn : p < n := by omega
          have HK2 := Lib.hid hp
          clear hp hk0
          go_wp2_with fail
          clear c1 cS fz
          have HP2 : Hid (∀ W, Below gs w1 W → W.cell? ⟨bi, oi + p, none⟩ = some (.int .i64 ((r.getD p 0 : Nat) : Int))) := fun W hW => HBc.out W hW p hpn
          have HP1 : Hid (∀ W, Below gs w1 W → W.cell? ⟨bi, oi + k, none⟩ = some (.int .i64 (q : Int))) := fun W hW => by rw [HBc.out W hW k hkn, HQ2.out]
          have HL1 : Hid (∀ W, Below gs w1 W → W.cell? ⟨bl, ol + r.getD p 0, none⟩ = some (.float .f64 (l.getD (r.getD p 0) 0))) := fun W hW => HLc.out W hW _ hqa
          have HL2 : Hid (∀ W, Below gs w1 W → W.cell? ⟨bl, ol + q, none⟩ = some (.float .f64 (l.getD q 0))) := fun W hW => HLc.out W hW _ hqn
          have HRR : Hid (Fm.kk (l.getD q 0) < Fm.kk (l.getD (r.getD p 0) 0) ∨ (Fm.kk (l.getD q 0) = Fm.kk (l.getD (r.getD p 0) 0) ∧ r.getD p 0 < q)) := hR
          clear hR
          generalize wr.setCell ⟨gs, q, none⟩ (.bool true) = w3 at S' D' ⊢
          generalize l.getD (r.getD p 0) 0 = a at *
          generalize l.getD q 0 = b at *
          generalize r.getD p 0 = qa at *
          have hqa1 : (qa : Int) < (n : Int) := by omega
          have c1 := HP1.out w3 D'
          have c2 := HP2.out w3 D'
          have c3 := HL1.out w3 D'
          have c4 := HL2.out w3 D'
          go_quiet (fail)
          clear c1 c2 c3 c4
          have S4 := S'.drewN nq
          have D4 : Below gs w1 (w3.drewN nq) := ⟨D'.os, D'.tape, D'.output, D'.size, D'.block⟩
          clear S' D'
          generalize w3.drewN nq = w4 at S4 D4 ⊢
          have QL := Lib.hid (fun w hG => HC.out.less a b w hG wa wb)
          have QA := Lib.hid (fun w hG => HC.out.bits a w hG wa)
          have QB := Lib.hid (fun w hG => HC.out.bits b w hG wb)
          have lk := Fm.less_key wa wb
          have qea : Fm.eq a a = !Fm.isN a := Fm.eq_self a
          have qeb : Fm.eq b b = !Fm.isN b := Fm.eq_self b
          have bw : Below w.heap.size w w4 := by subst hgg; exact b1.trans (D4.mono b1.size)
          have hgs : gs ≤ w4.heap.size := by have := D4.size; subst hgg; exact this
          unfold Gives at QL QA QB
          go_wp2_with fail
          cases na : Fm.isN a
          · have ka : Fm.kk a = Fm.key a := by unfold Fm.kk; rw [na]; rfl
            rw [na] at qea
            simp only [Bool.not_false] at qea
            cases nb : Fm.isN b
            · have kb : Fm.kk b = Fm.key b := by unfold Fm.kk; rw [nb]; rfl
              have lf : Fm.less a b = false := by rw [lk]; have := HRR.out; simp; omega
              rw [nb] at qeb
              simp only [Bool.not_false] at qeb
              rw [lf] at QL
              by_cases eb : Fm.bits a = Fm.bits b
              · have hle : qa ≤ q := (by have := HRR.out; rw [Fm.kk_bits eb] at this; omega)
                rw [eb] at QA
                clear ka kb lf eb lk na nb
                generalize ((Fm.bits b : Nat) : Int) = xb at *
                refine wp_region_held_drew (S := fun W => Below w4.heap.size w4 W) (by kernel_rfl) ((Below.refl _ _).drew) (fun hHeld => ?_)
                refine held_take 0 74 (v := (.float .f64 a)) rfl rfl (by kernel_rfl) (by kernel_rfl) (by kernel_rfl) (by rfl) (fun _ _ _ h => h) (by assumption) ?_ ?_
                · intro W hW
                  go_simp
                simp only [List.setIfInBounds_toArray, List.set_cons_zero, List.set_cons_succ]
                refine held_take 1 75 (v := (.float .f64 a)) rfl rfl (by kernel_rfl) (by kernel_rfl) (by kernel_rfl) (by rfl) (fun _ _ _ h => h) (by assumption) ?_ ?_
                · intro W hW
                  go_simp
                simp only [List.setIfInBounds_toArray, List.set_cons_zero, List.set_cons_succ]
                refine held_take 2 76 (v := (.bool false)) rfl rfl (by kernel_rfl) (by kernel_rfl) (by kernel_rfl) (by rfl) (fun _ _ _ h => h) (by assumption) ?_ ?_
                · intro W hW
                  go_simp
                simp only [List.setIfInBounds_toArray, List.set_cons_zero, List.set_cons_succ]
                refine held_take 3 77 (v := (.bool false)) rfl rfl (by kernel_rfl) (by kernel_rfl) (by kernel_rfl) (by rfl) (fun _ _ _ h => h) (by assumption) ?_ ?_
                · intro W hW
                  go_simp
                simp only [List.setIfInBounds_toArray, List.set_cons_zero, List.set_cons_succ]
                refine held_skip 4 78 rfl rfl (by kernel_rfl) (by kernel_rfl) (by kernel_rfl) (by rfl) (fun _ _ _ h => h) (by assumption) ?_
                simp only [List.setIfInBounds_toArray, List.set_cons_zero, List.set_cons_succ]
                refine held_skip 5 79 rfl rfl (by kernel_rfl) (by kernel_rfl) (by kernel_rfl) (by rfl) (fun _ _ _ h => h) (by assumption) ?_
                simp only [List.setIfInBounds_toArray, List.set_cons_zero, List.set_cons_succ]
                refine held_skip 6 80 rfl rfl (by kernel_rfl) (by kernel_rfl) (by kernel_rfl) (by rfl) (fun _ _ _ h => h) (by assumption) ?_
                simp only [List.setIfInBounds_toArray, List.set_cons_zero, List.set_cons_succ]
                refine held_take 7 81 (v := (.bool false)) rfl rfl (by kernel_rfl) (by kernel_rfl) (by kernel_rfl) (by rfl) (fun _ _ _ h => h) (by assumption) ?_ ?_
                · intro W hW
                  go_simp
                simp only [List.setIfInBounds_toArray, List.set_cons_zero, List.set_cons_succ]
                refine held_take 8 82 (v := (.bool false)) rfl rfl (by kernel_rfl) (by kernel_rfl) (by kernel_rfl) (by rfl) (fun _ _ _ h => h) (by assumption) ?_ ?_
                · intro W hW
                  go_simp
                simp only [List.setIfInBounds_toArray, List.set_cons_zero, List.set_cons_succ]
                refine held_take 9 83 (v := (.float .f64 a)) rfl rfl (by kernel_rfl) (by kernel_rfl) (by kernel_rfl) (by rfl) (fun _ _ _ h => h) (by assumption) ?_ ?_
                · intro W hW
                  go_simp
                simp only [List.setIfInBounds_toArray, List.set_cons_zero, List.set_cons_succ]
                refine held_take 10 84 (v := (.float .f64 a)) rfl rfl (by kernel_rfl) (by kernel_rfl) (by kernel_rfl) (by rfl) (fun _ _ _ h => h) (by assumption) ?_ ?_
                · intro W hW
                  go_simp
                simp only [List.setIfInBounds_toArray, List.set_cons_zero, List.set_cons_succ]
                refine held_take 11 85 (v := (.bool true)) rfl rfl (by kernel_rfl) (by kernel_rfl) (by kernel_rfl) (by rfl) (fun _ _ _ h => h) (by assumption) ?_ ?_
                · intro W hW
                  go_simp
                simp only [List.setIfInBounds_toArray, List.set_cons_zero, List.set_cons_succ]
                refine held_take 12 86 (v := (.bool true)) rfl rfl (by kernel_rfl) (by kernel_rfl) (by kernel_rfl) (by rfl) (fun _ _ _ h => h) (by assumption) ?_ ?_
                · intro W hW
                  go_simp
                simp only [List.setIfInBounds_toArray, List.set_cons_zero, List.set_cons_succ]
                refine held_take 13 87 (v := (.float .f64 b)) rfl rfl (by kernel_rfl) (by kernel_rfl) (by kernel_rfl) (by rfl) (fun _ _ _ h => h) (by assumption) ?_ ?_
                · intro W hW
                  go_simp
                simp only [List.setIfInBounds_toArray, List.set_cons_zero, List.set_cons_succ]
                refine held_take 14 88 (v := (.float .f64 b)) rfl rfl (by kernel_rfl) (by kernel_rfl) (by kernel_rfl) (by rfl) (fun _ _ _ h => h) (by assumption) ?_ ?_
                · intro W hW
                  go_simp
                simp only [List.setIfInBounds_toArray, List.set_cons_zero, List.set_cons_succ]
                refine held_take 15 89 (v := (.bool true)) rfl rfl (by kernel_rfl) (by kernel_rfl) (by kernel_rfl) (by rfl) (fun _ _ _ h => h) (by assumption) ?_ ?_
                · intro W hW
                  go_simp
                simp only [List.setIfInBounds_toArray, List.set_cons_zero, List.set_cons_succ]
                refine held_take 16 90 (v := (.bool true)) rfl rfl (by kernel_rfl) (by kernel_rfl) (by kernel_rfl) (by rfl) (fun _ _ _ h => h) (by assumption) ?_ ?_
                · intro W hW
                  go_simp
                simp only [List.setIfInBounds_toArray, List.set_cons_zero, List.set_cons_succ]
                refine held_take 17 91 (v := (.bool true)) rfl rfl (by kernel_rfl) (by kernel_rfl) (by kernel_rfl) (by rfl) (fun _ _ _ h => h) (by assumption) ?_ ?_
                · intro W hW
                  go_simp
                simp only [List.setIfInBounds_toArray, List.set_cons_zero, List.set_cons_succ]
                refine held_take 18 92 (v := (.float .f64 a)) rfl rfl (by kernel_rfl) (by kernel_rfl) (by kernel_rfl) (by rfl) (fun _ _ _ h => h) (by assumption) ?_ ?_
                · intro W hW
                  go_simp
                simp only [List.setIfInBounds_toArray, List.set_cons_zero, List.set_cons_succ]
                refine held_take 19 93 (v := (.float .f64 b)) rfl rfl (by kernel_rfl) (by kernel_rfl) (by kernel_rfl) (by rfl) (fun _ _ _ h => h) (by assumption) ?_ ?_
                · intro W hW
                  go_simp
                simp only [List.setIfInBounds_toArray, List.set_cons_zero, List.set_cons_succ]
                refine held_call 20 94 (f := 16) (args := #[(.float .f64 a), (.float .f64 b)]) rfl rfl (by kernel_rfl) (by rfl) (by go_simp) ?_
                refine (QL.out _ (HC.out.keep _ _ HG.out (bw.trans (((Below.refl w4.heap.size w4).drew).mono bw.size)))).mono ?_
                rintro e cv1 ⟨rfl, cd1⟩
                have cr1 : Below w4.heap.size w4 cv1 := (Below.refl _ _).drew.trans cd1
                refine ⟨_, rfl, cr1, ?_⟩
                have cheld1 := Below.refl cv1.heap.size cv1
                refine held_more (S' := fun W => Below cv1.heap.size cv1 W) (fun W h => cr1.trans (h.mono cr1.size)) _ _ _ _ ?_
                simp only [List.setIfInBounds_toArray, List.set_cons_zero, List.set_cons_succ]
                refine held_take 21 95 (v := (.bool false)) rfl rfl (by kernel_rfl) (by kernel_rfl) (by kernel_rfl) (by rfl) (fun _ _ _ h => h) (by assumption) ?_ ?_
                · intro W hW
                  go_simp
                simp only [List.setIfInBounds_toArray, List.set_cons_zero, List.set_cons_succ]
                refine held_take 22 96 (v := (.bool false)) rfl rfl (by kernel_rfl) (by kernel_rfl) (by kernel_rfl) (by rfl) (fun _ _ _ h => h) (by assumption) ?_ ?_
                · intro W hW
                  go_simp
                simp only [List.setIfInBounds_toArray, List.set_cons_zero, List.set_cons_succ]
                refine held_take 23 97 (v := (.bool false)) rfl rfl (by kernel_rfl) (by kernel_rfl) (by kernel_rfl) (by rfl) (fun _ _ _ h => h) (by assumption) ?_ ?_
                · intro W hW
                  go_simp
                simp only [List.setIfInBounds_toArray, List.set_cons_zero, List.set_cons_succ]
                refine held_take 24 98 (v := (.float .f64 a)) rfl rfl (by kernel_rfl) (by kernel_rfl) (by kernel_rfl) (by rfl) (fun _ _ _ h => h) (by assumption) ?_ ?_
                · intro W hW
                  go_simp
                simp only [List.setIfInBounds_toArray, List.set_cons_zero, List.set_cons_succ]
                refine held_take 26 100 (v := (.float .f64 b)) rfl rfl (by kernel_rfl) (by kernel_rfl) (by kernel_rfl) (by rfl) (fun _ _ _ h => h) (by assumption) ?_ ?_
                · intro W hW
                  go_simp
                simp only [List.setIfInBounds_toArray, List.set_cons_zero, List.set_cons_succ]
                refine held_call 25 99 (f := 22) (args := #[(.float .f64 a)]) rfl rfl (by kernel_rfl) (by rfl) (by go_simp) ?_
                refine (QA.out _ (HC.out.keep _ _ HG.out (bw.trans (cr1.mono bw.size)))).mono ?_
                rintro e cv2 ⟨rfl, cd2⟩
                have cr2 := cr1.trans (cd2.mono cr1.size)
                refine ⟨_, rfl, cd2, ?_⟩
                have cheld2 := Below.refl cv2.heap.size cv2
                refine held_more (S' := fun W => Below cv2.heap.size cv2 W) (fun W h => cd2.trans (h.mono cd2.size)) _ _ _ _ ?_
                simp only [List.setIfInBounds_toArray, List.set_cons_zero, List.set_cons_succ]
                refine held_call 27 101 (f := 22) (args := #[(.float .f64 b)]) rfl rfl (by kernel_rfl) (by rfl) (by go_simp) ?_
                refine (QB.out _ (HC.out.keep _ _ HG.out (bw.trans (cr2.mono bw.size)))).mono ?_
                rintro e cv3 ⟨rfl, cd3⟩
                have cr3 := cr2.trans (cd3.mono cr2.size)
                refine ⟨_, rfl, cd3, ?_⟩
                have cheld3 := Below.refl cv3.heap.size cv3
                refine held_more (S' := fun W => Below cv3.heap.size cv3 W) (fun W h => cd3.trans (h.mono cd3.size)) _ _ _ _ ?_
                simp only [List.setIfInBounds_toArray, List.set_cons_zero, List.set_cons_succ]
                refine held_take 28 102 (v := (.bool true)) rfl rfl (by kernel_rfl) (by kernel_rfl) (by kernel_rfl) (by rfl) (fun _ _ _ h => h) (by assumption) ?_ ?_
                · intro W hW
                  go_simp
                simp only [List.setIfInBounds_toArray, List.set_cons_zero, List.set_cons_succ]
                refine held_take 29 103 (v := (.bool true)) rfl rfl (by kernel_rfl) (by kernel_rfl) (by kernel_rfl) (by rfl) (fun _ _ _ h => h) (by assumption) ?_ ?_
                · intro W hW
                  go_simp
                simp only [List.setIfInBounds_toArray, List.set_cons_zero, List.set_cons_succ]
                refine held_take 30 104 (v := (.slice (some ⟨bi, oi, none⟩) n c)) rfl rfl (by kernel_rfl) (by kernel_rfl) (by kernel_rfl) (by rfl) (fun _ _ _ h => h) (by assumption) ?_ ?_
                · intro W hW
                  go_simp
                simp only [List.setIfInBounds_toArray, List.set_cons_zero, List.set_cons_succ]
                refine held_take 31 105 (v := (.int .i64 (k : Int))) rfl rfl (by kernel_rfl) (by kernel_rfl) (by kernel_rfl) (by rfl) (fun _ _ _ h => h) (by assumption) ?_ ?_
                · intro W hW
                  go_simp
                simp only [List.setIfInBounds_toArray, List.set_cons_zero, List.set_cons_succ]
                refine held_take 32 106 (v := (.int .i64 (p : Int))) rfl rfl (by kernel_rfl) (by kernel_rfl) (by kernel_rfl) (by rfl) (fun _ _ _ h => h) (by assumption) ?_ ?_
                · intro W hW
                  go_simp
                simp only [List.setIfInBounds_toArray, List.set_cons_zero, List.set_cons_succ]
                refine held_take 33 107 (v := (.pointer (some ⟨bi, oi + p, none⟩))) rfl rfl (by kernel_rfl) (by kernel_rfl) (by kernel_rfl) (by rfl) (fun _ _ _ h => h) (by assumption) ?_ ?_
                · intro W hW
                  go_simp
                simp only [List.setIfInBounds_toArray, List.set_cons_zero, List.set_cons_succ]
                refine held_take 34 108 (v := (.int .i64 (qa : Int))) rfl rfl (by kernel_rfl) (by kernel_rfl) (by kernel_rfl) (by rfl) (fun _ _ _ h => h) (by assumption) ?_ ?_
                · intro W hW
                  have cW := HP2.out W (D4.trans ((cr3.trans (hW.mono cr3.size)).mono hgs))
                  go_simp
                simp only [List.setIfInBounds_toArray, List.set_cons_zero, List.set_cons_succ]
                refine held_take 35 109 (v := (.slice (some ⟨bi, oi, none⟩) n c)) rfl rfl (by kernel_rfl) (by kernel_rfl) (by kernel_rfl) (by rfl) (fun _ _ _ h => h) (by assumption) ?_ ?_
                · intro W hW
                  go_simp
                simp only [List.setIfInBounds_toArray, List.set_cons_zero, List.set_cons_succ]
                refine held_take 36 110 (v := (.int .i64 (k : Int))) rfl rfl (by kernel_rfl) (by kernel_rfl) (by kernel_rfl) (by rfl) (fun _ _ _ h => h) (by assumption) ?_ ?_
                · intro W hW
                  go_simp
                simp only [List.setIfInBounds_toArray, List.set_cons_zero, List.set_cons_succ]
                refine held_take 37 111 (v := (.pointer (some ⟨bi, oi + k, none⟩))) rfl rfl (by kernel_rfl) (by kernel_rfl) (by kernel_rfl) (by rfl) (fun _ _ _ h => h) (by assumption) ?_ ?_
                · intro W hW
                  go_simp
                simp only [List.setIfInBounds_toArray, List.set_cons_zero, List.set_cons_succ]
                refine held_take 38 112 (v := (.int .i64 (q : Int))) rfl rfl (by kernel_rfl) (by kernel_rfl) (by kernel_rfl) (by rfl) (fun _ _ _ h => h) (by assumption) ?_ ?_
                · intro W hW
                  have cW := HP1.out W (D4.trans ((cr3.trans (hW.mono cr3.size)).mono hgs))
                  go_simp
                simp only [List.setIfInBounds_toArray, List.set_cons_zero, List.set_cons_succ]
                refine held_take 39 113 (v := (.bool false)) rfl rfl (by kernel_rfl) (by kernel_rfl) (by kernel_rfl) (by rfl) (fun _ _ _ h => h) (by assumption) ?_ ?_
                · intro W hW
                  go_simp
                simp only [List.setIfInBounds_toArray, List.set_cons_zero, List.set_cons_succ]
                refine held_take 40 114 (v := (.bool false)) rfl rfl (by kernel_rfl) (by kernel_rfl) (by kernel_rfl) (by rfl) (fun _ _ _ h => h) (by assumption) ?_ ?_
                · intro W hW
                  go_simp
                simp only [List.setIfInBounds_toArray, List.set_cons_zero, List.set_cons_succ]
                refine held_take 41 115 (v := (.bool false)) rfl rfl (by kernel_rfl) (by kernel_rfl) (by kernel_rfl) (by rfl) (fun _ _ _ h => h) (by assumption) ?_ ?_
                · intro W hW
                  go_simp
                simp only [List.setIfInBounds_toArray, List.set_cons_zero, List.set_cons_succ]
                refine wpAnyH_done (by kernel_rfl) ?_ _
                have S5 := S4.below cr3 S4.lt
                have D5 := D4.trans (cr3.mono hgs)
                clear QL QA QB
                go_wp2
                go_roundw
                case rel => exact ⟨k + 1, by omega, by go_num, S5, D5⟩
                case measure => simp [intOf]; omega
              · have ne2 : (((Fm.bits a : Nat) : Int) == ((Fm.bits b : Nat) : Int)) = false := by rw [beq_eq_false_iff_ne]; omega
                clear ka kb lf eb lk na nb
                generalize ((Fm.bits a : Nat) : Int) = xa at *
                generalize ((Fm.bits b : Nat) : Int) = xb at *
                refine wp_region_held_drew (S := fun W => Below w4.heap.size w4 W) (by kernel_rfl) ((Below.refl _ _).drew) (fun hHeld => ?_)
                refine held_take 0 74 (v := (.float .f64 a)) rfl rfl (by kernel_rfl) (by kernel_rfl) (by kernel_rfl) (by rfl) (fun _ _ _ h => h) (by assumption) ?_ ?_
                · intro W hW
                  go_simp
                simp only [List.setIfInBounds_toArray, List.set_cons_zero, List.set_cons_succ]
                refine held_take 1 75 (v := (.float .f64 a)) rfl rfl (by kernel_rfl) (by kernel_rfl) (by kernel_rfl) (by rfl) (fun _ _ _ h => h) (by assumption) ?_ ?_
                · intro W hW
                  go_simp
                simp only [List.setIfInBounds_toArray, List.set_cons_zero, List.set_cons_succ]
                refine held_take 2 76 (v := (.bool false)) rfl rfl (by kernel_rfl) (by kernel_rfl) (by kernel_rfl) (by rfl) (fun _ _ _ h => h) (by assumption) ?_ ?_
                · intro W hW
                  go_simp
                simp only [List.setIfInBounds_toArray, List.set_cons_zero, List.set_cons_succ]
                refine held_take 3 77 (v := (.bool false)) rfl rfl (by kernel_rfl) (by kernel_rfl) (by kernel_rfl) (by rfl) (fun _ _ _ h => h) (by assumption) ?_ ?_
                · intro W hW
                  go_simp
                simp only [List.setIfInBounds_toArray, List.set_cons_zero, List.set_cons_succ]
                refine held_skip 4 78 rfl rfl (by kernel_rfl) (by kernel_rfl) (by kernel_rfl) (by rfl) (fun _ _ _ h => h) (by assumption) ?_
                simp only [List.setIfInBounds_toArray, List.set_cons_zero, List.set_cons_succ]
                refine held_skip 5 79 rfl rfl (by kernel_rfl) (by kernel_rfl) (by kernel_rfl) (by rfl) (fun _ _ _ h => h) (by assumption) ?_
                simp only [List.setIfInBounds_toArray, List.set_cons_zero, List.set_cons_succ]
                refine held_skip 6 80 rfl rfl (by kernel_rfl) (by kernel_rfl) (by kernel_rfl) (by rfl) (fun _ _ _ h => h) (by assumption) ?_
                simp only [List.setIfInBounds_toArray, List.set_cons_zero, List.set_cons_succ]
                refine held_take 7 81 (v := (.bool false)) rfl rfl (by kernel_rfl) (by kernel_rfl) (by kernel_rfl) (by rfl) (fun _ _ _ h => h) (by assumption) ?_ ?_
                · intro W hW
                  go_simp
                simp only [List.setIfInBounds_toArray, List.set_cons_zero, List.set_cons_succ]
                refine held_take 8 82 (v := (.bool false)) rfl rfl (by kernel_rfl) (by kernel_rfl) (by kernel_rfl) (by rfl) (fun _ _ _ h => h) (by assumption) ?_ ?_
                · intro W hW
                  go_simp
                simp only [List.setIfInBounds_toArray, List.set_cons_zero, List.set_cons_succ]
                refine held_take 9 83 (v := (.float .f64 a)) rfl rfl (by kernel_rfl) (by kernel_rfl) (by kernel_rfl) (by rfl) (fun _ _ _ h => h) (by assumption) ?_ ?_
                · intro W hW
                  go_simp
                simp only [List.setIfInBounds_toArray, List.set_cons_zero, List.set_cons_succ]
                refine held_take 10 84 (v := (.float .f64 a)) rfl rfl (by kernel_rfl) (by kernel_rfl) (by kernel_rfl) (by rfl) (fun _ _ _ h => h) (by assumption) ?_ ?_
                · intro W hW
                  go_simp
                simp only [List.setIfInBounds_toArray, List.set_cons_zero, List.set_cons_succ]
                refine held_take 11 85 (v := (.bool true)) rfl rfl (by kernel_rfl) (by kernel_rfl) (by kernel_rfl) (by rfl) (fun _ _ _ h => h) (by assumption) ?_ ?_
                · intro W hW
                  go_simp
                simp only [List.setIfInBounds_toArray, List.set_cons_zero, List.set_cons_succ]
                refine held_take 12 86 (v := (.bool true)) rfl rfl (by kernel_rfl) (by kernel_rfl) (by kernel_rfl) (by rfl) (fun _ _ _ h => h) (by assumption) ?_ ?_
                · intro W hW
                  go_simp
                simp only [List.setIfInBounds_toArray, List.set_cons_zero, List.set_cons_succ]
                refine held_take 13 87 (v := (.float .f64 b)) rfl rfl (by kernel_rfl) (by kernel_rfl) (by kernel_rfl) (by rfl) (fun _ _ _ h => h) (by assumption) ?_ ?_
                · intro W hW
                  go_simp
                simp only [List.setIfInBounds_toArray, List.set_cons_zero, List.set_cons_succ]
                refine held_take 14 88 (v := (.float .f64 b)) rfl rfl (by kernel_rfl) (by kernel_rfl) (by kernel_rfl) (by rfl) (fun _ _ _ h => h) (by assumption) ?_ ?_
                · intro W hW
                  go_simp
                simp only [List.setIfInBounds_toArray, List.set_cons_zero, List.set_cons_succ]
                refine held_take 15 89 (v := (.bool true)) rfl rfl (by kernel_rfl) (by kernel_rfl) (by kernel_rfl) (by rfl) (fun _ _ _ h => h) (by assumption) ?_ ?_
                · intro W hW
                  go_simp
                simp only [List.setIfInBounds_toArray, List.set_cons_zero, List.set_cons_succ]
                refine held_take 16 90 (v := (.bool true)) rfl rfl (by kernel_rfl) (by kernel_rfl) (by kernel_rfl) (by rfl) (fun _ _ _ h => h) (by assumption) ?_ ?_
                · intro W hW
                  go_simp
                simp only [List.setIfInBounds_toArray, List.set_cons_zero, List.set_cons_succ]
                refine held_take 17 91 (v := (.bool true)) rfl rfl (by kernel_rfl) (by kernel_rfl) (by kernel_rfl) (by rfl) (fun _ _ _ h => h) (by assumption) ?_ ?_
                · intro W hW
                  go_simp
                simp only [List.setIfInBounds_toArray, List.set_cons_zero, List.set_cons_succ]
                refine held_take 18 92 (v := (.float .f64 a)) rfl rfl (by kernel_rfl) (by kernel_rfl) (by kernel_rfl) (by rfl) (fun _ _ _ h => h) (by assumption) ?_ ?_
                · intro W hW
                  go_simp
                simp only [List.setIfInBounds_toArray, List.set_cons_zero, List.set_cons_succ]
                refine held_take 19 93 (v := (.float .f64 b)) rfl rfl (by kernel_rfl) (by kernel_rfl) (by kernel_rfl) (by rfl) (fun _ _ _ h => h) (by assumption) ?_ ?_
                · intro W hW
                  go_simp
                simp only [List.setIfInBounds_toArray, List.set_cons_zero, List.set_cons_succ]
                refine held_call 20 94 (f := 16) (args := #[(.float .f64 a), (.float .f64 b)]) rfl rfl (by kernel_rfl) (by rfl) (by go_simp) ?_
                refine (QL.out _ (HC.out.keep _ _ HG.out (bw.trans (((Below.refl w4.heap.size w4).drew).mono bw.size)))).mono ?_
                rintro e dv1 ⟨rfl, dd1⟩
                have dr1 : Below w4.heap.size w4 dv1 := (Below.refl _ _).drew.trans dd1
                refine ⟨_, rfl, dr1, ?_⟩
                have dheld1 := Below.refl dv1.heap.size dv1
                refine held_more (S' := fun W => Below dv1.heap.size dv1 W) (fun W h => dr1.trans (h.mono dr1.size)) _ _ _ _ ?_
                simp only [List.setIfInBounds_toArray, List.set_cons_zero, List.set_cons_succ]
                refine held_take 21 95 (v := (.bool false)) rfl rfl (by kernel_rfl) (by kernel_rfl) (by kernel_rfl) (by rfl) (fun _ _ _ h => h) (by assumption) ?_ ?_
                · intro W hW
                  go_simp
                simp only [List.setIfInBounds_toArray, List.set_cons_zero, List.set_cons_succ]
                refine held_take 22 96 (v := (.bool false)) rfl rfl (by kernel_rfl) (by kernel_rfl) (by kernel_rfl) (by rfl) (fun _ _ _ h => h) (by assumption) ?_ ?_
                · intro W hW
                  go_simp
                simp only [List.setIfInBounds_toArray, List.set_cons_zero, List.set_cons_succ]
                refine held_take 23 97 (v := (.bool false)) rfl rfl (by kernel_rfl) (by kernel_rfl) (by kernel_rfl) (by rfl) (fun _ _ _ h => h) (by assumption) ?_ ?_
                · intro W hW
                  go_simp
                simp only [List.setIfInBounds_toArray, List.set_cons_zero, List.set_cons_succ]
                refine held_take 24 98 (v := (.float .f64 a)) rfl rfl (by kernel_rfl) (by kernel_rfl) (by kernel_rfl) (by rfl) (fun _ _ _ h => h) (by assumption) ?_ ?_
                · intro W hW
                  go_simp
                simp only [List.setIfInBounds_toArray, List.set_cons_zero, List.set_cons_succ]
                refine held_take 26 100 (v := (.float .f64 b)) rfl rfl (by kernel_rfl) (by kernel_rfl) (by kernel_rfl) (by rfl) (fun _ _ _ h => h) (by assumption) ?_ ?_
                · intro W hW
                  go_simp
                simp only [List.setIfInBounds_toArray, List.set_cons_zero, List.set_cons_succ]
                refine held_call 25 99 (f := 22) (args := #[(.float .f64 a)]) rfl rfl (by kernel_rfl) (by rfl) (by go_simp) ?_
                refine (QA.out _ (HC.out.keep _ _ HG.out (bw.trans (dr1.mono bw.size)))).mono ?_
                rintro e dv2 ⟨rfl, dd2⟩
                have dr2 := dr1.trans (dd2.mono dr1.size)
                refine ⟨_, rfl, dd2, ?_⟩
                have dheld2 := Below.refl dv2.heap.size dv2
                refine held_more (S' := fun W => Below dv2.heap.size dv2 W) (fun W h => dd2.trans (h.mono dd2.size)) _ _ _ _ ?_
                simp only [List.setIfInBounds_toArray, List.set_cons_zero, List.set_cons_succ]
                refine held_call 27 101 (f := 22) (args := #[(.float .f64 b)]) rfl rfl (by kernel_rfl) (by rfl) (by go_simp) ?_
                refine (QB.out _ (HC.out.keep _ _ HG.out (bw.trans (dr2.mono bw.size)))).mono ?_
                rintro e dv3 ⟨rfl, dd3⟩
                have dr3 := dr2.trans (dd3.mono dr2.size)
                refine ⟨_, rfl, dd3, ?_⟩
                have dheld3 := Below.refl dv3.heap.size dv3
                refine held_more (S' := fun W => Below dv3.heap.size dv3 W) (fun W h => dd3.trans (h.mono dd3.size)) _ _ _ _ ?_
                simp only [List.setIfInBounds_toArray, List.set_cons_zero, List.set_cons_succ]
                refine held_take 28 102 (v := (.bool false)) rfl rfl (by kernel_rfl) (by kernel_rfl) (by kernel_rfl) (by rfl) (fun _ _ _ h => h) (by assumption) ?_ ?_
                · intro W hW
                  go_simp
                simp only [List.setIfInBounds_toArray, List.set_cons_zero, List.set_cons_succ]
                refine held_take 29 103 (v := (.bool false)) rfl rfl (by kernel_rfl) (by kernel_rfl) (by kernel_rfl) (by rfl) (fun _ _ _ h => h) (by assumption) ?_ ?_
                · intro W hW
                  go_simp
                simp only [List.setIfInBounds_toArray, List.set_cons_zero, List.set_cons_succ]
                refine held_skip 30 104 rfl rfl (by kernel_rfl) (by kernel_rfl) (by kernel_rfl) (by rfl) (fun _ _ _ h => h) (by assumption) ?_
                simp only [List.setIfInBounds_toArray, List.set_cons_zero, List.set_cons_succ]
                refine held_skip 31 105 rfl rfl (by kernel_rfl) (by kernel_rfl) (by kernel_rfl) (by rfl) (fun _ _ _ h => h) (by assumption) ?_
                simp only [List.setIfInBounds_toArray, List.set_cons_zero, List.set_cons_succ]
                refine held_skip 32 106 rfl rfl (by kernel_rfl) (by kernel_rfl) (by kernel_rfl) (by rfl) (fun _ _ _ h => h) (by assumption) ?_
                simp only [List.setIfInBounds_toArray, List.set_cons_zero, List.set_cons_succ]
                refine held_skip 33 107 rfl rfl (by kernel_rfl) (by kernel_rfl) (by kernel_rfl) (by rfl) (fun _ _ _ h => h) (by assumption) ?_
                simp only [List.setIfInBounds_toArray, List.set_cons_zero, List.set_cons_succ]
                refine held_skip 34 108 rfl rfl (by kernel_rfl) (by kernel_rfl) (by kernel_rfl) (by rfl) (fun _ _ _ h => h) (by assumption) ?_
                simp only [List.setIfInBounds_toArray, List.set_cons_zero, List.set_cons_succ]
                refine held_skip 35 109 rfl rfl (by kernel_rfl) (by kernel_rfl) (by kernel_rfl) (by rfl) (fun _ _ _ h => h) (by assumption) ?_
                simp only [List.setIfInBounds_toArray, List.set_cons_zero, List.set_cons_succ]
                refine held_skip 36 110 rfl rfl (by kernel_rfl) (by kernel_rfl) (by kernel_rfl) (by rfl) (fun _ _ _ h => h) (by assumption) ?_
                simp only [List.setIfInBounds_toArray, List.set_cons_zero, List.set_cons_succ]
                refine held_skip 37 111 rfl rfl (by kernel_rfl) (by kernel_rfl) (by kernel_rfl) (by rfl) (fun _ _ _ h => h) (by assumption) ?_
                simp only [List.setIfInBounds_toArray, List.set_cons_zero, List.set_cons_succ]
                refine held_skip 38 112 rfl rfl (by kernel_rfl) (by kernel_rfl) (by kernel_rfl) (by rfl) (fun _ _ _ h => h) (by assumption) ?_
                simp only [List.setIfInBounds_toArray, List.set_cons_zero, List.set_cons_succ]
                refine held_skip 39 113 rfl rfl (by kernel_rfl) (by kernel_rfl) (by kernel_rfl) (by rfl) (fun _ _ _ h => h) (by assumption) ?_
                simp only [List.setIfInBounds_toArray, List.set_cons_zero, List.set_cons_succ]
                refine held_take 40 114 (v := (.bool false)) rfl rfl (by kernel_rfl) (by kernel_rfl) (by kernel_rfl) (by rfl) (fun _ _ _ h => h) (by assumption) ?_ ?_
                · intro W hW
                  go_simp
                simp only [List.setIfInBounds_toArray, List.set_cons_zero, List.set_cons_succ]
                refine held_take 41 115 (v := (.bool false)) rfl rfl (by kernel_rfl) (by kernel_rfl) (by kernel_rfl) (by rfl) (fun _ _ _ h => h) (by assumption) ?_ ?_
                · intro W hW
                  go_simp
                simp only [List.setIfInBounds_toArray, List.set_cons_zero, List.set_cons_succ]
                refine wpAnyH_done (by kernel_rfl) ?_ _
                have S5 := S4.below dr3 S4.lt
                have D5 := D4.trans (dr3.mono hgs)
                clear QL QA QB
                go_wp2
                go_roundw
                case rel => exact ⟨k + 1, by omega, by go_num, S5, D5⟩
                case measure => simp [intOf]; omega
            · have eb : Fm.bits a ≠ Fm.bits b := fun e => by
                have h1 := Fm.isN_bits a
                rw [e, Fm.isN_bits b, na, nb] at h1
                cases h1
              have ne2 : (((Fm.bits a : Nat) : Int) == ((Fm.bits b : Nat) : Int)) = false := by rw [beq_eq_false_iff_ne]; omega
              rw [nb] at qeb
              simp only [Bool.not_true] at qeb
              clear ka eb lk na nb
              generalize ((Fm.bits a : Nat) : Int) = xa at *
              generalize ((Fm.bits b : Nat) : Int) = xb at *
              refine wp_region_held_drew (S := fun W => Below w4.heap.size w4 W) (by kernel_rfl) ((Below.refl _ _).drew) (fun hHeld => ?_)
              refine held_take 0 74 (v := (.float .f64 a)) rfl rfl (by kernel_rfl) (by kernel_rfl) (by kernel_rfl) (by rfl) (fun _ _ _ h => h) (by assumption) ?_ ?_
              · intro W hW
                go_simp
              simp only [List.setIfInBounds_toArray, List.set_cons_zero, List.set_cons_succ]
              refine held_take 1 75 (v := (.float .f64 a)) rfl rfl (by kernel_rfl) (by kernel_rfl) (by kernel_rfl) (by rfl) (fun _ _ _ h => h) (by assumption) ?_ ?_
              · intro W hW
                go_simp
              simp only [List.setIfInBounds_toArray, List.set_cons_zero, List.set_cons_succ]
              refine held_take 2 76 (v := (.bool false)) rfl rfl (by kernel_rfl) (by kernel_rfl) (by kernel_rfl) (by rfl) (fun _ _ _ h => h) (by assumption) ?_ ?_
              · intro W hW
                go_simp
              simp only [List.setIfInBounds_toArray, List.set_cons_zero, List.set_cons_succ]
              refine held_take 3 77 (v := (.bool false)) rfl rfl (by kernel_rfl) (by kernel_rfl) (by kernel_rfl) (by rfl) (fun _ _ _ h => h) (by assumption) ?_ ?_
              · intro W hW
                go_simp
              simp only [List.setIfInBounds_toArray, List.set_cons_zero, List.set_cons_succ]
              refine held_skip 4 78 rfl rfl (by kernel_rfl) (by kernel_rfl) (by kernel_rfl) (by rfl) (fun _ _ _ h => h) (by assumption) ?_
              simp only [List.setIfInBounds_toArray, List.set_cons_zero, List.set_cons_succ]
              refine held_skip 5 79 rfl rfl (by kernel_rfl) (by kernel_rfl) (by kernel_rfl) (by rfl) (fun _ _ _ h => h) (by assumption) ?_
              simp only [List.setIfInBounds_toArray, List.set_cons_zero, List.set_cons_succ]
              refine held_skip 6 80 rfl rfl (by kernel_rfl) (by kernel_rfl) (by kernel_rfl) (by rfl) (fun _ _ _ h => h) (by assumption) ?_
              simp only [List.setIfInBounds_toArray, List.set_cons_zero, List.set_cons_succ]
              refine held_take 7 81 (v := (.bool false)) rfl rfl (by kernel_rfl) (by kernel_rfl) (by kernel_rfl) (by rfl) (fun _ _ _ h => h) (by assumption) ?_ ?_
              · intro W hW
                go_simp
              simp only [List.setIfInBounds_toArray, List.set_cons_zero, List.set_cons_succ]
              refine held_take 8 82 (v := (.bool false)) rfl rfl (by kernel_rfl) (by kernel_rfl) (by kernel_rfl) (by rfl) (fun _ _ _ h => h) (by assumption) ?_ ?_
              · intro W hW
                go_simp
              simp only [List.setIfInBounds_toArray, List.set_cons_zero, List.set_cons_succ]
              refine held_take 9 83 (v := (.float .f64 a)) rfl rfl (by kernel_rfl) (by kernel_rfl) (by kernel_rfl) (by rfl) (fun _ _ _ h => h) (by assumption) ?_ ?_
              · intro W hW
                go_simp
              simp only [List.setIfInBounds_toArray, List.set_cons_zero, List.set_cons_succ]
              refine held_take 10 84 (v := (.float .f64 a)) rfl rfl (by kernel_rfl) (by kernel_rfl) (by kernel_rfl) (by rfl) (fun _ _ _ h => h) (by assumption) ?_ ?_
              · intro W hW
                go_simp
              simp only [List.setIfInBounds_toArray, List.set_cons_zero, List.set_cons_succ]
              refine held_take 11 85 (v := (.bool true)) rfl rfl (by kernel_rfl) (by kernel_rfl) (by kernel_rfl) (by rfl) (fun _ _ _ h => h) (by assumption) ?_ ?_
              · intro W hW
                go_simp
              simp only [List.setIfInBounds_toArray, List.set_cons_zero, List.set_cons_succ]
              refine held_take 12 86 (v := (.bool true)) rfl rfl (by kernel_rfl) (by kernel_rfl) (by kernel_rfl) (by rfl) (fun _ _ _ h => h) (by assumption) ?_ ?_
              · intro W hW
                go_simp
              simp only [List.setIfInBounds_toArray, List.set_cons_zero, List.set_cons_succ]
              refine held_take 13 87 (v := (.float .f64 b)) rfl rfl (by kernel_rfl) (by kernel_rfl) (by kernel_rfl) (by rfl) (fun _ _ _ h => h) (by assumption) ?_ ?_
              · intro W hW
                go_simp
              simp only [List.setIfInBounds_toArray, List.set_cons_zero, List.set_cons_succ]
              refine held_take 14 88 (v := (.float .f64 b)) rfl rfl (by kernel_rfl) (by kernel_rfl) (by kernel_rfl) (by rfl) (fun _ _ _ h => h) (by assumption) ?_ ?_
              · intro W hW
                go_simp
              simp only [List.setIfInBounds_toArray, List.set_cons_zero, List.set_cons_succ]
              refine held_take 15 89 (v := (.bool false)) rfl rfl (by kernel_rfl) (by kernel_rfl) (by kernel_rfl) (by rfl) (fun _ _ _ h => h) (by assumption) ?_ ?_
              · intro W hW
                go_simp
              simp only [List.setIfInBounds_toArray, List.set_cons_zero, List.set_cons_succ]
              refine held_take 16 90 (v := (.bool false)) rfl rfl (by kernel_rfl) (by kernel_rfl) (by kernel_rfl) (by rfl) (fun _ _ _ h => h) (by assumption) ?_ ?_
              · intro W hW
                go_simp
              simp only [List.setIfInBounds_toArray, List.set_cons_zero, List.set_cons_succ]
              refine held_take 17 91 (v := (.bool false)) rfl rfl (by kernel_rfl) (by kernel_rfl) (by kernel_rfl) (by rfl) (fun _ _ _ h => h) (by assumption) ?_ ?_
              · intro W hW
                go_simp
              simp only [List.setIfInBounds_toArray, List.set_cons_zero, List.set_cons_succ]
              refine held_skip 18 92 rfl rfl (by kernel_rfl) (by kernel_rfl) (by kernel_rfl) (by rfl) (fun _ _ _ h => h) (by assumption) ?_
              simp only [List.setIfInBounds_toArray, List.set_cons_zero, List.set_cons_succ]
              refine held_skip 19 93 rfl rfl (by kernel_rfl) (by kernel_rfl) (by kernel_rfl) (by rfl) (fun _ _ _ h => h) (by assumption) ?_
              simp only [List.setIfInBounds_toArray, List.set_cons_zero, List.set_cons_succ]
              refine held_skip 20 94 rfl rfl (by kernel_rfl) (by kernel_rfl) (by kernel_rfl) (by rfl) (fun _ _ _ h => h) (by assumption) ?_
              simp only [List.setIfInBounds_toArray, List.set_cons_zero, List.set_cons_succ]
              refine held_take 21 95 (v := (.bool false)) rfl rfl (by kernel_rfl) (by kernel_rfl) (by kernel_rfl) (by rfl) (fun _ _ _ h => h) (by assumption) ?_ ?_
              · intro W hW
                go_simp
              simp only [List.setIfInBounds_toArray, List.set_cons_zero, List.set_cons_succ]
              refine held_take 22 96 (v := (.bool false)) rfl rfl (by kernel_rfl) (by kernel_rfl) (by kernel_rfl) (by rfl) (fun _ _ _ h => h) (by assumption) ?_ ?_
              · intro W hW
                go_simp
              simp only [List.setIfInBounds_toArray, List.set_cons_zero, List.set_cons_succ]
              refine held_take 23 97 (v := (.bool false)) rfl rfl (by kernel_rfl) (by kernel_rfl) (by kernel_rfl) (by rfl) (fun _ _ _ h => h) (by assumption) ?_ ?_
              · intro W hW
                go_simp
              simp only [List.setIfInBounds_toArray, List.set_cons_zero, List.set_cons_succ]
              refine held_take 24 98 (v := (.float .f64 a)) rfl rfl (by kernel_rfl) (by kernel_rfl) (by kernel_rfl) (by rfl) (fun _ _ _ h => h) (by assumption) ?_ ?_
              · intro W hW
                go_simp
              simp only [List.setIfInBounds_toArray, List.set_cons_zero, List.set_cons_succ]
              refine held_take 26 100 (v := (.float .f64 b)) rfl rfl (by kernel_rfl) (by kernel_rfl) (by kernel_rfl) (by rfl) (fun _ _ _ h => h) (by assumption) ?_ ?_
              · intro W hW
                go_simp
              simp only [List.setIfInBounds_toArray, List.set_cons_zero, List.set_cons_succ]
              refine held_call 25 99 (f := 22) (args := #[(.float .f64 a)]) rfl rfl (by kernel_rfl) (by rfl) (by go_simp) ?_
              refine (QA.out _ (HC.out.keep _ _ HG.out (bw.trans (((Below.refl w4.heap.size w4).drew).mono bw.size)))).mono ?_
              rintro e ev1 ⟨rfl, ed1⟩
              have er1 : Below w4.heap.size w4 ev1 := (Below.refl _ _).drew.trans ed1
              refine ⟨_, rfl, er1, ?_⟩
              have eheld1 := Below.refl ev1.heap.size ev1
              refine held_more (S' := fun W => Below ev1.heap.size ev1 W) (fun W h => er1.trans (h.mono er1.size)) _ _ _ _ ?_
              simp only [List.setIfInBounds_toArray, List.set_cons_zero, List.set_cons_succ]
              refine held_call 27 101 (f := 22) (args := #[(.float .f64 b)]) rfl rfl (by kernel_rfl) (by rfl) (by go_simp) ?_
              refine (QB.out _ (HC.out.keep _ _ HG.out (bw.trans (er1.mono bw.size)))).mono ?_
              rintro e ev2 ⟨rfl, ed2⟩
              have er2 := er1.trans (ed2.mono er1.size)
              refine ⟨_, rfl, ed2, ?_⟩
              have eheld2 := Below.refl ev2.heap.size ev2
              refine held_more (S' := fun W => Below ev2.heap.size ev2 W) (fun W h => ed2.trans (h.mono ed2.size)) _ _ _ _ ?_
              simp only [List.setIfInBounds_toArray, List.set_cons_zero, List.set_cons_succ]
              refine held_take 28 102 (v := (.bool false)) rfl rfl (by kernel_rfl) (by kernel_rfl) (by kernel_rfl) (by rfl) (fun _ _ _ h => h) (by assumption) ?_ ?_
              · intro W hW
                go_simp
              simp only [List.setIfInBounds_toArray, List.set_cons_zero, List.set_cons_succ]
              refine held_take 29 103 (v := (.bool false)) rfl rfl (by kernel_rfl) (by kernel_rfl) (by kernel_rfl) (by rfl) (fun _ _ _ h => h) (by assumption) ?_ ?_
              · intro W hW
                go_simp
              simp only [List.setIfInBounds_toArray, List.set_cons_zero, List.set_cons_succ]
              refine held_skip 30 104 rfl rfl (by kernel_rfl) (by kernel_rfl) (by kernel_rfl) (by rfl) (fun _ _ _ h => h) (by assumption) ?_
              simp only [List.setIfInBounds_toArray, List.set_cons_zero, List.set_cons_succ]
              refine held_skip 31 105 rfl rfl (by kernel_rfl) (by kernel_rfl) (by kernel_rfl) (by rfl) (fun _ _ _ h => h) (by assumption) ?_
              simp only [List.setIfInBounds_toArray, List.set_cons_zero, List.set_cons_succ]
              refine held_skip 32 106 rfl rfl (by kernel_rfl) (by kernel_rfl) (by kernel_rfl) (by rfl) (fun _ _ _ h => h) (by assumption) ?_
              simp only [List.setIfInBounds_toArray, List.set_cons_zero, List.set_cons_succ]
              refine held_skip 33 107 rfl rfl (by kernel_rfl) (by kernel_rfl) (by kernel_rfl) (by rfl) (fun _ _ _ h => h) (by assumption) ?_
              simp only [List.setIfInBounds_toArray, List.set_cons_zero, List.set_cons_succ]
              refine held_skip 34 108 rfl rfl (by kernel_rfl) (by kernel_rfl) (by kernel_rfl) (by rfl) (fun _ _ _ h => h) (by assumption) ?_
              simp only [List.setIfInBounds_toArray, List.set_cons_zero, List.set_cons_succ]
              refine held_skip 35 109 rfl rfl (by kernel_rfl) (by kernel_rfl) (by kernel_rfl) (by rfl) (fun _ _ _ h => h) (by assumption) ?_
              simp only [List.setIfInBounds_toArray, List.set_cons_zero, List.set_cons_succ]
              refine held_skip 36 110 rfl rfl (by kernel_rfl) (by kernel_rfl) (by kernel_rfl) (by rfl) (fun _ _ _ h => h) (by assumption) ?_
              simp only [List.setIfInBounds_toArray, List.set_cons_zero, List.set_cons_succ]
              refine held_skip 37 111 rfl rfl (by kernel_rfl) (by kernel_rfl) (by kernel_rfl) (by rfl) (fun _ _ _ h => h) (by assumption) ?_
              simp only [List.setIfInBounds_toArray, List.set_cons_zero, List.set_cons_succ]
              refine held_skip 38 112 rfl rfl (by kernel_rfl) (by kernel_rfl) (by kernel_rfl) (by rfl) (fun _ _ _ h => h) (by assumption) ?_
              simp only [List.setIfInBounds_toArray, List.set_cons_zero, List.set_cons_succ]
              refine held_skip 39 113 rfl rfl (by kernel_rfl) (by kernel_rfl) (by kernel_rfl) (by rfl) (fun _ _ _ h => h) (by assumption) ?_
              simp only [List.setIfInBounds_toArray, List.set_cons_zero, List.set_cons_succ]
              refine held_take 40 114 (v := (.bool false)) rfl rfl (by kernel_rfl) (by kernel_rfl) (by kernel_rfl) (by rfl) (fun _ _ _ h => h) (by assumption) ?_ ?_
              · intro W hW
                go_simp
              simp only [List.setIfInBounds_toArray, List.set_cons_zero, List.set_cons_succ]
              refine held_take 41 115 (v := (.bool false)) rfl rfl (by kernel_rfl) (by kernel_rfl) (by kernel_rfl) (by rfl) (fun _ _ _ h => h) (by assumption) ?_ ?_
              · intro W hW
                go_simp
              simp only [List.setIfInBounds_toArray, List.set_cons_zero, List.set_cons_succ]
              refine wpAnyH_done (by kernel_rfl) ?_ _
              have S5 := S4.below er2 S4.lt
              have D5 := D4.trans (er2.mono hgs)
              clear QL QA QB
              go_wp2
              go_roundw
              case rel => exact ⟨k + 1, by omega, by go_num, S5, D5⟩
              case measure => simp [intOf]; omega
          · have ka : Fm.kk a = 0 := by unfold Fm.kk; rw [na]; rfl
            have kb : Fm.kk b = 0 := by have := HRR.out; omega
            have nb : Fm.isN b = true := Fm.kk_zero wb kb
            have eb : Fm.bits a = Fm.bits b := by unfold Fm.bits; rw [na, nb]; rfl
            have hle : qa ≤ q := (by have := HRR.out; omega)
            rw [na] at qea
            rw [nb] at qeb
            simp only [Bool.not_true] at qea qeb
            rw [eb] at QA
            clear ka kb eb lk na nb
            generalize ((Fm.bits b : Nat) : Int) = xb at *
            refine wp_region_held_drew (S := fun W => Below w4.heap.size w4 W) (by kernel_rfl) ((Below.refl _ _).drew) (fun hHeld => ?_)
            refine held_take 0 74 (v := (.float .f64 a)) rfl rfl (by kernel_rfl) (by kernel_rfl) (by kernel_rfl) (by rfl) (fun _ _ _ h => h) (by assumption) ?_ ?_
            · intro W hW
              go_simp
            simp only [List.setIfInBounds_toArray, List.set_cons_zero, List.set_cons_succ]
            refine held_take 1 75 (v := (.float .f64 a)) rfl rfl (by kernel_rfl) (by kernel_rfl) (by kernel_rfl) (by rfl) (fun _ _ _ h => h) (by assumption) ?_ ?_
            · intro W hW
              go_simp
            simp only [List.setIfInBounds_toArray, List.set_cons_zero, List.set_cons_succ]
            refine held_take 2 76 (v := (.bool true)) rfl rfl (by kernel_rfl) (by kernel_rfl) (by kernel_rfl) (by rfl) (fun _ _ _ h => h) (by assumption) ?_ ?_
            · intro W hW
              go_simp
            simp only [List.setIfInBounds_toArray, List.set_cons_zero, List.set_cons_succ]
            refine held_take 3 77 (v := (.bool true)) rfl rfl (by kernel_rfl) (by kernel_rfl) (by kernel_rfl) (by rfl) (fun _ _ _ h => h) (by assumption) ?_ ?_
            · intro W hW
              go_simp
            simp only [List.setIfInBounds_toArray, List.set_cons_zero, List.set_cons_succ]
            refine held_take 4 78 (v := (.float .f64 b)) rfl rfl (by kernel_rfl) (by kernel_rfl) (by kernel_rfl) (by rfl) (fun _ _ _ h => h) (by assumption) ?_ ?_
            · intro W hW
              go_simp
            simp only [List.setIfInBounds_toArray, List.set_cons_zero, List.set_cons_succ]
            refine held_take 5 79 (v := (.float .f64 b)) rfl rfl (by kernel_rfl) (by kernel_rfl) (by kernel_rfl) (by rfl) (fun _ _ _ h => h) (by assumption) ?_ ?_
            · intro W hW
              go_simp
            simp only [List.setIfInBounds_toArray, List.set_cons_zero, List.set_cons_succ]
            refine held_take 6 80 (v := (.bool false)) rfl rfl (by kernel_rfl) (by kernel_rfl) (by kernel_rfl) (by rfl) (fun _ _ _ h => h) (by assumption) ?_ ?_
            · intro W hW
              go_simp
            simp only [List.setIfInBounds_toArray, List.set_cons_zero, List.set_cons_succ]
            refine held_take 7 81 (v := (.bool false)) rfl rfl (by kernel_rfl) (by kernel_rfl) (by kernel_rfl) (by rfl) (fun _ _ _ h => h) (by assumption) ?_ ?_
            · intro W hW
              go_simp
            simp only [List.setIfInBounds_toArray, List.set_cons_zero, List.set_cons_succ]
            refine held_take 8 82 (v := (.bool false)) rfl rfl (by kernel_rfl) (by kernel_rfl) (by kernel_rfl) (by rfl) (fun _ _ _ h => h) (by assumption) ?_ ?_
            · intro W hW
              go_simp
            simp only [List.setIfInBounds_toArray, List.set_cons_zero, List.set_cons_succ]
            refine held_take 9 83 (v := (.float .f64 a)) rfl rfl (by kernel_rfl) (by kernel_rfl) (by kernel_rfl) (by rfl) (fun _ _ _ h => h) (by assumption) ?_ ?_
            · intro W hW
              go_simp
            simp only [List.setIfInBounds_toArray, List.set_cons_zero, List.set_cons_succ]
            refine held_take 10 84 (v := (.float .f64 a)) rfl rfl (by kernel_rfl) (by kernel_rfl) (by kernel_rfl) (by rfl) (fun _ _ _ h => h) (by assumption) ?_ ?_
            · intro W hW
              go_simp
            simp only [List.setIfInBounds_toArray, List.set_cons_zero, List.set_cons_succ]
            refine held_take 11 85 (v := (.bool false)) rfl rfl (by kernel_rfl) (by kernel_rfl) (by kernel_rfl) (by rfl) (fun _ _ _ h => h) (by assumption) ?_ ?_
            · intro W hW
              go_simp
            simp only [List.setIfInBounds_toArray, List.set_cons_zero, List.set_cons_succ]
            refine held_take 12 86 (v := (.bool false)) rfl rfl (by kernel_rfl) (by kernel_rfl) (by kernel_rfl) (by rfl) (fun _ _ _ h => h) (by assumption) ?_ ?_
            · intro W hW
              go_simp
            simp only [List.setIfInBounds_toArray, List.set_cons_zero, List.set_cons_succ]
            refine held_skip 13 87 rfl rfl (by kernel_rfl) (by kernel_rfl) (by kernel_rfl) (by rfl) (fun _ _ _ h => h) (by assumption) ?_
            simp only [List.setIfInBounds_toArray, List.set_cons_zero, List.set_cons_succ]
            refine held_skip 14 88 rfl rfl (by kernel_rfl) (by kernel_rfl) (by kernel_rfl) (by rfl) (fun _ _ _ h => h) (by assumption) ?_
            simp only [List.setIfInBounds_toArray, List.set_cons_zero, List.set_cons_succ]
            refine held_skip 15 89 rfl rfl (by kernel_rfl) (by kernel_rfl) (by kernel_rfl) (by rfl) (fun _ _ _ h => h) (by assumption) ?_
            simp only [List.setIfInBounds_toArray, List.set_cons_zero, List.set_cons_succ]
            refine held_take 16 90 (v := (.bool false)) rfl rfl (by kernel_rfl) (by kernel_rfl) (by kernel_rfl) (by rfl) (fun _ _ _ h => h) (by assumption) ?_ ?_
            · intro W hW
              go_simp
            simp only [List.setIfInBounds_toArray, List.set_cons_zero, List.set_cons_succ]
            refine held_take 17 91 (v := (.bool false)) rfl rfl (by kernel_rfl) (by kernel_rfl) (by kernel_rfl) (by rfl) (fun _ _ _ h => h) (by assumption) ?_ ?_
            · intro W hW
              go_simp
            simp only [List.setIfInBounds_toArray, List.set_cons_zero, List.set_cons_succ]
            refine held_skip 18 92 rfl rfl (by kernel_rfl) (by kernel_rfl) (by kernel_rfl) (by rfl) (fun _ _ _ h => h) (by assumption) ?_
            simp only [List.setIfInBounds_toArray, List.set_cons_zero, List.set_cons_succ]
            refine held_skip 19 93 rfl rfl (by kernel_rfl) (by kernel_rfl) (by kernel_rfl) (by rfl) (fun _ _ _ h => h) (by assumption) ?_
            simp only [List.setIfInBounds_toArray, List.set_cons_zero, List.set_cons_succ]
            refine held_skip 20 94 rfl rfl (by kernel_rfl) (by kernel_rfl) (by kernel_rfl) (by rfl) (fun _ _ _ h => h) (by assumption) ?_
            simp only [List.setIfInBounds_toArray, List.set_cons_zero, List.set_cons_succ]
            refine held_take 21 95 (v := (.bool false)) rfl rfl (by kernel_rfl) (by kernel_rfl) (by kernel_rfl) (by rfl) (fun _ _ _ h => h) (by assumption) ?_ ?_
            · intro W hW
              go_simp
            simp only [List.setIfInBounds_toArray, List.set_cons_zero, List.set_cons_succ]
            refine held_take 22 96 (v := (.bool false)) rfl rfl (by kernel_rfl) (by kernel_rfl) (by kernel_rfl) (by rfl) (fun _ _ _ h => h) (by assumption) ?_ ?_
            · intro W hW
              go_simp
            simp only [List.setIfInBounds_toArray, List.set_cons_zero, List.set_cons_succ]
            refine held_take 23 97 (v := (.bool false)) rfl rfl (by kernel_rfl) (by kernel_rfl) (by kernel_rfl) (by rfl) (fun _ _ _ h => h) (by assumption) ?_ ?_
            · intro W hW
              go_simp
            simp only [List.setIfInBounds_toArray, List.set_cons_zero, List.set_cons_succ]
            refine held_take 24 98 (v := (.float .f64 a)) rfl rfl (by kernel_rfl) (by kernel_rfl) (by kernel_rfl) (by rfl) (fun _ _ _ h => h) (by assumption) ?_ ?_
            · intro W hW
              go_simp
            simp only [List.setIfInBounds_toArray, List.set_cons_zero, List.set_cons_succ]
            refine held_take 26 100 (v := (.float .f64 b)) rfl rfl (by kernel_rfl) (by kernel_rfl) (by kernel_rfl) (by rfl) (fun _ _ _ h => h) (by assumption) ?_ ?_
            · intro W hW
              go_simp
            simp only [List.setIfInBounds_toArray, List.set_cons_zero, List.set_cons_succ]
            refine held_call 25 99 (f := 22) (args := #[(.float .f64 a)]) rfl rfl (by kernel_rfl) (by rfl) (by go_simp) ?_
            refine (QA.out _ (HC.out.keep _ _ HG.out (bw.trans (((Below.refl w4.heap.size w4).drew).mono bw.size)))).mono ?_
            rintro e fv1 ⟨rfl, fd1⟩
            have fr1 : Below w4.heap.size w4 fv1 := (Below.refl _ _).drew.trans fd1
            refine ⟨_, rfl, fr1, ?_⟩
            have fheld1 := Below.refl fv1.heap.size fv1
            refine held_more (S' := fun W => Below fv1.heap.size fv1 W) (fun W h => fr1.trans (h.mono fr1.size)) _ _ _ _ ?_
            simp only [List.setIfInBounds_toArray, List.set_cons_zero, List.set_cons_succ]
            refine held_call 27 101 (f := 22) (args := #[(.float .f64 b)]) rfl rfl (by kernel_rfl) (by rfl) (by go_simp) ?_
            refine (QB.out _ (HC.out.keep _ _ HG.out (bw.trans (fr1.mono bw.size)))).mono ?_
            rintro e fv2 ⟨rfl, fd2⟩
            have fr2 := fr1.trans (fd2.mono fr1.size)
            refine ⟨_, rfl, fd2, ?_⟩
            have fheld2 := Below.refl fv2.heap.size fv2
            refine held_more (S' := fun W => Below fv2.heap.size fv2 W) (fun W h => fd2.trans (h.mono fd2.size)) _ _ _ _ ?_
            simp only [List.setIfInBounds_toArray, List.set_cons_zero, List.set_cons_succ]
            refine held_take 28 102 (v := (.bool true)) rfl rfl (by kernel_rfl) (by kernel_rfl) (by kernel_rfl) (by rfl) (fun _ _ _ h => h) (by assumption) ?_ ?_
            · intro W hW
              go_simp
            simp only [List.setIfInBounds_toArray, List.set_cons_zero, List.set_cons_succ]
            refine held_take 29 103 (v := (.bool true)) rfl rfl (by kernel_rfl) (by kernel_rfl) (by kernel_rfl) (by rfl) (fun _ _ _ h => h) (by assumption) ?_ ?_
            · intro W hW
              go_simp
            simp only [List.setIfInBounds_toArray, List.set_cons_zero, List.set_cons_succ]
            refine held_take 30 104 (v := (.slice (some ⟨bi, oi, none⟩) n c)) rfl rfl (by kernel_rfl) (by kernel_rfl) (by kernel_rfl) (by rfl) (fun _ _ _ h => h) (by assumption) ?_ ?_
            · intro W hW
              go_simp
            simp only [List.setIfInBounds_toArray, List.set_cons_zero, List.set_cons_succ]
            refine held_take 31 105 (v := (.int .i64 (k : Int))) rfl rfl (by kernel_rfl) (by kernel_rfl) (by kernel_rfl) (by rfl) (fun _ _ _ h => h) (by assumption) ?_ ?_
            · intro W hW
              go_simp
            simp only [List.setIfInBounds_toArray, List.set_cons_zero, List.set_cons_succ]
            refine held_take 32 106 (v := (.int .i64 (p : Int))) rfl rfl (by kernel_rfl) (by kernel_rfl) (by kernel_rfl) (by rfl) (fun _ _ _ h => h) (by assumption) ?_ ?_
            · intro W hW
              go_simp
            simp only [List.setIfInBounds_toArray, List.set_cons_zero, List.set_cons_succ]
            refine held_take 33 107 (v := (.pointer (some ⟨bi, oi + p, none⟩))) rfl rfl (by kernel_rfl) (by kernel_rfl) (by kernel_rfl) (by rfl) (fun _ _ _ h => h) (by assumption) ?_ ?_
            · intro W hW
              go_simp
            simp only [List.setIfInBounds_toArray, List.set_cons_zero, List.set_cons_succ]
            refine held_take 34 108 (v := (.int .i64 (qa : Int))) rfl rfl (by kernel_rfl) (by kernel_rfl) (by kernel_rfl) (by rfl) (fun _ _ _ h => h) (by assumption) ?_ ?_
            · intro W hW
              have cW := HP2.out W (D4.trans ((fr2.trans (hW.mono fr2.size)).mono hgs))
              go_simp
            simp only [List.setIfInBounds_toArray, List.set_cons_zero, List.set_cons_succ]
            refine held_take 35 109 (v := (.slice (some ⟨bi, oi, none⟩) n c)) rfl rfl (by kernel_rfl) (by kernel_rfl) (by kernel_rfl) (by rfl) (fun _ _ _ h => h) (by assumption) ?_ ?_
            · intro W hW
              go_simp
            simp only [List.setIfInBounds_toArray, List.set_cons_zero, List.set_cons_succ]
            refine held_take 36 110 (v := (.int .i64 (k : Int))) rfl rfl (by kernel_rfl) (by kernel_rfl) (by kernel_rfl) (by rfl) (fun _ _ _ h => h) (by assumption) ?_ ?_
            · intro W hW
              go_simp
            simp only [List.setIfInBounds_toArray, List.set_cons_zero, List.set_cons_succ]
            refine held_take 37 111 (v := (.pointer (some ⟨bi, oi + k, none⟩))) rfl rfl (by kernel_rfl) (by kernel_rfl) (by kernel_rfl) (by rfl) (fun _ _ _ h => h) (by assumption) ?_ ?_
            · intro W hW
              go_simp
            simp only [List.setIfInBounds_toArray, List.set_cons_zero, List.set_cons_succ]
            refine held_take 38 112 (v := (.int .i64 (q : Int))) rfl rfl (by kernel_rfl) (by kernel_rfl) (by kernel_rfl) (by rfl) (fun _ _ _ h => h) (by assumption) ?_ ?_
            · intro W hW
              have cW := HP1.out W (D4.trans ((fr2.trans (hW.mono fr2.size)).mono hgs))
              go_simp
            simp only [List.setIfInBounds_toArray, List.set_cons_zero, List.set_cons_succ]
            refine held_take 39 113 (v := (.bool false)) rfl rfl (by kernel_rfl) (by kernel_rfl) (by kernel_rfl) (by rfl) (fun _ _ _ h => h) (by assumption) ?_ ?_
            · intro W hW
              go_simp
            simp only [List.setIfInBounds_toArray, List.set_cons_zero, List.set_cons_succ]
            refine held_take 40 114 (v := (.bool false)) rfl rfl (by kernel_rfl) (by kernel_rfl) (by kernel_rfl) (by rfl) (fun _ _ _ h => h) (by assumption) ?_ ?_
            · intro W hW
              go_simp
            simp only [List.setIfInBounds_toArray, List.set_cons_zero, List.set_cons_succ]
            refine held_take 41 115 (v := (.bool false)) rfl rfl (by kernel_rfl) (by kernel_rfl) (by kernel_rfl) (by rfl) (fun _ _ _ h => h) (by assumption) ?_ ?_
            · intro W hW
              go_simp
            simp only [List.setIfInBounds_toArray, List.set_cons_zero, List.set_cons_succ]
            refine wpAnyH_done (by kernel_rfl) ?_ _
            have S5 := S4.below fr2 S4.lt
            have D5 := D4.trans (fr2.mono hgs)
            clear QL QA QB
            go_wp2
            go_roundw
            case rel => exact ⟨k + 1, by omega, by go_num, S5, D5⟩
            case measure => simp [intOf]; omega

      · obtain rfl : k = n := by omega
        have bb : Below w.heap.size w wr := by
          subst hgg
          exact b1.trans (D.mono b1.size)
        go_wp2_with fail
        refine (HC.out.runs wr (HC.out.keep _ _ HG.out bb)).mono ?_
        rintro e w5 ⟨rfl, b5⟩
        replace bb := bb.trans (b5.mono bb.size)
        clear b5
        go_wp2
        go_ret
        exact ⟨rfl, bb⟩
end
end Go.Proofs.YtmdpeifpgnkbiaaDoor
