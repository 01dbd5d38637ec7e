/-
  The law RealWithin over the contracts of package real. Conditions: words have 64 bits; G.
-/
import Derived.Test.YtmdpeifpgnkbiaaDoorLr
import Derived.Test.YtmdpeifpgnkbiaaDoorPu
namespace Go.Proofs.YtmdpeifpgnkbiaaDoor
open Go.RowKit

theorem one3 (a : Bool) (x y : Nat) : #[Value.bool a, .float .f64 x, .float .f64 y].all (·.oneCell') = true := all_oneCell_toArray (cs := [Value.bool a, .float .f64 x, .float .f64 y]) (by intro u hu; simp at hu; rcases hu with rfl | rfl | rfl <;> rfl)
theorem same_below {w w' : World} (h : w' = w) : Below w.heap.size w w' := by subst h; exact Below.refl _ _
namespace Fm
theorem le_self {x y : Nat} (h : le x y = true) : le x x = true ∧ le y y = true := by
  rw [le_iff] at h
  exact ⟨by rw [le_iff]; exact ⟨h.1, h.1, Int.le_refl _⟩, by rw [le_iff]; exact ⟨h.2.1, h.2.1, Int.le_refl _⟩⟩
theorem inb_lo (lo hi : Nat) : inb false lo hi lo = may false lo hi := by
  unfold inb may
  cases h : le lo hi
  · simp
  · simp [(le_self h).1]
theorem inb_hi (lo hi : Nat) : inb false lo hi hi = may false lo hi := by
  unfold inb may
  cases h : le lo hi
  · simp
  · simp [(le_self h).2]
theorem inb_nan (lo hi : Nat) : inb false lo hi nan = false := by
  unfold inb
  have : le lo nan = false := by unfold le; simp [nan_isN]
  simp [this]
theorem inb_any (f : Nat) : inb true 0 0 f = true := by
  unfold inb
  have : may true 0 0 = true := by decide +kernel
  simp [this]
theorem inb_all {f : Nat} : inb false 18442240474082181120 9218868437227405312 f = !isN f := by
  have h1 : may false 18442240474082181120 9218868437227405312 = true := by decide +kernel
  have n1 : isN 18442240474082181120 = false := by decide +kernel
  have n2 : isN 9218868437227405312 = false := by decide +kernel
  have r1 : rk 18442240474082181120 = -9218868437227405312 := by decide +kernel
  have r2 : rk 9218868437227405312 = 9218868437227405312 := by decide +kernel
  unfold inb
  rw [h1]
  cases hn : isN f
  · have hr : rung f ≤ 9218868437227405312 := by
      have : isN f = decide (inf < rung f) := rfl
      rw [hn] at this
      have := of_decide_eq_false this.symm
      unfold inf at this
      omega
    have l1 : le 18442240474082181120 f = true := by rw [le_iff]; refine ⟨n1, hn, ?_⟩; rw [r1]; unfold rk; split <;> omega
    have l2 : le f 9218868437227405312 = true := by rw [le_iff]; refine ⟨hn, n2, ?_⟩; rw [r2]; unfold rk; split <;> omega
    rw [l1, l2]; rfl
  · have l1 : le 18442240474082181120 f = false := by unfold le; simp [hn]
    rw [l1]; rfl
theorem inb_zero (lo hi : Nat) : inb false lo hi 0 = inb false lo hi 9223372036854775808 := by
  have n1 : isN 0 = false := by decide +kernel
  have n2 : isN 9223372036854775808 = false := by decide +kernel
  have r1 : rk 0 = 0 := by decide +kernel
  have r2 : rk 9223372036854775808 = 0 := by decide +kernel
  unfold inb le
  rw [n1, n2, r1, r2]
theorem inb_mid {lo hi f g h : Nat} (p : le f g = true) (q : le g h = true) (i : inb false lo hi f = true) (j : inb false lo hi h = true) : inb false lo hi g = true := by
  unfold inb at *
  simp only [Bool.and_eq_true, Bool.false_or] at *
  rw [le_iff] at *
  obtain ⟨i1, i2, _⟩ := i
  obtain ⟨_, _, j3⟩ := j
  rw [le_iff] at *
  exact ⟨i1, ⟨i2.1, p.2.1, by omega⟩, ⟨p.2.1, j3.2.1, by omega⟩⟩
end Fm
section
variable {K : Nat} {G : World → Prop}
attribute [local go_sem] Fm.order_eql Fm.order_neq Fm.order_lss Fm.order_gtr Fm.lt_or_eq
set_option maxRecDepth 100000 in
set_option maxHeartbeats 4000000 in
theorem within_law (C : RealC K G) (lo hi f g h : Nat) (w : World) (hlo : Fm.W lo) (hhi : Fm.W hi) (hf : Fm.W f) (hg : Fm.W g) (hh : Fm.W h) (hG : G w) : Gives 8 #[.float .f64 lo, .float .f64 hi, .float .f64 f, .float .f64 g, .float .f64 h] w (.bool true) := by
  have W0 : Fm.W 0 := by unfold Fm.W; decide
  have Wm : Fm.W 9223372036854775808 := by unfold Fm.W; decide
  have Wn : Fm.W Fm.nan := by unfold Fm.W Fm.nan; decide
  have Wp : Fm.W 9218868437227405312 := by unfold Fm.W; decide
  have Wq : Fm.W 18442240474082181120 := by unfold Fm.W; decide
  have HK := Lib.hid C.keep
  have HG := Lib.hid hG
  have RU := Lib.hid C.runs
  have QM := Lib.hid (fun w hG => C.may false lo hi w hG hlo hhi)
  have Qn := Lib.hid (fun w hG => C.inb false lo hi Fm.nan w hG hlo hhi Wn)
  have Qa := Lib.hid (fun w hG => C.inb true 0 0 f w hG W0 W0 hf)
  have Qi := Lib.hid (fun w hG => C.inb false 18442240474082181120 9218868437227405312 f w hG Wq Wp hf)
  have Ql := Lib.hid (fun w hG => C.inb false lo hi lo w hG hlo hhi hlo)
  have Qh := Lib.hid (fun w hG => C.inb false lo hi hi w hG hlo hhi hhi)
  have Qz := Lib.hid (fun w hG => C.inb false lo hi 0 w hG hlo hhi W0)
  have Qy := Lib.hid (fun w hG => C.inb false lo hi 9223372036854775808 w hG hlo hhi Wm)
  have Qf := Lib.hid (fun w hG => C.inb false lo hi f w hG hlo hhi hf)
  have Qg := Lib.hid (fun w hG => C.inb false lo hi g w hG hlo hhi hg)
  have Qk := Lib.hid (fun w hG => C.inb false lo hi h w hG hlo hhi hh)
  rw [Fm.inb_nan] at Qn
  rw [Fm.inb_any] at Qa
  rw [Fm.inb_all] at Qi
  rw [Fm.inb_lo] at Ql
  rw [Fm.inb_hi] at Qh
  rw [← Fm.inb_zero] at Qy
  have qf : Fm.eq f f = !Fm.isN f := Fm.eq_self f
  have ql : Fm.eq lo lo = !Fm.isN lo := Fm.eq_self lo
  have qh : Fm.eq hi hi = !Fm.isN hi := Fm.eq_self hi
  have mid := @Fm.inb_mid lo hi f g h
  have HMM : Hid (Fm.may false lo hi = Fm.le lo hi) := by show _ = _; rfl
  clear C hlo hhi hf hg hh hG W0 Wm Wn Wp Wq
  unfold Gives at *
  unfold band at *
  have SZ : Hid ((Tryd.prog.info? 31).map (·.size) = some 3) := by show _ = _; kernel_rfl
  go_enter Tryd.func8, Tryd.ntmps8
  go_wp2_with (refine wpList_store_mid rfl 31 (.tmp 11) (.tmp 15) rfl w.heap.size 0 #[.bool false, .float .f64 lo, .float .f64 hi] rfl rfl (Pu.new_there w 31 [.bool false, .float .f64 0, .float .f64 0] 3 rfl) SZ.out (one3 _ _ _) ?_)
  change Calls _ _ _ ((w.alloc (.cells [Value.bool false, .float .f64 0, .float .f64 0].toArray 31)).setCells w.heap.size 0 #[Value.bool false, .float .f64 lo, .float .f64 hi].toList) _
  have b1 := Pu.new_below w (.cells [Value.bool false, .float .f64 0, .float .f64 0].toArray 31) #[Value.bool false, .float .f64 lo, .float .f64 hi].toList
  have F1 := Pu.new_has w 31 [Value.bool false, .float .f64 0, .float .f64 0] #[Value.bool false, .float .f64 lo, .float .f64 hi] rfl
  generalize (w.alloc (.cells [Value.bool false, .float .f64 0, .float .f64 0].toArray 31)).setCells w.heap.size 0 #[Value.bool false, .float .f64 lo, .float .f64 hi].toList = w1 at b1 F1 ⊢
  refine (inf_minus _).mono ?_
  rintro e wi ⟨rfl, rfl⟩
  go_wp2_with fail
  refine (inf_plus _).mono ?_
  rintro e w1 ⟨rfl, rfl⟩
  go_wp2_with (refine wpList_store_mid rfl 31 (.tmp 12) (.tmp 18) rfl w1.heap.size 0 #[.bool false, .float .f64 18442240474082181120, .float .f64 9218868437227405312] rfl rfl (Pu.new_there w1 31 [.bool false, .float .f64 0, .float .f64 0] 3 rfl) SZ.out (one3 _ _ _) ?_)
  change Code.wp _ _ _ _ ((w1.alloc (.cells [Value.bool false, .float .f64 0, .float .f64 0].toArray 31)).setCells w1.heap.size 0 #[Value.bool false, .float .f64 18442240474082181120, .float .f64 9218868437227405312].toList)
  have b2 := Pu.new_below w1 (.cells [Value.bool false, .float .f64 0, .float .f64 0].toArray 31) #[Value.bool false, .float .f64 18442240474082181120, .float .f64 9218868437227405312].toList
  have F2 := Lib.hid (Pu.new_has w1 31 [Value.bool false, .float .f64 0, .float .f64 0] #[Value.bool false, .float .f64 18442240474082181120, .float .f64 9218868437227405312] rfl)
  replace F1 := Lib.hid (F1.below b2 F1.lt)
  have b0 := b1.trans (b2.mono b1.size)
  clear b1 b2
  generalize (w1.alloc (.cells [Value.bool false, .float .f64 0, .float .f64 0].toArray 31)).setCells w1.heap.size 0 #[Value.bool false, .float .f64 18442240474082181120, .float .f64 9218868437227405312].toList = w2 at F1 F2 b0 ⊢
  generalize w1.heap.size = g2 at F2 ⊢
  refine wp_region_held_drew (S := fun W => Below w2.heap.size w2 W) (by kernel_rfl) ((Below.refl _ _).drew) (fun hHeld => ?_)
  refine held_take 0 19 (v := (.agg #[.bool false, .float .f64 lo, .float .f64 hi])) rfl rfl (by kernel_rfl) (by kernel_rfl) (by kernel_rfl) (by rfl) (fun _ _ _ h => h) (by assumption) ?_ ?_
  · intro W hW
    have F := F1.out.below (by exact hW) F1.out.lt
    have c0 : W.cell? ⟨w.heap.size, 0, none⟩ = some (.bool false) := by rw [F.cell]; rfl
    have c1 : W.cell? ⟨w.heap.size, 1, none⟩ = some (.float .f64 lo) := by rw [F.cell]; rfl
    have c2 : W.cell? ⟨w.heap.size, 2, none⟩ = some (.float .f64 hi) := by rw [F.cell]; rfl
    clear F
    go_simp
  simp only [List.setIfInBounds_toArray, List.set_cons_zero, List.set_cons_succ]
  refine held_call 1 20 (f := 15) (args := #[]) rfl rfl (by kernel_rfl) (by rfl) (by go_simp) ?_
  refine (nan_any _).mono ?_
  rintro e av1 ⟨rfl, ad1⟩
  replace ad1 := same_below ad1
  have ar1 : Below w2.heap.size w2 av1 := (Below.refl _ _).drew.trans ad1
  refine ⟨_, rfl, ar1, ?_⟩
  have aheld1 := Below.refl av1.heap.size av1
  refine held_more (S' := fun W => Below av1.heap.size av1 W) (fun W h => ar1.trans (h.mono ar1.size)) _ _ _ _ ?_
  simp only [List.setIfInBounds_toArray, List.set_cons_zero, List.set_cons_succ]
  refine held_call 2 21 (f := 17) (args := #[(.agg #[.bool false, .float .f64 lo, .float .f64 hi]), .float .f64 Fm.nan]) rfl rfl (by kernel_rfl) (by rfl) (by go_simp) ?_
  refine (Qn.out _ (HK.out _ _ HG.out (b0.trans (ar1.mono b0.size)))).mono ?_
  rintro e av2 ⟨rfl, ad2⟩
  have ar2 := ar1.trans (ad2.mono ar1.size)
  refine ⟨_, rfl, ad2, ?_⟩
  have aheld2 := Below.refl av2.heap.size av2
  refine held_more (S' := fun W => Below av2.heap.size av2 W) (fun W h => ad2.trans (h.mono ad2.size)) _ _ _ _ ?_
  simp only [List.setIfInBounds_toArray, List.set_cons_zero, List.set_cons_succ]
  refine held_take 3 22 (v := (.bool false)) rfl rfl (by kernel_rfl) (by kernel_rfl) (by kernel_rfl) (by rfl) (fun _ _ _ h => h) (by assumption) ?_ ?_
  · intro W hW
    go_simp
  simp only [List.setIfInBounds_toArray, List.set_cons_zero, List.set_cons_succ]
  refine held_take 4 23 (v := (.agg #[.bool true, .float .f64 0, .float .f64 0])) rfl rfl (by kernel_rfl) (by kernel_rfl) (by kernel_rfl) (by rfl) (fun _ _ _ h => h) (by assumption) ?_ ?_
  · intro W hW
    go_simp
  simp only [List.setIfInBounds_toArray, List.set_cons_zero, List.set_cons_succ]
  refine held_take 5 24 (v := (.float .f64 f)) rfl rfl (by kernel_rfl) (by kernel_rfl) (by kernel_rfl) (by rfl) (fun _ _ _ h => h) (by assumption) ?_ ?_
  · intro W hW
    go_simp
  simp only [List.setIfInBounds_toArray, List.set_cons_zero, List.set_cons_succ]
  refine held_call 6 25 (f := 17) (args := #[(.agg #[.bool true, .float .f64 0, .float .f64 0]), .float .f64 f]) rfl rfl (by kernel_rfl) (by rfl) (by go_simp) ?_
  refine (Qa.out _ (HK.out _ _ HG.out (b0.trans (ar2.mono b0.size)))).mono ?_
  rintro e av3 ⟨rfl, ad3⟩
  have ar3 := ar2.trans (ad3.mono ar2.size)
  refine ⟨_, rfl, ad3, ?_⟩
  have aheld3 := Below.refl av3.heap.size av3
  refine held_more (S' := fun W => Below av3.heap.size av3 W) (fun W h => ad3.trans (h.mono ad3.size)) _ _ _ _ ?_
  simp only [List.setIfInBounds_toArray, List.set_cons_zero, List.set_cons_succ]
  refine held_take 7 26 (v := (.bool false)) rfl rfl (by kernel_rfl) (by kernel_rfl) (by kernel_rfl) (by rfl) (fun _ _ _ h => h) (by assumption) ?_ ?_
  · intro W hW
    go_simp
  simp only [List.setIfInBounds_toArray, List.set_cons_zero, List.set_cons_succ]
  refine held_take 8 27 (v := (.bool false)) rfl rfl (by kernel_rfl) (by kernel_rfl) (by kernel_rfl) (by rfl) (fun _ _ _ h => h) (by assumption) ?_ ?_
  · intro W hW
    go_simp
  simp only [List.setIfInBounds_toArray, List.set_cons_zero, List.set_cons_succ]
  refine held_take 9 28 (v := (.bool false)) rfl rfl (by kernel_rfl) (by kernel_rfl) (by kernel_rfl) (by rfl) (fun _ _ _ h => h) (by assumption) ?_ ?_
  · intro W hW
    go_simp
  simp only [List.setIfInBounds_toArray, List.set_cons_zero, List.set_cons_succ]
  refine held_take 10 29 (v := (.agg #[.bool false, .float .f64 18442240474082181120, .float .f64 9218868437227405312])) rfl rfl (by kernel_rfl) (by kernel_rfl) (by kernel_rfl) (by rfl) (fun _ _ _ h => h) (by assumption) ?_ ?_
  · intro W hW
    have F := F2.out.below (by exact (ar3.trans (hW.mono ar3.size))) F2.out.lt
    have c0 : W.cell? ⟨g2, 0, none⟩ = some (.bool false) := by rw [F.cell]; rfl
    have c1 : W.cell? ⟨g2, 1, none⟩ = some (.float .f64 18442240474082181120) := by rw [F.cell]; rfl
    have c2 : W.cell? ⟨g2, 2, none⟩ = some (.float .f64 9218868437227405312) := by rw [F.cell]; rfl
    clear F
    go_simp
  simp only [List.setIfInBounds_toArray, List.set_cons_zero, List.set_cons_succ]
  refine held_take 11 30 (v := (.float .f64 f)) rfl rfl (by kernel_rfl) (by kernel_rfl) (by kernel_rfl) (by rfl) (fun _ _ _ h => h) (by assumption) ?_ ?_
  · intro W hW
    go_simp
  simp only [List.setIfInBounds_toArray, List.set_cons_zero, List.set_cons_succ]
  refine held_take 13 32 (v := (.float .f64 f)) rfl rfl (by kernel_rfl) (by kernel_rfl) (by kernel_rfl) (by rfl) (fun _ _ _ h => h) (by assumption) ?_ ?_
  · intro W hW
    go_simp
  simp only [List.setIfInBounds_toArray, List.set_cons_zero, List.set_cons_succ]
  refine held_take 14 33 (v := (.float .f64 f)) rfl rfl (by kernel_rfl) (by kernel_rfl) (by kernel_rfl) (by rfl) (fun _ _ _ h => h) (by assumption) ?_ ?_
  · intro W hW
    go_simp
  simp only [List.setIfInBounds_toArray, List.set_cons_zero, List.set_cons_succ]
  refine held_take 15 34 (v := (.bool (!Fm.isN f))) rfl rfl (by kernel_rfl) (by kernel_rfl) (by kernel_rfl) (by rfl) (fun _ _ _ h => h) (by assumption) ?_ ?_
  · intro W hW
    go_simp
  simp only [List.setIfInBounds_toArray, List.set_cons_zero, List.set_cons_succ]
  refine held_call 12 31 (f := 17) (args := #[(.agg #[.bool false, .float .f64 18442240474082181120, .float .f64 9218868437227405312]), .float .f64 f]) rfl rfl (by kernel_rfl) (by rfl) (by go_simp) ?_
  refine (Qi.out _ (HK.out _ _ HG.out (b0.trans (ar3.mono b0.size)))).mono ?_
  rintro e av4 ⟨rfl, ad4⟩
  have ar4 := ar3.trans (ad4.mono ar3.size)
  refine ⟨_, rfl, ad4, ?_⟩
  have aheld4 := Below.refl av4.heap.size av4
  refine held_more (S' := fun W => Below av4.heap.size av4 W) (fun W h => ad4.trans (h.mono ad4.size)) _ _ _ _ ?_
  simp only [List.setIfInBounds_toArray, List.set_cons_zero, List.set_cons_succ]
  refine held_take 16 35 (v := (.bool false)) rfl rfl (by kernel_rfl) (by kernel_rfl) (by kernel_rfl) (by rfl) (fun _ _ _ h => h) (by assumption) ?_ ?_
  · intro W hW
    go_simp
  simp only [List.setIfInBounds_toArray, List.set_cons_zero, List.set_cons_succ]
  refine held_take 17 36 (v := (.bool false)) rfl rfl (by kernel_rfl) (by kernel_rfl) (by kernel_rfl) (by rfl) (fun _ _ _ h => h) (by assumption) ?_ ?_
  · intro W hW
    go_simp
  simp only [List.setIfInBounds_toArray, List.set_cons_zero, List.set_cons_succ]
  refine wpAnyH_done (by kernel_rfl) ?_ _
  have b3 := b0.trans (ar4.mono b0.size)
  have G1 := Lib.hid (F1.out.below ar4 F1.out.lt)
  clear F1 F2 b0
  generalize av4 = w3 at b3 G1 ⊢
  go_wp2_with fail
  refine wp_region_held_drew (S := fun W => Below w3.heap.size w3 W) (by kernel_rfl) ((Below.refl _ _).drew) (fun hHeld => ?_)
  refine held_take 0 37 (v := (.agg #[.bool false, .float .f64 lo, .float .f64 hi])) rfl rfl (by kernel_rfl) (by kernel_rfl) (by kernel_rfl) (by rfl) (fun _ _ _ h => h) (by assumption) ?_ ?_
  · intro W hW
    have F := G1.out.below (by exact hW) G1.out.lt
    have c0 : W.cell? ⟨w.heap.size, 0, none⟩ = some (.bool false) := by rw [F.cell]; rfl
    have c1 : W.cell? ⟨w.heap.size, 1, none⟩ = some (.float .f64 lo) := by rw [F.cell]; rfl
    have c2 : W.cell? ⟨w.heap.size, 2, none⟩ = some (.float .f64 hi) := by rw [F.cell]; rfl
    clear F
    go_simp
  simp only [List.setIfInBounds_toArray, List.set_cons_zero, List.set_cons_succ]
  refine held_take 2 39 (v := (.agg #[.bool false, .float .f64 lo, .float .f64 hi])) rfl rfl (by kernel_rfl) (by kernel_rfl) (by kernel_rfl) (by rfl) (fun _ _ _ h => h) (by assumption) ?_ ?_
  · intro W hW
    have F := G1.out.below (by exact hW) G1.out.lt
    have c0 : W.cell? ⟨w.heap.size, 0, none⟩ = some (.bool false) := by rw [F.cell]; rfl
    have c1 : W.cell? ⟨w.heap.size, 1, none⟩ = some (.float .f64 lo) := by rw [F.cell]; rfl
    have c2 : W.cell? ⟨w.heap.size, 2, none⟩ = some (.float .f64 hi) := by rw [F.cell]; rfl
    clear F
    go_simp
  simp only [List.setIfInBounds_toArray, List.set_cons_zero, List.set_cons_succ]
  refine held_take 3 40 (v := (.float .f64 lo)) rfl rfl (by kernel_rfl) (by kernel_rfl) (by kernel_rfl) (by rfl) (fun _ _ _ h => h) (by assumption) ?_ ?_
  · intro W hW
    go_simp
  simp only [List.setIfInBounds_toArray, List.set_cons_zero, List.set_cons_succ]
  refine held_call 1 38 (f := 28) (args := #[(.agg #[.bool false, .float .f64 lo, .float .f64 hi])]) rfl rfl (by kernel_rfl) (by rfl) (by go_simp) ?_
  refine (QM.out _ (HK.out _ _ HG.out (b3.trans (((Below.refl w3.heap.size w3).drew).mono b3.size)))).mono ?_
  rintro e bv1 ⟨rfl, bd1⟩
  have br1 : Below w3.heap.size w3 bv1 := (Below.refl _ _).drew.trans bd1
  refine ⟨_, rfl, br1, ?_⟩
  have bheld1 := Below.refl bv1.heap.size bv1
  refine held_more (S' := fun W => Below bv1.heap.size bv1 W) (fun W h => br1.trans (h.mono br1.size)) _ _ _ _ ?_
  simp only [List.setIfInBounds_toArray, List.set_cons_zero, List.set_cons_succ]
  refine held_call 4 41 (f := 17) (args := #[(.agg #[.bool false, .float .f64 lo, .float .f64 hi]), .float .f64 lo]) rfl rfl (by kernel_rfl) (by rfl) (by go_simp) ?_
  refine (Ql.out _ (HK.out _ _ HG.out (b3.trans (br1.mono b3.size)))).mono ?_
  rintro e bv2 ⟨rfl, bd2⟩
  have br2 := br1.trans (bd2.mono br1.size)
  refine ⟨_, rfl, bd2, ?_⟩
  have bheld2 := Below.refl bv2.heap.size bv2
  refine held_more (S' := fun W => Below bv2.heap.size bv2 W) (fun W h => bd2.trans (h.mono bd2.size)) _ _ _ _ ?_
  simp only [List.setIfInBounds_toArray, List.set_cons_zero, List.set_cons_succ]
  refine held_take 5 42 (v := (.bool false)) rfl rfl (by kernel_rfl) (by kernel_rfl) (by kernel_rfl) (by rfl) (fun _ _ _ h => h) (by assumption) ?_ ?_
  · intro W hW
    go_simp
  simp only [List.setIfInBounds_toArray, List.set_cons_zero, List.set_cons_succ]
  refine held_take 6 43 (v := (.bool false)) rfl rfl (by kernel_rfl) (by kernel_rfl) (by kernel_rfl) (by rfl) (fun _ _ _ h => h) (by assumption) ?_ ?_
  · intro W hW
    go_simp
  simp only [List.setIfInBounds_toArray, List.set_cons_zero, List.set_cons_succ]
  refine held_take 7 44 (v := (.agg #[.bool false, .float .f64 lo, .float .f64 hi])) rfl rfl (by kernel_rfl) (by kernel_rfl) (by kernel_rfl) (by rfl) (fun _ _ _ h => h) (by assumption) ?_ ?_
  · intro W hW
    have F := G1.out.below (by exact (br2.trans (hW.mono br2.size))) G1.out.lt
    have c0 : W.cell? ⟨w.heap.size, 0, none⟩ = some (.bool false) := by rw [F.cell]; rfl
    have c1 : W.cell? ⟨w.heap.size, 1, none⟩ = some (.float .f64 lo) := by rw [F.cell]; rfl
    have c2 : W.cell? ⟨w.heap.size, 2, none⟩ = some (.float .f64 hi) := by rw [F.cell]; rfl
    clear F
    go_simp
  simp only [List.setIfInBounds_toArray, List.set_cons_zero, List.set_cons_succ]
  refine held_take 9 46 (v := (.agg #[.bool false, .float .f64 lo, .float .f64 hi])) rfl rfl (by kernel_rfl) (by kernel_rfl) (by kernel_rfl) (by rfl) (fun _ _ _ h => h) (by assumption) ?_ ?_
  · intro W hW
    have F := G1.out.below (by exact (br2.trans (hW.mono br2.size))) G1.out.lt
    have c0 : W.cell? ⟨w.heap.size, 0, none⟩ = some (.bool false) := by rw [F.cell]; rfl
    have c1 : W.cell? ⟨w.heap.size, 1, none⟩ = some (.float .f64 lo) := by rw [F.cell]; rfl
    have c2 : W.cell? ⟨w.heap.size, 2, none⟩ = some (.float .f64 hi) := by rw [F.cell]; rfl
    clear F
    go_simp
  simp only [List.setIfInBounds_toArray, List.set_cons_zero, List.set_cons_succ]
  refine held_take 10 47 (v := (.float .f64 hi)) rfl rfl (by kernel_rfl) (by kernel_rfl) (by kernel_rfl) (by rfl) (fun _ _ _ h => h) (by assumption) ?_ ?_
  · intro W hW
    go_simp
  simp only [List.setIfInBounds_toArray, List.set_cons_zero, List.set_cons_succ]
  refine held_call 8 45 (f := 28) (args := #[(.agg #[.bool false, .float .f64 lo, .float .f64 hi])]) rfl rfl (by kernel_rfl) (by rfl) (by go_simp) ?_
  refine (QM.out _ (HK.out _ _ HG.out (b3.trans (br2.mono b3.size)))).mono ?_
  rintro e bv3 ⟨rfl, bd3⟩
  have br3 := br2.trans (bd3.mono br2.size)
  refine ⟨_, rfl, bd3, ?_⟩
  have bheld3 := Below.refl bv3.heap.size bv3
  refine held_more (S' := fun W => Below bv3.heap.size bv3 W) (fun W h => bd3.trans (h.mono bd3.size)) _ _ _ _ ?_
  simp only [List.setIfInBounds_toArray, List.set_cons_zero, List.set_cons_succ]
  refine held_call 11 48 (f := 17) (args := #[(.agg #[.bool false, .float .f64 lo, .float .f64 hi]), .float .f64 hi]) rfl rfl (by kernel_rfl) (by rfl) (by go_simp) ?_
  refine (Qh.out _ (HK.out _ _ HG.out (b3.trans (br3.mono b3.size)))).mono ?_
  rintro e bv4 ⟨rfl, bd4⟩
  have br4 := br3.trans (bd4.mono br3.size)
  refine ⟨_, rfl, bd4, ?_⟩
  have bheld4 := Below.refl bv4.heap.size bv4
  refine held_more (S' := fun W => Below bv4.heap.size bv4 W) (fun W h => bd4.trans (h.mono bd4.size)) _ _ _ _ ?_
  simp only [List.setIfInBounds_toArray, List.set_cons_zero, List.set_cons_succ]
  refine held_take 12 49 (v := (.bool false)) rfl rfl (by kernel_rfl) (by kernel_rfl) (by kernel_rfl) (by rfl) (fun _ _ _ h => h) (by assumption) ?_ ?_
  · intro W hW
    go_simp
  simp only [List.setIfInBounds_toArray, List.set_cons_zero, List.set_cons_succ]
  refine held_take 13 50 (v := (.bool false)) rfl rfl (by kernel_rfl) (by kernel_rfl) (by kernel_rfl) (by rfl) (fun _ _ _ h => h) (by assumption) ?_ ?_
  · intro W hW
    go_simp
  simp only [List.setIfInBounds_toArray, List.set_cons_zero, List.set_cons_succ]
  refine held_take 14 51 (v := (.bool false)) rfl rfl (by kernel_rfl) (by kernel_rfl) (by kernel_rfl) (by rfl) (fun _ _ _ h => h) (by assumption) ?_ ?_
  · intro W hW
    go_simp
  simp only [List.setIfInBounds_toArray, List.set_cons_zero, List.set_cons_succ]
  refine held_take 15 52 (v := (.agg #[.bool false, .float .f64 lo, .float .f64 hi])) rfl rfl (by kernel_rfl) (by kernel_rfl) (by kernel_rfl) (by rfl) (fun _ _ _ h => h) (by assumption) ?_ ?_
  · intro W hW
    have F := G1.out.below (by exact (br4.trans (hW.mono br4.size))) G1.out.lt
    have c0 : W.cell? ⟨w.heap.size, 0, none⟩ = some (.bool false) := by rw [F.cell]; rfl
    have c1 : W.cell? ⟨w.heap.size, 1, none⟩ = some (.float .f64 lo) := by rw [F.cell]; rfl
    have c2 : W.cell? ⟨w.heap.size, 2, none⟩ = some (.float .f64 hi) := by rw [F.cell]; rfl
    clear F
    go_simp
  simp only [List.setIfInBounds_toArray, List.set_cons_zero, List.set_cons_succ]
  refine held_take 17 54 (v := (.agg #[.bool false, .float .f64 lo, .float .f64 hi])) rfl rfl (by kernel_rfl) (by kernel_rfl) (by kernel_rfl) (by rfl) (fun _ _ _ h => h) (by assumption) ?_ ?_
  · intro W hW
    have F := G1.out.below (by exact (br4.trans (hW.mono br4.size))) G1.out.lt
    have c0 : W.cell? ⟨w.heap.size, 0, none⟩ = some (.bool false) := by rw [F.cell]; rfl
    have c1 : W.cell? ⟨w.heap.size, 1, none⟩ = some (.float .f64 lo) := by rw [F.cell]; rfl
    have c2 : W.cell? ⟨w.heap.size, 2, none⟩ = some (.float .f64 hi) := by rw [F.cell]; rfl
    clear F
    go_simp
  simp only [List.setIfInBounds_toArray, List.set_cons_zero, List.set_cons_succ]
  refine held_call 16 53 (f := 17) (args := #[(.agg #[.bool false, .float .f64 lo, .float .f64 hi]), .float .f64 0]) rfl rfl (by kernel_rfl) (by rfl) (by go_simp) ?_
  refine (Qz.out _ (HK.out _ _ HG.out (b3.trans (br4.mono b3.size)))).mono ?_
  rintro e bv5 ⟨rfl, bd5⟩
  have br5 := br4.trans (bd5.mono br4.size)
  refine ⟨_, rfl, bd5, ?_⟩
  have bheld5 := Below.refl bv5.heap.size bv5
  refine held_more (S' := fun W => Below bv5.heap.size bv5 W) (fun W h => bd5.trans (h.mono bd5.size)) _ _ _ _ ?_
  simp only [List.setIfInBounds_toArray, List.set_cons_zero, List.set_cons_succ]
  refine held_call 18 55 (f := 13) (args := #[.float .f64 0, .float .f64 13830554455654793216]) rfl rfl (by kernel_rfl) (by rfl) (by go_simp) ?_
  refine (copysign_minus _).mono ?_
  rintro e bv6 ⟨rfl, bd6⟩
  replace bd6 := same_below bd6
  have br6 := br5.trans (bd6.mono br5.size)
  refine ⟨_, rfl, bd6, ?_⟩
  have bheld6 := Below.refl bv6.heap.size bv6
  refine held_more (S' := fun W => Below bv6.heap.size bv6 W) (fun W h => bd6.trans (h.mono bd6.size)) _ _ _ _ ?_
  simp only [List.setIfInBounds_toArray, List.set_cons_zero, List.set_cons_succ]
  refine held_call 19 56 (f := 17) (args := #[(.agg #[.bool false, .float .f64 lo, .float .f64 hi]), .float .f64 9223372036854775808]) rfl rfl (by kernel_rfl) (by rfl) (by go_simp) ?_
  refine (Qy.out _ (HK.out _ _ HG.out (b3.trans (br6.mono b3.size)))).mono ?_
  rintro e bv7 ⟨rfl, bd7⟩
  have br7 := br6.trans (bd7.mono br6.size)
  refine ⟨_, rfl, bd7, ?_⟩
  have bheld7 := Below.refl bv7.heap.size bv7
  refine held_more (S' := fun W => Below bv7.heap.size bv7 W) (fun W h => bd7.trans (h.mono bd7.size)) _ _ _ _ ?_
  simp only [List.setIfInBounds_toArray, List.set_cons_zero, List.set_cons_succ]
  refine held_take 20 57 (v := (.bool false)) rfl rfl (by kernel_rfl) (by kernel_rfl) (by kernel_rfl) (by rfl) (fun _ _ _ h => h) (by assumption) ?_ ?_
  · intro W hW
    go_simp
  simp only [List.setIfInBounds_toArray, List.set_cons_zero, List.set_cons_succ]
  refine held_take 21 58 (v := (.bool false)) rfl rfl (by kernel_rfl) (by kernel_rfl) (by kernel_rfl) (by rfl) (fun _ _ _ h => h) (by assumption) ?_ ?_
  · intro W hW
    go_simp
  simp only [List.setIfInBounds_toArray, List.set_cons_zero, List.set_cons_succ]
  refine wpAnyH_done (by kernel_rfl) ?_ _
  have b4 := b3.trans (br7.mono b3.size)
  have G2 := Lib.hid (G1.out.below br7 G1.out.lt)
  clear G1 b3
  generalize bv7 = w4 at b4 G2 ⊢
  clear Qn Qa Qi Ql Qh Qz Qy qf
  rw [HMM.out] at QM
  cases hp : Fm.le f g
  · clear mid
    cases nl : Fm.isN lo
    · rw [nl] at ql
      simp only [Bool.not_false] at ql
      cases nh : Fm.isN hi
      · rw [nh] at qh
        simp only [Bool.not_false] at qh
        clear nl nh
        have c0 : w4.cell? ⟨w.heap.size, 0, none⟩ = some (.bool false) := by rw [G2.out.cell]; rfl
        have c1 : w4.cell? ⟨w.heap.size, 1, none⟩ = some (.float .f64 lo) := by rw [G2.out.cell]; rfl
        have c2 : w4.cell? ⟨w.heap.size, 2, none⟩ = some (.float .f64 hi) := by rw [G2.out.cell]; rfl
        go_wp2_with fail
        refine (QM.out w4 (HK.out _ _ HG.out b4)).mono ?_
        rintro e x1 ⟨rfl, e1⟩
        clear c0 c1 c2
        have b51 := b4.trans (e1.mono b4.size)
        have G31 := Lib.hid (G2.out.below e1 G2.out.lt)
        have c0 : x1.cell? ⟨w.heap.size, 0, none⟩ = some (.bool false) := by rw [G31.out.cell]; rfl
        have c1 : x1.cell? ⟨w.heap.size, 1, none⟩ = some (.float .f64 lo) := by rw [G31.out.cell]; rfl
        have c2 : x1.cell? ⟨w.heap.size, 2, none⟩ = some (.float .f64 hi) := by rw [G31.out.cell]; rfl
        go_wp2_with fail
        refine (RU.out x1 (HK.out _ _ HG.out b51)).mono ?_
        rintro e x2 ⟨rfl, e2⟩
        clear c0 c1 c2
        have b52 := b51.trans (e2.mono b51.size)
        have G32 := Lib.hid (G31.out.below e2 G31.out.lt)
        have c0 : x2.cell? ⟨w.heap.size, 0, none⟩ = some (.bool false) := by rw [G32.out.cell]; rfl
        have c1 : x2.cell? ⟨w.heap.size, 1, none⟩ = some (.float .f64 lo) := by rw [G32.out.cell]; rfl
        have c2 : x2.cell? ⟨w.heap.size, 2, none⟩ = some (.float .f64 hi) := by rw [G32.out.cell]; rfl
        go_wp2
        go_ret
        exact ⟨rfl, b52⟩
      · rw [nh] at qh
        simp only [Bool.not_true] at qh
        clear nl nh
        have c0 : w4.cell? ⟨w.heap.size, 0, none⟩ = some (.bool false) := by rw [G2.out.cell]; rfl
        have c1 : w4.cell? ⟨w.heap.size, 1, none⟩ = some (.float .f64 lo) := by rw [G2.out.cell]; rfl
        have c2 : w4.cell? ⟨w.heap.size, 2, none⟩ = some (.float .f64 hi) := by rw [G2.out.cell]; rfl
        go_wp2_with fail
        refine (RU.out w4 (HK.out _ _ HG.out b4)).mono ?_
        rintro e x1 ⟨rfl, e1⟩
        clear c0 c1 c2
        have b51 := b4.trans (e1.mono b4.size)
        have G31 := Lib.hid (G2.out.below e1 G2.out.lt)
        have c0 : x1.cell? ⟨w.heap.size, 0, none⟩ = some (.bool false) := by rw [G31.out.cell]; rfl
        have c1 : x1.cell? ⟨w.heap.size, 1, none⟩ = some (.float .f64 lo) := by rw [G31.out.cell]; rfl
        have c2 : x1.cell? ⟨w.heap.size, 2, none⟩ = some (.float .f64 hi) := by rw [G31.out.cell]; rfl
        go_wp2
        go_ret
        exact ⟨rfl, b51⟩
    · rw [nl] at ql
      simp only [Bool.not_true] at ql
      clear nl
      have c0 : w4.cell? ⟨w.heap.size, 0, none⟩ = some (.bool false) := by rw [G2.out.cell]; rfl
      have c1 : w4.cell? ⟨w.heap.size, 1, none⟩ = some (.float .f64 lo) := by rw [G2.out.cell]; rfl
      have c2 : w4.cell? ⟨w.heap.size, 2, none⟩ = some (.float .f64 hi) := by rw [G2.out.cell]; rfl
      go_wp2_with fail
      refine (RU.out w4 (HK.out _ _ HG.out b4)).mono ?_
      rintro e x1 ⟨rfl, e1⟩
      clear c0 c1 c2
      have b51 := b4.trans (e1.mono b4.size)
      have G31 := Lib.hid (G2.out.below e1 G2.out.lt)
      have c0 : x1.cell? ⟨w.heap.size, 0, none⟩ = some (.bool false) := by rw [G31.out.cell]; rfl
      have c1 : x1.cell? ⟨w.heap.size, 1, none⟩ = some (.float .f64 lo) := by rw [G31.out.cell]; rfl
      have c2 : x1.cell? ⟨w.heap.size, 2, none⟩ = some (.float .f64 hi) := by rw [G31.out.cell]; rfl
      go_wp2
      go_ret
      exact ⟨rfl, b51⟩
  · cases hq : Fm.le g h
    · clear mid
      cases nl : Fm.isN lo
      · rw [nl] at ql
        simp only [Bool.not_false] at ql
        cases nh : Fm.isN hi
        · rw [nh] at qh
          simp only [Bool.not_false] at qh
          clear nl nh
          have c0 : w4.cell? ⟨w.heap.size, 0, none⟩ = some (.bool false) := by rw [G2.out.cell]; rfl
          have c1 : w4.cell? ⟨w.heap.size, 1, none⟩ = some (.float .f64 lo) := by rw [G2.out.cell]; rfl
          have c2 : w4.cell? ⟨w.heap.size, 2, none⟩ = some (.float .f64 hi) := by rw [G2.out.cell]; rfl
          go_wp2_with fail
          refine (QM.out w4 (HK.out _ _ HG.out b4)).mono ?_
          rintro e x1 ⟨rfl, e1⟩
          clear c0 c1 c2
          have b51 := b4.trans (e1.mono b4.size)
          have G31 := Lib.hid (G2.out.below e1 G2.out.lt)
          have c0 : x1.cell? ⟨w.heap.size, 0, none⟩ = some (.bool false) := by rw [G31.out.cell]; rfl
          have c1 : x1.cell? ⟨w.heap.size, 1, none⟩ = some (.float .f64 lo) := by rw [G31.out.cell]; rfl
          have c2 : x1.cell? ⟨w.heap.size, 2, none⟩ = some (.float .f64 hi) := by rw [G31.out.cell]; rfl
          go_wp2_with fail
          refine (RU.out x1 (HK.out _ _ HG.out b51)).mono ?_
          rintro e x2 ⟨rfl, e2⟩
          clear c0 c1 c2
          have b52 := b51.trans (e2.mono b51.size)
          have G32 := Lib.hid (G31.out.below e2 G31.out.lt)
          have c0 : x2.cell? ⟨w.heap.size, 0, none⟩ = some (.bool false) := by rw [G32.out.cell]; rfl
          have c1 : x2.cell? ⟨w.heap.size, 1, none⟩ = some (.float .f64 lo) := by rw [G32.out.cell]; rfl
          have c2 : x2.cell? ⟨w.heap.size, 2, none⟩ = some (.float .f64 hi) := by rw [G32.out.cell]; rfl
          go_wp2
          go_ret
          exact ⟨rfl, b52⟩
        · rw [nh] at qh
          simp only [Bool.not_true] at qh
          clear nl nh
          have c0 : w4.cell? ⟨w.heap.size, 0, none⟩ = some (.bool false) := by rw [G2.out.cell]; rfl
          have c1 : w4.cell? ⟨w.heap.size, 1, none⟩ = some (.float .f64 lo) := by rw [G2.out.cell]; rfl
          have c2 : w4.cell? ⟨w.heap.size, 2, none⟩ = some (.float .f64 hi) := by rw [G2.out.cell]; rfl
          go_wp2_with fail
          refine (RU.out w4 (HK.out _ _ HG.out b4)).mono ?_
          rintro e x1 ⟨rfl, e1⟩
          clear c0 c1 c2
          have b51 := b4.trans (e1.mono b4.size)
          have G31 := Lib.hid (G2.out.below e1 G2.out.lt)
          have c0 : x1.cell? ⟨w.heap.size, 0, none⟩ = some (.bool false) := by rw [G31.out.cell]; rfl
          have c1 : x1.cell? ⟨w.heap.size, 1, none⟩ = some (.float .f64 lo) := by rw [G31.out.cell]; rfl
          have c2 : x1.cell? ⟨w.heap.size, 2, none⟩ = some (.float .f64 hi) := by rw [G31.out.cell]; rfl
          go_wp2
          go_ret
          exact ⟨rfl, b51⟩
      · rw [nl] at ql
        simp only [Bool.not_true] at ql
        clear nl
        have c0 : w4.cell? ⟨w.heap.size, 0, none⟩ = some (.bool false) := by rw [G2.out.cell]; rfl
        have c1 : w4.cell? ⟨w.heap.size, 1, none⟩ = some (.float .f64 lo) := by rw [G2.out.cell]; rfl
        have c2 : w4.cell? ⟨w.heap.size, 2, none⟩ = some (.float .f64 hi) := by rw [G2.out.cell]; rfl
        go_wp2_with fail
        refine (RU.out w4 (HK.out _ _ HG.out b4)).mono ?_
        rintro e x1 ⟨rfl, e1⟩
        clear c0 c1 c2
        have b51 := b4.trans (e1.mono b4.size)
        have G31 := Lib.hid (G2.out.below e1 G2.out.lt)
        have c0 : x1.cell? ⟨w.heap.size, 0, none⟩ = some (.bool false) := by rw [G31.out.cell]; rfl
        have c1 : x1.cell? ⟨w.heap.size, 1, none⟩ = some (.float .f64 lo) := by rw [G31.out.cell]; rfl
        have c2 : x1.cell? ⟨w.heap.size, 2, none⟩ = some (.float .f64 hi) := by rw [G31.out.cell]; rfl
        go_wp2
        go_ret
        exact ⟨rfl, b51⟩
    · cases hif : Fm.inb false lo hi f
      · rw [hif] at Qf
        clear mid hif
        cases nl : Fm.isN lo
        · rw [nl] at ql
          simp only [Bool.not_false] at ql
          cases nh : Fm.isN hi
          · rw [nh] at qh
            simp only [Bool.not_false] at qh
            clear nl nh
            have c0 : w4.cell? ⟨w.heap.size, 0, none⟩ = some (.bool false) := by rw [G2.out.cell]; rfl
            have c1 : w4.cell? ⟨w.heap.size, 1, none⟩ = some (.float .f64 lo) := by rw [G2.out.cell]; rfl
            have c2 : w4.cell? ⟨w.heap.size, 2, none⟩ = some (.float .f64 hi) := by rw [G2.out.cell]; rfl
            go_wp2_with fail
            refine (Qf.out w4 (HK.out _ _ HG.out b4)).mono ?_
            rintro e x1 ⟨rfl, e1⟩
            clear c0 c1 c2
            have b51 := b4.trans (e1.mono b4.size)
            have G31 := Lib.hid (G2.out.below e1 G2.out.lt)
            have c0 : x1.cell? ⟨w.heap.size, 0, none⟩ = some (.bool false) := by rw [G31.out.cell]; rfl
            have c1 : x1.cell? ⟨w.heap.size, 1, none⟩ = some (.float .f64 lo) := by rw [G31.out.cell]; rfl
            have c2 : x1.cell? ⟨w.heap.size, 2, none⟩ = some (.float .f64 hi) := by rw [G31.out.cell]; rfl
            go_wp2_with fail
            refine (QM.out x1 (HK.out _ _ HG.out b51)).mono ?_
            rintro e x2 ⟨rfl, e2⟩
            clear c0 c1 c2
            have b52 := b51.trans (e2.mono b51.size)
            have G32 := Lib.hid (G31.out.below e2 G31.out.lt)
            have c0 : x2.cell? ⟨w.heap.size, 0, none⟩ = some (.bool false) := by rw [G32.out.cell]; rfl
            have c1 : x2.cell? ⟨w.heap.size, 1, none⟩ = some (.float .f64 lo) := by rw [G32.out.cell]; rfl
            have c2 : x2.cell? ⟨w.heap.size, 2, none⟩ = some (.float .f64 hi) := by rw [G32.out.cell]; rfl
            go_wp2_with fail
            refine (RU.out x2 (HK.out _ _ HG.out b52)).mono ?_
            rintro e x3 ⟨rfl, e3⟩
            clear c0 c1 c2
            have b53 := b52.trans (e3.mono b52.size)
            have G33 := Lib.hid (G32.out.below e3 G32.out.lt)
            have c0 : x3.cell? ⟨w.heap.size, 0, none⟩ = some (.bool false) := by rw [G33.out.cell]; rfl
            have c1 : x3.cell? ⟨w.heap.size, 1, none⟩ = some (.float .f64 lo) := by rw [G33.out.cell]; rfl
            have c2 : x3.cell? ⟨w.heap.size, 2, none⟩ = some (.float .f64 hi) := by rw [G33.out.cell]; rfl
            go_wp2
            go_ret
            exact ⟨rfl, b53⟩
          · rw [nh] at qh
            simp only [Bool.not_true] at qh
            clear nl nh
            have c0 : w4.cell? ⟨w.heap.size, 0, none⟩ = some (.bool false) := by rw [G2.out.cell]; rfl
            have c1 : w4.cell? ⟨w.heap.size, 1, none⟩ = some (.float .f64 lo) := by rw [G2.out.cell]; rfl
            have c2 : w4.cell? ⟨w.heap.size, 2, none⟩ = some (.float .f64 hi) := by rw [G2.out.cell]; rfl
            go_wp2_with fail
            refine (Qf.out w4 (HK.out _ _ HG.out b4)).mono ?_
            rintro e x1 ⟨rfl, e1⟩
            clear c0 c1 c2
            have b51 := b4.trans (e1.mono b4.size)
            have G31 := Lib.hid (G2.out.below e1 G2.out.lt)
            have c0 : x1.cell? ⟨w.heap.size, 0, none⟩ = some (.bool false) := by rw [G31.out.cell]; rfl
            have c1 : x1.cell? ⟨w.heap.size, 1, none⟩ = some (.float .f64 lo) := by rw [G31.out.cell]; rfl
            have c2 : x1.cell? ⟨w.heap.size, 2, none⟩ = some (.float .f64 hi) := by rw [G31.out.cell]; rfl
            go_wp2_with fail
            refine (RU.out x1 (HK.out _ _ HG.out b51)).mono ?_
            rintro e x2 ⟨rfl, e2⟩
            clear c0 c1 c2
            have b52 := b51.trans (e2.mono b51.size)
            have G32 := Lib.hid (G31.out.below e2 G31.out.lt)
            have c0 : x2.cell? ⟨w.heap.size, 0, none⟩ = some (.bool false) := by rw [G32.out.cell]; rfl
            have c1 : x2.cell? ⟨w.heap.size, 1, none⟩ = some (.float .f64 lo) := by rw [G32.out.cell]; rfl
            have c2 : x2.cell? ⟨w.heap.size, 2, none⟩ = some (.float .f64 hi) := by rw [G32.out.cell]; rfl
            go_wp2
            go_ret
            exact ⟨rfl, b52⟩
        · rw [nl] at ql
          simp only [Bool.not_true] at ql
          clear nl
          have c0 : w4.cell? ⟨w.heap.size, 0, none⟩ = some (.bool false) := by rw [G2.out.cell]; rfl
          have c1 : w4.cell? ⟨w.heap.size, 1, none⟩ = some (.float .f64 lo) := by rw [G2.out.cell]; rfl
          have c2 : w4.cell? ⟨w.heap.size, 2, none⟩ = some (.float .f64 hi) := by rw [G2.out.cell]; rfl
          go_wp2_with fail
          refine (Qf.out w4 (HK.out _ _ HG.out b4)).mono ?_
          rintro e x1 ⟨rfl, e1⟩
          clear c0 c1 c2
          have b51 := b4.trans (e1.mono b4.size)
          have G31 := Lib.hid (G2.out.below e1 G2.out.lt)
          have c0 : x1.cell? ⟨w.heap.size, 0, none⟩ = some (.bool false) := by rw [G31.out.cell]; rfl
          have c1 : x1.cell? ⟨w.heap.size, 1, none⟩ = some (.float .f64 lo) := by rw [G31.out.cell]; rfl
          have c2 : x1.cell? ⟨w.heap.size, 2, none⟩ = some (.float .f64 hi) := by rw [G31.out.cell]; rfl
          go_wp2_with fail
          refine (RU.out x1 (HK.out _ _ HG.out b51)).mono ?_
          rintro e x2 ⟨rfl, e2⟩
          clear c0 c1 c2
          have b52 := b51.trans (e2.mono b51.size)
          have G32 := Lib.hid (G31.out.below e2 G31.out.lt)
          have c0 : x2.cell? ⟨w.heap.size, 0, none⟩ = some (.bool false) := by rw [G32.out.cell]; rfl
          have c1 : x2.cell? ⟨w.heap.size, 1, none⟩ = some (.float .f64 lo) := by rw [G32.out.cell]; rfl
          have c2 : x2.cell? ⟨w.heap.size, 2, none⟩ = some (.float .f64 hi) := by rw [G32.out.cell]; rfl
          go_wp2
          go_ret
          exact ⟨rfl, b52⟩
      · cases hih : Fm.inb false lo hi h
        · rw [hif] at Qf
          rw [hih] at Qk
          clear mid hif hih
          cases nl : Fm.isN lo
          · rw [nl] at ql
            simp only [Bool.not_false] at ql
            cases nh : Fm.isN hi
            · rw [nh] at qh
              simp only [Bool.not_false] at qh
              clear nl nh
              have c0 : w4.cell? ⟨w.heap.size, 0, none⟩ = some (.bool false) := by rw [G2.out.cell]; rfl
              have c1 : w4.cell? ⟨w.heap.size, 1, none⟩ = some (.float .f64 lo) := by rw [G2.out.cell]; rfl
              have c2 : w4.cell? ⟨w.heap.size, 2, none⟩ = some (.float .f64 hi) := by rw [G2.out.cell]; rfl
              go_wp2_with fail
              refine (Qf.out w4 (HK.out _ _ HG.out b4)).mono ?_
              rintro e x1 ⟨rfl, e1⟩
              clear c0 c1 c2
              have b51 := b4.trans (e1.mono b4.size)
              have G31 := Lib.hid (G2.out.below e1 G2.out.lt)
              have c0 : x1.cell? ⟨w.heap.size, 0, none⟩ = some (.bool false) := by rw [G31.out.cell]; rfl
              have c1 : x1.cell? ⟨w.heap.size, 1, none⟩ = some (.float .f64 lo) := by rw [G31.out.cell]; rfl
              have c2 : x1.cell? ⟨w.heap.size, 2, none⟩ = some (.float .f64 hi) := by rw [G31.out.cell]; rfl
              go_wp2_with fail
              refine (Qk.out x1 (HK.out _ _ HG.out b51)).mono ?_
              rintro e x2 ⟨rfl, e2⟩
              clear c0 c1 c2
              have b52 := b51.trans (e2.mono b51.size)
              have G32 := Lib.hid (G31.out.below e2 G31.out.lt)
              have c0 : x2.cell? ⟨w.heap.size, 0, none⟩ = some (.bool false) := by rw [G32.out.cell]; rfl
              have c1 : x2.cell? ⟨w.heap.size, 1, none⟩ = some (.float .f64 lo) := by rw [G32.out.cell]; rfl
              have c2 : x2.cell? ⟨w.heap.size, 2, none⟩ = some (.float .f64 hi) := by rw [G32.out.cell]; rfl
              go_wp2_with fail
              refine (QM.out x2 (HK.out _ _ HG.out b52)).mono ?_
              rintro e x3 ⟨rfl, e3⟩
              clear c0 c1 c2
              have b53 := b52.trans (e3.mono b52.size)
              have G33 := Lib.hid (G32.out.below e3 G32.out.lt)
              have c0 : x3.cell? ⟨w.heap.size, 0, none⟩ = some (.bool false) := by rw [G33.out.cell]; rfl
              have c1 : x3.cell? ⟨w.heap.size, 1, none⟩ = some (.float .f64 lo) := by rw [G33.out.cell]; rfl
              have c2 : x3.cell? ⟨w.heap.size, 2, none⟩ = some (.float .f64 hi) := by rw [G33.out.cell]; rfl
              go_wp2_with fail
              refine (RU.out x3 (HK.out _ _ HG.out b53)).mono ?_
              rintro e x4 ⟨rfl, e4⟩
              clear c0 c1 c2
              have b54 := b53.trans (e4.mono b53.size)
              have G34 := Lib.hid (G33.out.below e4 G33.out.lt)
              have c0 : x4.cell? ⟨w.heap.size, 0, none⟩ = some (.bool false) := by rw [G34.out.cell]; rfl
              have c1 : x4.cell? ⟨w.heap.size, 1, none⟩ = some (.float .f64 lo) := by rw [G34.out.cell]; rfl
              have c2 : x4.cell? ⟨w.heap.size, 2, none⟩ = some (.float .f64 hi) := by rw [G34.out.cell]; rfl
              go_wp2
              go_ret
              exact ⟨rfl, b54⟩
            · rw [nh] at qh
              simp only [Bool.not_true] at qh
              clear nl nh
              have c0 : w4.cell? ⟨w.heap.size, 0, none⟩ = some (.bool false) := by rw [G2.out.cell]; rfl
              have c1 : w4.cell? ⟨w.heap.size, 1, none⟩ = some (.float .f64 lo) := by rw [G2.out.cell]; rfl
              have c2 : w4.cell? ⟨w.heap.size, 2, none⟩ = some (.float .f64 hi) := by rw [G2.out.cell]; rfl
              go_wp2_with fail
              refine (Qf.out w4 (HK.out _ _ HG.out b4)).mono ?_
              rintro e x1 ⟨rfl, e1⟩
              clear c0 c1 c2
              have b51 := b4.trans (e1.mono b4.size)
              have G31 := Lib.hid (G2.out.below e1 G2.out.lt)
              have c0 : x1.cell? ⟨w.heap.size, 0, none⟩ = some (.bool false) := by rw [G31.out.cell]; rfl
              have c1 : x1.cell? ⟨w.heap.size, 1, none⟩ = some (.float .f64 lo) := by rw [G31.out.cell]; rfl
              have c2 : x1.cell? ⟨w.heap.size, 2, none⟩ = some (.float .f64 hi) := by rw [G31.out.cell]; rfl
              go_wp2_with fail
              refine (Qk.out x1 (HK.out _ _ HG.out b51)).mono ?_
              rintro e x2 ⟨rfl, e2⟩
              clear c0 c1 c2
              have b52 := b51.trans (e2.mono b51.size)
              have G32 := Lib.hid (G31.out.below e2 G31.out.lt)
              have c0 : x2.cell? ⟨w.heap.size, 0, none⟩ = some (.bool false) := by rw [G32.out.cell]; rfl
              have c1 : x2.cell? ⟨w.heap.size, 1, none⟩ = some (.float .f64 lo) := by rw [G32.out.cell]; rfl
              have c2 : x2.cell? ⟨w.heap.size, 2, none⟩ = some (.float .f64 hi) := by rw [G32.out.cell]; rfl
              go_wp2_with fail
              refine (RU.out x2 (HK.out _ _ HG.out b52)).mono ?_
              rintro e x3 ⟨rfl, e3⟩
              clear c0 c1 c2
              have b53 := b52.trans (e3.mono b52.size)
              have G33 := Lib.hid (G32.out.below e3 G32.out.lt)
              have c0 : x3.cell? ⟨w.heap.size, 0, none⟩ = some (.bool false) := by rw [G33.out.cell]; rfl
              have c1 : x3.cell? ⟨w.heap.size, 1, none⟩ = some (.float .f64 lo) := by rw [G33.out.cell]; rfl
              have c2 : x3.cell? ⟨w.heap.size, 2, none⟩ = some (.float .f64 hi) := by rw [G33.out.cell]; rfl
              go_wp2
              go_ret
              exact ⟨rfl, b53⟩
          · rw [nl] at ql
            simp only [Bool.not_true] at ql
            clear nl
            have c0 : w4.cell? ⟨w.heap.size, 0, none⟩ = some (.bool false) := by rw [G2.out.cell]; rfl
            have c1 : w4.cell? ⟨w.heap.size, 1, none⟩ = some (.float .f64 lo) := by rw [G2.out.cell]; rfl
            have c2 : w4.cell? ⟨w.heap.size, 2, none⟩ = some (.float .f64 hi) := by rw [G2.out.cell]; rfl
            go_wp2_with fail
            refine (Qf.out w4 (HK.out _ _ HG.out b4)).mono ?_
            rintro e x1 ⟨rfl, e1⟩
            clear c0 c1 c2
            have b51 := b4.trans (e1.mono b4.size)
            have G31 := Lib.hid (G2.out.below e1 G2.out.lt)
            have c0 : x1.cell? ⟨w.heap.size, 0, none⟩ = some (.bool false) := by rw [G31.out.cell]; rfl
            have c1 : x1.cell? ⟨w.heap.size, 1, none⟩ = some (.float .f64 lo) := by rw [G31.out.cell]; rfl
            have c2 : x1.cell? ⟨w.heap.size, 2, none⟩ = some (.float .f64 hi) := by rw [G31.out.cell]; rfl
            go_wp2_with fail
            refine (Qk.out x1 (HK.out _ _ HG.out b51)).mono ?_
            rintro e x2 ⟨rfl, e2⟩
            clear c0 c1 c2
            have b52 := b51.trans (e2.mono b51.size)
            have G32 := Lib.hid (G31.out.below e2 G31.out.lt)
            have c0 : x2.cell? ⟨w.heap.size, 0, none⟩ = some (.bool false) := by rw [G32.out.cell]; rfl
            have c1 : x2.cell? ⟨w.heap.size, 1, none⟩ = some (.float .f64 lo) := by rw [G32.out.cell]; rfl
            have c2 : x2.cell? ⟨w.heap.size, 2, none⟩ = some (.float .f64 hi) := by rw [G32.out.cell]; rfl
            go_wp2_with fail
            refine (RU.out x2 (HK.out _ _ HG.out b52)).mono ?_
            rintro e x3 ⟨rfl, e3⟩
            clear c0 c1 c2
            have b53 := b52.trans (e3.mono b52.size)
            have G33 := Lib.hid (G32.out.below e3 G32.out.lt)
            have c0 : x3.cell? ⟨w.heap.size, 0, none⟩ = some (.bool false) := by rw [G33.out.cell]; rfl
            have c1 : x3.cell? ⟨w.heap.size, 1, none⟩ = some (.float .f64 lo) := by rw [G33.out.cell]; rfl
            have c2 : x3.cell? ⟨w.heap.size, 2, none⟩ = some (.float .f64 hi) := by rw [G33.out.cell]; rfl
            go_wp2
            go_ret
            exact ⟨rfl, b53⟩
        · have hig := mid hp hq hif hih
          rw [hif] at Qf
          rw [hih] at Qk
          rw [hig] at Qg
          clear mid hif hih hig
          cases nl : Fm.isN lo
          · rw [nl] at ql
            simp only [Bool.not_false] at ql
            cases nh : Fm.isN hi
            · rw [nh] at qh
              simp only [Bool.not_false] at qh
              clear nl nh
              have c0 : w4.cell? ⟨w.heap.size, 0, none⟩ = some (.bool false) := by rw [G2.out.cell]; rfl
              have c1 : w4.cell? ⟨w.heap.size, 1, none⟩ = some (.float .f64 lo) := by rw [G2.out.cell]; rfl
              have c2 : w4.cell? ⟨w.heap.size, 2, none⟩ = some (.float .f64 hi) := by rw [G2.out.cell]; rfl
              go_wp2_with fail
              refine (Qf.out w4 (HK.out _ _ HG.out b4)).mono ?_
              rintro e x1 ⟨rfl, e1⟩
              clear c0 c1 c2
              have b51 := b4.trans (e1.mono b4.size)
              have G31 := Lib.hid (G2.out.below e1 G2.out.lt)
              have c0 : x1.cell? ⟨w.heap.size, 0, none⟩ = some (.bool false) := by rw [G31.out.cell]; rfl
              have c1 : x1.cell? ⟨w.heap.size, 1, none⟩ = some (.float .f64 lo) := by rw [G31.out.cell]; rfl
              have c2 : x1.cell? ⟨w.heap.size, 2, none⟩ = some (.float .f64 hi) := by rw [G31.out.cell]; rfl
              go_wp2_with fail
              refine (Qk.out x1 (HK.out _ _ HG.out b51)).mono ?_
              rintro e x2 ⟨rfl, e2⟩
              clear c0 c1 c2
              have b52 := b51.trans (e2.mono b51.size)
              have G32 := Lib.hid (G31.out.below e2 G31.out.lt)
              have c0 : x2.cell? ⟨w.heap.size, 0, none⟩ = some (.bool false) := by rw [G32.out.cell]; rfl
              have c1 : x2.cell? ⟨w.heap.size, 1, none⟩ = some (.float .f64 lo) := by rw [G32.out.cell]; rfl
              have c2 : x2.cell? ⟨w.heap.size, 2, none⟩ = some (.float .f64 hi) := by rw [G32.out.cell]; rfl
              go_wp2_with fail
              refine (Qg.out x2 (HK.out _ _ HG.out b52)).mono ?_
              rintro e x3 ⟨rfl, e3⟩
              clear c0 c1 c2
              have b53 := b52.trans (e3.mono b52.size)
              have G33 := Lib.hid (G32.out.below e3 G32.out.lt)
              have c0 : x3.cell? ⟨w.heap.size, 0, none⟩ = some (.bool false) := by rw [G33.out.cell]; rfl
              have c1 : x3.cell? ⟨w.heap.size, 1, none⟩ = some (.float .f64 lo) := by rw [G33.out.cell]; rfl
              have c2 : x3.cell? ⟨w.heap.size, 2, none⟩ = some (.float .f64 hi) := by rw [G33.out.cell]; rfl
              go_wp2_with fail
              refine (QM.out x3 (HK.out _ _ HG.out b53)).mono ?_
              rintro e x4 ⟨rfl, e4⟩
              clear c0 c1 c2
              have b54 := b53.trans (e4.mono b53.size)
              have G34 := Lib.hid (G33.out.below e4 G33.out.lt)
              have c0 : x4.cell? ⟨w.heap.size, 0, none⟩ = some (.bool false) := by rw [G34.out.cell]; rfl
              have c1 : x4.cell? ⟨w.heap.size, 1, none⟩ = some (.float .f64 lo) := by rw [G34.out.cell]; rfl
              have c2 : x4.cell? ⟨w.heap.size, 2, none⟩ = some (.float .f64 hi) := by rw [G34.out.cell]; rfl
              go_wp2_with fail
              refine (RU.out x4 (HK.out _ _ HG.out b54)).mono ?_
              rintro e x5 ⟨rfl, e5⟩
              clear c0 c1 c2
              have b55 := b54.trans (e5.mono b54.size)
              have G35 := Lib.hid (G34.out.below e5 G34.out.lt)
              have c0 : x5.cell? ⟨w.heap.size, 0, none⟩ = some (.bool false) := by rw [G35.out.cell]; rfl
              have c1 : x5.cell? ⟨w.heap.size, 1, none⟩ = some (.float .f64 lo) := by rw [G35.out.cell]; rfl
              have c2 : x5.cell? ⟨w.heap.size, 2, none⟩ = some (.float .f64 hi) := by rw [G35.out.cell]; rfl
              go_wp2
              go_ret
              exact ⟨rfl, b55⟩
            · rw [nh] at qh
              simp only [Bool.not_true] at qh
              clear nl nh
              have c0 : w4.cell? ⟨w.heap.size, 0, none⟩ = some (.bool false) := by rw [G2.out.cell]; rfl
              have c1 : w4.cell? ⟨w.heap.size, 1, none⟩ = some (.float .f64 lo) := by rw [G2.out.cell]; rfl
              have c2 : w4.cell? ⟨w.heap.size, 2, none⟩ = some (.float .f64 hi) := by rw [G2.out.cell]; rfl
              go_wp2_with fail
              refine (Qf.out w4 (HK.out _ _ HG.out b4)).mono ?_
              rintro e x1 ⟨rfl, e1⟩
              clear c0 c1 c2
              have b51 := b4.trans (e1.mono b4.size)
              have G31 := Lib.hid (G2.out.below e1 G2.out.lt)
              have c0 : x1.cell? ⟨w.heap.size, 0, none⟩ = some (.bool false) := by rw [G31.out.cell]; rfl
              have c1 : x1.cell? ⟨w.heap.size, 1, none⟩ = some (.float .f64 lo) := by rw [G31.out.cell]; rfl
              have c2 : x1.cell? ⟨w.heap.size, 2, none⟩ = some (.float .f64 hi) := by rw [G31.out.cell]; rfl
              go_wp2_with fail
              refine (Qk.out x1 (HK.out _ _ HG.out b51)).mono ?_
              rintro e x2 ⟨rfl, e2⟩
              clear c0 c1 c2
              have b52 := b51.trans (e2.mono b51.size)
              have G32 := Lib.hid (G31.out.below e2 G31.out.lt)
              have c0 : x2.cell? ⟨w.heap.size, 0, none⟩ = some (.bool false) := by rw [G32.out.cell]; rfl
              have c1 : x2.cell? ⟨w.heap.size, 1, none⟩ = some (.float .f64 lo) := by rw [G32.out.cell]; rfl
              have c2 : x2.cell? ⟨w.heap.size, 2, none⟩ = some (.float .f64 hi) := by rw [G32.out.cell]; rfl
              go_wp2_with fail
              refine (Qg.out x2 (HK.out _ _ HG.out b52)).mono ?_
              rintro e x3 ⟨rfl, e3⟩
              clear c0 c1 c2
              have b53 := b52.trans (e3.mono b52.size)
              have G33 := Lib.hid (G32.out.below e3 G32.out.lt)
              have c0 : x3.cell? ⟨w.heap.size, 0, none⟩ = some (.bool false) := by rw [G33.out.cell]; rfl
              have c1 : x3.cell? ⟨w.heap.size, 1, none⟩ = some (.float .f64 lo) := by rw [G33.out.cell]; rfl
              have c2 : x3.cell? ⟨w.heap.size, 2, none⟩ = some (.float .f64 hi) := by rw [G33.out.cell]; rfl
              go_wp2_with fail
              refine (RU.out x3 (HK.out _ _ HG.out b53)).mono ?_
              rintro e x4 ⟨rfl, e4⟩
              clear c0 c1 c2
              have b54 := b53.trans (e4.mono b53.size)
              have G34 := Lib.hid (G33.out.below e4 G33.out.lt)
              have c0 : x4.cell? ⟨w.heap.size, 0, none⟩ = some (.bool false) := by rw [G34.out.cell]; rfl
              have c1 : x4.cell? ⟨w.heap.size, 1, none⟩ = some (.float .f64 lo) := by rw [G34.out.cell]; rfl
              have c2 : x4.cell? ⟨w.heap.size, 2, none⟩ = some (.float .f64 hi) := by rw [G34.out.cell]; rfl
              go_wp2
              go_ret
              exact ⟨rfl, b54⟩
          · rw [nl] at ql
            simp only [Bool.not_true] at ql
            clear nl
            have c0 : w4.cell? ⟨w.heap.size, 0, none⟩ = some (.bool false) := by rw [G2.out.cell]; rfl
            have c1 : w4.cell? ⟨w.heap.size, 1, none⟩ = some (.float .f64 lo) := by rw [G2.out.cell]; rfl
            have c2 : w4.cell? ⟨w.heap.size, 2, none⟩ = some (.float .f64 hi) := by rw [G2.out.cell]; rfl
            go_wp2_with fail
            refine (Qf.out w4 (HK.out _ _ HG.out b4)).mono ?_
            rintro e x1 ⟨rfl, e1⟩
            clear c0 c1 c2
            have b51 := b4.trans (e1.mono b4.size)
            have G31 := Lib.hid (G2.out.below e1 G2.out.lt)
            have c0 : x1.cell? ⟨w.heap.size, 0, none⟩ = some (.bool false) := by rw [G31.out.cell]; rfl
            have c1 : x1.cell? ⟨w.heap.size, 1, none⟩ = some (.float .f64 lo) := by rw [G31.out.cell]; rfl
            have c2 : x1.cell? ⟨w.heap.size, 2, none⟩ = some (.float .f64 hi) := by rw [G31.out.cell]; rfl
            go_wp2_with fail
            refine (Qk.out x1 (HK.out _ _ HG.out b51)).mono ?_
            rintro e x2 ⟨rfl, e2⟩
            clear c0 c1 c2
            have b52 := b51.trans (e2.mono b51.size)
            have G32 := Lib.hid (G31.out.below e2 G31.out.lt)
            have c0 : x2.cell? ⟨w.heap.size, 0, none⟩ = some (.bool false) := by rw [G32.out.cell]; rfl
            have c1 : x2.cell? ⟨w.heap.size, 1, none⟩ = some (.float .f64 lo) := by rw [G32.out.cell]; rfl
            have c2 : x2.cell? ⟨w.heap.size, 2, none⟩ = some (.float .f64 hi) := by rw [G32.out.cell]; rfl
            go_wp2_with fail
            refine (Qg.out x2 (HK.out _ _ HG.out b52)).mono ?_
            rintro e x3 ⟨rfl, e3⟩
            clear c0 c1 c2
            have b53 := b52.trans (e3.mono b52.size)
            have G33 := Lib.hid (G32.out.below e3 G32.out.lt)
            have c0 : x3.cell? ⟨w.heap.size, 0, none⟩ = some (.bool false) := by rw [G33.out.cell]; rfl
            have c1 : x3.cell? ⟨w.heap.size, 1, none⟩ = some (.float .f64 lo) := by rw [G33.out.cell]; rfl
            have c2 : x3.cell? ⟨w.heap.size, 2, none⟩ = some (.float .f64 hi) := by rw [G33.out.cell]; rfl
            go_wp2_with fail
            refine (RU.out x3 (HK.out _ _ HG.out b53)).mono ?_
            rintro e x4 ⟨rfl, e4⟩
            clear c0 c1 c2
            have b54 := b53.trans (e4.mono b53.size)
            have G34 := Lib.hid (G33.out.below e4 G33.out.lt)
            have c0 : x4.cell? ⟨w.heap.size, 0, none⟩ = some (.bool false) := by rw [G34.out.cell]; rfl
            have c1 : x4.cell? ⟨w.heap.size, 1, none⟩ = some (.float .f64 lo) := by rw [G34.out.cell]; rfl
            have c2 : x4.cell? ⟨w.heap.size, 2, none⟩ = some (.float .f64 hi) := by rw [G34.out.cell]; rfl
            go_wp2
            go_ret
            exact ⟨rfl, b54⟩
end
end Go.Proofs.YtmdpeifpgnkbiaaDoor
