/-
  The closed sentence RealRuns over contracts of package real. Condition: G.
-/
import Derived.Test.YtmdpeifpgnkbiaaDoorLb
namespace Go.Proofs.YtmdpeifpgnkbiaaDoor
open Go.RowKit

instance Fm.decR (l : List Nat) (i j : Nat) : Decidable (Fm.R l i j) := inferInstanceAs (Decidable (_ ∨ _))
def Fm.runsL : List Nat := [4607182418800017408, 9221120237041090561, 9223372036854775808, 0]
theorem Fm.runs_rank : Fm.IsRank Fm.runsL [0, 3, 2, 1] := ⟨by decide, by decide +kernel⟩
theorem Fm.runs_W : ∀ x ∈ Fm.runsL, Fm.W x := by unfold Fm.W; decide
theorem row_new (w : World) (t : TypeId) (l : List Value) : IsRow1 (w.alloc (.cells l.toArray t)) (some ⟨w.heap.size, 0, none⟩) l := fun _ => ⟨w.heap.size, 0, rfl, fun j _ => by
  rw [cell_of_row _ w.heap.size (0 + j) _ t (0, 0) (heap_alloc_new w _)]
  simp⟩

section
variable {G : World → Prop}
set_option maxRecDepth 100000 in
set_option maxHeartbeats 1000000 in
theorem runs_law (keep : ∀ w w', G w → Below w.heap.size w w' → G w')
    (less : ∀ a b w, G w → Fm.W a → Fm.W b → Gives 16 #[.float .f64 a, .float .f64 b] w (.bool (Fm.less a b)))
    (inb : ∀ any lo hi f w, G w → Fm.W lo → Fm.W hi → Fm.W f → Gives 17 #[.agg (band any lo hi), .float .f64 f] w (.bool (Fm.inb any lo hi f)))
    (rank : ∀ (l : List Nat) A cap w, G w → l.length ≤ 4 → (∀ x ∈ l, Fm.W x) → (A = none → cap = 0) → l.length ≤ cap → IsRow1 w A (fl64 l) → Calls Tryd.prog 14 #[.slice A l.length cap] w fun e w' => (∃ (r : List Nat) (B : Option Addr) (c : Nat), Fm.IsRank l r ∧ e = .returned (.slice B r.length c) ∧ IsRow1 w' B (in64 r)) ∧ Below w.heap.size w w')
    (text : ∀ f w, G w → Fm.W f → Gives 19 #[.float .f64 f] w (.string (strOf (Fm.txt (Fm.bits f)))))
    (w : World) (hG : G w) : Gives 3 #[] w (.bool true) := by
  have W0 : Fm.W 0 := by unfold Fm.W; decide
  have W1 : Fm.W 4607182418800017408 := by unfold Fm.W; decide
  have Wm : Fm.W 9223372036854775808 := by unfold Fm.W; decide
  have Wn : Fm.W Fm.nan := by unfold Fm.W Fm.nan; decide
  have L1 : Hid (∀ w, G w → Gives 16 #[.float .f64 9223372036854775808, .float .f64 0] w (.bool true)) := fun w h => by
    have := less 9223372036854775808 0 w h Wm W0; rwa [show Fm.less 9223372036854775808 0 = true by decide +kernel] at this
  have L2 : Hid (∀ w, G w → Gives 16 #[.float .f64 0, .float .f64 9223372036854775808] w (.bool false)) := fun w h => by
    have := less 0 9223372036854775808 w h W0 Wm; rwa [show Fm.less 0 9223372036854775808 = false by decide +kernel] at this
  have I1 : Hid (∀ w, G w → Gives 17 #[.agg #[.bool false, .float .f64 0, .float .f64 4607182418800017408], .float .f64 9223372036854775808] w (.bool true)) := fun w h => by
    have := inb false 0 4607182418800017408 9223372036854775808 w h W0 W1 Wm; rwa [show Fm.inb false 0 4607182418800017408 9223372036854775808 = true by decide +kernel] at this
  have I2 : Hid (∀ w, G w → Gives 17 #[.agg #[.bool false, .float .f64 0, .float .f64 4607182418800017408], .float .f64 Fm.nan] w (.bool false)) := fun w h => by
    have := inb false 0 4607182418800017408 Fm.nan w h W0 W1 Wn; rwa [show Fm.inb false 0 4607182418800017408 Fm.nan = false by decide +kernel] at this
  have I3 : Hid (∀ w, G w → Gives 17 #[.agg #[.bool true, .float .f64 0, .float .f64 0], .float .f64 Fm.nan] w (.bool true)) := fun w h => by
    have := inb true 0 0 Fm.nan w h W0 W0 Wn; rwa [show Fm.inb true 0 0 Fm.nan = true by decide +kernel] at this
  have T1 : Hid (∀ w, G w → ∃ s : ByteArray, (s.toList == ([51, 102, 102, 48, 48, 48, 48, 48, 48, 48, 48, 48, 48, 48, 48, 48] : List UInt8)) = true ∧ Gives 19 #[.float .f64 4607182418800017408] w (.string s)) := fun w h =>
    ⟨_, is_str (l := Fm.txt (Fm.bits 4607182418800017408)) (by decide +kernel) (textL_strOf (Fm.txt_byte _)), text 4607182418800017408 w h W1⟩
  have T2 : Hid (∀ w, G w → ∃ s : ByteArray, (s.toList == ([45, 48] : List UInt8)) = true ∧ Gives 19 #[.float .f64 9223372036854775808] w (.string s)) := fun w h =>
    ⟨_, is_str (l := Fm.txt (Fm.bits 9223372036854775808)) (by decide +kernel) (textL_strOf (Fm.txt_byte _)), text 9223372036854775808 w h Wm⟩
  have RK : Hid (∀ A w, G w → IsRow1 w (some A) (fl64 Fm.runsL) → Calls Tryd.prog 14 #[.slice (some A) 4 4] w fun e w' => (∃ (B : Option Addr) (c : Nat), e = .returned (.slice B 4 c) ∧ IsRow1 w' B (in64 [0, 3, 2, 1])) ∧ Below w.heap.size w w') := fun A w h hr =>
    (rank Fm.runsL (some A) 4 w h (by decide) Fm.runs_W (fun e => by cases e) (by decide) hr).mono fun e w' hh => by
      obtain ⟨⟨r, B, c, h1, h2, h3⟩, h4⟩ := hh
      obtain rfl := Fm.rank_unique h1 Fm.runs_rank
      exact ⟨⟨B, c, h2, h3⟩, h4⟩
  have HK := Lib.hid keep
  have HG := Lib.hid hG
  clear keep less inb rank text hG W0 W1 Wm Wn
  unfold Gives at *
  go_enter Tryd.func3, Tryd.ntmps3
  go_wp2_with fail
  refine (copysign_minus w).mono ?_
  rintro e w' ⟨rfl, rfl⟩
  go_wp2_with fail
  refine (nan_any w').mono ?_
  rintro e w ⟨rfl, rfl⟩
  have b0 : Below w.heap.size w (w.alloc (.cells (fl64 Fm.runsL).toArray 22)) := (Below.refl _ _).alloc (Nat.le_refl _) _
  have r0 := row_new w 22 (fl64 Fm.runsL)
  go_wp2_with fail
  change Calls _ _ _ (w.alloc (.cells (fl64 Fm.runsL).toArray 22)) _
  refine (RK.out _ _ (HK.out _ _ HG.out b0) r0).mono ?_
  rintro e w1 ⟨⟨B, c, rfl, hB⟩, b1⟩
  replace b1 := b0.trans (b1.mono b0.size)
  clear b0 r0
  have HB := Lib.hid hB
  clear hB
  go_wp2_with fail
  refine (L1.out w1 (HK.out _ _ HG.out b1)).mono ?_
  rintro e w2 ⟨rfl, b2⟩
  go_wp2_with fail
  refine (L2.out w2 (HK.out _ _ (HK.out _ _ HG.out b1) b2)).mono ?_
  rintro e w3 ⟨rfl, b3⟩
  replace b2 := b2.trans (b3.mono b2.size)
  go_wp2_with fail
  refine (I1.out w3 (HK.out _ _ (HK.out _ _ HG.out b1) b2)).mono ?_
  rintro e w4 ⟨rfl, b4⟩
  replace b2 := b2.trans (b4.mono b2.size)
  go_wp2_with fail
  refine (nan_any w4).mono ?_
  rintro e w5 ⟨rfl, rfl⟩
  go_wp2_with fail
  refine (I2.out w5 (HK.out _ _ (HK.out _ _ HG.out b1) b2)).mono ?_
  rintro e w6 ⟨rfl, b6⟩
  replace b2 := b2.trans (b6.mono b2.size)
  go_wp2_with fail
  refine (nan_any w6).mono ?_
  rintro e w7 ⟨rfl, rfl⟩
  go_wp2_with fail
  refine (I3.out w7 (HK.out _ _ (HK.out _ _ HG.out b1) b2)).mono ?_
  rintro e w8 ⟨rfl, b8⟩
  replace b2 := b2.trans (b8.mono b2.size)
  have r8 := HB.out.below b2
  clear b3 b4 b6 b8
  have b9 : Below w8.heap.size w8 (w8.alloc (.cells (in64 [0, 3, 2, 1]).toArray 3)) := (Below.refl _ _).alloc (Nat.le_refl _) _
  have r9 := row_new w8 3 (in64 [0, 3, 2, 1])
  go_wp2_with fail
  change Calls _ _ _ (w8.alloc (.cells (in64 [0, 3, 2, 1]).toArray 3)) _
  refine (same_any [0, 3, 2, 1] [0, 3, 2, 1] B (some ⟨w8.heap.size, 0, none⟩) c 4 _ (by decide) (by decide) (r8.below b9) r9).mono ?_
  rintro e wa ⟨rfl, na, rfl⟩
  replace b2 := b2.trans ((b9.trans ((below_drewN na).mono b9.size)).mono b2.size)
  clear b9 r9 r8
  generalize (w8.alloc (.cells (in64 [0, 3, 2, 1]).toArray 3)).drewN na = wa at b2 ⊢
  have bb := b1.trans (b2.mono b1.size)
  clear b1 b2
  obtain ⟨s1, h1, c1⟩ := T1.out wa (HK.out _ _ HG.out bb)
  go_wp2_with fail
  refine c1.mono ?_
  rintro e wb ⟨rfl, b3⟩
  replace bb := bb.trans (b3.mono bb.size)
  clear b3 c1
  obtain ⟨s2, h2, c2⟩ := T2.out wb (HK.out _ _ HG.out bb)
  go_wp2_with fail
  refine c2.mono ?_
  rintro e wc ⟨rfl, b3⟩
  replace bb := bb.trans (b3.mono bb.size)
  clear b3 c2
  go_wp2
  go_ret
  exact ⟨rfl, bb⟩
end
end Go.Proofs.YtmdpeifpgnkbiaaDoor
