/-
  The law RealBands over the contracts of package real. Conditions: words have 64 bits; G.
-/
import Derived.Test.YtmdpeifpgnkbiaaDoorLx
import Derived.Test.YtmdpeifpgnkbiaaDoorRg
namespace Go.Proofs.YtmdpeifpgnkbiaaDoor
open Go.RowKit

section
variable {K : Nat} {G : World → Prop}
set_option maxRecDepth 100000 in
set_option maxHeartbeats 1000000 in
theorem bands_law (C : RealC K G) (any : Bool) (lo hi f : Nat) (w : World) (hlo : Fm.W lo) (hhi : Fm.W hi) (hf : Fm.W f) (hG : G w) : Gives 7 #[.agg (band any lo hi), .float .f64 f] w (.bool true) := by
  have HC := Lib.hid C
  have HG := Lib.hid hG
  have Q1 := Lib.hid (fun w hG => C.may any lo hi w hG hlo hhi)
  have Q2 := Lib.hid (fun w hG => C.inb any lo hi f w hG hlo hhi hf)
  have R1 := Lib.hid (fun w => rmay_any any lo hi w)
  have R2 := Lib.hid (fun w => rin_any any lo hi f w)
  clear C hlo hhi hf hG
  unfold Gives at *
  unfold band at *
  generalize Fm.may any lo hi = m at *
  generalize Fm.inb any lo hi f = n at *
  have F0 := Lib.hid (Has.new w 31 #[.bool any, .float .f64 lo, .float .f64 hi])
  have b0 : Below w.heap.size w (w.alloc (.cells #[.bool any, .float .f64 lo, .float .f64 hi] 31)) := (Below.refl _ _).alloc (Nat.le_refl _) _
  go_enter Tryd.func7, Tryd.ntmps7
  go_wp2_with fail
  generalize w.alloc (.cells #[.bool any, .float .f64 lo, .float .f64 hi] 31) = w0 at F0 b0 ⊢
  refine wp_region_held_drew (S := fun W => Below w0.heap.size w0 W) (by kernel_rfl) ((Below.refl _ _).drew) (fun hHeld => ?_)
  refine held_take 0 5 (v := (.agg #[.bool any, .float .f64 lo, .float .f64 hi])) rfl rfl (by kernel_rfl) (by kernel_rfl) (by kernel_rfl) (by rfl) (fun _ _ _ h => h) (by assumption) ?_ ?_
  · intro W hW
    have F := F0.out.below (by exact hW) F0.out.lt
    have c0 : W.cell? ⟨w.heap.size, 0, none⟩ = some (.bool any) := by rw [F.cell]; rfl
    have c1 : W.cell? ⟨w.heap.size, 1, none⟩ = some (.float .f64 lo) := by rw [F.cell]; rfl
    have c2 : W.cell? ⟨w.heap.size, 2, none⟩ = some (.float .f64 hi) := by rw [F.cell]; rfl
    clear F
    go_simp
  simp only [List.setIfInBounds_toArray, List.set_cons_zero, List.set_cons_succ]
  refine held_take 2 7 (v := (.agg #[.bool any, .float .f64 lo, .float .f64 hi])) rfl rfl (by kernel_rfl) (by kernel_rfl) (by kernel_rfl) (by rfl) (fun _ _ _ h => h) (by assumption) ?_ ?_
  · intro W hW
    have F := F0.out.below (by exact hW) F0.out.lt
    have c0 : W.cell? ⟨w.heap.size, 0, none⟩ = some (.bool any) := by rw [F.cell]; rfl
    have c1 : W.cell? ⟨w.heap.size, 1, none⟩ = some (.float .f64 lo) := by rw [F.cell]; rfl
    have c2 : W.cell? ⟨w.heap.size, 2, none⟩ = some (.float .f64 hi) := by rw [F.cell]; rfl
    clear F
    go_simp
  simp only [List.setIfInBounds_toArray, List.set_cons_zero, List.set_cons_succ]
  refine held_call 1 6 (f := 28) (args := #[(.agg #[.bool any, .float .f64 lo, .float .f64 hi])]) rfl rfl (by kernel_rfl) (by rfl) (by go_simp) ?_
  refine (Q1.out _ (HC.out.keep _ _ HG.out b0.drew)).mono ?_
  rintro e v1 ⟨rfl, d1⟩
  have t1 := b0.trans (((Below.refl w0.heap.size w0).drew.trans d1).mono b0.size)
  refine ⟨_, rfl, (Below.refl _ _).drew.trans d1, ?_⟩
  have held1 := Below.refl v1.heap.size v1
  refine held_more (S' := fun W => Below v1.heap.size v1 W) (fun W h => ((Below.refl _ _).drew.trans d1).trans (h.mono d1.size)) _ _ _ _ ?_
  simp only [List.setIfInBounds_toArray, List.set_cons_zero, List.set_cons_succ]
  have r1 : Below w0.heap.size w0 v1 := (Below.refl _ _).drew.trans d1
  refine held_call 3 8 (f := 29) (args := #[(.agg #[.bool any, .float .f64 lo, .float .f64 hi])]) rfl rfl (by kernel_rfl) (by rfl) (by go_simp) ?_
  refine (R1.out _).mono ?_
  rintro e v2 ⟨rfl, d2⟩
  refine ⟨_, rfl, (by exact d2), ?_⟩
  have held2 := Below.refl v2.heap.size v2
  refine held_more (S' := fun W => Below v2.heap.size v2 W) (fun W h => d2.trans (h.mono d2.size)) _ _ _ _ ?_
  have t2 := t1.trans (d2.mono t1.size)
  simp only [List.setIfInBounds_toArray, List.set_cons_zero, List.set_cons_succ]
  have r2 := r1.trans (d2.mono r1.size)
  refine held_take 4 9 (v := (.bool true)) rfl rfl (by kernel_rfl) (by kernel_rfl) (by kernel_rfl) (by rfl) (fun _ _ _ h => h) (by assumption) ?_ ?_
  · intro W hW
    go_simp
  simp only [List.setIfInBounds_toArray, List.set_cons_zero, List.set_cons_succ]
  refine held_take 5 10 (v := (.bool true)) rfl rfl (by kernel_rfl) (by kernel_rfl) (by kernel_rfl) (by rfl) (fun _ _ _ h => h) (by assumption) ?_ ?_
  · intro W hW
    go_simp
  simp only [List.setIfInBounds_toArray, List.set_cons_zero, List.set_cons_succ]
  refine held_take 6 11 (v := (.agg #[.bool any, .float .f64 lo, .float .f64 hi])) rfl rfl (by kernel_rfl) (by kernel_rfl) (by kernel_rfl) (by rfl) (fun _ _ _ h => h) (by assumption) ?_ ?_
  · intro W hW
    have F := F0.out.below (by exact (r2.trans (hW.mono r2.size))) F0.out.lt
    have c0 : W.cell? ⟨w.heap.size, 0, none⟩ = some (.bool any) := by rw [F.cell]; rfl
    have c1 : W.cell? ⟨w.heap.size, 1, none⟩ = some (.float .f64 lo) := by rw [F.cell]; rfl
    have c2 : W.cell? ⟨w.heap.size, 2, none⟩ = some (.float .f64 hi) := by rw [F.cell]; rfl
    clear F
    go_simp
  simp only [List.setIfInBounds_toArray, List.set_cons_zero, List.set_cons_succ]
  refine held_take 7 12 (v := (.float .f64 f)) rfl rfl (by kernel_rfl) (by kernel_rfl) (by kernel_rfl) (by rfl) (fun _ _ _ h => h) (by assumption) ?_ ?_
  · intro W hW
    go_simp
  simp only [List.setIfInBounds_toArray, List.set_cons_zero, List.set_cons_succ]
  refine held_take 9 14 (v := (.agg #[.bool any, .float .f64 lo, .float .f64 hi])) rfl rfl (by kernel_rfl) (by kernel_rfl) (by kernel_rfl) (by rfl) (fun _ _ _ h => h) (by assumption) ?_ ?_
  · intro W hW
    have F := F0.out.below (by exact (r2.trans (hW.mono r2.size))) F0.out.lt
    have c0 : W.cell? ⟨w.heap.size, 0, none⟩ = some (.bool any) := by rw [F.cell]; rfl
    have c1 : W.cell? ⟨w.heap.size, 1, none⟩ = some (.float .f64 lo) := by rw [F.cell]; rfl
    have c2 : W.cell? ⟨w.heap.size, 2, none⟩ = some (.float .f64 hi) := by rw [F.cell]; rfl
    clear F
    go_simp
  simp only [List.setIfInBounds_toArray, List.set_cons_zero, List.set_cons_succ]
  refine held_take 10 15 (v := (.float .f64 f)) rfl rfl (by kernel_rfl) (by kernel_rfl) (by kernel_rfl) (by rfl) (fun _ _ _ h => h) (by assumption) ?_ ?_
  · intro W hW
    go_simp
  simp only [List.setIfInBounds_toArray, List.set_cons_zero, List.set_cons_succ]
  refine held_call 8 13 (f := 17) (args := #[(.agg #[.bool any, .float .f64 lo, .float .f64 hi]), .float .f64 f]) rfl rfl (by kernel_rfl) (by rfl) (by go_simp) ?_
  refine (Q2.out _ (HC.out.keep _ _ HG.out t2)).mono ?_
  rintro e v3 ⟨rfl, d3⟩
  refine ⟨_, rfl, (by exact d3), ?_⟩
  have held3 := Below.refl v3.heap.size v3
  refine held_more (S' := fun W => Below v3.heap.size v3 W) (fun W h => d3.trans (h.mono d3.size)) _ _ _ _ ?_
  have t3 := t2.trans (d3.mono t2.size)
  simp only [List.setIfInBounds_toArray, List.set_cons_zero, List.set_cons_succ]
  have r3 := r2.trans (d3.mono r2.size)
  refine held_call 11 16 (f := 30) (args := #[(.agg #[.bool any, .float .f64 lo, .float .f64 hi]), .float .f64 f]) rfl rfl (by kernel_rfl) (by rfl) (by go_simp) ?_
  refine (R2.out _).mono ?_
  rintro e v4 ⟨rfl, d4⟩
  refine ⟨_, rfl, (by exact d4), ?_⟩
  have held4 := Below.refl v4.heap.size v4
  refine held_more (S' := fun W => Below v4.heap.size v4 W) (fun W h => d4.trans (h.mono d4.size)) _ _ _ _ ?_
  have t4 := t3.trans (d4.mono t3.size)
  simp only [List.setIfInBounds_toArray, List.set_cons_zero, List.set_cons_succ]
  have r4 := r3.trans (d4.mono r3.size)
  refine held_take 12 17 (v := (.bool true)) rfl rfl (by kernel_rfl) (by kernel_rfl) (by kernel_rfl) (by rfl) (fun _ _ _ h => h) (by assumption) ?_ ?_
  · intro W hW
    go_simp
  simp only [List.setIfInBounds_toArray, List.set_cons_zero, List.set_cons_succ]
  refine held_take 13 18 (v := (.bool true)) rfl rfl (by kernel_rfl) (by kernel_rfl) (by kernel_rfl) (by rfl) (fun _ _ _ h => h) (by assumption) ?_ ?_
  · intro W hW
    go_simp
  simp only [List.setIfInBounds_toArray, List.set_cons_zero, List.set_cons_succ]
  refine held_take 14 19 (v := (.bool true)) rfl rfl (by kernel_rfl) (by kernel_rfl) (by kernel_rfl) (by rfl) (fun _ _ _ h => h) (by assumption) ?_ ?_
  · intro W hW
    go_simp
  simp only [List.setIfInBounds_toArray, List.set_cons_zero, List.set_cons_succ]
  refine held_call 15 20 (f := 3) (args := #[]) rfl rfl (by kernel_rfl) (by rfl) (by go_simp) ?_
  refine (HC.out.runs _ (HC.out.keep _ _ HG.out t4)).mono ?_
  rintro e v5 ⟨rfl, d5⟩
  refine ⟨_, rfl, (by exact d5), ?_⟩
  have held5 := Below.refl v5.heap.size v5
  refine held_more (S' := fun W => Below v5.heap.size v5 W) (fun W h => d5.trans (h.mono d5.size)) _ _ _ _ ?_
  have t5 := t4.trans (d5.mono t4.size)
  simp only [List.setIfInBounds_toArray, List.set_cons_zero, List.set_cons_succ]
  have r5 := r4.trans (d5.mono r4.size)
  refine held_take 16 21 (v := (.bool true)) rfl rfl (by kernel_rfl) (by kernel_rfl) (by kernel_rfl) (by rfl) (fun _ _ _ h => h) (by assumption) ?_ ?_
  · intro W hW
    go_simp
  simp only [List.setIfInBounds_toArray, List.set_cons_zero, List.set_cons_succ]
  refine held_take 17 4 (v := (.bool true)) rfl rfl (by kernel_rfl) (by kernel_rfl) (by kernel_rfl) (by rfl) (fun _ _ _ h => h) (by assumption) ?_ ?_
  · intro W hW
    go_simp
  simp only [List.setIfInBounds_toArray, List.set_cons_zero, List.set_cons_succ]
  refine wpAnyH_done (by kernel_rfl) ?_ _
  have hfin := t5
  clear Q1 Q2 R1 R2 F0 b0
  go_wp2
  go_ret
  exact ⟨rfl, hfin⟩
end
end Go.Proofs.YtmdpeifpgnkbiaaDoor
