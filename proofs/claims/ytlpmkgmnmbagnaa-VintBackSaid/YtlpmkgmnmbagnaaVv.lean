/-
  The walk of the law VintPuts: for any number and any text it returns true and leaves what was there. Conditions: none.
-/
import Derived.Test.YtlpmkgmnmbagnaaVy
namespace Go.Proofs.Ytlpmkgmnmbagnaa
open Go.RowKit

theorem text_byte (s : ByteArray) : ∀ x ∈ textL s, x < 256 := by
  intro x hx
  simp only [textL, List.mem_map] at hx
  obtain ⟨b, _, rfl⟩ := hx
  exact b.toNat_lt
theorem putText_byte {s : ByteArray} (h : s.size ≤ 140737488351232) : ∀ x ∈ putText s, x < 256 := by
  intro x hx
  rcases List.mem_append.1 hx with h1 | h1
  · exact Vm.put_byte (fits_size h) x h1
  · exact text_byte s x h1

set_option maxRecDepth 100000 in
set_option maxHeartbeats 1000000 in
theorem puts_any (n : Nat) (s : ByteArray) (w : World) (hn : Vm.Fits n) (hs : s.size ≤ maxLen) :
    Calls Try.prog 4 #[.int .u64 (n : Int), .string s] w fun e w' => e = .returned (.bool true) ∧ Below w.heap.size w w' := by
  by_cases h : 400 < s.size
  · have HL := Lib.hid hs
    clear hs
    go_enter Try.func4, Try.ntmps4
    go_wp2_with fail
    refine (runs_any _).mono ?_
    rintro e w3 ⟨rfl, hb3⟩
    go_wp2
    go_ret
    exact ⟨rfl, hb3⟩
  · clear hs
    have hs : s.size ≤ 140737488351232 := by omega
    have PC1 : Hid (∀ (W : World) (B : Nat) (v : Value), W.ownsRow B 5 1 v (Vm.put n).length (by8 (Vm.put n)) → (convert 25 9 v).run Try.prog W = .ok (.string (strOf (Vm.put n))) W) := fun W B v ho => own_conv ho (Vm.put_byte hn)
    have PC2 : Hid (∀ (W : World) (B : Nat) (v : Value), W.ownsRow B 5 1 v (putText s).length (by8 (putText s)) → (convert 25 9 v).run Try.prog W = .ok (.string (strOf (putText s))) W) := fun W B v ho => own_conv ho (putText_byte hs)
    have PC3 : Hid (∀ (W : World) (B : Nat) (v : Value), W.ownsRow B 5 1 v (Vm.word n).length (by8 (Vm.word n)) → (convert 25 9 v).run Try.prog W = .ok (.string (strOf (Vm.word n))) W) := fun W B v ho => own_conv ho (Vm.word_byte n)
    generalize strOf (Vm.put n) = S1 at PC1
    generalize strOf (putText s) = S2 at PC2
    generalize strOf (Vm.word n) = S3 at PC3
    go_enter Try.func4, Try.ntmps4
    go_wp2_with fail
    refine wp_region_held_drew (S := fun W => Below w.drew.heap.size w.drew W) (by kernel_rfl) (Below.refl _ _) (fun hHeld => ?_)
    refine held_take 0 9 (v := ?_) rfl rfl (by kernel_rfl) (by kernel_rfl) (by kernel_rfl) (by rfl) (fun _ _ _ h => h) (by assumption) ?_ ?_
    rotate_left
    · intro W hW
      go_simp
      try with_reducible rfl
    simp only [List.setIfInBounds_toArray, List.set_cons_zero, List.set_cons_succ]
    refine held_take 3 12 (v := ?_) rfl rfl (by kernel_rfl) (by kernel_rfl) (by kernel_rfl) (by rfl) (fun _ _ _ h => h) (by assumption) ?_ ?_
    rotate_left
    · intro W hW
      go_simp
      try with_reducible rfl
    simp only [List.setIfInBounds_toArray, List.set_cons_zero, List.set_cons_succ]
    refine held_call 1 10 (f := 10) (args := #[.int .u64 (n : Int)]) rfl rfl (by kernel_rfl) (by rfl) (by go_simp) ?_
    refine (put_any n _ hn).mono ?_
    rintro e w1 ⟨v1, rfl, o1, hb1⟩
    refine ⟨v1, rfl, hb1, ?_⟩
    have hHeld1 := Below.refl w1.heap.size w1
    refine held_more (S' := fun W => Below w1.heap.size w1 W) (fun W h => hb1.trans (h.mono hb1.size)) _ _ _ _ ?_
    simp only [List.setIfInBounds_toArray, List.set_cons_zero, List.set_cons_succ]
    refine held_take 2 11 (v := ?_) rfl rfl (by kernel_rfl) (by kernel_rfl) (by kernel_rfl) (by rfl) (fun _ _ _ h => h) (by assumption) ?_ ?_
    rotate_left
    · intro W hW
      have cW := PC1.out W _ v1 (own_keep o1 hW)
      go_simp
      try with_reducible rfl
    simp only [List.setIfInBounds_toArray, List.set_cons_zero, List.set_cons_succ]
    refine held_call 4 13 (f := 12) (args := #[.int .u64 (n : Int)]) rfl rfl (by kernel_rfl) (by rfl) (by go_simp) ?_
    refine (rput_any n _ hn).mono ?_
    rintro e w2 ⟨v2, rfl, o2, hb2⟩
    refine ⟨v2, rfl, hb2, ?_⟩
    have hHeld2 := Below.refl w2.heap.size w2
    refine held_more (S' := fun W => Below w2.heap.size w2 W) (fun W h => hb2.trans (h.mono hb2.size)) _ _ _ _ ?_
    simp only [List.setIfInBounds_toArray, List.set_cons_zero, List.set_cons_succ]
    refine held_take 5 14 (v := ?_) rfl rfl (by kernel_rfl) (by kernel_rfl) (by kernel_rfl) (by rfl) (fun _ _ _ h => h) (by assumption) ?_ ?_
    rotate_left
    · intro W hW
      have cW := PC1.out W _ v2 (own_keep o2 hW)
      go_simp
      try with_reducible rfl
    simp only [List.setIfInBounds_toArray, List.set_cons_zero, List.set_cons_succ]
    refine held_take 6 15 (v := ?_) rfl rfl (by kernel_rfl) (by kernel_rfl) (by kernel_rfl) (by rfl) (fun _ _ _ h => h) (by assumption) ?_ ?_
    rotate_left
    · intro W hW
      go_simp
      try with_reducible rfl
    simp only [List.setIfInBounds_toArray, List.set_cons_zero, List.set_cons_succ]
    refine held_take 7 16 (v := ?_) rfl rfl (by kernel_rfl) (by kernel_rfl) (by kernel_rfl) (by rfl) (fun _ _ _ h => h) (by assumption) ?_ ?_
    rotate_left
    · intro W hW
      go_simp
      try with_reducible rfl
    simp only [List.setIfInBounds_toArray, List.set_cons_zero, List.set_cons_succ]
    refine held_take 8 17 (v := ?_) rfl rfl (by kernel_rfl) (by kernel_rfl) (by kernel_rfl) (by rfl) (fun _ _ _ h => h) (by assumption) ?_ ?_
    rotate_left
    · intro W hW
      go_simp
      try with_reducible rfl
    simp only [List.setIfInBounds_toArray, List.set_cons_zero, List.set_cons_succ]
    refine held_take 11 20 (v := ?_) rfl rfl (by kernel_rfl) (by kernel_rfl) (by kernel_rfl) (by rfl) (fun _ _ _ h => h) (by assumption) ?_ ?_
    rotate_left
    · intro W hW
      go_simp
      try with_reducible rfl
    simp only [List.setIfInBounds_toArray, List.set_cons_zero, List.set_cons_succ]
    refine held_call 9 18 (f := 11) (args := #[.string s]) rfl rfl (by kernel_rfl) (by rfl) (by go_simp) ?_
    refine (ptext_any s _ hs).mono ?_
    rintro e w3 ⟨v3, rfl, o3, hb3⟩
    refine ⟨v3, rfl, hb3, ?_⟩
    have hHeld3 := Below.refl w3.heap.size w3
    refine held_more (S' := fun W => Below w3.heap.size w3 W) (fun W h => hb3.trans (h.mono hb3.size)) _ _ _ _ ?_
    simp only [List.setIfInBounds_toArray, List.set_cons_zero, List.set_cons_succ]
    refine held_take 10 19 (v := ?_) rfl rfl (by kernel_rfl) (by kernel_rfl) (by kernel_rfl) (by rfl) (fun _ _ _ h => h) (by assumption) ?_ ?_
    rotate_left
    · intro W hW
      have cW := PC2.out W _ v3 (own_keep o3 hW)
      go_simp
      try with_reducible rfl
    simp only [List.setIfInBounds_toArray, List.set_cons_zero, List.set_cons_succ]
    refine held_call 12 21 (f := 13) (args := #[.string s]) rfl rfl (by kernel_rfl) (by rfl) (by go_simp) ?_
    refine (rptext_any s _ hs).mono ?_
    rintro e w4 ⟨v4, rfl, o4, hb4⟩
    refine ⟨v4, rfl, hb4, ?_⟩
    have hHeld4 := Below.refl w4.heap.size w4
    refine held_more (S' := fun W => Below w4.heap.size w4 W) (fun W h => hb4.trans (h.mono hb4.size)) _ _ _ _ ?_
    simp only [List.setIfInBounds_toArray, List.set_cons_zero, List.set_cons_succ]
    refine held_take 13 22 (v := ?_) rfl rfl (by kernel_rfl) (by kernel_rfl) (by kernel_rfl) (by rfl) (fun _ _ _ h => h) (by assumption) ?_ ?_
    rotate_left
    · intro W hW
      have cW := PC2.out W _ v4 (own_keep o4 hW)
      go_simp
      try with_reducible rfl
    simp only [List.setIfInBounds_toArray, List.set_cons_zero, List.set_cons_succ]
    refine held_take 14 23 (v := ?_) rfl rfl (by kernel_rfl) (by kernel_rfl) (by kernel_rfl) (by rfl) (fun _ _ _ h => h) (by assumption) ?_ ?_
    rotate_left
    · intro W hW
      go_simp
      try with_reducible rfl
    simp only [List.setIfInBounds_toArray, List.set_cons_zero, List.set_cons_succ]
    refine held_take 15 24 (v := ?_) rfl rfl (by kernel_rfl) (by kernel_rfl) (by kernel_rfl) (by rfl) (fun _ _ _ h => h) (by assumption) ?_ ?_
    rotate_left
    · intro W hW
      go_simp
      try with_reducible rfl
    simp only [List.setIfInBounds_toArray, List.set_cons_zero, List.set_cons_succ]
    refine held_take 16 25 (v := ?_) rfl rfl (by kernel_rfl) (by kernel_rfl) (by kernel_rfl) (by rfl) (fun _ _ _ h => h) (by assumption) ?_ ?_
    rotate_left
    · intro W hW
      go_simp
      try with_reducible rfl
    simp only [List.setIfInBounds_toArray, List.set_cons_zero, List.set_cons_succ]
    refine held_take 17 26 (v := ?_) rfl rfl (by kernel_rfl) (by kernel_rfl) (by kernel_rfl) (by rfl) (fun _ _ _ h => h) (by assumption) ?_ ?_
    rotate_left
    · intro W hW
      go_simp
      try with_reducible rfl
    simp only [List.setIfInBounds_toArray, List.set_cons_zero, List.set_cons_succ]
    refine held_take 20 29 (v := ?_) rfl rfl (by kernel_rfl) (by kernel_rfl) (by kernel_rfl) (by rfl) (fun _ _ _ h => h) (by assumption) ?_ ?_
    rotate_left
    · intro W hW
      go_simp
      try with_reducible rfl
    simp only [List.setIfInBounds_toArray, List.set_cons_zero, List.set_cons_succ]
    refine held_call 18 27 (f := 14) (args := #[.int .u64 (n : Int)]) rfl rfl (by kernel_rfl) (by rfl) (by go_simp) ?_
    refine (pword_any n _).mono ?_
    rintro e w5 ⟨v5, rfl, o5, hb5⟩
    refine ⟨v5, rfl, hb5, ?_⟩
    have hHeld5 := Below.refl w5.heap.size w5
    refine held_more (S' := fun W => Below w5.heap.size w5 W) (fun W h => hb5.trans (h.mono hb5.size)) _ _ _ _ ?_
    simp only [List.setIfInBounds_toArray, List.set_cons_zero, List.set_cons_succ]
    refine held_take 19 28 (v := ?_) rfl rfl (by kernel_rfl) (by kernel_rfl) (by kernel_rfl) (by rfl) (fun _ _ _ h => h) (by assumption) ?_ ?_
    rotate_left
    · intro W hW
      have cW := PC3.out W _ v5 (own_keep o5 hW)
      go_simp
      try with_reducible rfl
    simp only [List.setIfInBounds_toArray, List.set_cons_zero, List.set_cons_succ]
    refine held_call 21 30 (f := 15) (args := #[.int .u64 (n : Int)]) rfl rfl (by kernel_rfl) (by rfl) (by go_simp) ?_
    refine (rpword_any n _).mono ?_
    rintro e w6 ⟨v6, rfl, o6, hb6⟩
    refine ⟨v6, rfl, hb6, ?_⟩
    have hHeld6 := Below.refl w6.heap.size w6
    refine held_more (S' := fun W => Below w6.heap.size w6 W) (fun W h => hb6.trans (h.mono hb6.size)) _ _ _ _ ?_
    simp only [List.setIfInBounds_toArray, List.set_cons_zero, List.set_cons_succ]
    refine held_take 22 31 (v := ?_) rfl rfl (by kernel_rfl) (by kernel_rfl) (by kernel_rfl) (by rfl) (fun _ _ _ h => h) (by assumption) ?_ ?_
    rotate_left
    · intro W hW
      have cW := PC3.out W _ v6 (own_keep o6 hW)
      go_simp
      try with_reducible rfl
    simp only [List.setIfInBounds_toArray, List.set_cons_zero, List.set_cons_succ]
    refine held_take 23 32 (v := ?_) rfl rfl (by kernel_rfl) (by kernel_rfl) (by kernel_rfl) (by rfl) (fun _ _ _ h => h) (by assumption) ?_ ?_
    rotate_left
    · intro W hW
      go_simp
      try with_reducible rfl
    simp only [List.setIfInBounds_toArray, List.set_cons_zero, List.set_cons_succ]
    refine held_take 24 33 (v := ?_) rfl rfl (by kernel_rfl) (by kernel_rfl) (by kernel_rfl) (by rfl) (fun _ _ _ h => h) (by assumption) ?_ ?_
    rotate_left
    · intro W hW
      go_simp
      try with_reducible rfl
    simp only [List.setIfInBounds_toArray, List.set_cons_zero, List.set_cons_succ]
    refine held_take 25 34 (v := ?_) rfl rfl (by kernel_rfl) (by kernel_rfl) (by kernel_rfl) (by rfl) (fun _ _ _ h => h) (by assumption) ?_ ?_
    rotate_left
    · intro W hW
      go_simp
      try with_reducible rfl
    simp only [List.setIfInBounds_toArray, List.set_cons_zero, List.set_cons_succ]
    refine held_call 26 35 (f := 3) (args := #[]) rfl rfl (by kernel_rfl) (by rfl) (by go_simp) ?_
    refine (runs_any _).mono ?_
    rintro e w7 ⟨rfl, hb7⟩
    refine ⟨_, rfl, hb7, ?_⟩
    simp only [List.setIfInBounds_toArray, List.set_cons_zero, List.set_cons_succ]
    refine held_take 27 36 (v := ?_) rfl rfl (by kernel_rfl) (by kernel_rfl) (by kernel_rfl) (by rfl) (fun _ _ _ h => h) (by assumption) ?_ ?_
    rotate_left
    · intro W hW
      go_simp
      try with_reducible rfl
    simp only [List.setIfInBounds_toArray, List.set_cons_zero, List.set_cons_succ]
    refine held_take 28 4 (v := ?_) rfl rfl (by kernel_rfl) (by kernel_rfl) (by kernel_rfl) (by rfl) (fun _ _ _ h => h) (by assumption) ?_ ?_
    rotate_left
    · intro W hW
      go_simp
      try with_reducible rfl
    simp only [List.setIfInBounds_toArray, List.set_cons_zero, List.set_cons_succ]
    refine wpAnyH_done (by kernel_rfl) ?_ _
    have f1 := (Below.refl w.heap.size w).drew.trans hb1
    have f2 := f1.trans (hb2.mono f1.size)
    have f3 := f2.trans (hb3.mono f2.size)
    have f4 := f3.trans (hb4.mono f3.size)
    have f5 := f4.trans (hb5.mono f4.size)
    have f6 := f5.trans (hb6.mono f5.size)
    have f7 := f6.trans (hb7.mono f6.size)
    clear o1 o2 o3 o4 o5 o6 PC1 PC2 PC3 hb1 hb2 hb3 hb4 hb5 hb6 hb7 f1 f2 f3 f4 f5 f6
    go_wp2
    go_ret
    exact ⟨rfl, f7⟩

end Go.Proofs.Ytlpmkgmnmbagnaa
