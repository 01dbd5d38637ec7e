/-
  What slices.stableCmpFunc and slices.SortStableFunc do to a row of ints: an ascending row of no more than 60 places is sorted by the order. Conditions as in XQi.
-/
import Derived.Test.YtmdpeifpgnkbiaaDoorQv
namespace Go.Proofs.YtmdpeifpgnkbiaaDoor
open Go.RowKit
namespace So
variable {R : Nat → Nat → Prop} {lt : Nat → Nat → Bool}
/-- A border that lies outside of what is exchanged stays one. -/
theorem Via.border {a b n p : Nat} {d d' : Nat → Nat} (v : Via a b d d') (h : Cross d 0 p n) (hb : b ≤ n) (hp : p ≤ a ∨ b ≤ p) : Cross d' 0 p n := by
  intro i j _ h2 h3 h4
  rcases hp with hp | hp
  · rw [v.out i (.inl (by omega))]
    by_cases c : a ≤ j ∧ j < b
    · exact v.all (fun x => d i < x) (fun k k1 k2 => h i k (by omega) h2 (by omega) (by omega)) j c.1 c.2
    · rw [v.out j (by omega)]; exact h i j (by omega) h2 h3 h4
  · rw [v.out j (.inr (by omega))]
    by_cases c : a ≤ i ∧ i < b
    · exact v.all (fun x => x < d j) (fun k k1 k2 => h k j (by omega) (by omega) h3 h4) i c.1 c.2
    · rw [v.out i (by omega)]; exact h i j (by omega) h2 h3 h4
end So
section
variable {B n : Nat} {c : FuncId} {cb : Array Value} {cf : Nat → Nat → Int} {S : (Nat → Nat) → World → Prop} {R : Nat → Nat → Prop}
/-- The row is made of d0 by exchanges; borders stand where cut says, pieces are sorted where srt says. -/
def Fine (S : (Nat → Nat) → World → Prop) (R : Nat → Nat → Prop) (n : Nat) (d0 : Nat → Nat) (cut : Nat → Prop) (srt : Nat → Nat → Prop) (w : World) : Prop :=
  ∃ d, S d w ∧ So.Via 0 n d0 d ∧ (∀ p, cut p → So.Cross d 0 p n) ∧ ∀ a b, srt a b → So.Sorted R d a b
theorem ins_fine (T : SortW B n c cb cf S) (O : So.Ord R (ltf cf)) (cap a b : Nat) {d0 : Nat → Nat} {cut cut' : Nat → Prop} {srt srt' : Nat → Nat → Prop} {w : World} (F : Fine S R n d0 cut srt w) (h1 : a ≤ b) (h3 : b ≤ n)
    (hc : ∀ p, a < p → p < b → cut p) (hc' : ∀ p, cut' p → cut p ∧ (p ≤ a ∨ b ≤ p)) (hs' : ∀ x y, srt' x y → (x = a ∧ y = b) ∨ (srt x y ∧ (y ≤ a ∨ b ≤ x))) :
    Calls Tryd.prog 58 #[.slice (some ⟨B, 0, none⟩) n cap, .int .i64 (a : Int), .int .i64 (b : Int), .func (.func c) #[] cb] w fun e w' => e = .returned (.tuple #[]) ∧ Fine S R n d0 cut' srt' w' := by
  obtain ⟨d, hS, hv, hcut, hsrt⟩ := F
  refine (ins_any T O cap a b d w hS h1 h3 (fun i j i1 ij j2 => hcut j (hc j (by omega) j2) i j (by omega) ij (Nat.le_refl _) (by omega))).mono ?_
  rintro e w' ⟨rfl, d', hS', hv', hsd⟩
  refine ⟨rfl, d', hS', hv.trans (hv'.mono (by omega) h3), fun p hp => hv'.border (hcut p (hc' p hp).1) h3 (hc' p hp).2, fun x y hxy => ?_⟩
  rcases hs' x y hxy with ⟨rfl, rfl⟩ | ⟨q, hq⟩
  · exact hsd
  · exact (hsrt x y q).congr fun k k1 k2 => hv'.out k (by omega)
theorem merge_fine (T : SortW B n c cb cf S) (O : So.Ord R (ltf cf)) (cap a m b : Nat) {d0 : Nat → Nat} {cut cut' : Nat → Prop} {srt srt' : Nat → Nat → Prop} {w : World} (F : Fine S R n d0 cut srt w) (h1 : a < m) (h2 : m < b) (h3 : b ≤ n)
    (hc : cut m) (s1 : srt a m) (s2 : srt m b) (hc' : ∀ p, cut' p → cut p ∧ (p ≤ a ∨ b ≤ p)) (hs' : ∀ x y, srt' x y → (x = a ∧ y = b) ∨ (srt x y ∧ (y ≤ a ∨ b ≤ x))) :
    Calls Tryd.prog 59 #[.slice (some ⟨B, 0, none⟩) n cap, .int .i64 (a : Int), .int .i64 (m : Int), .int .i64 (b : Int), .func (.func c) #[] cb] w fun e w' => e = .returned (.tuple #[]) ∧ Fine S R n d0 cut' srt' w' := by
  obtain ⟨d, hS, hv, hcut, hsrt⟩ := F
  have M := merge_any T O cap (b - a) a m b d w (Nat.le_refl _) hS h1 h2 h3 (hsrt _ _ s1) (hsrt _ _ s2) (fun i j i1 i2 j1 j2 => hcut m hc i j (by omega) i2 j1 (by omega))
  unfold Merges at M
  refine M.mono ?_
  rintro e w' ⟨rfl, d', hS', hv', hsd⟩
  refine ⟨rfl, d', hS', hv.trans (hv'.mono (by omega) h3), fun p hp => hv'.border (hcut p (hc' p hp).1) h3 (hc' p hp).2, fun x y hxy => ?_⟩
  rcases hs' x y hxy with ⟨rfl, rfl⟩ | ⟨q, hq⟩
  · exact hsd
  · exact (hsrt x y q).congr fun k k1 k2 => hv'.out k (by omega)
theorem Fine.weak {d0 : Nat → Nat} {cut cut' : Nat → Prop} {srt srt' : Nat → Nat → Prop} {w : World} (F : Fine S R n d0 cut srt w) (hc : ∀ p, cut' p → cut p) (hs : ∀ x y, srt' x y → srt x y) : Fine S R n d0 cut' srt' w := by
  obtain ⟨d, hS, hv, hcut, hsrt⟩ := F
  exact ⟨d, hS, hv, fun p hp => hcut p (hc p hp), fun x y h => hsrt x y (hs x y h)⟩
set_option maxRecDepth 100000 in
set_option maxHeartbeats 4000000 in
theorem stable_any (T : SortW B n c cb cf S) (O : So.Ord R (ltf cf)) (cap : Nat) (d : Nat → Nat) (w : World) (hS : S d w) (ha : So.Asc d 0 n) :
    Calls Tryd.prog 54 #[.slice (some ⟨B, 0, none⟩) n cap, .int .i64 (n : Int), .func (.func c) #[] cb] w fun e w' => e = .returned (.tuple #[]) ∧ Fine S R n d (fun _ => False) (fun x y => x = 0 ∧ y = n) w' := by
  have HT := Lib.hid T
  have HO := Lib.hid O
  have hn := T.len
  have HF : Hid (Fine S R n d (fun _ => True) (fun _ _ => False) w) := ⟨d, hS, .refl, fun p _ i j _ h2 h3 h4 => ha i j (by omega) (by omega) h4, fun _ _ h => h.elim⟩
  clear T O hS ha
  go_enter Tryd.func54, Tryd.ntmps54
  go_wp2
  go_loopw [7, 8] (fun va vb wr => ∃ r q : Nat, va = .int .i64 (r : Int) ∧ vb = .int .i64 (q : Int) ∧ r ≤ n ∧ q = r + 20 ∧ Hid (r % 20 = 0) ∧ Hid (Fine S R n d (fun p => p % 20 = 0 ∨ r ≤ p) (fun x y => x % 20 = 0 ∧ y = x + 20 ∧ y ≤ r) wr)) (fun _ vb _ => n + 20 - (intOf vb).toNat)
  case atStart => exact ⟨0, 20, rfl, rfl, by omega, rfl, rfl, HF.out.weak (fun _ _ => trivial) (fun x y h => by omega)⟩
  case round =>
    obtain ⟨r, q, rfl, rfl, ht, hq, HR, HI⟩ := hrel
    clear HF
    have HQ := Lib.hid hq
    by_cases hb : q ≤ n
    · have hbz : (q : Int) ≤ (n : Int) := by omega
      have CI := Lib.hid (ins_fine HT.out HO.out cap r q (cut' := fun p => p % 20 = 0 ∨ q ≤ p) (srt' := fun x y => x % 20 = 0 ∧ y = x + 20 ∧ y ≤ q) HI.out (by omega) hb (fun p h1 h2 => .inr (by omega)) (fun p hp => by have := HR.out; omega) (fun x y h => by have := HR.out; omega))
      clear hq
      go_wp2_with fail
      refine CI.out.mono ?_
      rintro e w' ⟨rfl, F⟩
      have HF := Lib.hid F
      clear F CI HI
      go_wp2
      go_roundw
      case rel => exact ⟨q, q + 20, rfl, by go_num, hb, rfl, by have := HQ.out; have := HR.out; show _ = _; omega, HF⟩
      case measure => have := HQ.out; have := HR.out; simp [intOf]; omega
    · have hbz : ¬ (q : Int) ≤ (n : Int) := by omega
      have CI := Lib.hid (ins_fine HT.out HO.out cap r n (cut' := fun p => p % 20 = 0 ∧ p ≤ n) (srt' := fun x y => x % 20 = 0 ∧ ((y = x + 20 ∧ y ≤ n) ∨ (x ≤ n ∧ n < x + 20 ∧ y = n))) HI.out ht (Nat.le_refl _) (fun p h1 h2 => .inr (by omega)) (fun p hp => by have := HR.out; omega) (fun x y h => by have := HR.out; omega))
      clear hq
      go_wp2_with fail
      refine CI.out.mono ?_
      rintro e w' ⟨rfl, F⟩
      have HF := Lib.hid F
      clear F CI HI
      go_wp2
      go_loopw [6] (fun vs wr => ∃ s : Nat, vs = .int .i64 (s : Int) ∧ ((s = 20 ∧ Hid (Fine S R n d (fun p => p % 20 = 0 ∧ p ≤ n) (fun x y => x % 20 = 0 ∧ ((y = x + 20 ∧ y ≤ n) ∨ (x ≤ n ∧ n < x + 20 ∧ y = n))) wr)) ∨ (s = 40 ∧ Hid (20 < n) ∧ Hid (Fine S R n d (fun p => p = 40 ∧ p ≤ n) (fun x y => (x = 0 ∧ y = min 40 n) ∨ (x = 40 ∧ y = n ∧ 40 ≤ n)) wr)) ∨ (s = 80 ∧ Hid (Fine S R n d (fun _ => False) (fun x y => x = 0 ∧ y = n) wr)))) (fun vs _ => 80 - (intOf vs).toNat)
      case atStart => exact ⟨20, rfl, .inl ⟨rfl, HF⟩⟩
      case round =>
        obtain ⟨s, rfl, hs⟩ := hrel
        clear HF HQ HR hb hbz ht
        rcases hs with ⟨rfl, HF⟩ | ⟨rfl, H20, HF⟩ | ⟨rfl, HF⟩
        · try simp only [(rfl : ((20 : Nat) : Int) = (20 : Int))]
          by_cases h20 : 20 < n
          · have z20 : (20 : Int) < (n : Int) := by omega
            by_cases h40 : n < 40
            · have z40 : ¬ (40 : Int) ≤ (n : Int) := by omega
              have CM := Lib.hid (merge_fine HT.out HO.out cap 0 20 n (cut' := fun p => p = 40 ∧ p ≤ n) (srt' := fun x y => (x = 0 ∧ y = min 40 n) ∨ (x = 40 ∧ y = n ∧ 40 ≤ n)) HF.out (by omega) (by omega) (by omega) (by omega) (by omega) (by omega) (fun p hp => by omega) (fun x y h => by omega))
              go_wp2
              refine wp_loop_rounds 1 ?_
              rw [rounds_succ]
              go_wp2_with fail
              refine CM.out.mono ?_
              rintro e w' ⟨rfl, F⟩
              have HF' := Lib.hid F
              clear F CM HF
              go_wp2
              go_roundw
              case rel => exact ⟨40, by go_num, .inr (.inl ⟨rfl, h20, HF'⟩)⟩
              case measure => simp [intOf]
            · have z40 : (40 : Int) ≤ (n : Int) := by omega
              have z80 : ¬ (80 : Int) ≤ (n : Int) := by omega
              have z60 : ¬ (60 : Int) < (n : Int) := by omega
              have CM := Lib.hid (merge_fine HT.out HO.out cap 0 20 40 (cut' := fun p => p = 40 ∧ p ≤ n) (srt' := fun x y => (x = 0 ∧ y = min 40 n) ∨ (x = 40 ∧ y = n ∧ 40 ≤ n)) HF.out (by omega) (by omega) (by omega) (by omega) (by omega) (by omega) (fun p hp => by omega) (fun x y h => by omega))
              go_wp2
              refine wp_loop_rounds 2 ?_
              rw [rounds_succ]
              go_wp2_with fail
              refine CM.out.mono ?_
              rintro e w' ⟨rfl, F⟩
              have HF' := Lib.hid F
              clear F CM HF
              go_wp2
              rw [rounds_succ]
              go_wp2
              go_roundw
              case rel => exact ⟨40, by go_num, .inr (.inl ⟨rfl, h20, HF'⟩)⟩
              case measure => simp [intOf]
          · have z20 : ¬ (20 : Int) < (n : Int) := by omega
            go_wp2
            go_end0
            exact ⟨rfl, HF.out.weak (fun _ h => h.elim) (fun x y h => by omega)⟩
        · try simp only [(rfl : ((40 : Nat) : Int) = (40 : Int))]
          by_cases h40 : 40 < n
          · have z40 : (40 : Int) < (n : Int) := by omega
            have z80 : ¬ (80 : Int) ≤ (n : Int) := by omega
            have CM := Lib.hid (merge_fine HT.out HO.out cap 0 40 n (cut' := fun _ => False) (srt' := fun x y => x = 0 ∧ y = n) HF.out (by omega) (by omega) (by omega) (by omega) (by omega) (by omega) (fun p hp => hp.elim) (fun x y h => by omega))
            go_wp2
            refine wp_loop_rounds 1 ?_
            rw [rounds_succ]
            go_wp2_with fail
            refine CM.out.mono ?_
            rintro e w' ⟨rfl, F⟩
            have HF' := Lib.hid F
            clear F CM HF
            go_wp2
            go_roundw
            case rel => exact ⟨80, by go_num, .inr (.inr ⟨rfl, HF'⟩)⟩
            case measure => simp [intOf]
          · have z40 : ¬ (40 : Int) < (n : Int) := by omega
            go_wp2
            go_end0
            exact ⟨rfl, HF.out.weak (fun _ h => h.elim) (fun x y h => by have := H20.out; omega)⟩
        · try simp only [(rfl : ((80 : Nat) : Int) = (80 : Int))]
          have z80 : ¬ (80 : Int) < (n : Int) := by omega
          go_wp2
          go_end0
          exact ⟨rfl, HF.out⟩
set_option maxRecDepth 100000 in
theorem sortstable_any (T : SortW B n c cb cf S) (O : So.Ord R (ltf cf)) (cap : Nat) (d : Nat → Nat) (w : World) (hS : S d w) (ha : So.Asc d 0 n) :
    Calls Tryd.prog 41 #[.slice (some ⟨B, 0, none⟩) n cap, .func (.func c) #[] cb] w fun e w' => e = .returned (.tuple #[]) ∧ Fine S R n d (fun _ => False) (fun x y => x = 0 ∧ y = n) w' := by
  have CS := Lib.hid (stable_any T O cap d w hS ha)
  have hn := T.len
  clear T O hS ha
  go_enter Tryd.func41, Tryd.ntmps41
  go_wp2_with fail
  refine CS.out.mono ?_
  rintro e w' ⟨rfl, F⟩
  have HF := Lib.hid F
  clear F CS
  go_wp2
  go_end0
  exact ⟨rfl, HF.out⟩
end
end Go.Proofs.YtmdpeifpgnkbiaaDoor
