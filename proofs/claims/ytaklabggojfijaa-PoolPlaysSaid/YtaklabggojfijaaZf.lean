/-
  What the program's And, Not, Cut do. Conditions: lengths fit.
-/
import Derived.Test.YtaklabggojfijaaProg
import Derived.Test.YtaklabggojfijaaEd
import Derived.Test.YtaklabggojfijaaEm
import Derived.Test.YtaklabggojfijaaEf
import Derived.Test.YtaklabggojfijaaIa
import Derived.Test.YtaklabggojfijaaIb
import Derived.Test.YtaklabggojfijaaIc
import Derived.Test.YtaklabggojfijaaZa
import Derived.Test.YtaklabggojfijaaZb
import Derived.Test.YtaklabggojfijaaZc
import Derived.Test.YtaklabggojfijaaZe
import Derived.Deep.Cut
import Derived.Deep.RegionHeld3
import Derived.WalkKit
import Derived.WalkSpells
import Derived.WalkLawsBesides
import Derived.Lib.Hide
import Derived.Below
import Derived.BigQuiet
import Derived.Lib.QuietBelow
import Derived.Laws.StructEq
import Derived.KernelRfl
import Derived.Laws.MakeOwn
import Derived.Laws.OwnMore
import Derived.OwnWalk
import Derived.Laws.CopyOwn
import Derived.Laws.AppendOwn
import Derived.Deep.QuietTactic
import Derived.IntWalk
import Derived.Sort.OwnSortedInts
import Derived.Deep.Slices
import Derived.OpenShut
import Derived.Test.YtaklabggojfijaaSf
namespace Go.Proofs.Ytaklabggojfijaa
open Go.RowKit Go.Sort

theorem len_subset : ∀ {a b : List Int}, a.Pairwise (· < ·) → (∀ y, y ∈ a → y ∈ b) → a.length ≤ b.length
  | [], _, _, _ => Nat.zero_le _
  | x :: a, b, h, hs => by
    have hx := hs x (by simp)
    have hp := List.pairwise_cons.1 h
    have := len_subset (a := a) (b := b.erase x) hp.2 fun y hy => by
      have hne : y ≠ x := by have := hp.1 y hy; omega
      exact (List.mem_erase_of_ne hne).2 (hs y (by simp [hy]))
    rw [List.length_erase_of_mem hx] at this
    have := List.length_pos_of_mem hx
    simp only [List.length_cons]; omega
theorem IsRise.len {l out : List Int} (h : IsRise l out) : out.length ≤ l.length := len_subset h.1 fun y hy => (h.2 y).1 hy
theorem IsRise.le {l out : List Int} (h : IsRise l out) : out.Pairwise (· ≤ ·) := h.1.imp fun h => by omega
theorem pick_mem {xs ys : List Int} {inn : Bool} {y : Int} : y ∈ pickZ ys inn xs ↔ (y ∈ xs ∧ (decide (y ∈ ys) = inn)) := by simp [pickZ]
theorem pick_rise {xs ys r1 r2 : List Int} (inn : Bool) (p : Int → Bool) (h1 : IsRise ys r1) (h2 : IsRise xs r2) (hp : ∀ x, (!p x) = (decide (x ∈ r1) == inn)) : IsRise (pickZ ys inn xs) (r2.filter fun x => !p x) := by
  refine ⟨List.Pairwise.filter _ h2.1, fun y => ?_⟩
  have e : (decide (y ∈ r1)) = decide (y ∈ ys) := by simp [h1.2 y]
  rw [pick_mem, List.mem_filter, h2.2 y, hp, e]
  simp
theorem own_where {w : World} {base n c : Nat} {A : Option Addr} {l : List Int} (h : w.ownsRow base 3 1 (.slice A n c) n (zs l)) : ∀ b off, A = some ⟨b, off, none⟩ → b < w.heap.size := fun b off e => by
  rcases own_split h with ⟨e2, _⟩ | ⟨g, cap, e2, _, h3, _⟩
  · injection e2 with e3; rw [e3] at e; cases e
  · injection e2 with e3; rw [e3] at e; cases e; exact h3
set_option maxRecDepth 100000 in
set_option maxHeartbeats 1000000 in
theorem not_any (xs ys : List Int) (A B : Option Addr) (nx ny ca cb : Nat) (w : World) (ex : xs.length = nx) (ey : ys.length = ny) (hx : nx ≤ 1048576) (hy : ny ≤ 1048576) (hA : A = none → ca = 0) (hB : B = none → cb = 0) (ha : IsZ w A xs) (hb : IsZ w B ys) :
    Calls Try.prog 22 #[.slice A nx ca, .slice B ny cb] w fun e w' => ∃ out, IsRise (pickZ ys false xs) out ∧ MadeZ w out e w' := by
  have C := Lib.hid (zmake_any ys B ny cb w ey hy hB hb)
  have HX := Lib.hid (And.intro ex (And.intro hA ha))
  have EY := Lib.hid ey
  have eg : ∀ args w, (callFunc 27 args).run Try.prog w = .ok (.enter 27 args) w := enters_of Try.func27 (by kernel_rfl) rfl
  have EG := Lib.hid eg
  clear ex ey ha hb hA hB eg
  go_enter Try.func22, Try.ntmps22
  go_wp2_with fail
  refine C.out.mono ?_
  rintro e w1 ⟨r1, h1, v1, rfl, o1, b1⟩
  have N1 := Lib.hid (show r1.length ≤ 1048576 by have := h1.len; rw [EY.out] at this; omega)
  have R1 := Lib.hid h1
  have B1 := Lib.hid b1
  obtain ⟨A1, c1, rfl, _, _, z1, _⟩ := own_z o1
  have Z1 := Lib.hid z1
  have W1 := Lib.hid (own_where o1)
  have BA : Hid (Below w.heap.size w (w1.alloc (.cells #[.slice A1 r1.length c1] 30))) := b1.alloc b1.size _
  have C2 := Lib.hid (zmake_any xs A nx ca (w1.alloc (.cells #[.slice A1 r1.length c1] 30)) HX.out.1 hx HX.out.2.1 (HX.out.2.2.below BA.out))
  clear h1 o1 b1 z1 C
  go_wp2_with fail
  refine C2.out.mono ?_
  rintro e w2 ⟨r2, h2, v2, rfl, o2, b2⟩
  have N2 := Lib.hid (show r2.length ≤ 1048576 by have := h2.len; rw [HX.out.1] at this; omega)
  have hs2 : w1.heap.size + 1 ≤ w2.heap.size := by have := b2.size; simpa using this
  have hc2 : w2.cell? ⟨w1.heap.size, 0, none⟩ = some (.slice A1 r1.length c1) := (b2.cell (p := ⟨w1.heap.size, 0, none⟩) (by simp)).trans (by simp)
  have z2 : IsZ w2 A1 r1 := (Z1.out.below ((Below.refl _ _).alloc (Nat.le_refl _) _)).below b2
  have o2' : w2.ownsRow (w1.heap.size + 1) 3 1 v2 r2.length (zs r2) := by simpa using o2
  have D := Lib.hid (delete_any 27 EG.out (fun x => decide (x ∈ r1)) w1.heap.size A1 r1.length c1 r1 (fun x W hc hz => not1_any r1 x A1 r1.length c1 w1.heap.size W rfl (by have := N1.out; omega) hc hz R1.out.le) r2 v2 r2.length (w1.heap.size + 1) w2 o2' (by have := N2.out; omega) (by omega) (by omega) hs2 hc2 z2 (fun b off e => by have := W1.out b off e; omega))
  have Q : Hid (IsRise (pickZ ys false xs) (r2.filter fun x => !(fun x => decide (x ∈ r1)) x)) := pick_rise false _ R1.out h2 (fun x => by cases decide (x ∈ r1) <;> rfl)
  have B2 : Hid (Below w.heap.size w w2) := BA.out.trans (b2.mono BA.out.size)
  have S1 : Hid (w.heap.size ≤ w1.heap.size) := B1.out.size
  clear h2 o2 o2' b2 hc2 z2 C2 R1 Z1 HX EG
  generalize (r2.filter fun x => !(fun x => decide (x ∈ r1)) x) = out at *
  go_wp2_with fail
  refine D.out.mono ?_
  rintro e w3 ⟨v3, rfl, o3, b3⟩
  have F : Hid (World.ownsRow w3 w.heap.size 3 1 v3 out.length (zs out) ∧ Below w.heap.size w w3) := ⟨own_baseZ o3 (by have := S1.out; omega), B2.out.trans (b3.mono (by have := S1.out; omega))⟩
  clear o3 b3 D
  go_wp2
  go_ret
  exact ⟨out, Q.out, v3, rfl, F.out.1, F.out.2⟩
set_option maxRecDepth 100000 in
theorem cut_any (xs : List Int) (x : Int) (A : Option Addr) (nx ca : Nat) (w : World) (ex : xs.length = nx) (hx : nx ≤ 1048576) (hA : A = none → ca = 0) (ha : IsZ w A xs) :
    Calls Try.prog 18 #[.slice A nx ca, .int .i64 x] w fun e w' => ∃ out, IsRise (pickZ [x] false xs) out ∧ MadeZ w out e w' := by
  have B0 : Hid (Below w.heap.size w (w.alloc (.cells #[.int .i64 x] 3))) := (Below.refl _ _).alloc (Nat.le_refl _) _
  have C := Lib.hid (not_any xs [x] A (some ⟨w.heap.size, 0, none⟩) nx 1 ca 1 (w.alloc (.cells #[.int .i64 x] 3)) ex rfl hx (by omega) hA (fun e => by cases e) (ha.below B0.out) (lit_z w x))
  clear ex ha hA
  go_enter Try.func18, Try.ntmps18
  go_wp2_with fail
  refine C.out.mono ?_
  rintro e w1 ⟨out, r, v, rfl, o, b⟩
  have Q : Hid (IsRise (pickZ [x] false xs) out ∧ World.ownsRow w1 w.heap.size 3 1 v out.length (zs out) ∧ Below w.heap.size w w1) := ⟨r, own_baseZ o B0.out.size, B0.out.trans (b.mono B0.out.size)⟩
  clear r o b C
  go_wp2
  go_ret
  exact ⟨out, Q.out.1, v, rfl, Q.out.2.1, Q.out.2.2⟩
set_option maxRecDepth 100000 in
theorem rcut_any (xs : List Int) (x : Int) (A : Option Addr) (nx ca : Nat) (w : World) (ex : xs.length = nx) (hx : nx ≤ 1048576) (ha : IsZ w A xs) :
    Calls Try.prog 12 #[.slice A nx ca, .int .i64 x] w fun e w' => ∃ out, IsRise (pickZ [x] false xs) out ∧ MadeZ w out e w' := by
  have B0 : Hid (Below w.heap.size w (w.alloc (.cells #[.int .i64 x] 3))) := (Below.refl _ _).alloc (Nat.le_refl _) _
  have C := Lib.hid (both_any xs [x] false A (some ⟨w.heap.size, 0, none⟩) nx 1 ca 1 (w.alloc (.cells #[.int .i64 x] 3)) ex rfl hx (by omega) (ha.below B0.out) (lit_z w x))
  clear ex ha
  go_enter Try.func12, Try.ntmps12
  go_wp2_with fail
  refine C.out.mono ?_
  rintro e w1 ⟨out, r, v, rfl, o, b⟩
  have Q : Hid (IsRise (pickZ [x] false xs) out ∧ World.ownsRow w1 w.heap.size 3 1 v out.length (zs out) ∧ Below w.heap.size w w1) := ⟨r, own_baseZ o B0.out.size, B0.out.trans (b.mono B0.out.size)⟩
  clear r o b C
  go_wp2
  go_ret
  exact ⟨out, Q.out.1, v, rfl, Q.out.2.1, Q.out.2.2⟩
set_option maxRecDepth 100000 in
theorem has_any (xs : List Int) (x : Int) (A : Option Addr) (nx ca : Nat) (w : World) (ex : xs.length = nx) (hx : nx ≤ 1099511627776) (ha : IsZ w A xs) :
    Calls Try.prog 16 #[.slice A nx ca, .int .i64 x] w fun e w' => e = .returned (.bool (decide (x ∈ xs))) ∧ w' = w := by
  have K : Calls Try.prog 21 #[.slice A nx ca, .int .i64 x] w fun e w' => e = .returned (.bool (decide (x ∈ xs))) ∧ w' = w := by
    by_cases h0 : nx = 0
    · subst h0
      obtain rfl : xs = [] := List.length_eq_zero_iff.1 ex
      simpa using Try.slices_Contains_int_empty A ca x w
    · obtain ⟨b, off, rfl, hc⟩ := ha (by omega)
      have K := Try.slices_Contains_int b off nx ca xs x w (by omega) (by omega) hc
      rw [List.take_of_length_le (by omega), show xs.contains x = decide (x ∈ xs) by simp] at K
      exact K
  have C := Lib.hid K
  clear ex ha K
  generalize decide (x ∈ xs) = b at *
  go_enter Try.func16, Try.ntmps16
  go_wp2_with fail
  refine C.out.mono ?_
  rintro e w1 ⟨rfl, rfl⟩
  clear C
  go_wp2
  go_ret
  exact ⟨rfl, rfl⟩
set_option maxRecDepth 100000 in
set_option maxHeartbeats 1000000 in
theorem zis_any (xs : List Int) (A : Option Addr) (nx ca : Nat) (w : World) (ex : xs.length = nx) (hx : nx ≤ 1099511627776) (ha : IsZ w A xs) :
    Calls Try.prog 17 #[.slice A nx ca] w fun e w' => e = .returned (.bool (decide (xs.Pairwise (· < ·)))) ∧ ∃ q, w' = w.drewN q := by
  have HA := Lib.hid ha
  have EX := Lib.hid ex
  have HI := Lib.hid (asc_iff (l := xs))
  clear ha ex
  go_enter Try.func17, Try.ntmps17
  go_wp2
  go_loopw [3] (fun i wr => ∃ k : Nat, 1 ≤ k ∧ (k ≤ nx ∨ nx = 0 ∧ k = 1) ∧ i = .int .i64 (k : Int) ∧ Hid (∀ j, j + 1 < k → xs.getD j 0 < xs.getD (j + 1) 0) ∧ ∃ q, wr = w.drewN q) (fun i _ => nx - (intOf i).toNat)
  case atStart => exact ⟨1, by omega, by omega, rfl, (fun j hj => by omega), 0, rfl⟩
  case round =>
    obtain ⟨k, hk1, hk, rfl, HALL, hq⟩ := hrel
    have HQ := Lib.hid hq
    clear hq
    by_cases hkn : k < nx
    · obtain ⟨b, off, rfl, h1⟩ := HA.out (by rw [EX.out]; omega)
      have c1 : wr.cell? ⟨b, off + k, none⟩ = some (.int .i64 (xs.getD k 0)) := by obtain ⟨q, rfl⟩ := HQ.out; exact h1 k (by rw [EX.out]; exact hkn)
      have c0 : wr.cell? ⟨b, off + (k - 1), none⟩ = some (.int .i64 (xs.getD (k - 1) 0)) := by obtain ⟨q, rfl⟩ := HQ.out; exact h1 (k - 1) (by rw [EX.out]; omega)
      have hw : wrap64 ((k : Int) - 1) = (k : Int) - 1 := by unfold wrap64; omega
      have i0 : (0 : Int) ≤ (k : Int) - 1 := by omega
      have i1 : (k : Int) - 1 < (nx : Int) := by omega
      have i2 : ((k : Int) - 1).toNat = k - 1 := by omega
      clear h1
      by_cases e : xs.getD (k - 1) 0 < xs.getD k 0
      · have HE : Hid (∀ j, j + 1 < k + 1 → xs.getD j 0 < xs.getD (j + 1) 0) := fun j hj => by
          by_cases hjk : j + 1 < k
          · exact HALL.out j hjk
          · obtain rfl : j = k - 1 := by omega
            rw [show k - 1 + 1 = k by omega]; exact e
        have nle : ¬ xs.getD k 0 ≤ xs.getD (k - 1) 0 := by omega
        clear e HALL
        generalize xs.getD (k - 1) 0 = x0 at c0 nle
        generalize xs.getD k 0 = x1 at c1 nle
        go_wp2
        go_quiet (fail)
        go_wp2
        go_roundw
        case rel => exact ⟨k + 1, by omega, by omega, by go_num, HE, by obtain ⟨q, rfl⟩ := HQ.out; exact ⟨q + nq, World.drewN_drewN _ _ _⟩⟩
        case measure => simp [intOf]; omega
      · have NE : Hid (decide (xs.Pairwise (· < ·)) = false) := by
          show _ = _
          rw [decide_eq_false_iff_not, HI.out]
          intro h
          have := h (k - 1) (by rw [EX.out]; omega)
          rw [show k - 1 + 1 = k by omega] at this
          exact e this
        have le : xs.getD k 0 ≤ xs.getD (k - 1) 0 := by omega
        clear e HALL HI
        generalize xs.getD (k - 1) 0 = x0 at c0 le
        generalize xs.getD k 0 = x1 at c1 le
        go_wp2
        go_quiet (fail)
        go_wp2
        go_ret
        exact ⟨by rw [NE.out]; rfl, by obtain ⟨q, rfl⟩ := HQ.out; exact ⟨q + nq, World.drewN_drewN _ _ _⟩⟩
    · have YE : Hid (decide (xs.Pairwise (· < ·)) = true) := by
        show _ = _
        rw [decide_eq_true_iff, HI.out]
        intro j hj
        exact HALL.out j (by rw [EX.out] at hj; omega)
      clear HALL HI
      go_wp2
      go_ret
      exact ⟨by rw [YE.out]; rfl, HQ.out⟩

end Go.Proofs.Ytaklabggojfijaa
