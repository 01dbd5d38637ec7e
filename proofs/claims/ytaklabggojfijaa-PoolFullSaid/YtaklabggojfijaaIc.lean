/-
  What the reference's Both does: numbers of both rows, or of the first alone, in order, each once. Conditions: lengths fit.
-/
import Derived.Test.YtaklabggojfijaaProg
import Derived.Test.YtaklabggojfijaaEa
import Derived.Test.YtaklabggojfijaaEd
import Derived.Test.YtaklabggojfijaaEm
import Derived.Test.YtaklabggojfijaaEf
import Derived.Test.YtaklabggojfijaaEo
import Derived.Test.YtaklabggojfijaaIa
import Derived.Test.YtaklabggojfijaaIb
import Derived.Deep.RegionHeld3
import Derived.WalkKit
import Derived.WalkSpells
import Derived.WalkLawsBesides
import Derived.Lib.Hide
import Derived.Below
import Derived.BigQuiet
import Derived.Lib.QuietBelow
import Derived.Laws.StructEq
import Derived.KernelRfl
import Derived.Laws.MakeOwn
import Derived.Laws.OwnMore
import Derived.OwnWalk
import Derived.Laws.CopyOwn
import Derived.Laws.AppendOwn
import Derived.Deep.QuietTactic
import Derived.IntWalk
namespace Go.Proofs.Ytaklabggojfijaa
open Go.RowKit

/-- Those of the first that are (are not) in the second. -/
def pickZ (ys : List Int) (inn : Bool) (xs : List Int) : List Int := xs.filter fun x => decide (x ∈ ys) == inn
theorem pick_yes {xs ys : List Int} {inn : Bool} {k : Nat} (h : k < xs.length) (e : (decide (nz xs k ∈ ys) == inn) = true) : pickZ ys inn (xs.take (k + 1)) = pickZ ys inn (xs.take k) ++ [nz xs k] := by
  rw [List.take_succ_eq_append_getElem h, ← nz_eq h]; simp [pickZ, List.filter_append, e]
theorem pick_no {xs ys : List Int} {inn : Bool} {k : Nat} (h : k < xs.length) (e : (decide (nz xs k ∈ ys) == inn) = false) : pickZ ys inn (xs.take (k + 1)) = pickZ ys inn (xs.take k) := by
  rw [List.take_succ_eq_append_getElem h, ← nz_eq h]; simp [pickZ, List.filter_append, e]
theorem pick_len (xs ys : List Int) (inn : Bool) (k : Nat) : (pickZ ys inn (xs.take k)).length ≤ k := Nat.le_trans (List.length_filter_le _ _) (by simp; omega)
theorem own_grow {w1 w2 : World} {base e s n : Nat} {v : Value} {xs : List Value} (h : w1.ownsRow base e s v n xs) (hb : Below w1.heap.size w1 w2) : w2.ownsRow base e s v n xs := by
  refine ⟨h.1, ?_⟩
  rcases h.2 with hn | ⟨g, cap, cur, rfl, hbg, hg, rest⟩
  · exact .inl hn
  · exact .inr ⟨g, cap, cur, rfl, hbg, (hb.block g (Array.getElem?_eq_some_iff.1 hg).1).trans hg, rest⟩
/-- What Both's loop keeps. -/
structure BoI (w : World) (ys : List Int) (inn : Bool) (xs : List Int) (k : Nat) (v : Value) (wr : World) : Prop where
  ko : wr.ownsRow w.heap.size 3 1 v (pickZ ys inn (xs.take k)).length (zs (pickZ ys inn (xs.take k)))
  kb : Below w.heap.size w wr
set_option maxRecDepth 100000 in
set_option maxHeartbeats 4000000 in
theorem both_any (xs ys : List Int) (inn : Bool) (A B : Option Addr) (nx ny ca cb : Nat) (w : World) (ex : xs.length = nx) (ey : ys.length = ny) (hx : nx ≤ 1048576) (hy : ny ≤ 1048576) (ha : IsZ w A xs) (hb : IsZ w B ys) :
    Calls Try.prog 19 #[.slice A nx ca, .slice B ny cb, .bool inn] w fun e w' => ∃ out, IsRise (pickZ ys inn xs) out ∧ MadeZ w out e w' := by
  have HA := Lib.hid ha
  have HB := Lib.hid hb
  have EX := Lib.hid ex
  have EY := Lib.hid ey
  clear ha hb ex ey
  go_enter Try.func19, Try.ntmps19
  go_wp2
  go_loopw [7, 8] (fun v i wr => ∃ (k n : Nat) (A' : Option Addr) (c : Nat), k ≤ nx ∧ n ≤ k ∧ i = .int .i64 (k : Int) ∧ v = .slice A' n c ∧ Hid (BoI w ys inn xs k v wr)) (fun _ i _ => nx - (intOf i).toNat)
  case atStart => exact ⟨0, 0, none, 0, by omega, by omega, rfl, rfl, World.ownsRow_nil _ _ _ _, Below.refl _ _⟩
  case round =>
    obtain ⟨k, n, A', c, hk, hnk, rfl, rfl, HI⟩ := hrel
    by_cases hkn : k < nx
    · obtain ⟨b, off, rfl, _⟩ := HA.out (by rw [EX.out]; omega)
      have hkz : (k : Int) < (nx : Int) := by omega
      have c1 := isZ_at (HA.out.below HI.out.kb) (j := k) (by rw [EX.out]; exact hkn)
      have CH := Lib.hid (hasz_any ys (nz xs k) B ny cb wr EY.out (by omega) (HB.out.below HI.out.kb))
      cases he : (decide (nz xs k ∈ ys) == inn) with
      | true =>
        have PY := Lib.hid (pick_yes (by rw [EX.out]; exact hkn) he)
        have PL := Lib.hid (pick_len xs ys inn (k + 1))
        obtain ⟨bb, hbb⟩ : ∃ bb, decide (nz xs k ∈ ys) = bb := ⟨_, rfl⟩
        rw [hbb] at he CH
        obtain rfl : bb = inn := by simpa using he
        clear hbb he
        have AZ : Hid (Below w.heap.size w (wr.alloc (.cells #[.int .i64 (nz xs k)] 3))) := HI.out.kb.alloc HI.out.kb.size _
        have KO := Lib.hid (own_grow HI.out.ko ((Below.refl _ _).alloc (Nat.le_refl _) (.cells #[.int .i64 (nz xs k)] 3)))
        have LZ := Lib.hid (lit_z wr (nz xs k))
        have hn : Hid ((pickZ ys bb (xs.take k)).length = n) := by
          have h1 := HI.out.ko
          obtain ⟨A2, c2, e, _⟩ := own_z h1
          injection e with _ e2 _
          exact e2.symm
        rw [hn.out] at KO
        clear HI
        generalize nz xs k = X at *
        go_wp2_with fail
        refine CH.out.mono ?_
        rintro e w' ⟨rfl, rfl⟩
        clear CH
        go_wp2_with ((refine wpList_appZ rfl (.tmp 23) (.tmp 28) rfl w.heap.size (.slice A' n c) n (pickZ ys bb (xs.take k)) rfl KO.out (some ⟨wr.heap.size, 0, none⟩) 1 1 [X] rfl rfl (fun e => by cases e) LZ.out (by omega) AZ.out.size ?_); (intro v2 w5 o2 g2); (have R : Hid (BoI w ys bb xs (k + 1) v2 w5) := ⟨by rw [PY.out, List.length_append, List.length_singleton, hn.out]; exact o2, AZ.out.grown g2 AZ.out.size (fun g hg => own_geZ KO.out g hg)⟩); (obtain ⟨A3, c3, rfl, _⟩ := own_z o2); (clear o2 g2 KO AZ LZ))
        go_roundw
        case rel => exact ⟨k + 1, _, _, _, by omega, by omega, by go_num, rfl, R⟩
        case measure => simp [intOf]; omega
      | false =>
        have PY := Lib.hid (pick_no (by rw [EX.out]; exact hkn) he)
        obtain ⟨bb, hbb⟩ : ∃ bb, decide (nz xs k ∈ ys) = bb := ⟨_, rfl⟩
        rw [hbb] at he CH
        have R : Hid (BoI w ys inn xs (k + 1) (.slice A' n c) wr) := ⟨by rw [PY.out]; exact HI.out.ko, HI.out.kb⟩
        clear hbb HI
        generalize nz xs k = X at *
        go_wp2_with fail
        refine CH.out.mono ?_
        rintro e w' ⟨rfl, rfl⟩
        clear CH
        go_wp2
        go_roundw
        case rel => exact ⟨k + 1, _, _, _, by omega, by omega, by go_num, rfl, R⟩
        case measure => simp [intOf]; omega
    · obtain rfl : k = nx := by omega
      have hkz : ¬ (k : Int) < (k : Int) := by omega
      have ko := HI.out.ko
      rw [List.take_of_length_le (by rw [EX.out]; omega)] at ko
      obtain ⟨A2, c2, e, _, _, iz, il⟩ := own_z ko
      injection e with e1 e2 e3
      have CR := Lib.hid (rising_any (pickZ ys inn xs) A' n c wr (by omega) (by omega) (by rw [e1]; exact iz))
      have B0 := Lib.hid HI.out.kb
      clear HI ko iz il e1 e2 e3
      go_wp2_with fail
      refine CR.out.mono ?_
      rintro e w' ⟨out, hr, v, rfl, ho, hb⟩
      have R : Hid (IsRise (pickZ ys inn xs) out ∧ World.ownsRow w' w.heap.size 3 1 v out.length (zs out) ∧ Below w.heap.size w w') := ⟨hr, own_baseZ ho B0.out.size, B0.out.trans (hb.mono B0.out.size)⟩
      clear hr ho hb CR
      go_wp2
      go_ret
      exact ⟨out, R.out.1, v, rfl, R.out.2.1, R.out.2.2⟩

end Go.Proofs.Ytaklabggojfijaa
