/-
  What the reference's IsSet does: it tells whether labels are a label set; what WeightLabels and SameLabels do. Conditions: lengths fit.
-/
import Derived.Test.YtjmojjjgifkkiaaDoorProg
import Derived.Test.YtjmojjjgifkkiaaDoorZ23
import Derived.Test.YtjmojjjgifkkiaaDoorZ24
import Derived.Laws.StructEq
import Derived.BigQuiet
import Derived.WalkKit
import Derived.WalkSpells
import Derived.WalkLawsBesides
import Derived.Lib.Hide
import Derived.Lib.AppendStr
import Derived.Laws.BytesArg
import Derived.Shelf.Bytes.SlSmallAll
import Derived.Laws.AppendOwnNone
import Derived.KernelRfl
import Derived.Below
import Derived.Lib.Bytealg
namespace Go.Proofs.YtjmojjjgifkkiaaDoor
open Go.RowKit La

set_option maxRecDepth 100000 in
set_option maxHeartbeats 2000000 in
theorem isset_any (ls : List Lab) (A : Option Addr) (cap : Nat) (w : World) (hl : ls.length ≤ 1099511627776) (hs : Small ls) (ha : IsLabs w A ls) :
    Calls Tryd.prog 77 #[.slice A ls.length cap] w fun e w' => e = .returned (.bool (isSet ls)) ∧ Below w.heap.size w w' := by
  have HA := Lib.hid ha
  have HS := Lib.hid hs
  have NO := Lib.hid (isSet_no (ls := ls))
  have BAD := Lib.hid (fun k => isSet_bad (ls := ls) (k := k))
  have YES := Lib.hid (isSet_iff (ls := ls)).2
  have OK := Lib.hid (fun k => okAt_eq (ls := ls) (k := k))
  clear ha hs
  obtain ⟨N, hN⟩ : ∃ N, ls.length = N := ⟨_, rfl⟩
  rw [hN] at hl ⊢
  rw [hN] at NO BAD YES
  have HN := Lib.hid hN
  clear hN
  by_cases h1 : N < 1
  · have R : Hid (isSet ls = false) := NO.out (by omega)
    go_enter Tryd.func77, Tryd.ntmps77
    go_wp2
    go_ret
    exact ⟨by rw [R.out]; rfl, Below.refl _ _⟩
  have h1z : ¬ (N : Int) < 1 := by omega
  by_cases h6 : 6 < N
  · have R : Hid (isSet ls = false) := NO.out (by omega)
    have h6d : decide ((N : Int) > 6) = true := decide_eq_true (by omega)
    go_enter Tryd.func77, Tryd.ntmps77
    go_wp2
    go_ret
    exact ⟨by rw [R.out]; rfl, Below.refl _ _⟩
  have h6d : decide ((N : Int) > 6) = false := decide_eq_false (by omega)
  go_enter Tryd.func77, Tryd.ntmps77
  go_wp2
  clear h6d
  go_loopw [3] (fun i wr => ∃ k : Nat, k ≤ N ∧ i = .int .i64 (k : Int) ∧ Hid (Below w.heap.size w wr ∧ ∀ j, j < k → okAt ls j = true)) (fun i _ => N - (intOf i).toNat)
  case atStart => exact ⟨0, by omega, rfl, Below.refl _ _, fun j hj => by omega⟩
  case round =>
    obtain ⟨k, hk, rfl, HI⟩ := hrel
    by_cases hkn : k < N
    · obtain ⟨b, off, rfl, hc⟩ := (HA.out.below HI.out.1) (by rw [HN.out]; omega)
      obtain ⟨c1, c2⟩ := hc k (by rw [HN.out]; exact hkn)
      have hkz : (k : Int) < (N : Int) := by omega
      have sz := HS.out _ (nth_mem (ls := ls) (j := k) (by rw [HN.out]; exact hkn))
      have NM := Lib.hid (fun W => rname_any (nth ls k).1 W sz.1)
      have VL := Lib.hid (fun W => rvalue_any (nth ls k).2 W)
      have BL := Lib.hid HI.out.1
      have AL := Lib.hid HI.out.2
      have BK := Lib.hid (BAD.out k hkn)
      have OKk := Lib.hid (OK.out k)
      have PV : Hid (∀ m, k = m + 1 → wr.cell? ⟨b, off + m * 2, none⟩ = some (.string (nth ls m).1)) := fun m hm => (hc m (by rw [HN.out]; omega)).1
      clear hc sz HI
      obtain ⟨x, hx⟩ : ∃ x, (nth ls k).1 = x := ⟨_, rfl⟩
      obtain ⟨y, hy⟩ : ∃ y, (nth ls k).2 = y := ⟨_, rfl⟩
      rw [hx] at c1 NM OKk
      rw [hy] at c2 VL OKk
      clear hy hx
      cases hn : name x
      · have R : Hid (isSet ls = false) := BK.out (by rw [OKk.out, hn]; rfl)
        rw [hn] at NM
        clear hn
        go_wp2_with fail
        go_quiet (first | (go_at_call 39; exact Calls.quiet_of_same (NM.out _)) | (go_at_call 94; exact Calls.quiet_of_same (VL.out _)))
        have B2 := Lib.hid (below_drewN BL.out nq)
        clear c1 c2 BL
        go_wp2
        go_ret
        exact ⟨by rw [R.out]; rfl, B2.out⟩
      rw [hn] at NM
      cases hv : value y
      · have R : Hid (isSet ls = false) := BK.out (by rw [OKk.out, hn, hv]; rfl)
        rw [hv] at VL
        clear hn hv
        go_wp2_with fail
        go_quiet (first | (go_at_call 39; exact Calls.quiet_of_same (NM.out _)) | (go_at_call 94; exact Calls.quiet_of_same (VL.out _)))
        have B2 := Lib.hid (below_drewN BL.out nq)
        clear c1 c2 BL
        go_wp2
        go_ret
        exact ⟨by rw [R.out]; rfl, B2.out⟩
      rw [hv] at VL
      rw [hn, hv] at OKk
      clear hn hv
      cases k with
      | zero =>
        have R : Hid (okAt ls 0 = true) := by show _ = _; rw [OKk.out]; rfl
        simp only [Nat.zero_mul, Nat.add_zero] at c1 c2
        clear hkz PV
        go_wp2_with fail
        go_quiet (first | (go_at_call 39; exact Calls.quiet_of_same (NM.out _)) | (go_at_call 94; exact Calls.quiet_of_same (VL.out _)))
        have B2 := Lib.hid (below_drewN BL.out nq)
        clear c1 c2 BL
        go_wp2
        go_roundw
        case rel => exact ⟨1, by omega, by go_num, B2.out, fun j hj => by obtain rfl : j = 0 := by omega
                                                                          exact R.out⟩
        case measure => simp [intOf]; omega
      | succ m =>
        have c0 := PV.out m rfl
        obtain ⟨z, hz⟩ : ∃ z, (nth ls m).1 = z := ⟨_, rfl⟩
        rw [hz] at c0
        have OKm : Hid (okAt ls (m + 1) = lt z x) := by
          show _ = _
          rw [OKk.out]
          simp only [Nat.add_sub_cancel, hz]
          simp
        clear PV hz OKk
        have hk0 : decide ((m : Int) + 1 > 0) = true := decide_eq_true (by omega)
        have hmz : (m : Int) < (N : Int) := by omega
        have LE := le_not x z
        cases hlt : lt z x
        · have R : Hid (isSet ls = false) := BK.out (by rw [OKm.out]; exact hlt)
          rw [hlt] at LE
          simp only [Bool.not_false] at LE
          clear hlt
          go_wp2_with fail
          go_quiet (first | (go_at_call 39; exact Calls.quiet_of_same (NM.out _)) | (go_at_call 94; exact Calls.quiet_of_same (VL.out _)))
          have B2 := Lib.hid (below_drewN BL.out nq)
          clear c0 c1 c2 BL
          go_wp2
          go_ret
          exact ⟨by rw [R.out]; rfl, B2.out⟩
        · have R : Hid (okAt ls (m + 1) = true) := by show _ = _; rw [OKm.out]; exact hlt
          rw [hlt] at LE
          simp only [Bool.not_true] at LE
          clear hlt
          go_wp2_with fail
          go_quiet (first | (go_at_call 39; exact Calls.quiet_of_same (NM.out _)) | (go_at_call 94; exact Calls.quiet_of_same (VL.out _)))
          have B2 := Lib.hid (below_drewN BL.out nq)
          clear c0 c1 c2 BL
          go_wp2
          go_roundw
          case rel => exact ⟨m + 2, by omega, by go_num, B2.out, fun j hj => by
            by_cases hjm : j = m + 1
            · rw [hjm]; exact R.out
            · exact AL.out j (by omega)⟩
          case measure => simp [intOf]; omega
    · obtain rfl : k = N := by omega
      have hkz : ¬ (k : Int) < (k : Int) := by omega
      have R : Hid (isSet ls = true) := YES.out ⟨by omega, by omega, HI.out.2⟩
      have B := Lib.hid HI.out.1
      clear HI
      go_wp2
      go_ret
      exact ⟨by rw [R.out]; rfl, B.out⟩

/-- Few labels with short texts. -/
def Few (ls : List Lab) : Prop := ls.length ≤ 300 ∧ ∀ x ∈ ls, x.1.size ≤ 300 ∧ x.2.size ≤ 300
theorem few_of {ls : List Lab} {N : Nat} (h : ls.length = N) (h1 : N ≤ 300) (h2 : ∀ j, j < N → (nth ls j).1.size ≤ 300 ∧ (nth ls j).2.size ≤ 300) : Few ls := by
  refine ⟨by omega, fun x hx => ?_⟩
  obtain ⟨j, hj, rfl⟩ := List.getElem_of_mem hx
  have := h2 j (by omega)
  rwa [nth_eq hj] at this
theorem Few.small {ls : List Lab} (h : Few ls) : Small ls := fun x hx => by have := h.2 x hx; omega

set_option maxRecDepth 100000 in
set_option maxHeartbeats 2000000 in
theorem weight_any (ls : List Lab) (A : Option Addr) (cap : Nat) (w : World) (ha : IsLabs w A ls) :
    Calls Tryd.prog 38 #[.slice A ls.length cap, .int .i64 300] w fun e w' => (∃ r : Nat, e = .returned (.int .i64 (r : Int)) ∧ (r ≤ 300 → Few ls)) ∧ Below w.heap.size w w' := by
  have HA := Lib.hid ha
  clear ha
  have FEW := Lib.hid (fun N h h1 h2 => few_of (ls := ls) (N := N) h h1 h2)
  obtain ⟨N, hN⟩ : ∃ N, ls.length = N := ⟨_, rfl⟩
  rw [hN]
  have HN := Lib.hid hN
  clear hN
  go_enter Tryd.func38, Tryd.ntmps38
  go_wp2
  go_loopw [5, 6] (fun v i wr => ∃ k m : Nat, k ≤ N ∧ k ≤ m ∧ m ≤ 1000 ∧ i = .int .i64 (k : Int) ∧ v = .int .i64 (m : Int) ∧ Hid (Below w.heap.size w wr ∧ ∀ j, j < k → (nth ls j).1.size ≤ 300 ∧ (nth ls j).2.size ≤ 300)) (fun _ i _ => N - (intOf i).toNat)
  case atStart => exact ⟨0, 0, by omega, by omega, by omega, rfl, rfl, Below.refl _ _, fun j hj => by omega⟩
  case round =>
    obtain ⟨k, m, hk, hkm, hm, rfl, rfl, HI⟩ := hrel
    by_cases hkn : k < N
    · have hkz : (k : Int) < (N : Int) := by omega
      by_cases hm3 : m ≤ 300
      · have hmz : (m : Int) ≤ 300 := by omega
        obtain ⟨b, off, rfl, hc⟩ := (HA.out.below HI.out.1) (by rw [HN.out]; omega)
        obtain ⟨c1, c2⟩ := hc k (by rw [HN.out]; exact hkn)
        have BL := Lib.hid HI.out.1
        have AL := Lib.hid HI.out.2
        clear hc HI
        obtain ⟨x, hx⟩ : ∃ x, (nth ls k).1 = x := ⟨_, rfl⟩
        obtain ⟨y, hy⟩ : ∃ y, (nth ls k).2 = y := ⟨_, rfl⟩
        rw [hx] at c1
        rw [hy] at c2
        have HX := Lib.hid hx
        have HY := Lib.hid hy
        clear hx hy
        by_cases hx3 : 300 < x.size
        · have hxd : decide ((x.size : Int) > 300) = true := decide_eq_true (by omega)
          go_wp2
          go_ret
          exact ⟨⟨301, rfl, fun h => by omega⟩, BL.out⟩
        · have hxd : decide ((x.size : Int) > 300) = false := decide_eq_false (by omega)
          by_cases hy3 : 300 < y.size
          · have hyd : decide ((y.size : Int) > 300) = true := decide_eq_true (by omega)
            go_wp2
            go_ret
            exact ⟨⟨301, rfl, fun h => by omega⟩, BL.out⟩
          · have hyd : decide ((y.size : Int) > 300) = false := decide_eq_false (by omega)
            have q1 : IntKind.i64.wrap ((m : Int) + 1) = (m : Int) + 1 := by rw [IntKind.wrap_i64]; omega
            have q2 : IntKind.i64.wrap ((m : Int) + 1 + (x.size : Int)) = (m : Int) + 1 + (x.size : Int) := by rw [IntKind.wrap_i64]; omega
            have q3 : IntKind.i64.wrap ((m : Int) + 1 + (x.size : Int) + (y.size : Int)) = (m : Int) + 1 + (x.size : Int) + (y.size : Int) := by rw [IntKind.wrap_i64]; omega
            go_wp2_with fail
            go_quiet (fail)
            have B2 := Lib.hid (below_drewN BL.out nq)
            clear c1 c2 BL q1 q2 q3
            go_wp2
            go_roundw
            case rel => exact ⟨k + 1, m + 1 + x.size + y.size, by omega, by omega, by omega, by go_num, by simp, B2.out, fun j hj => by
              by_cases hjk : j = k
              · rw [hjk, HX.out, HY.out]; omega
              · exact AL.out j (by omega)⟩
            case measure => simp [intOf]; omega
      · have hmz : ¬ (m : Int) ≤ 300 := by omega
        have hmm : min (m : Int) 301 = 301 := by omega
        have B := Lib.hid HI.out.1
        clear HI
        go_wp2
        go_ret
        exact ⟨⟨301, rfl, fun h => by omega⟩, B.out⟩
    · obtain rfl : k = N := by omega
      have hkz : ¬ (k : Int) < (k : Int) := by omega
      have F : Hid (∀ r : Nat, (r : Int) = min (m : Int) 301 → r ≤ 300 → Few ls) := fun r hr h3 => FEW.out k HN.out (by omega) HI.out.2
      have B := Lib.hid HI.out.1
      clear HI
      obtain ⟨r, hr⟩ : ∃ r : Nat, (r : Int) = min (m : Int) 301 := ⟨min m 301, by omega⟩
      have F2 := Lib.hid (F.out r hr)
      clear F
      go_wp2
      go_ret
      exact ⟨⟨r, by rw [hr]; rfl, F2.out⟩, B.out⟩

end Go.Proofs.YtjmojjjgifkkiaaDoor
