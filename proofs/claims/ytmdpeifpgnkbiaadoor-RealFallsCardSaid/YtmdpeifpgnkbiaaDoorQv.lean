/-
  What slices.symMergeCmpFunc does to a row of ints: two sorted parts become one. Conditions as in XQi.
-/
import Derived.Test.YtmdpeifpgnkbiaaDoorQu
namespace Go.Proofs.YtmdpeifpgnkbiaaDoor
open Go.RowKit
section
variable {B n : Nat} {c : FuncId} {cb : Array Value} {cf : Nat → Nat → Int} {S : (Nat → Nat) → World → Prop} {R : Nat → Nat → Prop}
set_option maxRecDepth 100000 in
set_option maxHeartbeats 4000000 in
theorem merge_main (T : SortW B n c cb cf S) (O : So.Ord R (ltf cf)) (cap a m b : Nat) (d : Nat → Nat) (w : World) (hS : S d w) (h0 : a + 1 < m) (h1 : m + 1 < b) (h3 : b ≤ n) (hs1 : So.Sorted R d a m) (hs2 : So.Sorted R d m b) (hx : So.Cross d a m b)
    (IH : ∀ a' m' b' d' w', b' - a' < b - a → S d' w' → a' < m' → m' < b' → b' ≤ n → So.Sorted R d' a' m' → So.Sorted R d' m' b' → So.Cross d' a' m' b' → Merges S R B n c cb cap a' m' b' d' w') : Merges S R B n c cb cap a m b d w := by
  unfold Merges at *
  have HT := Lib.hid T
  have HO := Lib.hid O
  have hn := T.len
  have eg := T.enters
  have HS := Lib.hid hS
  have HS1 := Lib.hid hs1
  have HS2 := Lib.hid hs2
  have HX := Lib.hid hx
  have HIH := Lib.hid IH
  clear T hS O hs1 hs2 hx IH
  have em : ((m : Int) - (a : Int) == 1) = false := by rw [beq_eq_false_iff_ne]; omega
  have eb : ((b : Int) - (m : Int) == 1) = false := by rw [beq_eq_false_iff_ne]; omega
  obtain ⟨mid, hmid⟩ : ∃ mid, mid = (a + b) / 2 := ⟨_, rfl⟩
  have emid : ((a : Int) + (b : Int)) / 2 = (mid : Int) := by omega
  have HMID := Lib.hid hmid
  have m1 : a + 1 < mid := by omega
  have m2 : mid + 1 < b := by omega
  obtain ⟨u, hu⟩ : ∃ u, u = if mid < m then mid + m - b else a := ⟨_, rfl⟩
  obtain ⟨v, hv⟩ : ∃ v, v = if mid < m then mid else m := ⟨_, rfl⟩
  obtain ⟨p, hp⟩ : ∃ p, p + 1 = mid + m := ⟨mid + m - 1, by omega⟩
  have ep : (mid : Int) + (m : Int) - 1 = (p : Int) := by omega
  have RG : Hid (∀ t, u ≤ t → t < v → a ≤ t ∧ t < m ∧ t ≤ p ∧ m ≤ p - t ∧ p - t < b) := by
    intro t t1 t2
    rw [hu] at t1
    rw [hv] at t2
    split at t1 <;> split at t2 <;> omega
  have huv : u ≤ v := by
    rw [hu, hv]
    split <;> omega
  have hv60 : v ≤ m := by
    rw [hv]
    split <;> omega
  have HU := Lib.hid hu
  have HV := Lib.hid hv
  have HP := Lib.hid hp
  clear hmid hu hv hp
  go_enter Tryd.func59, Tryd.ntmps59
  go_upto_if 140 with fail
  go_cut [20, 21] from 25 (fun vs vr wc0 => vs = .int .i64 (u : Int) ∧ vr = .int .i64 (v : Int) ∧ wc0 = w)
  case first =>
    by_cases hc : mid < m
    · have hcz : (mid : Int) < (m : Int) := by omega
      have hcd : decide ((m : Int) > (mid : Int)) = true := decide_eq_true (by omega)
      have eu : (mid : Int) + (m : Int) - (b : Int) = (u : Int) := by have := HU.out; rw [if_pos hc] at this; omega
      have ev : (mid : Int) = (v : Int) := by have := HV.out; rw [if_pos hc] at this; omega
      have EV := Lib.hid ev
      clear ev
      go_wp2
      go_meet
      case rel => exact ⟨rfl, by rw [EV.out], rfl⟩
    · have hcz : ¬ (mid : Int) < (m : Int) := by omega
      have hcd : decide ((m : Int) > (mid : Int)) = false := decide_eq_false (by omega)
      have EU : Hid ((a : Int) = (u : Int)) := by show _ = _; have := HU.out; rw [if_neg hc] at this; omega
      have EV : Hid ((m : Int) = (v : Int)) := by show _ = _; have := HV.out; rw [if_neg hc] at this; omega
      go_wp2
      go_meet
      case rel => exact ⟨by rw [EU.out], by rw [EV.out], rfl⟩
  case rest =>
    obtain ⟨rfl, rfl, rfl⟩ := hcut
    go_wp2
    go_loopw [20, 21] (fun vi vj wr => ∃ s r : Nat, vi = .int .i64 (s : Int) ∧ vj = .int .i64 (r : Int) ∧ u ≤ s ∧ s ≤ r ∧ r ≤ v ∧ Hid (So.BsM R d u v p s r) ∧ Hid (S d wr)) (fun vi vj _ => (intOf vj).toNat - (intOf vi).toNat)
    case atStart => exact ⟨u, v, rfl, rfl, Nat.le_refl _, huv, Nat.le_refl _, So.BsM.start huv, HS⟩
    case round =>
      obtain ⟨s, r, rfl, rfl, p1, p2, p3, HB, HI⟩ := hrel
      clear HS
      by_cases hij : s < r
      · have hijz : (s : Int) < (r : Int) := by omega
        obtain ⟨h, hh⟩ : ∃ h, h = (s + r) / 2 := ⟨_, rfl⟩
        have eh : ((s : Int) + (r : Int)) / 2 = (h : Int) := by omega
        have q1 : s ≤ h := by omega
        have q2 : h < r := by omega
        clear hh
        obtain ⟨g1, g2, g3, g4, g5⟩ := RG.out h (by omega) (by omega)
        obtain ⟨y, hy⟩ : ∃ y, y = p - h := ⟨_, rfl⟩
        have ey : (p : Int) - (h : Int) = (y : Int) := by omega
        rw [← hy] at g4 g5
        have ch : ∀ q, (wr.drewN q).cell? ⟨B, h, none⟩ = some (.int .i64 ((d h : Nat) : Int)) := fun q => HT.out.cell (HT.out.drew HI.out q) h (by omega)
        have ca : ∀ q, (wr.drewN q).cell? ⟨B, y, none⟩ = some (.int .i64 ((d y : Nat) : Int)) := fun q => HT.out.cell (HT.out.drew HI.out q) y (by omega)
        have CM := Lib.hid (fun q => HT.out.cmp (HT.out.drew HI.out q) y h (by omega) (by omega))
        have SQ := Lib.hid (fun q => HT.out.drew HI.out q)
        clear HI
        cases hl : ltf cf (d y) (d h)
        · have BN : Hid (So.BsM R d u v p (h + 1) r) := HB.out.no HO.out HS1.out HS2.out HX.out RG.out h q1 q2 (hy ▸ hl)
          have hd : decide (cf (d y) (d h) < 0) = false := hl
          have hvv : ¬ cf (d y) (d h) < 0 := of_decide_eq_false hl
          clear hl HB hy
          generalize d h = x at *
          generalize d y = z at *
          go_wp2_with fail
          go_quiet ((go_at_fn c; exact Calls.quiet_of (CM.out _)))
          have S2 := Lib.hid (SQ.out nq)
          clear ch ca CM SQ
          generalize wr.drewN nq = w2 at *
          go_wp2
          go_roundw
          case rel => exact ⟨h + 1, r, by go_num, rfl, by omega, by omega, p3, BN, S2⟩
          case measure => simp [intOf] <;> omega
        · have BN : Hid (So.BsM R d u v p s h) := HB.out.yes HO.out HS1.out HS2.out HX.out RG.out h q1 q2 (hy ▸ hl)
          have hd : decide (cf (d y) (d h) < 0) = true := hl
          have hvv : cf (d y) (d h) < 0 := of_decide_eq_true hl
          clear hl HB hy
          generalize d h = x at *
          generalize d y = z at *
          go_wp2_with fail
          go_quiet ((go_at_fn c; exact Calls.quiet_of (CM.out _)))
          have S2 := Lib.hid (SQ.out nq)
          clear ch ca CM SQ
          generalize wr.drewN nq = w2 at *
          go_wp2
          go_roundw
          case rel => exact ⟨s, h, rfl, rfl, p1, q1, by omega, BN, S2⟩
          case measure => simp [intOf] <;> omega
      · obtain rfl : s = r := by omega
        have hijz : ¬ (s : Int) < (s : Int) := by omega
        have CUT := Lib.hid (HB.out.cut HS1.out HS2.out HX.out HP.out (by omega) (by omega) HMID.out HU.out HV.out)
        clear HB HS1 HS2 HX HP HMID HU HV RG p1 p3
        have h3' := Lib.hid h3
        clear h3
        obtain ⟨e, he⟩ : ∃ e, e = mid + m - s := ⟨_, rfl⟩
        rw [← he] at CUT
        have k2 := CUT.out.sm
        have k4 := CUT.out.eb
        have ee : (mid : Int) + (m : Int) - (s : Int) = (e : Int) := by omega
        have e60 : e ≤ 60 := by have := h3'.out; omega
        clear he
        go_upto_region 38 with fail
        go_cut [24] from 25 (fun ve wx => ve = .int .i64 (e : Int) ∧ wx = wr)
        case first =>
          go_wp2
          go_meet
          case rel => exact ⟨rfl, rfl⟩
        case rest =>
          obtain ⟨rfl, rfl⟩ := hcut
          apply_assumption
          exact merge_tail39 HT.out HO.out cap a m b mid s e d wc CUT.out HI.out h3'.out m1 m2 HIH.out _ _ _ _ _ _ _ _ _ _ _ _ _ _ _ _ _ _ _ _ _ _ _ _ _ _ _ _ _ _ _ _ _ _ _ _ _ _ _ _ _ _ _ _ _ _ _ _ _ _ _ _ _ _ _ _ _ _ _ _ _ _ _ _ _ _ _ _ _ _ _ _ _ _ _ _ _ _ _ _ _ _ _ _ _ _ _ _ _ _ _ _ _ _ _ _ _ _ _ _ _ _ _ _ _ _ _ _ _ _ _ _ _ _ _ _ _ _ _ _ _ _ _ _ _ _ _ _ _ _ _ _ _ _ _ _ _ _ _ _ _ _ _ _ _ _ _ _ _ _ _ _ _ _ _ _ _ _ _ _ _ _ _ _ _ _ _ _ _ _ _ _ _ _ _ _ _ _ _ _ _ _ _ _ _ _ _ _ _ _ _ _ _ _ _ _ _ _ _ _ _ _ _ _ _ _ _ _ _ _ _ _

theorem merge_any (T : SortW B n c cb cf S) (O : So.Ord R (ltf cf)) (cap : Nat) : ∀ (k a m b : Nat) (d : Nat → Nat) (w : World), b - a ≤ k → S d w → a < m → m < b → b ≤ n → So.Sorted R d a m → So.Sorted R d m b → So.Cross d a m b → Merges S R B n c cb cap a m b d w
  | 0, a, m, b, d, w, h, _, h1, h2, _, _, _, _ => by omega
  | k + 1, a, m, b, d, w, h, hS, h1, h2, h3, s1, s2, x => by
    by_cases c1 : m = a + 1
    · exact merge_left T O cap a m b d w hS c1 (by omega) h3 s2 x
    · by_cases c2 : b = m + 1
      · exact merge_right T O cap a m b d w hS (by omega) c2 h3 s1 x
      · exact merge_main T O cap a m b d w hS (by omega) (by omega) h3 s1 s2 x fun a' m' b' d' w' hlt hS' q1 q2 q3 q4 q5 q6 => merge_any T O cap k a' m' b' d' w' (by omega) hS' q1 q2 q3 q4 q5 q6
end
end Go.Proofs.YtmdpeifpgnkbiaaDoor
