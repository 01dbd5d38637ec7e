/-
  LabelsKeys as a contract: true, whatever the arguments. No conditions.
-/
import Derived.Test.YtbfpcolbkfcanaaNl
import Derived.Test.YtbfpcolbkfcanaaNm
import Derived.Test.YtbfpcolbkfcanaaNa
import Derived.Lib.QuietBelow
namespace Go.Proofs.Ytbfpcolbkfcanaa
open Go.RowKit La Go.Sort

theorem all_snth {ns : List ByteArray} {p : ByteArray → Prop} : (∀ n ∈ ns, p n) ↔ ∀ j, j < ns.length → p (snth ns j) := by
  constructor
  · intro h j hj
    have e : snth ns j = ns[j] := by simp [snth, List.getD, List.getElem?_eq_getElem hj]
    rw [e]; exact h _ (List.getElem_mem hj)
  · intro h n hn
    obtain ⟨j, hj, rfl⟩ := List.getElem_of_mem hn
    have e : snth ns j = ns[j] := by simp [snth, List.getD, List.getElem?_eq_getElem hj]
    have := h j hj
    rwa [e] at this
theorem key_end {a b : List Lab} (ha : isSet a = true) (hb : isSet b = true) {ns : List ByteArray} {s : Bool} (h : s = true ↔ ∀ j, j < ns.length → getL a (snth ns j) = getL b (snth ns j)) :
    ((strOf (project a ns)).toList == (strOf (project b ns)).toList) = s := by
  have sa : ∀ x ∈ a, x.2.size ≤ 24 := fun x hx => (set_sizes ha x hx).2
  have sb : ∀ x ∈ b, x.2.size ≤ 24 := fun x hx => (set_sizes hb x hx).2
  have p1 := proj_byte (ns := ns) sa ns.length
  have p2 := proj_byte (ns := ns) sb ns.length
  rw [proj_all] at p1 p2
  rw [strOf_inj p1 p2, Bool.eq_iff_iff, decide_eq_true_iff, proj_inj sa sb, h]
  exact all_snth

set_option maxRecDepth 100000 in
set_option maxHeartbeats 4000000 in
theorem keys_law (zl zr : List Int) (ns : List ByteArray) (A B C : Option Addr) (ca cb cc : Nat) (w : World) (ha : IsInts w A zl) (hb : IsInts w B zr) (hc : IsStrs w C ns) :
    Calls Try.prog 9 #[.slice A zl.length ca, .slice B zr.length cb, .slice C ns.length cc] w fun e w' => e = .returned (.bool true) ∧ Below w.heap.size w w' := by
  have RU := Lib.hid (fun W => runs_any W)
  have KA := Lib.hid (fun W (h : zl.length ≤ 20) (hW : Below w.heap.size w W) => keep_any zl A ca W (by omega) (ha.below hW))
  have KB := Lib.hid (fun W (h : zr.length ≤ 20) (hW : Below w.heap.size w W) => keep_any zr B cb W (by omega) (hb.below hW))
  have HC := Lib.hid hc
  have KE := Lib.hid (fun a b ha hb s => key_end (a := a) (b := b) ha hb (ns := ns) (s := s))
  have PJ := Lib.hid (fun (a : List Lab) (A' : Option Addr) (c' : Nat) W (h : isSet a = true) (h2 : ns.length ≤ 20) hi (hW : Below w.heap.size w W) => project_any a ns A' C c' cc W (by have := (isSet_iff.1 h).2.1; omega) h2 (fun x hx => (set_sizes h x hx).2) hi (hc.below hW))
  have RP := Lib.hid (fun (a : List Lab) (A' : Option Addr) (c' : Nat) W (h : isSet a = true) (h2 : ns.length ≤ 20) hi (hW : Below w.heap.size w W) => rproject_any a ns A' C c' cc W (by have := (isSet_iff.1 h).2.1; omega) h2 (fun x hx => (set_sizes h x hx).2) hi (hc.below hW))
  have mixed : Try.prog.follows .mixedOrders = true := by kernel_rfl
  clear ha hb hc
  obtain ⟨N, hN⟩ : ∃ N, ns.length = N := ⟨_, rfl⟩
  rw [hN] at KE PJ RP ⊢
  have HN := Lib.hid hN
  clear hN
  generalize zl.length = N1 at *
  generalize zr.length = N2 at *
  by_cases h1 : 20 < N1
  · have h1d : decide ((N1 : Int) > 20) = true := decide_eq_true (by omega)
    go_enter Try.func9, Try.ntmps9
    go_wp2_with fail
    refine (RU.out _).mono ?_
    rintro e w' ⟨rfl, b⟩
    have B := Lib.hid b
    clear b RU
    go_wp2
    go_ret
    exact ⟨rfl, B.out⟩
  have h1d : decide ((N1 : Int) > 20) = false := decide_eq_false (by omega)
  by_cases h2 : 20 < N2
  · have h2d : decide ((N2 : Int) > 20) = true := decide_eq_true (by omega)
    go_enter Try.func9, Try.ntmps9
    go_wp2_with fail
    refine (RU.out _).mono ?_
    rintro e w' ⟨rfl, b⟩
    have B := Lib.hid b
    clear b RU
    go_wp2
    go_ret
    exact ⟨rfl, B.out⟩
  have h2d : decide ((N2 : Int) > 20) = false := decide_eq_false (by omega)
  by_cases h3 : 20 < N
  · have h3d : decide ((N : Int) > 20) = true := decide_eq_true (by omega)
    go_enter Try.func9, Try.ntmps9
    go_wp2_with fail
    refine (RU.out _).mono ?_
    rintro e w' ⟨rfl, b⟩
    have B := Lib.hid b
    clear b RU
    go_wp2
    go_ret
    exact ⟨rfl, B.out⟩
  have h3d : decide ((N : Int) > 20) = false := decide_eq_false (by omega)
  go_enter Try.func9, Try.ntmps9
  go_wp2_with fail
  refine (KA.out w (by omega) (Below.refl _ _)).mono ?_
  rintro e w1 ⟨⟨la, va, sa, rfl, oa⟩, b1⟩
  go_wp2_with fail
  refine (KB.out w1 (by omega) b1).mono ?_
  rintro e w2 ⟨⟨lb, vb, sb, rfl, ob⟩, b2⟩
  have d2 := b1.trans (b2.mono b1.size)
  obtain ⟨Aa, cA, rfl, _, _, ia, _⟩ := own_formL (own_keepL oa b2)
  obtain ⟨Ab, cB, rfl, _, _, ib, _⟩ := own_formL ob
  have LA := Lib.hid (fun W (hW : Below w2.heap.size w2 W) => ia.below hW)
  have LB := Lib.hid (fun W (hW : Below w2.heap.size w2 W) => ib.below hW)
  have D2 := Lib.hid d2
  have SA := Lib.hid sa
  have SB := Lib.hid sb
  have hla := (isSet_iff.1 sa).2.1
  have hlb := (isSet_iff.1 sb).2.1
  have GA := Lib.hid (fun W n hW => get_labs la n Aa cA W (by omega) (LA.out W hW))
  have GB := Lib.hid (fun W n hW => get_labs lb n Ab cB W (by omega) (LB.out W hW))
  have PA := Lib.hid (fun W (hW : Below w2.heap.size w2 W) => PJ.out la Aa cA W sa (by omega) (LA.out W hW) (d2.trans (hW.mono d2.size)))
  have PB := Lib.hid (fun W (hW : Below w2.heap.size w2 W) => PJ.out lb Ab cB W sb (by omega) (LB.out W hW) (d2.trans (hW.mono d2.size)))
  have PR := Lib.hid (fun W (hW : Below w2.heap.size w2 W) => RP.out la Aa cA W sa (by omega) (LA.out W hW) (d2.trans (hW.mono d2.size)))
  have KEE := Lib.hid (KE.out la lb sa sb)
  clear KA KB oa ob b1 b2 d2 sa sb ia ib LA LB PJ RP KE h1d h2d h3d
  generalize la.length = na at *
  generalize lb.length = nb at *
  go_wp2
  go_loopw [9, 10] (fun v i wr => ∃ (k : Nat) (s : Bool), k ≤ N ∧ i = .int .i64 (k : Int) ∧ v = .bool s ∧ Hid ((s = true ↔ ∀ j, j < k → getL la (snth ns j) = getL lb (snth ns j)) ∧ Below w2.heap.size w2 wr)) (fun _ i _ => N - (intOf i).toNat)
  case atStart => exact ⟨0, true, by omega, rfl, rfl, ⟨fun _ j hj => by omega, fun _ => rfl⟩, Below.refl _ _⟩
  case round =>
    obtain ⟨k, s, hk, rfl, rfl, HI⟩ := hrel
    by_cases hkn : k < N
    · have hkz : (k : Int) < (N : Int) := by omega
      have dW := Lib.hid (D2.out.trans (HI.out.2.mono D2.out.size))
      obtain ⟨b, off, rfl, hcc⟩ := (HC.out.below dW.out) (by rw [HN.out]; omega)
      have c1 := hcc k (by rw [HN.out]; exact hkn)
      clear hcc
      have BL := Lib.hid HI.out.2
      have SS := Lib.hid HI.out.1
      obtain ⟨x, hx⟩ : ∃ x, snth ns k = x := ⟨_, rfl⟩
      rw [hx] at c1
      have HX := Lib.hid hx
      clear hx HI
      by_cases h300 : 300 < x.size
      · have hd : decide ((x.size : Int) > 300) = true := decide_eq_true (by omega)
        go_wp2_with fail
        refine (RU.out _).mono ?_
        rintro e w' ⟨rfl, b'⟩
        have B := Lib.hid (dW.out.trans (b'.mono dW.out.size))
        clear b' RU
        go_wp2
        go_ret
        exact ⟨rfl, B.out⟩
      have hd : decide ((x.size : Int) > 300) = false := decide_eq_false (by omega)
      cases s
      · have SN : Hid (false = true ↔ ∀ j, j < k + 1 → getL la (snth ns j) = getL lb (snth ns j)) := ⟨(fun h => by cases h), fun h => SS.out.2 fun j hj => h j (by omega)⟩
        go_wp2_with fail
        go_quiet (fail)
        have B2 := Lib.hid (below_drewN BL.out nq)
        clear c1 BL
        generalize wr.drewN nq = w5 at *
        go_wp2
        go_roundw
        case rel => exact ⟨k + 1, false, by omega, by go_num, rfl, SN.out, B2.out⟩
        case measure => simp [intOf]; omega
      · obtain ⟨ga, hga⟩ : ∃ g, getL la x = g := ⟨_, rfl⟩
        obtain ⟨gb, hgb⟩ : ∃ g, getL lb x = g := ⟨_, rfl⟩
        have CA : Hid (∀ d os, Calls Try.prog 19 #[.slice Aa na cA, .string x] (grow (redrawn wr d) os) fun e w'' => e = .returned (.string ga) ∧ ∃ p : Regrown, w'' = grow (redrawn wr p.d) p.os) := fun d os => Calls.regrown_of (by rw [← hga]; exact GA.out _ x (BL.out.trans ((below_regrown wr d os).mono BL.out.size)))
        have CB : Hid (∀ d os, Calls Try.prog 19 #[.slice Ab nb cB, .string x] (grow (redrawn wr d) os) fun e w'' => e = .returned (.string gb) ∧ ∃ p : Regrown, w'' = grow (redrawn wr p.d) p.os) := fun d os => Calls.regrown_of (by rw [← hgb]; exact GB.out _ x (BL.out.trans ((below_regrown wr d os).mono BL.out.size)))
        have c2 := cell_regrown c1
        obtain ⟨t, ht⟩ : ∃ t, (ga.toList == gb.toList) = t := ⟨_, rfl⟩
        have SN : Hid (t = true ↔ ∀ j, j < k + 1 → getL la (snth ns j) = getL lb (snth ns j)) := by
          have e : t = true ↔ getL la (snth ns k) = getL lb (snth ns k) := by rw [← ht, beq_iff, HX.out, hga, hgb]
          constructor
          · intro h j hj
            by_cases hjk : j = k
            · rw [hjk]; exact e.1 h
            · exact SS.out.1 rfl j (by omega)
          · intro h
            exact e.2 (h k (by omega))
        have B2 : Hid (∀ d os, Below w2.heap.size w2 (grow (redrawn wr d) os)) := fun d os => BL.out.trans ((below_regrown wr d os).mono BL.out.size)
        clear hga hgb BL SS
        go_wp2_with fail
        refine wp_region_quiet_below (by assumption) (by kernel_rfl) ?_
        iterate 8 (quiet_step (exact CA.out _ _))
        repeat (quiet_step (exact CB.out _ _))
        refine wpQuiet_nil ?_
        intro _ hw'
        obtain ⟨⟨dq, osq⟩, hw''⟩ := hw'
        subst hw''
        have B3 := Lib.hid (B2.out dq osq)
        clear c1 c2 CA CB B2
        generalize grow (redrawn wr dq) osq = w5 at *
        go_wp2
        go_roundw
        case rel => exact ⟨k + 1, t, by omega, by go_num, by first | rfl | (rw [← ht]; simp), SN.out, B3.out⟩
        case measure => simp [intOf]; omega
    · obtain rfl : k = N := by omega
      have hkz : ¬ (k : Int) < (k : Int) := by omega
      have E := KEE.out s HI.out.1
      have BL := HI.out.2
      clear HI KEE HC
      generalize strOf (project la ns) = P1 at *
      generalize strOf (project lb ns) = P2 at *
      go_wp2_with fail
      refine (PA.out _ BL).mono ?_
      rintro e w3 ⟨rfl, b3⟩
      have d3 := BL.trans (b3.mono BL.size)
      clear b3
      go_wp2_with fail
      refine (PB.out _ d3).mono ?_
      rintro e w4 ⟨rfl, b4⟩
      have d4 := d3.trans (b4.mono d3.size)
      clear b4 d3
      subst E
      go_wp2_with fail
      refine (PA.out _ d4).mono ?_
      rintro e w5 ⟨rfl, b5⟩
      have d5 := d4.trans (b5.mono d4.size)
      clear b5 d4
      go_wp2_with fail
      refine (PR.out _ d5).mono ?_
      rintro e w6 ⟨rfl, b6⟩
      have d6 := d5.trans (b6.mono d5.size)
      clear b6 d5
      go_wp2_with fail
      refine (RU.out _).mono ?_
      rintro e w7 ⟨rfl, b7⟩
      have B := Lib.hid (D2.out.trans ((d6.trans (b7.mono d6.size)).mono D2.out.size))
      clear b7 d6 BL RU PA PB PR
      go_wp2
      go_ret
      exact ⟨rfl, B.out⟩
end Go.Proofs.Ytbfpcolbkfcanaa
