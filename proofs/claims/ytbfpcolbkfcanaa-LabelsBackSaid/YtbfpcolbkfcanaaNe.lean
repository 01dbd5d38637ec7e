/-
  LabelsBack as a contract: true, whatever the arguments. Conditions: the slices are as a machine has them.
-/
import Derived.Test.YtbfpcolbkfcanaaNl
import Derived.Test.YtbfpcolbkfcanaaNm
import Derived.Test.YtbfpcolbkfcanaaNa
import Derived.Lib.QuietBelow
namespace Go.Proofs.Ytbfpcolbkfcanaa
open Go.RowKit La Go.Sort

theorem bcut_lo (W : World) (g k c m : Nat) (hm : m ≤ c) : (Instr.slice 28 (.slice (some ⟨g, 0, none⟩) k c) none (some (.int .i64 (m : Int))) none).run Try.prog W = .ok (.slice (some ⟨g, 0, none⟩) m c) W := by
  obtain ⟨i0, hi, hz0, hz1, hz2⟩ := info_parts Try.info5
  simp [Instr.slice, Instr.sliceBounds, Instr.sliceBound, run_underlying Try.underlying28, asIntOf, sizeOf, typeInfo, hi, go_sem]
  intro h; omega
theorem bytes_pos {ls : List Lab} (h : isSet ls = true) : 0 < (bytesOf ls).length := by
  rw [bytes_set h, setBytes, List.length_append]
  have := Vm.putF_pos 9 ls.length
  have e : (Vm.putF 9 ls.length).length = (Vm.put ls.length).length := rfl
  omega
/-- The bytes of a set, in a new slice. -/
theorem bytes_is {ls : List Lab} (h : isSet ls = true) {w w' : World} {e : Ending} (hm : MadeBytes w (bytesOf ls) e w') : ∃ g c, e = .returned (.slice (some ⟨g, 0, none⟩) (bytesOf ls).length c) ∧ (bytesOf ls).length ≤ c ∧ IsBytes w' (some ⟨g, 0, none⟩) (bytesOf ls) ∧ Below w.heap.size w w' := by
  obtain ⟨v, rfl, o, b⟩ := hm
  obtain ⟨g, c, rfl, hc, _, _⟩ := own_head o (bytes_pos h)
  exact ⟨g, c, rfl, hc, own_is o (bytes_byte h), b⟩

set_option maxRecDepth 100000 in
set_option maxHeartbeats 4000000 in
theorem back_law (zl zr : List Int) (tl : List Nat) (A B C : Option Addr) (ca cb cc : Nat) (w : World) (hC : C = none → cc = 0) (ha : IsInts w A zl) (hb : IsInts w B zr) (hc : IsBytes w C tl) :
    Calls Try.prog 8 #[.slice A zl.length ca, .slice B zr.length cb, .slice C tl.length cc] w fun e w' => e = .returned (.bool true) ∧ Below w.heap.size w w' := by
  have RU := Lib.hid (fun W => runs_any W)
  have KA := Lib.hid (fun W (h : zl.length ≤ 20) (hW : Below w.heap.size w W) => keep_any zl A ca W (by omega) (ha.below hW))
  have KB := Lib.hid (fun W (h : zr.length ≤ 20) (hW : Below w.heap.size w W) => keep_any zr B cb W (by omega) (hb.below hW))
  have HC := Lib.hid (fun W (hW : Below w.heap.size w W) => isBytes_below hc hW)
  have HC0 := Lib.hid hC
  have mixed : Try.prog.follows .mixedOrders = true := by kernel_rfl
  clear ha hb hc hC
  obtain ⟨N, hN⟩ : ∃ N, tl.length = N := ⟨_, rfl⟩
  rw [hN]
  have HN := Lib.hid hN
  clear hN
  generalize zl.length = N1 at *
  generalize zr.length = N2 at *
  by_cases h1 : 20 < N1
  · have h1d : decide ((N1 : Int) > 20) = true := decide_eq_true (by omega)
    go_enter Try.func8, Try.ntmps8
    go_wp2_with fail
    refine (RU.out _).mono ?_
    rintro e w' ⟨rfl, b⟩
    have B := Lib.hid b
    clear b RU
    go_wp2
    go_ret
    exact ⟨rfl, B.out⟩
  have h1d : decide ((N1 : Int) > 20) = false := decide_eq_false (by omega)
  by_cases h2 : 20 < N2
  · have h2d : decide ((N2 : Int) > 20) = true := decide_eq_true (by omega)
    go_enter Try.func8, Try.ntmps8
    go_wp2_with fail
    refine (RU.out _).mono ?_
    rintro e w' ⟨rfl, b⟩
    have B := Lib.hid b
    clear b RU
    go_wp2
    go_ret
    exact ⟨rfl, B.out⟩
  have h2d : decide ((N2 : Int) > 20) = false := decide_eq_false (by omega)
  by_cases h3 : 300 < N
  · have h3d : decide ((N : Int) > 300) = true := decide_eq_true (by omega)
    go_enter Try.func8, Try.ntmps8
    go_wp2_with fail
    refine (RU.out _).mono ?_
    rintro e w' ⟨rfl, b⟩
    have B := Lib.hid b
    clear b RU
    go_wp2
    go_ret
    exact ⟨rfl, B.out⟩
  have h3d : decide ((N : Int) > 300) = false := decide_eq_false (by omega)
  go_enter Try.func8, Try.ntmps8
  go_wp2_with fail
  refine (KA.out w (by omega) (Below.refl _ _)).mono ?_
  rintro e w1 ⟨⟨la, va, sa, rfl, oa⟩, b1⟩
  go_wp2_with fail
  refine (KB.out w1 (by omega) b1).mono ?_
  rintro e w2 ⟨⟨lb, vb, sb, rfl, ob⟩, b2⟩
  have d2 := b1.trans (b2.mono b1.size)
  obtain ⟨Aa, cA, rfl, _, _, ia, _⟩ := own_formL (own_keepL oa b2)
  obtain ⟨Ab, cB, rfl, _, _, ib, _⟩ := own_formL ob
  have hla := (isSet_iff.1 sa).2.1
  have hlb := (isSet_iff.1 sb).2.1
  have LA := Lib.hid (fun W (hW : Below w2.heap.size w2 W) => ia.below hW)
  have LB := Lib.hid (fun W (hW : Below w2.heap.size w2 W) => ib.below hW)
  have sma : Small la := fun x hx => by have := set_sizes sa x hx; omega
  have smb : Small lb := fun x hx => by have := set_sizes sb x hx; omega
  have BA := Lib.hid (fun W hW => bytes_any la Aa cA W (by omega) sma (LA.out W hW))
  have BB := Lib.hid (fun W hW => bytes_any lb Ab cB W (by omega) smb (LB.out W hW))
  have ISA := Lib.hid (fun (W W' : World) (e : Ending) => bytes_is sa (w := W) (w' := W') (e := e))
  have ISB := Lib.hid (fun (W W' : World) (e : Ending) => bytes_is sb (w := W) (w' := W') (e := e))
  have SLb := Lib.hid (fun W hW => samelabs_any la lb Aa Ab cA cB W (by omega) (by omega) (LA.out W hW) (LB.out W hW))
  have SLa := Lib.hid (fun (A' : Option Addr) (c' : Nat) W hW hi => samelabs_any la la Aa A' cA c' W (by omega) (by omega) (LA.out W hW) hi)
  have dt : decide (la = la) = true := by simp
  rw [dt] at SLa
  have RB := Lib.hid (read_back sa tl)
  rw [← bytes_set sa] at RB
  have PI := Lib.hid (pre_iff sa sb)
  have BYA := Lib.hid (bytes_byte sa)
  have BYB := Lib.hid (bytes_byte sb)
  have lena := bytes_len sa
  have lenb := bytes_len sb
  have D2 := Lib.hid d2
  clear KA KB oa ob b1 b2 d2 sa sb ia ib LA LB h1d h2d h3d sma smb dt
  generalize hxl : bytesOf la = xl at *
  generalize hyl : bytesOf lb = yl at *
  clear hxl hyl
  obtain ⟨nx, hnx⟩ : ∃ n, xl.length = n := ⟨_, rfl⟩
  obtain ⟨ny, hny⟩ : ∃ n, yl.length = n := ⟨_, rfl⟩
  rw [hnx] at lena ISA RB PI
  rw [hny] at lenb ISB
  have HNX := Lib.hid hnx
  have HNY := Lib.hid hny
  clear hnx hny
  generalize hna : la.length = na at *
  generalize lb.length = nb at *
  go_wp2_with fail
  refine (BA.out w2 (Below.refl _ _)).mono ?_
  intro e w3 hm
  obtain ⟨gx, cx, rfl, hcx, ix, b3⟩ := ISA.out _ _ _ hm
  clear hm BA ISA
  go_wp2_with fail
  refine (BB.out w3 b3).mono ?_
  intro e w4 hm
  obtain ⟨gy, cy, rfl, hcy, iy, b4⟩ := ISB.out _ _ _ hm
  clear hm BB ISB
  have d4 := b3.trans (b4.mono b3.size)
  have ix4 := isBytes_below ix b4
  have it4 := HC.out w4 (D2.out.trans (d4.mono D2.out.size))
  clear b3 b4 ix
  go_wp2_with (at_builtin; refine wpList_app w4 rfl _ _ rfl w4.heap.size (.slice none 0 0) [] xl 0 nx rfl HNX.out rfl (World.ownsRow_nil _ _ _ _) (some ⟨gx, 0, none⟩) cx rfl (fun e => by cases e) ix4 (by omega) (Nat.le_refl _) ?_)
  intro v5 w5 o5 g5
  have b5 : Below w4.heap.size w4 w5 := (Below.refl _ _).grown g5 (Nat.le_refl _) (fun q hq => by cases hq)
  have it5 := isBytes_below it4 b5
  clear g5 it4
  go_wp2_with (at_builtin; refine wpList_app w5 rfl _ _ rfl w4.heap.size v5 xl tl nx N HNX.out HN.out rfl o5 C cc rfl HC0.out it5 (by omega) b5.size ?_)
  intro v6 w6 o6 g6
  have b6 : Below w4.heap.size w4 w6 := b5.grown g6 b5.size (own_geL o5)
  have d6 := d4.trans (b6.mono d4.size)
  have hl6 : (xl ++ tl).length = nx + N := by rw [List.length_append, HNX.out, HN.out]
  have hby : ∀ x ∈ xl ++ tl, x < 256 := fun x hx => by
    rcases List.mem_append.1 hx with h | h
    · exact BYA.out x h
    · exact mem_of_getD it5.1 x h
  obtain ⟨A6, c6, rfl, hc6⟩ := own_form o6
  have CR := Lib.hid (read_any (xl ++ tl) A6 c6 w6 (by omega) (by omega) (own_is o6 hby))
  rw [hl6, RB.out] at CR
  have ix6 := isBytes_below ix4 b6
  have iy6 := isBytes_below iy b6
  clear o5 g6 b5 it5 hby o6 b6 d4 ix4 iy RB hl6
  go_wp2_with fail
  refine CR.out.mono ?_
  rintro e w7 ⟨⟨r7, v7, rfl, q7⟩, b7⟩
  obtain ⟨rfl, o7⟩ := q7
  have d7 := d6.trans (b7.mono d6.size)
  have ix7 := isBytes_below ix6 b7
  have iy7 := isBytes_below iy6 b7
  obtain ⟨A7, c7, rfl, _, _, i7, _⟩ := own_formL o7
  have SL := Lib.hid (SLa.out A7 c7 w7 d7 i7)
  clear CR b7 d6 o7 i7 ix6 iy6 SLa
  rw [hna]
  go_wp2_with fail
  refine SL.out.mono ?_
  rintro e w8 ⟨rfl, b8⟩
  have d8 := d7.trans (b8.mono d7.size)
  have ix8 := isBytes_below ix7 b8
  have iy8 := isBytes_below iy7 b8
  clear SL b8 d7 ix7 iy7
  have DW := Lib.hid (D2.out.trans (d8.mono D2.out.size))
  by_cases hle : nx ≤ ny
  · have hlez : (nx : Int) ≤ (ny : Int) := by omega
    have SC := fun W => bcut_lo W gy ny cy nx (by omega)
    obtain ⟨SX, hSX⟩ : ∃ S, strOf xl = S := ⟨_, rfl⟩
    obtain ⟨SY, hSY⟩ : ∃ S, strOf (yl.take nx) = S := ⟨_, rfl⟩
    have CX : ∀ d os, (convert 28 9 (.slice (some ⟨gx, 0, none⟩) nx cx)).run Try.prog (grow (redrawn w8 d) os) = .ok (.string SX) (grow (redrawn w8 d) os) := fun d os => by
      have := is_conv (c := cx) (isBytes_below ix8 (below_regrown w8 d os))
      rw [HNX.out, hSX] at this
      exact this
    have CY : ∀ d os, (convert 28 9 (.slice (some ⟨gy, 0, none⟩) nx cy)).run Try.prog (grow (redrawn w8 d) os) = .ok (.string SY) (grow (redrawn w8 d) os) := fun d os => by
      have := is_conv (c := cy) (isBytes_take (isBytes_below iy8 (below_regrown w8 d os)) nx)
      rw [List.length_take, HNY.out, Nat.min_eq_left hle, hSY] at this
      exact this
    have EQ : (SY.toList == SX.toList) = decide (la = lb) := by
      rw [← hSX, ← hSY, str_eq (fun x hx => BYB.out x (List.mem_of_mem_take hx)) BYA.out]
      exact decide_eq_decide.2 PI.out
    have CS : Hid (∀ d os, Calls Try.prog 23 #[.slice Aa na cA, .slice Ab nb cB] (grow (redrawn w8 d) os) fun e w'' => e = .returned (.bool (decide (la = lb))) ∧ ∃ p : Regrown, w'' = grow (redrawn w8 p.d) p.os) := fun d os => Calls.regrown_of (SLb.out _ (d8.trans ((below_regrown w8 d os).mono d8.size)))
    have BW : Hid (∀ d os, Below w.heap.size w (grow (redrawn w8 d) os)) := fun d os => DW.out.trans ((below_regrown w8 d os).mono DW.out.size)
    clear hSX hSY SLb ix8 iy8 d8 DW PI BYA BYB
    generalize decide (la = lb) = z at *
    go_wp2_with fail
    refine wp_region_quiet_below (by assumption) (by kernel_rfl) ?_
    repeat (quiet_step (exact CS.out _ _))
    refine wpQuiet_nil ?_
    intro _ hw'
    obtain ⟨⟨dq, osq⟩, hw''⟩ := hw'
    subst hw''
    have B3 := BW.out dq osq
    clear CX CY CS BW SC
    generalize grow (redrawn w8 dq) osq = w9 at *
    go_wp2_with fail
    refine (RU.out _).mono ?_
    rintro e w' ⟨rfl, b⟩
    have B := Lib.hid (B3.trans (b.mono B3.size))
    clear b RU B3
    go_wp2
    go_ret
    exact ⟨rfl, B.out⟩
  · have hlez : ¬ (nx : Int) ≤ (ny : Int) := by omega
    go_wp2_with fail
    go_quiet (fail)
    have B3 := below_drewN DW.out nq
    clear ix8 iy8 d8 DW
    generalize w8.drewN nq = w9 at *
    go_wp2_with fail
    refine (RU.out _).mono ?_
    rintro e w' ⟨rfl, b⟩
    have B := Lib.hid (B3.trans (b.mono B3.size))
    clear b RU B3
    go_wp2
    go_ret
    exact ⟨rfl, B.out⟩
end Go.Proofs.Ytbfpcolbkfcanaa
