/-
  LabelsAsk as a contract: true, whatever the arguments. Conditions: lengths as a machine has them.
-/
import Derived.Test.YtbfpcolbkfcanaaNa
namespace Go.Proofs.Ytbfpcolbkfcanaa
open Go.RowKit La

set_option maxRecDepth 100000 in
set_option maxHeartbeats 4000000 in
theorem ask_law (s : ByteArray) (ls : List Lab) (A : Option Addr) (cap : Nat) (w : World) (ha : IsLabs w A ls) :
    Calls Try.prog 4 #[.string s, .slice A ls.length cap] w fun e w' => e = .returned (.bool true) ∧ Below w.heap.size w w' := by
  have RU := Lib.hid (fun W => runs_any W)
  by_cases h3 : 300 < s.size
  · have h3d : decide ((s.size : Int) > 300) = true := decide_eq_true (by omega)
    clear ha
    generalize ls.length = N at *
    go_enter Try.func4, Try.ntmps4
    go_wp2_with fail
    refine (RU.out _).mono ?_
    rintro e w' ⟨rfl, b⟩
    have B := Lib.hid b
    clear b RU
    go_wp2
    go_ret
    exact ⟨rfl, B.out⟩
  have h3d : decide ((s.size : Int) > 300) = false := decide_eq_false (by omega)
  have CW := Lib.hid (weight_any ls A cap w ha)
  have HA := Lib.hid (fun W (hW : Below w.heap.size w W) => ha.below hW)
  have CN := Lib.hid (fun W => name_any s W (by omega))
  have CN2 := Lib.hid (fun W => rname_any s W (by omega))
  have CV := Lib.hid (fun W => value_any s W)
  have CV2 := Lib.hid (fun W => rvalue_any s W)
  have CI := Lib.hid (fun W (h : Few ls) hW => is_any ls A cap W (by have := h.1; omega) h.small (HA.out W hW))
  have CI2 := Lib.hid (fun W (h : Few ls) hW => isset_any ls A cap W (by have := h.1; omega) h.small (HA.out W hW))
  have CG := Lib.hid (fun W (h : Few ls) hW => get_labs ls s A cap W (by have := h.1; omega) (HA.out W hW))
  have CG2 := Lib.hid (fun W (h : Few ls) hW => rget_labs ls s A cap W (by have := h.1; omega) (HA.out W hW))
  have FS := Lib.hid (fun (h : Few ls) => h.1)
  clear ha
  generalize ls.length = N at *
  generalize isSet ls = z1 at *
  generalize getL ls s = z2 at *
  generalize name s = z3 at *
  generalize value s = z4 at *
  go_enter Try.func4, Try.ntmps4
  go_wp2_with fail
  refine CW.out.mono ?_
  rintro e w1 ⟨⟨r, rfl, hr⟩, b1⟩
  have HR := Lib.hid hr
  clear CW hr
  by_cases hr3 : 300 < r
  · have hrd : decide ((r : Int) > 300) = true := decide_eq_true (by omega)
    go_wp2_with fail
    refine (RU.out _).mono ?_
    rintro e w' ⟨rfl, b⟩
    have B := Lib.hid (b1.trans (b.mono b1.size))
    clear b RU b1
    go_wp2
    go_ret
    exact ⟨rfl, B.out⟩
  have hrd : decide ((r : Int) > 300) = false := decide_eq_false (by omega)
  have HF := Lib.hid (HR.out (by omega))
  have hN := FS.out HF.out
  go_wp2_with fail
  refine (CN.out _).mono ?_
  rintro e w' ⟨rfl, rfl⟩
  go_wp2_with fail
  refine (CN2.out _).mono ?_
  rintro e w' ⟨rfl, rfl⟩
  go_wp2_with fail
  refine (CV.out _).mono ?_
  rintro e w' ⟨rfl, rfl⟩
  go_wp2_with fail
  refine (CV2.out _).mono ?_
  rintro e w' ⟨rfl, rfl⟩
  go_wp2_with fail
  refine (CI.out _ HF.out b1).mono ?_
  rintro e w2 ⟨rfl, b2⟩
  have d2 := b1.trans (b2.mono b1.size)
  clear b2 b1
  go_wp2_with fail
  refine (CI2.out _ HF.out d2).mono ?_
  rintro e w3 ⟨rfl, b3⟩
  have d3 := d2.trans (b3.mono d2.size)
  clear b3 d2
  go_wp2_with fail
  refine (CG.out _ HF.out d3).mono ?_
  rintro e w4 ⟨rfl, b4⟩
  have d4 := d3.trans (b4.mono d3.size)
  clear b4 d3
  go_wp2_with fail
  refine (CG2.out _ HF.out d4).mono ?_
  rintro e w5 ⟨rfl, rfl⟩
  go_wp2_with fail
  refine (RU.out _).mono ?_
  rintro e w6 ⟨rfl, b⟩
  have B := Lib.hid (d4.trans (b.mono d4.size))
  clear b RU d4
  go_wp2
  go_ret
  exact ⟨rfl, B.out⟩

set_option maxRecDepth 100000 in
set_option maxHeartbeats 4000000 in
theorem make_law (ls : List Lab) (A : Option Addr) (cap : Nat) (w : World) (hA : A = none → cap = 0) (ha : IsLabs w A ls) :
    Calls Try.prog 5 #[.slice A ls.length cap] w fun e w' => e = .returned (.bool true) ∧ Below w.heap.size w w' := by
  have RU := Lib.hid (fun W => runs_any W)
  have CW := Lib.hid (weight_any ls A cap w ha)
  have HA := Lib.hid (fun W (hW : Below w.heap.size w W) => ha.below hW)
  have CM := Lib.hid (fun W (h : Few ls) hW => make_any ls A cap W (by have := h.1; omega) h.small hA (HA.out W hW))
  have CM2 := Lib.hid (fun W (h : Few ls) hW => makeset_any ls A cap W (by have := h.1; omega) h.small (HA.out W hW))
  have MU := Lib.hid (fun r s => mk_unique (ls := ls) (r := r) (s := s))
  have FS := Lib.hid (fun (h : Few ls) => h.1)
  have ML := Lib.hid (fun (l : List Lab) (h : IsMk ls (some l)) => h.1.length_eq)
  clear ha hA
  generalize ls.length = N at *
  go_enter Try.func5, Try.ntmps5
  go_wp2_with fail
  refine CW.out.mono ?_
  rintro e w1 ⟨⟨r, rfl, hr⟩, b1⟩
  have HR := Lib.hid hr
  clear CW hr
  by_cases hr3 : 300 < r
  · have hrd : decide ((r : Int) > 300) = true := decide_eq_true (by omega)
    go_wp2_with fail
    refine (RU.out _).mono ?_
    rintro e w' ⟨rfl, b⟩
    have B := Lib.hid (b1.trans (b.mono b1.size))
    clear b RU b1
    go_wp2
    go_ret
    exact ⟨rfl, B.out⟩
  have hrd : decide ((r : Int) > 300) = false := decide_eq_false (by omega)
  have HF := Lib.hid (HR.out (by omega))
  have hN := FS.out HF.out
  go_wp2_with fail
  refine (CM.out w1 HF.out b1).mono ?_
  rintro e w2 ⟨⟨o, r2, v2, m2, rfl, q2⟩, b2⟩
  have d2 := b1.trans (b2.mono b1.size)
  have M2 := Lib.hid m2
  clear CM m2
  cases o with
  | none =>
    obtain rfl := q2
    clear b2
    go_wp2_with fail
    refine (CM2.out w2 HF.out d2).mono ?_
    rintro e w3 ⟨⟨o, r3, v3, m3, rfl, q3⟩, b3⟩
    have d3 := d2.trans (b3.mono d2.size)
    obtain rfl := MU.out _ _ M2.out m3
    obtain rfl := q3
    clear b3 CM2 m3
    have SL := Lib.hid (samelabs_any [] [] none none 0 0 w3 (by simp) (by simp) (fun h => by simp at h) (fun h => by simp at h))
    simp only [List.length_nil] at SL
    go_wp2_with fail
    refine SL.out.mono ?_
    rintro e w4 ⟨rfl, b4⟩
    have d4 := d3.trans (b4.mono d3.size)
    clear b4 SL d3 d2 b1
    go_wp2_with fail
    refine (RU.out _).mono ?_
    rintro e w' ⟨rfl, b⟩
    have B := Lib.hid (d4.trans (b.mono d4.size))
    clear b RU d4
    go_wp2
    go_ret
    exact ⟨rfl, B.out⟩
  | some l2 =>
    obtain ⟨rfl, o2⟩ := q2
    go_wp2_with fail
    refine (CM2.out w2 HF.out d2).mono ?_
    rintro e w3 ⟨⟨o, r3, v3, m3, rfl, q3⟩, b3⟩
    have d3 := d2.trans (b3.mono d2.size)
    obtain rfl := MU.out _ _ M2.out m3
    obtain ⟨rfl, o3⟩ := q3
    have hlen := ML.out l2 m3
    obtain ⟨A2, c2, rfl, _, _, i2, _⟩ := own_formL (own_keepL o2 b3)
    obtain ⟨A3, c3, rfl, _, _, i3, _⟩ := own_formL o3
    have SL := Lib.hid (samelabs_any l2 l2 A2 A3 c2 c3 w3 (by omega) (by omega) i2 i3)
    have dt : decide (l2 = l2) = true := by simp
    rw [dt] at SL
    clear b3 b2 CM2 m3 o2 o3 i2 i3 dt hlen
    generalize l2.length = L at *
    go_wp2_with fail
    refine SL.out.mono ?_
    rintro e w4 ⟨rfl, b4⟩
    have d4 := d3.trans (b4.mono d3.size)
    clear b4 SL d3 d2 b1
    go_wp2_with fail
    refine (RU.out _).mono ?_
    rintro e w' ⟨rfl, b⟩
    have B := Lib.hid (d4.trans (b.mono d4.size))
    clear b RU d4
    go_wp2
    go_ret
    exact ⟨rfl, B.out⟩
end Go.Proofs.Ytbfpcolbkfcanaa
