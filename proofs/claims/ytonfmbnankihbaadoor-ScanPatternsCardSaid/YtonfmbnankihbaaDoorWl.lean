/-
  What the reference's Takes tells: does a tree match a text whole? Conditions: at most 1000 nodes, 100 places; words have 64 bits.
-/
import Derived.Test.YtonfmbnankihbaaDoorWj
import Derived.Test.YtonfmbnankihbaaDoorZ30
namespace Go.Proofs.YtonfmbnankihbaaDoor
open Go.RowKit Go.Sort
open Pz Sc

def takesB (S : List Nat) (t : Rx) : Bool := decide (0 < (ends S t 0).length ∧ (ends S t 0).getD ((ends S t 0).length - 1) 0 = S.length)
theorem takes_made {t : Rx} (hm : Rx.made t = true) (S : List Nat) : takesB S t = vMatch (Rx.progL t) S := by
  have hr := (Rx.size_yes hm).1
  rw [Bool.eq_iff_iff, takesB, decide_eq_true_eq, vMatch_made hm, ends_last hr, ends_mem hr]
set_option maxRecDepth 100000 in
set_option maxHeartbeats 4000000 in
theorem takes_any (t : Rx) (v : Value) (s : ByteArray) (w : World) (hcnt : Rx.count t ≤ 1000) (hf : Rx.fit t) (hs : s.size ≤ 100) (h : IsRx w v t) :
    Calls Tryd.prog 23 #[v, .string s] w fun e w' => e = .returned (.bool (takesB (txt8 s) t)) ∧ Below w.heap.size w w' := by
  obtain ⟨op, a, b, c, d, A, n, cap, rfl⟩ := h.six
  have B0 : Below w.heap.size w (w.alloc (.cells #[.int .i64 op, .int .u64 (a : Int), .int .u64 (b : Int), .int .u64 (c : Int), .int .u64 (d : Int), .slice A n cap] 34)) := (Below.refl _ _).alloc (Nat.le_refl _) _
  have CE := Lib.hid (rends_all hcnt hf _ 0 s _ hs (h.grown B0))
  have B := Lib.hid B0
  have TD : Hid (takesB (txt8 s) t = decide (0 < (ends (txt8 s) t 0).length ∧ (ends (txt8 s) t 0).getD ((ends (txt8 s) t 0).length - 1) 0 = s.size)) := by show _ = _; rw [takesB, txt8_len]
  generalize ends (txt8 s) t 0 = E at *
  obtain ⟨L, hL⟩ : ∃ L, s.size = L := ⟨_, rfl⟩
  rw [hL] at TD hs
  clear h B0 hcnt hf
  go_enter Tryd.func23, Tryd.ntmps23
  go_wp2_with fail
  refine CE.out.mono ?_
  rintro e w1 ⟨A1, n1, c1, rfl, l1, m1, Z1, b1⟩
  replace B := Lib.hid (B.out.trans (b1.mono B.out.size))
  have Z1 := Lib.hid Z1
  rw [l1] at TD
  clear b1 CE
  by_cases h0 : n1 = 0
  · subst h0
    have R : Hid (takesB (txt8 s) t = false) := by show _ = _; rw [TD.out]; rfl
    clear TD Z1 l1
    go_wp2
    go_ret
    exact ⟨by rw [R.out]; rfl, B.out⟩
  · have hz : decide ((n1 : Int) > 0) = true := decide_eq_true (by omega)
    have hz2 : decide (0 < n1) = true := decide_eq_true (by omega)
    obtain ⟨blk, off, rfl, hc⟩ := Z1.out (by rw [zn_len]; omega)
    obtain ⟨m, rfl⟩ : ∃ m, n1 = m + 1 := ⟨n1 - 1, by omega⟩
    have cM := hc m (by rw [zn_len]; omega)
    have eM : (zn E).getD m 0 = ((E.getD m 0 : Nat) : Int) := by
      unfold zn
      rw [List.getD, List.getD, List.getElem?_map, List.getElem?_eq_getElem (by omega)]; rfl
    rw [eM] at cM
    rw [Nat.add_sub_cancel] at TD
    have R : Hid (takesB (txt8 s) t = decide (E.getD m 0 = L)) := by show _ = _; rw [TD.out]; simp
    clear TD Z1 hc eM l1
    generalize E.getD m 0 = x at *
    have hx : (((x : Nat) : Int) == (L : Int)) = decide (x = L) := by rw [Bool.eq_iff_iff, beq_iff_eq, decide_eq_true_eq]; omega
    generalize decide (x = L) = q at *
    have hw1 : IntKind.i64.wrap (((m + 1 : Nat) : Int) - 1) = (m : Int) := by rw [IntKind.wrap_i64]; omega
    go_wp2
    go_ret
    exact ⟨by rw [R.out]; rfl, B.out⟩
end Go.Proofs.YtonfmbnankihbaaDoor
