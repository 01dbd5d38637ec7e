/-
  A queue's functions with names for what comes out; ReapRuns as a contract. Conditions: lengths fit.
-/
import Derived.Test.YtlbhiiciajfphaaBp
namespace Go.Proofs.Ytlbhiiciajfphaa
open Go.RowKit Go.Sort

section
variable {w0 w : World} {b : Nat} {l : List Rw} {v : Value}
theorem qput_s (h : Qs w0 w b l v) (id due : Int) {l' : List Rw} (hl : Qu.put id due l = l') (hs : l.length + 1 ≤ 1048576) :
    Calls Try.prog 8 #[.pointer (some ⟨b, 0, none⟩), .int .i64 id, .int .u64 due] w fun e w' => e = .returned (.tuple #[]) ∧ QsTo w0 w b v l' w' := by
  subst hl
  exact qput_any h id due hs
theorem qdrop_s (h : Qs w0 w b l v) (id : Int) {d : Bool} {l' : List Rw} (hd : Qu.has id l = d) (hl : Qu.cut id l = l') :
    Calls Try.prog 18 #[.pointer (some ⟨b, 0, none⟩), .int .i64 id] w fun e w' => e = .returned (.bool d) ∧ QsTo w0 w b v l' w' := by
  subst hd hl
  exact qdrop_any h id
theorem qdue_s (h : Qs w0 w b l v) (now : Int) {l' : List Rw} {r : List Int} (hr : Qu.ids (Qu.ripe now l) = r) (hl : Qu.late now l = l') :
    Calls Try.prog 12 #[.pointer (some ⟨b, 0, none⟩), .int .u64 now] w fun e w' => ∃ A c v', e = .returned (.slice A r.length c) ∧ IsZ w' A r ∧ Qs w0 w' b l' v' := by
  subst hl hr
  refine (qdue_any h now).mono ?_
  rintro e w' ⟨v2, rfl, o, v', q, _, _, _⟩
  obtain ⟨A, c, rfl, _, _, iz, _⟩ := own_z o
  exact ⟨A, c, v', by rw [Qu.ids_len], iz, q⟩
theorem qlen_s (h : Qs w0 w b l v) {n : Nat} (hn : l.length = n) :
    Calls Try.prog 10 #[.pointer (some ⟨b, 0, none⟩)] w fun e w' => e = .returned (.int .i64 (n : Int)) ∧ w' = w := by
  subst hn
  exact qlen_any h.at_
theorem qfirst_s (h : Qs w0 w b l v) {u : Value} (hu : Qu.first l = u) :
    Calls Try.prog 9 #[.pointer (some ⟨b, 0, none⟩)] w fun e w' => e = .returned u ∧ Below w.heap.size w w' := by
  subst hu
  exact qfirst_any h.at_
theorem qat_s (h : Qs w0 w b l v) (id : Int) {d : Int} {t : Bool} (hd : Qu.dueAt id l = d) (ht : Qu.has id l = t) :
    Calls Try.prog 14 #[.pointer (some ⟨b, 0, none⟩), .int .i64 id] w fun e w' => e = .returned (.tuple #[.int .u64 d, .bool t]) ∧ Below w.heap.size w w' := by
  subst hd ht
  exact qat_any h.at_ id
end
theorem same_s (xs ys : List Int) (A B : Option Addr) (nx ny ca cb : Nat) (w : World) (ex : xs.length = nx) (ey : ys.length = ny) (hx : nx ≤ 1099511627776) (hy : ny ≤ 1099511627776) (ha : IsZ w A xs) (hb : IsZ w B ys) {d : Bool} (hd : decide (xs = ys) = d) :
    Calls Try.prog 11 #[.slice A nx ca, .slice B ny cb] w fun e w' => e = .returned (.bool d) ∧ Below w.heap.size w w' := by
  subst hd
  refine (same_any xs ys A B nx ny ca cb w ex ey hx hy ha hb).mono ?_
  rintro e w' ⟨rfl, n, rfl⟩
  exact ⟨rfl, below_drewN (Below.refl _ _) n⟩
theorem lits_z (w : World) (l : List Int) : IsZ (w.alloc (.cells (zs l).toArray 3)) (some ⟨w.heap.size, 0, none⟩) l := fun hp => ⟨_, _, rfl, fun j hj => by
  rw [Nat.zero_add, cell_of_row _ w.heap.size j (zs l).toArray 3 (0, 0) Array.getElem?_push_size]
  simp [zs, List.getD, List.getElem?_eq_getElem hj]⟩
set_option maxRecDepth 100000 in
set_option maxHeartbeats 1000000 in
theorem runs13_any (w : World) : Calls Try.prog 3 #[] w fun e w' => e = .returned (.bool true) ∧ Below w.heap.size w w' := by
  have C0 := Lib.hid (qnew_any w)
  go_enter Try.func3, Try.ntmps3
  go_wp2_with fail
  refine C0.out.mono ?_
  rintro e w1 ⟨b, rfl, h1⟩
  have C1 := Lib.hid (qput_s h1 1 9 (l' := [(9, 1)]) (by decide) (by decide))
  clear h1 C0
  go_wp2_with fail
  refine C1.out.mono ?_
  rintro e w2 ⟨rfl, v2, h2, -, -⟩
  have C2 := Lib.hid (qput_s h2 2 4 (l' := [(4, 2), (9, 1)]) (by decide) (by decide))
  clear h2 C1
  go_wp2_with fail
  refine C2.out.mono ?_
  rintro e w3 ⟨rfl, v3, h3, -, -⟩
  have C3 := Lib.hid (qput_s h3 1 4 (l' := [(4, 1), (4, 2)]) (by decide) (by decide))
  clear h3 C2
  go_wp2_with fail
  refine C3.out.mono ?_
  rintro e w4 ⟨rfl, v4, h4, -, -⟩
  have C4 := Lib.hid (qfirst_s h4 (u := .tuple #[.int .i64 1, .int .u64 4, .bool true]) rfl)
  have H4 := Lib.hid h4
  clear h4 C3
  go_wp2_with fail
  refine C4.out.mono ?_
  rintro e w5 ⟨rfl, b5⟩
  have h5 := H4.out.below b5
  have C5 := Lib.hid (qlen_s h5 (n := 2) rfl)
  have C6 := Lib.hid (qdue_s h5 4 (l' := []) (r := [1, 2]) (by decide) (by decide))
  clear h5 C4 H4 b5
  go_wp2_with fail
  refine C5.out.mono ?_
  rintro e w6 ⟨rfl, rfl⟩
  clear C5
  go_wp2_with fail
  refine C6.out.mono ?_
  rintro e w7 ⟨A, c, v7, rfl, iz, h7⟩
  have LB : Below w7.heap.size w7 (w7.alloc (.cells (zs [1, 2]).toArray 3)) := (Below.refl _ _).alloc (Nat.le_refl _) _
  have C7 := Lib.hid (same_s [1, 2] [1, 2] A (some ⟨w7.heap.size, 0, none⟩) 2 2 c 2 (w7.alloc (.cells (zs [1, 2]).toArray 3)) rfl rfl (by omega) (by omega) (iz.below LB) (lits_z w7 [1, 2]) (d := true) (by decide))
  have H7 := Lib.hid (h7.below LB)
  clear h7 iz C6 LB
  go_wp2_with fail
  refine C7.out.mono ?_
  rintro e w8 ⟨rfl, b8⟩
  have h8 := H7.out.below b8
  have C8 := Lib.hid (qlen_s h8 (n := 0) rfl)
  have BW := Lib.hid h8.bel
  clear h8 C7 H7 b8
  go_wp2_with fail
  refine C8.out.mono ?_
  rintro e w9 ⟨rfl, rfl⟩
  clear C8
  go_wp2
  go_ret
  exact ⟨rfl, BW.out⟩
end Go.Proofs.Ytlbhiiciajfphaa
