/-
  What the program's Ends does: the places at which a match of a tree may end, in order; none of what may not be. Conditions: at most 1000 nodes, 100 places; words have 64 bits.
-/
import Derived.Test.YteifjiadgbgkbaaHl
import Derived.Test.YteifjiadgbgkbaaEp
namespace Go.Proofs.Yteifjiadgbgkbaa
open Go.RowKit Go.Sort
open Pt

set_option maxRecDepth 100000 in
set_option maxHeartbeats 2000000 in
theorem ends_none (t : Rx) (v : Value) (z : Int) (s : ByteArray) (w : World) (hcnt : Rx.count t ≤ 1000) (h : IsRx w v t) (hno : ¬ (Rx.isRex t = true ∧ 0 ≤ z ∧ z ≤ (s.size : Int))) :
    Calls Try.prog 13 #[v, .string s, .int .i64 z] w fun e w' => e = .returned (.slice none 0 0) ∧ Below w.heap.size w w' := by
  have h0 := h
  cases h with
  | node op a b c d ks A cap blk off V hcap hA hp hc hk =>
    have BX := box6 (w := w) (v0 := .int .i64 op) (v1 := .int .u64 (a : Int)) (v2 := .int .u64 (b : Int)) (v3 := .int .u64 (c : Int)) (v4 := .int .u64 (d : Int)) (v5 := .slice A ks.length cap) (ty := 26) (W := _) (Below.refl _ _)
    have CI := Lib.hid (is_any 1000 _ _ _ (Nat.le_refl _) hcnt (h0.grown BX.2))
    have BW := Lib.hid BX.2
    clear BX hcap hA hp hc hk h0 hcnt
    generalize ks.length = N at *
    by_cases hz : z < 0
    · clear hno CI
      go_enter Try.func13, Try.ntmps13
      go_wp2
      go_ret
      exact ⟨rfl, BW.out⟩
    by_cases hz2 : z > (s.size : Int)
    · have hzd : decide (z > (s.size : Int)) = true := decide_eq_true hz2
      clear hno CI hz2
      go_enter Try.func13, Try.ntmps13
      go_wp2
      go_ret
      exact ⟨rfl, BW.out⟩
    have hzd : decide (z > (s.size : Int)) = false := decide_eq_false hz2
    have hr : Rx.isRex (.mk op a b c d ks) = false := by
      cases hq : Rx.isRex (.mk op a b c d ks)
      · rfl
      · exact absurd ⟨hq, by omega, by omega⟩ hno
    rw [hr] at CI
    clear hno hr hz2
    go_enter Try.func13, Try.ntmps13
    go_wp2_with fail
    refine CI.out.mono ?_
    rintro e w2 ⟨rfl, b2⟩
    have B := Lib.hid (BW.out.trans (b2.mono BW.out.size))
    clear CI b2 BW
    go_wp2
    go_ret
    exact ⟨rfl, B.out⟩

mutual
theorem count_sh : ∀ t : Pt, Rx.count (sh t) = count t
  | .mk _ _ _ _ _ _ _ _ _ ks => by rw [sh, Rx.count, count, countL_sh ks]
theorem countL_sh : ∀ ks : List Pt, Rx.countL (shL ks) = countL ks
  | [] => by rw [shL, Rx.countL, countL]
  | k :: r => by rw [shL, Rx.countL, countL, count_sh k, countL_sh r]
end
theorem New.lay {B : Nat} {x : Rx} {t : Pt} {w : World} (n : New B x t w) : Lay (w.alloc (.cells (cells9 t).toArray 51)) w.heap.size 0 t ∧ Apart w.heap.size t := by
  have hb : Below w.heap.size w (w.alloc (.cells (cells9 t).toArray 51)) := (Below.refl _ _).alloc (Nat.le_refl _) _
  have hh := heap_alloc_new w (.cells (cells9 t).toArray 51)
  have lt : ∀ k, k ∈ bl t → k < w.heap.size := fun k hk => by
    rw [bl_eq, List.mem_cons] at hk
    rcases hk with rfl | hk
    · exact n.top
    · obtain ⟨j, hj, hx⟩ := mem_nth hk
      exact (n.kid j hj).lt k hx
  refine ⟨.mk (fun i hi => ?_) (fun i => by rw [World.frozen?, hh]; simp) (by have := n.top; simp; omega) (fun j hj => (n.kid j hj).grown hb), ?_⟩
  · rw [Nat.zero_add, cell_of_row _ _ _ _ _ _ hh, List.getElem?_toArray, List.getElem?_eq_getElem (show i < (cells9 t).length from hi), cells9_get t hi]
  · unfold Apart
    rw [List.nodup_cons]
    exact ⟨fun hm => by have := lt _ hm; omega, n.nodup⟩
theorem Tch.below {g o B : Nat} {Bs : List Nat} {w0 w w' : World} (T : Tch g o Bs w w') (h : Below B w0 w) (hg : B ≤ g) (hb : ∀ k, k ∈ Bs → B ≤ k) (hs : B ≤ w.heap.size) : Below B w0 w' :=
  h.trans ⟨T.os, T.tape, T.output, T.size, fun k hk => T.block k (by omega) (by omega) (fun hm => by have := hb k hm; omega)⟩
theorem own_tch {g o : Nat} {Bs : List Nat} {w w' : World} {base : Nat} {e : TypeId} {size : Nat} {v : Value} {n : Nat} {xs : List Value} (T : Tch g o Bs w w') (h : w.ownsRow base e size v n xs) (hg : g < base) (hb : ∀ k, k ∈ Bs → k < base) : w'.ownsRow base e size v n xs := by
  refine ⟨h.1, ?_⟩
  rcases h.2 with hn | ⟨g', cap, cur, e1, hbg, hg', rest⟩
  · exact .inl hn
  · exact .inr ⟨g', cap, cur, e1, hbg, (T.block g' (Array.getElem?_eq_some_iff.1 hg').1 (by omega) (fun hm => by have := hb g' hm; omega)).trans hg', rest⟩
end Go.Proofs.Yteifjiadgbgkbaa
