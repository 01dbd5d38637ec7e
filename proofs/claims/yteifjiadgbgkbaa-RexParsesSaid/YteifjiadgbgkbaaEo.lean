/-
  What the reference's Ends does: the places at which a match of a tree may end, in order; none of what may not be. Conditions: at most 1000 nodes, 100 places; words have 64 bits.
-/
import Derived.Test.YteifjiadgbgkbaaEl
namespace Go.Proofs.Yteifjiadgbgkbaa
open Go.RowKit Go.Sort

/-- Numbers as cells. -/
def iz (l : List Nat) : List Value := l.map fun k : Nat => Value.int .i64 (k : Int)
theorem iz_app (a b : List Nat) : iz (a ++ b) = iz a ++ iz b := by simp [iz]
theorem iz_len (l : List Nat) : (iz l).length = l.length := by simp [iz]
/-- The places up to k at which a match may end. -/
def endsTo (S : List Nat) (t : Rx) (at_ k : Nat) : List Nat := (List.range k).filter (Rx.aft S t fun j => j == at_)
theorem endsTo_yes {S : List Nat} {t : Rx} {a k : Nat} (h : Rx.aft S t (fun j => j == a) k = true) : endsTo S t a (k + 1) = endsTo S t a k ++ [k] := by
  simp [endsTo, List.range_succ, List.filter_append, h]
theorem endsTo_no {S : List Nat} {t : Rx} {a k : Nat} (h : Rx.aft S t (fun j => j == a) k = false) : endsTo S t a (k + 1) = endsTo S t a k := by
  simp [endsTo, List.range_succ, List.filter_append, h]
theorem endsTo_len (S : List Nat) (t : Rx) (a k : Nat) : (endsTo S t a k).length ≤ k := Nat.le_trans (List.length_filter_le _ _) (by simp)
/-- What Ends is to tell. -/
def ends (S : List Nat) (t : Rx) (z : Int) : List Nat := if Rx.isRex t = true ∧ 0 ≤ z ∧ z ≤ (S.length : Int) then endsTo S t z.toNat (S.length + 1) else []
def MadeInts (w : World) (l : List Nat) (e : Ending) (w' : World) : Prop := ∃ v, e = .returned v ∧ w'.ownsRow w.heap.size 3 1 v l.length (iz l) ∧ Below w.heap.size w w'
theorem Try.infoZ : (Try.prog.info? 3).map (fun i => (i.zero, i.size, i.bytes)) = some (some (.int .i64 0), 1, 8) := by kernel_rfl
theorem one_iz (k : Nat) : ∀ u ∈ [Value.int .i64 (k : Int)], u.oneCell' = true := by
  intro u hu
  simp only [List.mem_singleton] at hu
  subst hu
  rfl

set_option maxRecDepth 100000 in
set_option maxHeartbeats 2000000 in
theorem rends_none (t : Rx) (v : Value) (z : Int) (s : ByteArray) (w : World) (hcnt : Rx.count t ≤ 1000) (h : IsRx w v t) (hno : ¬ (Rx.isRex t = true ∧ 0 ≤ z ∧ z ≤ (s.size : Int))) :
    Calls Try.prog 19 #[v, .string s, .int .i64 z] w fun e w' => e = .returned (.slice none 0 0) ∧ Below w.heap.size w w' := by
  have h0 := h
  cases h with
  | node op a b c d ks A cap blk off V hcap hA hp hc hk =>
    have BX := box6 (w := w) (v0 := .int .i64 op) (v1 := .int .u64 (a : Int)) (v2 := .int .u64 (b : Int)) (v3 := .int .u64 (c : Int)) (v4 := .int .u64 (d : Int)) (v5 := .slice A ks.length cap) (ty := 26) (W := _) (Below.refl _ _)
    have CI := Lib.hid (risrex_any 1000 _ _ _ (Nat.le_refl _) hcnt (h0.grown BX.2))
    have BW := Lib.hid BX.2
    clear BX hcap hA hp hc hk h0 hcnt
    generalize ks.length = N at *
    cases hr : Rx.isRex (.mk op a b c d ks)
    · rw [hr] at CI
      clear hr hno
      go_enter Try.func19, Try.ntmps19
      go_wp2_with fail
      refine CI.out.mono ?_
      rintro e w2 ⟨rfl, b2⟩
      have B := Lib.hid (BW.out.trans (b2.mono BW.out.size))
      clear CI b2 BW
      go_wp2
      go_ret
      exact ⟨rfl, B.out⟩
    · rw [hr] at CI hno
      clear hr
      by_cases hz : z < 0
      · clear hno
        go_enter Try.func19, Try.ntmps19
        go_wp2_with fail
        refine CI.out.mono ?_
        rintro e w2 ⟨rfl, b2⟩
        have B := Lib.hid (BW.out.trans (b2.mono BW.out.size))
        clear CI b2 BW
        go_wp2
        go_ret
        exact ⟨rfl, B.out⟩
      · have hzd : decide (z > (s.size : Int)) = true := decide_eq_true (by
          rcases Int.lt_or_le (s.size : Int) z with h | h
          · exact h
          · exact absurd ⟨rfl, by omega, h⟩ hno)
        clear hno
        go_enter Try.func19, Try.ntmps19
        go_wp2_with fail
        refine CI.out.mono ?_
        rintro e w2 ⟨rfl, b2⟩
        have B := Lib.hid (BW.out.trans (b2.mono BW.out.size))
        clear CI b2 BW
        go_wp2
        go_ret
        exact ⟨rfl, B.out⟩
end Go.Proofs.Yteifjiadgbgkbaa
