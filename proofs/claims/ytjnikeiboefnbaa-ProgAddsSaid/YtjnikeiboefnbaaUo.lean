/-
  ProgMakes as a contract: the program of any tree, and how many steps it has. No conditions.
-/
import Derived.Test.YtjnikeiboefnbaaUn
import Derived.Test.YtjnikeiboefnbaaEb
import Derived.Test.YtjnikeiboefnbaaRh
namespace Go.Proofs.Ytjnikeiboefnbaa
open Go.RowKit Go.Sort
open Pz

/-- The program of a tree, or none. -/
def Rx.progL (t : Rx) : List St := if Rx.made t = true then progOf t else []
theorem MakeRes.all {w w' : World} {t : Rx} {e : Ending} (h : MakeRes w t e w') : ∃ A n cap, e = .returned (.tuple #[.slice A n cap, .bool (Rx.made t)]) ∧ (Rx.progL t).length = n ∧ n ≤ 40 ∧ n ≤ cap ∧ IsSt w' A (Rx.progL t) ∧ Below w.heap.size w w' := by
  cases hm : Rx.made t
  · obtain ⟨he, hb⟩ := h.no hm
    have e0 : Rx.progL t = [] := by unfold Rx.progL; rw [hm]; rfl
    rw [e0]
    exact ⟨none, 0, 0, he, rfl, by omega, by omega, IsSt.nil _ _, hb⟩
  · obtain ⟨A, cap, he, hs, hb, hc⟩ := h.yes hm
    have e0 : Rx.progL t = progOf t := by unfold Rx.progL; rw [if_pos hm]
    rw [e0]
    exact ⟨A, _, cap, he, prog_len t, (Rx.size_yes hm).2.1, hc, hs, hb⟩
theorem Row6.under {w w' : World} {g : Nat} {cs : Array Value} (h : Row6 w g cs) (hb : Below w.heap.size w w') : Row6 w' g cs := h.grow hb
/-- The nodes are few. -/
theorem nodes_at (m : Nat) (hm : m ≤ 1000) (t : Rx) (v : Value) (w : World) (h : IsRx w v t) : Calls Try.prog 12 #[v, .int .i64 (m : Int)] w fun e w' => e = .returned (.int .i64 ((min (Rx.count t) (m + 1) : Nat) : Int)) ∧ Below w.heap.size w w' :=
  nodes_any (Rx.count t) t v m w hm (Nat.le_refl _) h

set_option maxRecDepth 100000 in
set_option maxHeartbeats 4000000 in
theorem makes_law (t : Rx) (v : Value) (w : World) (h : IsRx w v t) :
    Calls Try.prog 4 #[v] w fun e w' => e = .returned (.bool true) ∧ Below w.heap.size w w' := by
  obtain ⟨op, a, b, c, d, A, n, cap, rfl⟩ := h.six
  have B0 : Below w.heap.size w (w.alloc (.cells #[.int .i64 op, .int .u64 (a : Int), .int .u64 (b : Int), .int .u64 (c : Int), .int .u64 (d : Int), .slice A n cap] 26)) := (Below.refl _ _).alloc (Nat.le_refl _) _
  have R0 : Hid (Row6 (w.alloc (.cells #[.int .i64 op, .int .u64 (a : Int), .int .u64 (b : Int), .int .u64 (c : Int), .int .u64 (d : Int), .slice A n cap] 26)) w.heap.size #[.int .i64 op, .int .u64 (a : Int), .int .u64 (b : Int), .int .u64 (c : Int), .int .u64 (d : Int), .slice A n cap]) := heap_alloc_new w _
  have X0 := Lib.hid (h.grown B0)
  have B := Lib.hid B0
  clear B0 h
  have RN := Lib.hid runs6_any
  have CN := Lib.hid (nodes_at 60 (by omega) t _ _ X0.out)
  obtain ⟨k, hk⟩ : ∃ k, min (Rx.count t) (60 + 1) = k := ⟨_, rfl⟩
  rw [hk] at CN
  by_cases h14 : 60 < k
  · have hkz : decide ((k : Int) > 60) = true := decide_eq_true (by omega)
    clear hk h14
    go_enter Try.func4, Try.ntmps4
    go_wp2_with fail
    refine CN.out.mono ?_
    rintro e w1 ⟨rfl, b1⟩
    replace B := Lib.hid (B.out.trans (b1.mono B.out.size))
    clear b1
    go_wp2_with fail
    refine (RN.out _).mono ?_
    rintro e w2 ⟨rfl, b1⟩
    replace B := Lib.hid (B.out.trans (b1.mono B.out.size))
    clear b1
    go_wp2
    go_ret
    exact ⟨rfl, B.out⟩
  have hkz : decide ((k : Int) > 60) = false := decide_eq_false (by omega)
  have hcnt : Rx.count t ≤ 1000 := by omega
  clear hk h14
  go_enter Try.func4, Try.ntmps4
  go_wp2_with fail
  refine CN.out.mono ?_
  rintro e w1 ⟨rfl, b1⟩
  replace B := Lib.hid (B.out.trans (b1.mono B.out.size))
  replace R0 := Lib.hid (R0.out.grow b1)
  replace X0 := Lib.hid (X0.out.grown b1)
  have M1 := Lib.hid (make_any t _ _ hcnt X0.out)
  clear b1 CN
  obtain ⟨e0, e1, e2, e3, e4, e5⟩ := R0.out.cells
  go_wp2_with fail
  refine M1.out.mono ?_
  intro e w2 h2
  obtain ⟨A1, n1, c1, rfl, l1, f1, k1, S1, b2⟩ := h2.all
  replace B := Lib.hid (B.out.trans (b2.mono B.out.size))
  replace R0 := Lib.hid (R0.out.grow b2)
  replace X0 := Lib.hid (X0.out.grown b2)
  replace S1 := Lib.hid S1
  have M2 := Lib.hid (rmake_any t _ _ hcnt X0.out)
  clear b2 M1 h2 e0 e1 e2 e3 e4 e5
  obtain ⟨e0, e1, e2, e3, e4, e5⟩ := R0.out.cells
  go_wp2_with fail
  refine M2.out.mono ?_
  intro e w0 h2
  obtain ⟨A2, n2, c2, rfl, l2, f2, k2, S2, b2⟩ := h2.all
  replace B := Lib.hid (B.out.trans (b2.mono B.out.size))
  replace R0 := Lib.hid (R0.out.grow b2)
  replace X0 := Lib.hid (X0.out.grown b2)
  replace S1 := Lib.hid (S1.out.grown b2)
  replace S2 := Lib.hid S2
  clear b2 M2 h2 e0 e1 e2 e3 e4 e5
  have CI := Lib.hid (fun W (hW : Below w0.heap.size w0 W) => size_any t _ W hcnt (X0.out.grown hW))
  have CR := Lib.hid (fun W (hW : Below w0.heap.size w0 W) => rsizeT_any t _ W hcnt (X0.out.grown hW))
  have CS := Lib.hid (fun W (hW : Below w0.heap.size w0 W) => samest_any _ _ A1 A2 n1 n2 c1 c2 W l1 l2 (by omega) (by omega) k1 k2 (S1.out.grown hW) (S2.out.grown hW))
  rw [decide_eq_true rfl] at CS
  clear l1 l2
  generalize Rx.size t = Z at *
  generalize Rx.made t = mb at *
  go_wp2_with fail
  refine wp_region_held_drew (S := fun W => Below w0.heap.size w0 W) (by kernel_rfl) ((Below.refl _ _).drew) (fun hHeld => ?_)
  refine held_take 0 21 (v := (.agg #[.int .i64 op, .int .u64 (a : Int), .int .u64 (b : Int), .int .u64 (c : Int), .int .u64 (d : Int), .slice A n cap])) rfl rfl (by kernel_rfl) (by kernel_rfl) (by kernel_rfl) (by rfl) (fun _ _ _ h => h) (by assumption) ?_ ?_
  · intro W hW
    obtain ⟨e0, e1, e2, e3, e4, e5⟩ := (R0.out.grow hW).cells
    go_simp
  simp only [List.setIfInBounds_toArray, List.set_cons_zero, List.set_cons_succ]
  refine held_take 2 23 (v := (.agg #[.int .i64 op, .int .u64 (a : Int), .int .u64 (b : Int), .int .u64 (c : Int), .int .u64 (d : Int), .slice A n cap])) rfl rfl (by kernel_rfl) (by kernel_rfl) (by kernel_rfl) (by rfl) (fun _ _ _ h => h) (by assumption) ?_ ?_
  · intro W hW
    obtain ⟨e0, e1, e2, e3, e4, e5⟩ := (R0.out.grow hW).cells
    go_simp
  simp only [List.setIfInBounds_toArray, List.set_cons_zero, List.set_cons_succ]
  refine held_call 1 22 (f := 14) (args := #[(.agg #[.int .i64 op, .int .u64 (a : Int), .int .u64 (b : Int), .int .u64 (c : Int), .int .u64 (d : Int), .slice A n cap])]) rfl rfl (by kernel_rfl) (by rfl) (by go_simp) ?_
  refine (CI.out _ ((Below.refl w0.heap.size w0).drew)).mono ?_
  rintro e v1 ⟨rfl, d1⟩
  have r1 : Below w0.heap.size w0 v1 := (Below.refl _ _).drew.trans d1
  refine ⟨_, rfl, r1, ?_⟩
  have held1 := Below.refl v1.heap.size v1
  refine held_more (S' := fun W => Below v1.heap.size v1 W) (fun W h => r1.trans (h.mono r1.size)) _ _ _ _ ?_
  simp only [List.setIfInBounds_toArray, List.set_cons_zero, List.set_cons_succ]
  refine held_call 3 24 (f := 15) (args := #[(.agg #[.int .i64 op, .int .u64 (a : Int), .int .u64 (b : Int), .int .u64 (c : Int), .int .u64 (d : Int), .slice A n cap])]) rfl rfl (by kernel_rfl) (by rfl) (by go_simp) ?_
  refine (CR.out _ r1).mono ?_
  rintro e v2 ⟨rfl, d2⟩
  have r2 := r1.trans (d2.mono r1.size)
  refine ⟨_, rfl, d2, ?_⟩
  have held2 := Below.refl v2.heap.size v2
  refine held_more (S' := fun W => Below v2.heap.size v2 W) (fun W h => d2.trans (h.mono d2.size)) _ _ _ _ ?_
  simp only [List.setIfInBounds_toArray, List.set_cons_zero, List.set_cons_succ]
  refine held_take 4 25 (v := (.bool true)) rfl rfl (by kernel_rfl) (by kernel_rfl) (by kernel_rfl) (by rfl) (fun _ _ _ h => h) (by assumption) ?_ ?_
  · intro W hW
    go_simp
  simp only [List.setIfInBounds_toArray, List.set_cons_zero, List.set_cons_succ]
  refine held_take 5 26 (v := (.bool true)) rfl rfl (by kernel_rfl) (by kernel_rfl) (by kernel_rfl) (by rfl) (fun _ _ _ h => h) (by assumption) ?_ ?_
  · intro W hW
    go_simp
  simp only [List.setIfInBounds_toArray, List.set_cons_zero, List.set_cons_succ]
  refine held_take 6 27 (v := (.bool mb)) rfl rfl (by kernel_rfl) (by kernel_rfl) (by kernel_rfl) (by rfl) (fun _ _ _ h => h) (by assumption) ?_ ?_
  · intro W hW
    go_simp
  simp only [List.setIfInBounds_toArray, List.set_cons_zero, List.set_cons_succ]
  refine held_take 7 28 (v := (.bool mb)) rfl rfl (by kernel_rfl) (by kernel_rfl) (by kernel_rfl) (by rfl) (fun _ _ _ h => h) (by assumption) ?_ ?_
  · intro W hW
    go_simp
  simp only [List.setIfInBounds_toArray, List.set_cons_zero, List.set_cons_succ]
  refine held_take 8 29 (v := (.bool true)) rfl rfl (by kernel_rfl) (by kernel_rfl) (by kernel_rfl) (by rfl) (fun _ _ _ h => h) (by assumption) ?_ ?_
  · intro W hW
    go_simp
  simp only [List.setIfInBounds_toArray, List.set_cons_zero, List.set_cons_succ]
  refine held_take 9 30 (v := (.bool true)) rfl rfl (by kernel_rfl) (by kernel_rfl) (by kernel_rfl) (by rfl) (fun _ _ _ h => h) (by assumption) ?_ ?_
  · intro W hW
    go_simp
  simp only [List.setIfInBounds_toArray, List.set_cons_zero, List.set_cons_succ]
  refine held_take 10 31 (v := (.bool true)) rfl rfl (by kernel_rfl) (by kernel_rfl) (by kernel_rfl) (by rfl) (fun _ _ _ h => h) (by assumption) ?_ ?_
  · intro W hW
    go_simp
  simp only [List.setIfInBounds_toArray, List.set_cons_zero, List.set_cons_succ]
  refine held_take 11 32 (v := (.slice A1 n1 c1)) rfl rfl (by kernel_rfl) (by kernel_rfl) (by kernel_rfl) (by rfl) (fun _ _ _ h => h) (by assumption) ?_ ?_
  · intro W hW
    go_simp
  simp only [List.setIfInBounds_toArray, List.set_cons_zero, List.set_cons_succ]
  refine held_take 12 33 (v := (.slice A2 n2 c2)) rfl rfl (by kernel_rfl) (by kernel_rfl) (by kernel_rfl) (by rfl) (fun _ _ _ h => h) (by assumption) ?_ ?_
  · intro W hW
    go_simp
  simp only [List.setIfInBounds_toArray, List.set_cons_zero, List.set_cons_succ]
  refine held_call 13 34 (f := 16) (args := #[.slice A1 n1 c1, .slice A2 n2 c2]) rfl rfl (by kernel_rfl) (by rfl) (by go_simp) ?_
  refine (CS.out _ r2).mono ?_
  rintro e v3 ⟨rfl, d3⟩
  have r3 := r2.trans (d3.mono r2.size)
  refine ⟨_, rfl, d3, ?_⟩
  have held3 := Below.refl v3.heap.size v3
  refine held_more (S' := fun W => Below v3.heap.size v3 W) (fun W h => d3.trans (h.mono d3.size)) _ _ _ _ ?_
  simp only [List.setIfInBounds_toArray, List.set_cons_zero, List.set_cons_succ]
  refine held_take 14 35 (v := (.bool true)) rfl rfl (by kernel_rfl) (by kernel_rfl) (by kernel_rfl) (by rfl) (fun _ _ _ h => h) (by assumption) ?_ ?_
  · intro W hW
    go_simp
  simp only [List.setIfInBounds_toArray, List.set_cons_zero, List.set_cons_succ]
  refine held_take 15 36 (v := (.bool true)) rfl rfl (by kernel_rfl) (by kernel_rfl) (by kernel_rfl) (by rfl) (fun _ _ _ h => h) (by assumption) ?_ ?_
  · intro W hW
    go_simp
  simp only [List.setIfInBounds_toArray, List.set_cons_zero, List.set_cons_succ]
  refine held_call 16 37 (f := 3) (args := #[]) rfl rfl (by kernel_rfl) (by rfl) (by go_simp) ?_
  refine (RN.out _).mono ?_
  rintro e v4 ⟨rfl, d4⟩
  have r4 := r3.trans (d4.mono r3.size)
  refine ⟨_, rfl, d4, ?_⟩
  have held4 := Below.refl v4.heap.size v4
  refine held_more (S' := fun W => Below v4.heap.size v4 W) (fun W h => d4.trans (h.mono d4.size)) _ _ _ _ ?_
  simp only [List.setIfInBounds_toArray, List.set_cons_zero, List.set_cons_succ]
  refine held_take 17 38 (v := (.bool true)) rfl rfl (by kernel_rfl) (by kernel_rfl) (by kernel_rfl) (by rfl) (fun _ _ _ h => h) (by assumption) ?_ ?_
  · intro W hW
    go_simp
  simp only [List.setIfInBounds_toArray, List.set_cons_zero, List.set_cons_succ]
  refine held_take 18 2 (v := (.bool true)) rfl rfl (by kernel_rfl) (by kernel_rfl) (by kernel_rfl) (by rfl) (fun _ _ _ h => h) (by assumption) ?_ ?_
  · intro W hW
    go_simp
  simp only [List.setIfInBounds_toArray, List.set_cons_zero, List.set_cons_succ]
  refine wpAnyH_done (by kernel_rfl) ?_ _
  have BF := Lib.hid (B.out.trans (r4.mono B.out.size))
  go_wp2
  go_ret
  exact ⟨rfl, BF.out⟩
end Go.Proofs.Ytjnikeiboefnbaa
