/-
  What the program's Make and the reference's Make do: the program of a tree, or that there is none. Conditions: at most 1000 nodes.
  ProgRuns as a contract: chapter 6's runs. No conditions.
  What the reference's lay does: the steps of a tree that may be, behind others. Conditions: at most 1000 steps, 1000 nodes.
  ProgMakes as a contract: the program of any tree, and how many steps it has. No conditions.
-/
import Derived.Test.YtjmojjjgifkkiaaDoorProg
import Derived.Test.YtjmojjjgifkkiaaDoorZ02
import Derived.Test.YtjmojjjgifkkiaaDoorZ01
import Derived.Test.YtjmojjjgifkkiaaDoorZ04
import Derived.Test.YtjmojjjgifkkiaaDoorZ06
import Derived.Test.YtjmojjjgifkkiaaDoorZ05
import Derived.Test.YtjmojjjgifkkiaaDoorZ08
import Derived.Test.YtjmojjjgifkkiaaDoorZ09
import Derived.Test.YtjmojjjgifkkiaaDoorZ10
import Derived.Test.YtjmojjjgifkkiaaDoorZ17
import Derived.Test.YtjmojjjgifkkiaaDoorZ18
import Derived.Test.YtjmojjjgifkkiaaDoorZ12
import Derived.Test.YtjmojjjgifkkiaaDoorZ03
import Derived.Test.YtjmojjjgifkkiaaDoorZ15
import Derived.Laws.MakeOwn
import Derived.Laws.OwnMore
import Derived.OwnWalk
import Derived.Deep.QuietTactic
import Derived.BigQuiet
import Derived.Lib.Bytealg
import Derived.Laws.Externs
import Derived.Laws.AppendOwn
import Derived.Deep.RegionHeld3
import Derived.Deep.Cut
import Derived.StillTailTactics
import Derived.Maps.AppendAt
import Derived.Laws.ResultCell
import Derived.Deep.LoopGhost
import Derived.Laws.CopyOwn
import Derived.WalkKit
import Derived.WalkSpells
import Derived.WalkLawsBesides
import Derived.Lib.Hide
import Derived.Below
import Derived.Lib.QuietBelow
import Derived.Laws.StructEq
import Derived.KernelRfl
import Derived.Deep.MidRow
import Derived.Deep.Upon
namespace Go.Proofs.YtjmojjjgifkkiaaDoor
open Go.RowKit

/-- What Make makes of a tree. -/
def Rx.made (t : Rx) : Bool := decide (0 < Rx.size t) && decide (Rx.size t ≤ 40)
def MakeRes (w : World) (t : Rx) (e : Ending) (w' : World) : Prop :=
  Below w.heap.size w w' ∧ ((Rx.made t = true ∧ ∃ g cap, e = .returned (.tuple #[.slice (some ⟨g, 0, none⟩) (Rx.sz t + 1) cap, .bool true]) ∧ Steps w.heap.size w' (.slice (some ⟨g, 0, none⟩) (Rx.sz t + 1) cap) (progOf t)) ∨ (Rx.made t = false ∧ e = .returned (.tuple #[.slice none 0 0, .bool false])))
theorem Rx.size_yes {t : Rx} (h : Rx.made t = true) : Rx.isRex t = true ∧ Rx.sz t + 1 ≤ 40 ∧ Rx.size t = Rx.sz t + 1 := by
  simp only [Rx.made, Bool.and_eq_true, decide_eq_true_eq] at h
  obtain ⟨h1, h2⟩ := h
  unfold Rx.size at h1 h2 ⊢
  by_cases hr : Rx.isRex t = true
  · rw [if_pos hr] at h2 ⊢; exact ⟨hr, h2, rfl⟩
  · rw [if_neg hr] at h1; omega
theorem make_steps (n : Nat) (hn : n ≤ 40) (W : World) : ∃ cs : Array Value, cs.size = n * 7 ∧ (Instr.makeSlice 51 (.int .i64 0) (.int .i64 (n : Int))).run Tryd.prog W = .ok (.slice (some ⟨W.heap.size, 0, none⟩) 0 n) (W.alloc (.cells cs 107)) := by
  obtain ⟨i0, hi, hz0, hz1, hz2⟩ := info_parts Tryd.infoS
  have := run_make (P := Tryd.prog) W 51 107 i0 _ Tryd.underlying51 hi hz0 .i64 .i64 0 (n : Int) (by omega) (by omega) (by rw [hz2]; omega) (by omega)
  rw [hz1] at this
  exact ⟨_, size_madeCells _ _, this⟩

set_option maxRecDepth 100000 in
set_option maxHeartbeats 4000000 in
theorem make_any (t : Rx) (v : Value) (w : World) (hcnt : Rx.count t ≤ 1000) (h : IsRx w v t) : Calls Tryd.prog 62 #[v] w (MakeRes w t) := by
  obtain ⟨op, a, b, c, d, A, n, cap, rfl⟩ := h.six
  have B0 : Below w.heap.size w (w.alloc (.cells #[.int .i64 op, .int .u64 (a : Int), .int .u64 (b : Int), .int .u64 (c : Int), .int .u64 (d : Int), .slice A n cap] 60)) := (Below.refl _ _).alloc (Nat.le_refl _) _
  have BX := Lib.hid (fun W => box6 (w := w) (v0 := .int .i64 op) (v1 := .int .u64 (a : Int)) (v2 := .int .u64 (b : Int)) (v3 := .int .u64 (c : Int)) (v4 := .int .u64 (d : Int)) (v5 := .slice A n cap) (ty := 60) (W := W))
  have SZ0 : Hid (w.heap.size + 1 ≤ (w.alloc (.cells #[.int .i64 op, .int .u64 (a : Int), .int .u64 (b : Int), .int .u64 (c : Int), .int .u64 (d : Int), .slice A n cap] 60)).heap.size) := by show _ ≤ _; simp
  have CS := Lib.hid (size_any t _ _ hcnt (h.grown B0))
  have X := Lib.hid h.in
  have LL : Hid (Rx.made t = true → Lays 82 w.heap.size t) := fun hm => tree_any 1000 t _ (Nat.le_refl _) hcnt (Rx.size_yes hm).1
  have MY := Lib.hid (fun hm => Rx.size_yes (t := t) hm)
  obtain ⟨Z, hZ⟩ : ∃ Z, Rx.size t = Z := ⟨_, rfl⟩
  rw [hZ] at CS
  have MD : Hid (Rx.made t = (decide (0 < Z) && decide (Z ≤ 40))) := by show _ = _; rw [Rx.made, hZ]
  have hZH := Lib.hid hZ
  clear h B0 hcnt hZ
  go_enter Tryd.func62, Tryd.ntmps62
  go_wp2_with fail
  obtain ⟨w0, hw0⟩ : ∃ w0, w.alloc (.cells #[.int .i64 op, .int .u64 (a : Int), .int .u64 (b : Int), .int .u64 (c : Int), .int .u64 (d : Int), .slice A n cap] 60) = w0 := ⟨_, rfl⟩
  rw [hw0] at BX SZ0 CS ⊢
  clear hw0
  refine CS.out.mono ?_
  rintro e w1 ⟨rfl, b1⟩
  have D1 := Lib.hid (b1.mono SZ0.out)
  obtain ⟨⟨q0, q1, q2, q3, q4, q5⟩, BW⟩ := BX.out w1 D1.out
  have B1 := Lib.hid BW
  clear BW b1 CS D1
  by_cases hz0 : Z = 0
  · subst hz0
    have M0 : Hid (Rx.made t = false) := by show _ = _; rw [MD.out]; rfl
    clear X LL MY MD hZH
    clear q0 q1 q2 q3 q4 q5
    go_wp2
    go_ret2
    exact ⟨B1.out, .inr ⟨M0.out, rfl⟩⟩
  by_cases hz1 : 40 < Z
  · have hz2 : ((Z : Int) == 0) = false := by simp; omega
    have hz3 : (40 : Int) < (Z : Int) := by omega
    have M0 : Hid (Rx.made t = false) := by show _ = _; rw [MD.out]; simp; omega
    clear X LL MY MD hZH
    clear q0 q1 q2 q3 q4 q5
    go_wp2
    go_ret2
    exact ⟨B1.out, .inr ⟨M0.out, rfl⟩⟩
  have hz2 : ((Z : Int) == 0) = false := by simp; omega
  have hz3 : ¬ (40 : Int) < (Z : Int) := by omega
  have M1 : Hid (Rx.made t = true) := by show _ = _; rw [MD.out]; simp; omega
  have L1 := Lib.hid (LL.out M1.out)
  obtain ⟨_, y1, y2⟩ := MY.out M1.out
  have ZS := Lib.hid (hZH.out.symm.trans y2)
  have Y1 := Lib.hid y1
  have hw1 : w.heap.size ≤ w1.heap.size := B1.out.size
  have XB := Lib.hid (fun W (hW : Below w1.heap.size w1 W) => X.out.low (B1.out.trans (hW.mono hw1)))
  have LN : Hid ((Rx.lay 0 t).length = Rx.sz t) := Rx.lay_len t 0
  have PE : Hid (progOf t = Rx.lay 0 t ++ [St.mat]) := rfl
  clear LL MY MD hZH y1 y2 X
  go_wp2_with fail
  refine wp_region_held_drew (S := fun W => Below w1.heap.size w1 W) (by kernel_rfl) ((Below.refl _ _).drew) (fun hHeld => ?_)
  refine held_take 0 14 (v := (.int .i64 (Z : Int))) rfl rfl (by kernel_rfl) (by kernel_rfl) (by kernel_rfl) (by rfl) (fun _ _ _ h => h) (by assumption) ?_ ?_
  · intro W hW
    go_simp
  simp only [List.setIfInBounds_toArray, List.set_cons_zero, List.set_cons_succ]
  refine held_take 2 16 (v := (.agg #[.int .i64 op, .int .u64 (a : Int), .int .u64 (b : Int), .int .u64 (c : Int), .int .u64 (d : Int), .slice A n cap])) rfl rfl (by kernel_rfl) (by kernel_rfl) (by kernel_rfl) (by rfl) (fun _ _ _ h => h) (by assumption) ?_ ?_
  · intro W hW
    have e0 := (hW.cell (p := ⟨w.heap.size, 0, none⟩) (World.block_lt_of_cell? w1 _ q0)).trans q0
    have e1 := (hW.cell (p := ⟨w.heap.size, 1, none⟩) (World.block_lt_of_cell? w1 _ q1)).trans q1
    have e2 := (hW.cell (p := ⟨w.heap.size, 2, none⟩) (World.block_lt_of_cell? w1 _ q2)).trans q2
    have e3 := (hW.cell (p := ⟨w.heap.size, 3, none⟩) (World.block_lt_of_cell? w1 _ q3)).trans q3
    have e4 := (hW.cell (p := ⟨w.heap.size, 4, none⟩) (World.block_lt_of_cell? w1 _ q4)).trans q4
    have e5 := (hW.cell (p := ⟨w.heap.size, 5, none⟩) (World.block_lt_of_cell? w1 _ q5)).trans q5
    go_simp
  simp only [List.setIfInBounds_toArray, List.set_cons_zero, List.set_cons_succ]
  obtain ⟨cs, hcs, MK⟩ := make_steps Z (by omega) w1.drew
  have d1 : Below w1.heap.size w1 (w1.drew.alloc (.cells cs 107)) := ((Below.refl _ _).drew).alloc (Nat.le_refl _) _
  have S1 : Steps w.heap.size (w1.drew.alloc (.cells cs 107)) (.slice (some ⟨w1.heap.size, 0, none⟩) 0 Z) [] := World.ownsRow_made w1.drew cs Z hw1 (by unfold maxLen; omega) hcs
  refine held_op 1 rfl (by kernel_rfl) (by rfl) ?_
  refine wp_run (v := .slice (some ⟨w1.heap.size, 0, none⟩) 0 Z) (w' := w1.drew.alloc (.cells cs 107)) rfl (by go_simp) ⟨d1, ?_⟩
  simp only [List.setIfInBounds_toArray, List.set_cons_zero, List.set_cons_succ]
  generalize w1.drew.alloc (.cells cs 107) = w2 at *
  refine held_call 3 17 (f := 82) (args := #[.slice (some ⟨w1.heap.size, 0, none⟩) 0 Z, .agg #[.int .i64 op, .int .u64 (a : Int), .int .u64 (b : Int), .int .u64 (c : Int), .int .u64 (d : Int), .slice A n cap]]) rfl rfl (by kernel_rfl) (by rfl) (by go_simp) ?_
  refine (L1.out _ [] _ 0 Z w2 rfl (by have := Y1.out; omega) (by have := d1.size; omega) (XB.out w2 d1) S1).mono ?_
  rintro e w3 ⟨A3, m3, cap3, hm, rfl, S3, M3⟩
  rw [LN.out, Nat.zero_add] at hm
  subst hm
  rw [List.nil_append] at S3
  have d2 : Below w1.heap.size w1 w3 := d1.trans (M3.below d1.size (fun k hk => Nat.le_of_eq (Option.some.inj hk)))
  refine ⟨_, rfl, d2, ?_⟩
  simp only [List.setIfInBounds_toArray, List.set_cons_zero, List.set_cons_succ]
  refine held_take 4 5 (v := (.slice A3 (Rx.sz t) cap3)) rfl rfl (by kernel_rfl) (by kernel_rfl) (by kernel_rfl) (by rfl) (fun _ _ _ h => h) (by assumption) ?_ ?_
  · intro W hW
    go_simp
  simp only [List.setIfInBounds_toArray, List.set_cons_zero, List.set_cons_succ]
  refine wpAnyH_done (by kernel_rfl) ?_ _
  replace S3 := Lib.hid S3
  have B3 := Lib.hid (B1.out.trans (d2.mono hw1))
  have hw3 : w.heap.size ≤ w3.heap.size := B3.out.size
  clear hHeld MK hcs d1 d2 M3 S1 XB L1 q0 q1 q2 q3 q4 q5
  go_wp2_with (at_builtin; go_must (refine wpList_appS rfl (.tmp 18) (.tmp 20) rfl w.heap.size _ _ (Rx.sz t) St.mat w3.heap.size rfl rfl rfl (by simp [cells7, St.mat]) S3.out LN.out (by have := Y1.out; omega) hw3 ?_); (intro g4 cap4 w4 S4 M4); (replace S4 := Lib.hid S4); (replace M4 := Lib.hid M4))
  go_ret2
  exact ⟨B3.out.trans (M4.out.below hw3 S3.out.low), .inl ⟨M1.out, g4, cap4, rfl, by rw [PE.out]; exact S4.out⟩⟩

end Go.Proofs.YtjmojjjgifkkiaaDoor
namespace Go.Proofs.YtjmojjjgifkkiaaDoor
open Go.RowKit Go.Sort
open Pz

def l6 : List St := [⟨2, 0, 0, 0, 0, 1, 3⟩, ⟨1, 0, 8589934592, 0, 0, 0, 0⟩, ⟨3, 0, 0, 0, 0, 0, 0⟩, ⟨4, 0, 0, 0, 0, 0, 0⟩]
theorem prog6 : progOf t2 = l6 := by decide +kernel
theorem made6 : Rx.made t2 = true := by decide +kernel
theorem ok6 : progOk l6 = true := by decide +kernel
/-- A program that was made, as a row that reads so. -/
theorem MakeRes.yes {w w' : World} {t : Rx} {e : Ending} (h : MakeRes w t e w') (hm : Rx.made t = true) : ∃ A cap, e = .returned (.tuple #[.slice A (Rx.sz t + 1) cap, .bool true]) ∧ IsSt w' A (progOf t) ∧ Below w.heap.size w w' ∧ Rx.sz t + 1 ≤ cap := by
  obtain ⟨hb, ⟨_, g, cap, he, hs⟩ | ⟨hn, _⟩⟩ := h
  · refine ⟨_, cap, he, hs.is, hb, ?_⟩
    rcases hs.2 with ⟨e1, _⟩ | ⟨g', cap', cur, e1, _, _, hc, _⟩
    · cases e1
    · injection e1 with _ _ e3
      subst e3
      rw [progOf, List.length_append, Rx.lay_len] at hc
      exact hc
  · rw [hn] at hm; cases hm
theorem MakeRes.no {w w' : World} {t : Rx} {e : Ending} (h : MakeRes w t e w') (hm : Rx.made t = false) : e = .returned (.tuple #[.slice none 0 0, .bool false]) ∧ Below w.heap.size w w' := by
  obtain ⟨hb, ⟨hy, _⟩ | ⟨_, he⟩⟩ := h
  · rw [hm] at hy; cases hy
  · exact ⟨he, hb⟩

end Go.Proofs.YtjmojjjgifkkiaaDoor
namespace Go.Proofs.YtjmojjjgifkkiaaDoor
open Go.RowKit

/-- A row of steps on its way. -/
structure Run (base : Nat) (w : World) (v : Value) (W : World) (V : Value) (L : List St) : Prop where
  steps : Steps base W V L
  moved : Moved w v W V
theorem Run.step {base : Nat} {w W W' : World} {v V V' : Value} {L L' : List St} (h : Run base w v W V L) (hm : Moved W V W' V') (hs : Steps base W' V' L') : Run base w v W' V' L' := ⟨hs, h.moved.trans hm⟩
theorem Run.grow {base : Nat} {w W W' : World} {v V : Value} {L : List St} (h : Run base w v W V L) (hb : Below W.heap.size W W') : Run base w v W' V L := ⟨h.steps.grow hb, h.moved.grow hb⟩

end Go.Proofs.YtjmojjjgifkkiaaDoor
namespace Go.Proofs.YtjmojjjgifkkiaaDoor
open Go.RowKit Go.Sort
open Pz

/-- The program of a tree, or none. -/
def Rx.progL (t : Rx) : List St := if Rx.made t = true then progOf t else []
theorem MakeRes.all {w w' : World} {t : Rx} {e : Ending} (h : MakeRes w t e w') : ∃ A n cap, e = .returned (.tuple #[.slice A n cap, .bool (Rx.made t)]) ∧ (Rx.progL t).length = n ∧ n ≤ 40 ∧ n ≤ cap ∧ IsSt w' A (Rx.progL t) ∧ Below w.heap.size w w' := by
  cases hm : Rx.made t
  · obtain ⟨he, hb⟩ := h.no hm
    have e0 : Rx.progL t = [] := by unfold Rx.progL; rw [hm]; rfl
    rw [e0]
    exact ⟨none, 0, 0, he, rfl, by omega, by omega, IsSt.nil _ _, hb⟩
  · obtain ⟨A, cap, he, hs, hb, hc⟩ := h.yes hm
    have e0 : Rx.progL t = progOf t := by unfold Rx.progL; rw [if_pos hm]
    rw [e0]
    exact ⟨A, _, cap, he, prog_len t, (Rx.size_yes hm).2.1, hc, hs, hb⟩
theorem Row6.under {w w' : World} {g : Nat} {cs : Array Value} (h : Row6 w g cs) (hb : Below w.heap.size w w') : Row6 w' g cs := h.grow hb
end Go.Proofs.YtjmojjjgifkkiaaDoor
