/-
  ProgMakes as a contract: the program of any tree, and how many steps it has. No conditions.
  ProgReads as a contract: the program of any pattern. No conditions.
-/
import Derived.Test.YtonfmbnankihbaaDoorProg
import Derived.Test.YtonfmbnankihbaaDoorZ01
import Derived.Test.YtonfmbnankihbaaDoorZ03
import Derived.Test.YtonfmbnankihbaaDoorZ06
import Derived.Test.YtonfmbnankihbaaDoorZ07
import Derived.Test.YtonfmbnankihbaaDoorZ09
import Derived.Test.YtonfmbnankihbaaDoorZ11
import Derived.Test.YtonfmbnankihbaaDoorZ12
import Derived.Test.YtonfmbnankihbaaDoorZ21
import Derived.Test.YtonfmbnankihbaaDoorZ23
import Derived.Test.YtonfmbnankihbaaDoorZ30
import Derived.Test.YtonfmbnankihbaaDoorZ14
import Derived.Test.YtonfmbnankihbaaDoorZ31
import Derived.Test.YtonfmbnankihbaaDoorZ33
import Derived.Test.YtonfmbnankihbaaDoorZ16
import Derived.Test.YtonfmbnankihbaaDoorZ02
import Derived.Test.YtonfmbnankihbaaDoorZ05
import Derived.Test.YtonfmbnankihbaaDoorZ22
import Derived.StillTailTactics
import Derived.Deep.QuietTactic
import Derived.BigQuiet
import Derived.WalkKit
import Derived.WalkSpells
import Derived.WalkLawsBesides
import Derived.Lib.Hide
import Derived.Below
import Derived.Lib.QuietBelow
import Derived.Laws.StructEq
import Derived.KernelRfl
import Derived.Laws.AppendOwn
import Derived.Deep.RegionHeld3
import Derived.Deep.LoopGhost
import Derived.Deep.MidRow
import Derived.Deep.Upon
import Derived.Maps.AppendAt
import Derived.Laws.MakeOwn
import Derived.Laws.OwnMore
import Derived.OwnWalk
import Derived.Laws.CopyOwn
import Derived.Lib.Bytealg
import Derived.Laws.Externs
import Derived.Laws.ResultCell
import Derived.Deep.Cut
import Derived.Deep.CutRange
namespace Go.Proofs.YtonfmbnankihbaaDoor
open Go.RowKit Go.Sort
open Pz

/-- The program of a tree, or none. -/
def Rx.progL (t : Rx) : List St := if Rx.made t = true then progOf t else []
theorem MakeRes.all {w w' : World} {t : Rx} {e : Ending} (h : MakeRes w t e w') : ∃ A n cap, e = .returned (.tuple #[.slice A n cap, .bool (Rx.made t)]) ∧ (Rx.progL t).length = n ∧ n ≤ 40 ∧ n ≤ cap ∧ IsSt w' A (Rx.progL t) ∧ Below w.heap.size w w' := by
  cases hm : Rx.made t
  · obtain ⟨he, hb⟩ := h.no hm
    have e0 : Rx.progL t = [] := by unfold Rx.progL; rw [hm]; rfl
    rw [e0]
    exact ⟨none, 0, 0, he, rfl, by omega, by omega, IsSt.nil _ _, hb⟩
  · obtain ⟨A, cap, he, hs, hb, hc⟩ := h.yes hm
    have e0 : Rx.progL t = progOf t := by unfold Rx.progL; rw [if_pos hm]
    rw [e0]
    exact ⟨A, _, cap, he, prog_len t, (Rx.size_yes hm).2.1, hc, hs, hb⟩
theorem Row6.under {w w' : World} {g : Nat} {cs : Array Value} (h : Row6 w g cs) (hb : Below w.heap.size w w') : Row6 w' g cs := h.grow hb
/-- The nodes are few. -/
theorem nodes_at (m : Nat) (hm : m ≤ 1000) (t : Rx) (v : Value) (w : World) (h : IsRx w v t) : Calls Tryd.prog 17 #[v, .int .i64 (m : Int)] w fun e w' => e = .returned (.int .i64 ((min (Rx.count t) (m + 1) : Nat) : Int)) ∧ Below w.heap.size w w' :=
  nodes_any (Rx.count t) t v m w hm (Nat.le_refl _) h

end Go.Proofs.YtonfmbnankihbaaDoor
namespace Go.Proofs.YtonfmbnankihbaaDoor
open Go.RowKit Go.Sort
open Pz

theorem ParseRes.all {w w' : World} {r : Option Rx} {e : Ending} (h : ParseRes w r e w') : ∃ op a b c d A n cap, e = .returned (.tuple #[.agg #[.int .i64 op, .int .u64 ((a : Nat) : Int), .int .u64 ((b : Nat) : Int), .int .u64 ((c : Nat) : Int), .int .u64 ((d : Nat) : Int), .slice A n cap], .bool r.isSome]) ∧ IsRx w' (.agg #[.int .i64 op, .int .u64 (a : Int), .int .u64 (b : Int), .int .u64 (c : Int), .int .u64 (d : Int), .slice A n cap]) (r.getD Rx.nil) ∧ Below w.heap.size w w' := by
  cases hr : r with
  | none =>
    obtain ⟨he, hb⟩ := h.no hr
    exact ⟨0, 0, 0, 0, 0, none, 0, 0, he, (RxIn.leaf (fun _ => True) w' 0 0 0 0 0).is, hb⟩
  | some t =>
    obtain ⟨op, a, b, c, d, A, n, cap, he, hx, hb⟩ := h.yes hr
    exact ⟨op, a, b, c, d, A, n, cap, he, hx, hb⟩
theorem parse_few (s : ByteArray) : Rx.count ((parse (txt8 s)).getD Rx.nil) ≤ 1000 := by
  cases h : parse (txt8 s) with
  | none => decide
  | some t => exact (parse_good h).count

end Go.Proofs.YtonfmbnankihbaaDoor
