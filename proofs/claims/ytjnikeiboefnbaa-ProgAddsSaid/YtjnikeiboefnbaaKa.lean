/-
  Chapter 5's runs (RexRuns), as a contract. No conditions.
-/
import Derived.Test.YtjnikeiboefnbaaProg
import Derived.Test.YtjnikeiboefnbaaEa
import Derived.Test.YtjnikeiboefnbaaEd
import Derived.Test.YtjnikeiboefnbaaEk
import Derived.Test.YtjnikeiboefnbaaJa
import Derived.Test.YtjnikeiboefnbaaJb
import Derived.Test.YtjnikeiboefnbaaHa
import Derived.Test.YtjnikeiboefnbaaEo
import Derived.Test.YtjnikeiboefnbaaHd
import Derived.Test.YtjnikeiboefnbaaJe
import Derived.Test.YtjnikeiboefnbaaJg
import Derived.Test.YtjnikeiboefnbaaJh
import Derived.Test.YtjnikeiboefnbaaJk
import Derived.Test.YtjnikeiboefnbaaHi
import Derived.Laws.AppendOwn
import Derived.Maps.AppendAt
import Derived.Deep.LoopGhost
import Derived.Deep.QuietTactic
import Derived.BigQuiet
import Derived.Lib.Bytealg
import Derived.Laws.Externs
import Derived.Laws.CopyOwn
import Derived.Laws.MakeOwn
import Derived.Laws.OwnMore
import Derived.OwnWalk
import Derived.StillTailTactics
import Derived.WalkKit
import Derived.WalkSpells
import Derived.WalkLawsBesides
import Derived.Lib.Hide
import Derived.Below
import Derived.Lib.QuietBelow
import Derived.Laws.StructEq
import Derived.KernelRfl
import Derived.Deep.RegionHeld3
import Derived.Laws.ResultCell
import Derived.Deep.MidRow
import Derived.Deep.Upon
namespace Go.Proofs.Ytjnikeiboefnbaa
open Go.RowKit Go.Sort
open Pz

def s1 : ByteArray := ⟨#[97, 42, 124, 98]⟩
def s2 : ByteArray := ⟨#[97, 42]⟩
def s3 : ByteArray := ⟨#[97, 42, 42]⟩
def s4 : ByteArray := ⟨#[97, 97, 98]⟩
def t2 : Rx := .mk 4 0 0 0 0 [.mk 1 0 8589934592 0 0 []]
def t1 : Rx := .mk 3 0 0 0 0 [t2, .mk 1 0 17179869184 0 0 []]
theorem p1 : parse (txt8 s1) = some t1 := by kernel_rfl
theorem p2 : parse (txt8 s2) = some t2 := by kernel_rfl
theorem p3 : parse (txt8 s3) = none := by kernel_rfl
theorem e4 : ends (txt8 s4) t2 0 = [0, 1, 2] := by decide +kernel
theorem ParseRes.yes {w w' : World} {r : Option Rx} {t : Rx} {e : Ending} (h : ParseRes w r e w') (hr : r = some t) : ∃ op a b c d A n cap, e = .returned (.tuple #[.agg #[.int .i64 op, .int .u64 ((a : Nat) : Int), .int .u64 ((b : Nat) : Int), .int .u64 ((c : Nat) : Int), .int .u64 ((d : Nat) : Int), .slice A n cap], .bool true]) ∧ IsRx w' (.agg (c6 op a b c d A n cap)) t ∧ Below w.heap.size w w' := by
  subst hr
  obtain ⟨hb, ⟨t', v, hr, he, hx⟩ | ⟨hr, _⟩⟩ := h
  · injection hr with hr
    subst hr
    obtain ⟨op, a, b, c, d, A, n, cap, rfl⟩ := hx.form
    exact ⟨op, a, b, c, d, A, n, cap, he, hx.is, hb⟩
  · cases hr
theorem ParseRes.no {w w' : World} {r : Option Rx} {e : Ending} (h : ParseRes w r e w') (hr : r = none) : e = .returned (.tuple #[.agg #[.int .i64 0, .int .u64 0, .int .u64 0, .int .u64 0, .int .u64 0, .slice none 0 0], .bool false]) ∧ Below w.heap.size w w' := by
  subst hr
  obtain ⟨hb, ⟨_, _, hr, _⟩ | ⟨_, he⟩⟩ := h
  · cases hr
  · exact ⟨he, hb⟩
theorem cell_grow {w w' : World} (hb : Below w.heap.size w w') {p : Addr} {v : Value} (h : w.cell? p = some v) : w'.cell? p = some v := (hb.cell (World.block_lt_of_cell? w _ h)).trans h
theorem IsRx.op {w : World} {V : Nat → Value} {op : Int} {a b c d : Nat} {ks : List Rx} (h : IsRx w (val6 V) (.mk op a b c d ks)) : V 0 = .int .i64 op := by
  generalize hv : val6 V = v at h
  cases h
  exact (val6_eq hv).1
theorem t1_form {w : World} {op : Int} {a b c d n cap : Nat} {A : Option Addr} (h : IsRx w (.agg (c6 op a b c d A n cap)) t1) : op = 3 ∧ n = 2 ∧ ∃ blk off, A = some ⟨blk, off, none⟩ ∧ w.cell? ⟨blk, off, none⟩ = some (.int .i64 4) ∧ w.cell? ⟨blk, off + 6, none⟩ = some (.int .i64 1) := by
  generalize hv : Value.agg (c6 op a b c d A n cap) = v at h
  unfold t1 at h
  cases h with
  | node _ _ _ _ _ _ A' cap' blk off V hcap hA hp hc hk =>
    simp [c6] at hv
    obtain ⟨h1, _, _, _, _, h2, h3, _⟩ := hv
    refine ⟨h1, h3, blk, off, h2.trans (hp (by simp)), ?_, ?_⟩
    · have := hc 0 0 (by simp) (by omega)
      have e := (hk 0 (by simp)).op
      rw [e] at this
      simpa using this
    · have := hc 1 0 (by simp) (by omega)
      have e := (hk 1 (by simp)).op
      rw [e] at this
      simpa using this
end Go.Proofs.Ytjnikeiboefnbaa
