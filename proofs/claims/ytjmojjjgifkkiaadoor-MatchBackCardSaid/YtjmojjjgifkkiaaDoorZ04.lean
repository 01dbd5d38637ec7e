/-
  The program's parser in memory; what skip, next and byteBut do. Conditions: at most 40 bytes.
-/
import Derived.Test.YtjmojjjgifkkiaaDoorProg
import Derived.Test.YtjmojjjgifkkiaaDoorZ01
import Derived.Test.YtjmojjjgifkkiaaDoorZ02
import Derived.Test.YtjmojjjgifkkiaaDoorZ03
import Derived.Deep.QuietTactic
import Derived.BigQuiet
import Derived.Lib.Bytealg
import Derived.Laws.Externs
import Derived.Laws.MakeOwn
import Derived.Laws.OwnMore
import Derived.OwnWalk
import Derived.Deep.RegionHeld3
import Derived.Laws.CopyOwn
import Derived.Laws.AppendOwn
import Derived.WalkKit
import Derived.WalkSpells
import Derived.WalkLawsBesides
import Derived.Lib.Hide
import Derived.Below
import Derived.Lib.QuietBelow
import Derived.Laws.StructEq
import Derived.KernelRfl
namespace Go.Proofs.YtjmojjjgifkkiaaDoor
open Go.RowKit Go.Sort
open Pz

/-- Nothing but block P was written. -/
structure Stp (P : Nat) (w w' : World) : Prop where
  os : w'.os = w.os
  tape : w'.tape = w.tape
  output : w'.output = w.output
  size : w.heap.size ≤ w'.heap.size
  block : ∀ k, k < w.heap.size → k ≠ P → w'.heap[k]? = w.heap[k]?
theorem Stp.refl (P : Nat) (w : World) : Stp P w w := ⟨rfl, rfl, rfl, Nat.le_refl _, fun _ _ _ => rfl⟩
theorem Stp.trans {P : Nat} {a b c : World} (x : Stp P a b) (y : Stp P b c) : Stp P a c :=
  ⟨y.os.trans x.os, y.tape.trans x.tape, y.output.trans x.output, Nat.le_trans x.size y.size, fun k h1 h2 => (y.block k (by have := x.size; omega) h2).trans (x.block k h1 h2)⟩
theorem Stp.of {P : Nat} {w w' : World} (h : Below w.heap.size w w') : Stp P w w' := ⟨h.os, h.tape, h.output, h.size, fun k hk _ => h.block k hk⟩
theorem Stp.put {P : Nat} (w : World) (j : Nat) (v : Value) : Stp P w (w.setCell ⟨P, j, none⟩ v) := ⟨rfl, rfl, rfl, by simp, fun k _ h => Below.heap_setCell _ _ _ k h⟩
theorem Stp.drew {P : Nat} {w w' : World} (h : Stp P w w') (q : Nat) : Stp P w (w'.drewN q) := ⟨h.os, h.tape, h.output, h.size, h.block⟩
theorem Stp.below {P B : Nat} {w w' : World} (h : Stp P w w') (hB : B ≤ P) (hs : B ≤ w.heap.size) : Below B w w' := ⟨h.os, h.tape, h.output, h.size, fun k hk => h.block k (by omega) (by omega)⟩
/-- The parser at place i, so many groups deep. -/
structure Par (w : World) (P : Nat) (s : ByteArray) (i d : Nat) : Prop where
  c0 : w.cell? ⟨P, 0, none⟩ = some (.string s)
  c1 : w.cell? ⟨P, 1, none⟩ = some (.int .i64 (i : Int))
  c2 : w.cell? ⟨P, 2, none⟩ = some (.int .i64 (d : Int))
  fr : ∀ j, w.frozen? ⟨P, j, none⟩ = false
  le : i ≤ s.size
  sm : s.size ≤ 40
theorem Par.lt {w : World} {P : Nat} {s : ByteArray} {i d : Nat} (h : Par w P s i d) : P < w.heap.size := World.block_lt_of_cell? w _ h.c0
theorem Par.grown {w w' : World} {P : Nat} {s : ByteArray} {i d : Nat} (h : Par w P s i d) (hb : Below w.heap.size w w') : Par w' P s i d :=
  ⟨(hb.cell (p := ⟨P, 0, none⟩) h.lt).trans h.c0, (hb.cell (p := ⟨P, 1, none⟩) h.lt).trans h.c1, (hb.cell (p := ⟨P, 2, none⟩) h.lt).trans h.c2, fun j => (hb.frozen (p := ⟨P, j, none⟩) h.lt).trans (h.fr j), h.le, h.sm⟩
theorem Par.drew {w : World} {P : Nat} {s : ByteArray} {i d : Nat} (h : Par w P s i d) (q : Nat) : Par (w.drewN q) P s i d := ⟨h.c0, h.c1, h.c2, h.fr, h.le, h.sm⟩
theorem Par.put1 {w : World} {P : Nat} {s : ByteArray} {i d : Nat} (h : Par w P s i d) (j : Nat) (hj : j ≤ s.size) : Par (w.setCell ⟨P, 1, none⟩ (.int .i64 (j : Int))) P s j d :=
  ⟨(World.cell?_setCell_other _ _ _ _ (by simp)).trans h.c0, World.cell?_setCell_same _ _ _ h.c1, (World.cell?_setCell_other _ _ _ _ (by simp)).trans h.c2, fun k => by rw [World.frozen?_setCell]; exact h.fr k, hj, h.sm⟩
theorem Par.put2 {w : World} {P : Nat} {s : ByteArray} {i d : Nat} (h : Par w P s i d) (j : Nat) : Par (w.setCell ⟨P, 2, none⟩ (.int .i64 (j : Int))) P s i j :=
  ⟨(World.cell?_setCell_other _ _ _ _ (by simp)).trans h.c0, (World.cell?_setCell_other _ _ _ _ (by simp)).trans h.c1, World.cell?_setCell_same _ _ _ h.c2, fun k => by rw [World.frozen?_setCell]; exact h.fr k, h.le, h.sm⟩
theorem pk_lt {s : ByteArray} {i : Nat} (h : i < s.size) : pk (txt8 s) i = (txt8 s).getD i 0 := by
  have : i < (txt8 s).length := by rw [txt8_len]; exact h
  simp [pk, List.getD, List.getElem?_eq_getElem this]
theorem pk_end {s : ByteArray} {i : Nat} (h : s.size ≤ i) : pk (txt8 s) i = 256 := by
  have : (txt8 s).length ≤ i := by rw [txt8_len]; exact h
  simp [pk, List.getD, List.getElem?_eq_none this]
theorem pk_in {s : ByteArray} {i : Nat} (h : pk (txt8 s) i ≠ 256) : i < s.size := by
  rcases Nat.lt_or_ge i s.size with h1 | h1
  · exact h1
  · exact absurd (pk_end h1) h
theorem pk_byte {s : ByteArray} {i : Nat} (h : i < s.size) : pk (txt8 s) i < 256 := by rw [pk_lt h]; exact txt8_lt s i

set_option maxRecDepth 100000 in
set_option maxHeartbeats 2000000 in
theorem skip_any (P i d c : Nat) (s : ByteArray) (w : World) (hc : c < 256) (h : Par w P s i d) :
    Calls Tryd.prog 87 #[.pointer (some ⟨P, 0, none⟩), .int .u8 (c : Int)] w fun e w' => e = .returned (.bool (pk (txt8 s) i == c)) ∧ Par w' P s (if pk (txt8 s) i = c then i + 1 else i) d ∧ Stp P w w' := by
  have H := Lib.hid h
  have c0 := h.c0
  have c1 := h.c1
  have f1 := h.fr 1
  have hle := h.le
  have hsm := h.sm
  clear h
  obtain ⟨L, hL⟩ : ∃ L, s.size = L := ⟨_, rfl⟩
  by_cases hi : i < L
  · have TX := fun W => txt8_at W s i (by omega)
    have hpk : pk (txt8 s) i = (txt8 s).getD i 0 := pk_lt (by omega)
    rw [hpk]
    obtain ⟨x, hx⟩ : ∃ x, (txt8 s).getD i 0 = x := ⟨_, rfl⟩
    rw [hx]
    simp only [hx] at TX
    clear hpk hx
    have hge : decide ((i : Int) ≥ (L : Int)) = false := decide_eq_false (by omega)
    by_cases hxc : x = c
    · subst hxc
      have P1 := Lib.hid (fun q => (H.out.drew q).put1 (i + 1) (by omega))
      have hw1 : IntKind.i64.wrap ((i : Int) + 1) = ((i + 1 : Nat) : Int) := by rw [IntKind.wrap_i64]; omega
      go_enter Tryd.func87, Tryd.ntmps87
      go_wp2_with fail
      go_quiet (fail)
      go_wp2
      go_ret
      exact ⟨by simp, by first | exact P1.out nq | (rw [if_pos rfl]; exact P1.out nq) | (have := P1.out nq; simpa using this), (Stp.refl _ _).drew nq |>.trans (Stp.put _ _ _)⟩
    · have hxz : ((x : Int) == (c : Int)) = false := by simp; omega
      have hxn : ((x : Int) != (c : Int)) = true := by simp; omega
      have R : Hid ((x == c) = false) := by show _ = _; simpa using hxc
      have HX := Lib.hid hxc
      clear hxc
      go_enter Tryd.func87, Tryd.ntmps87
      go_wp2_with fail
      go_quiet (fail)
      go_wp2
      go_ret
      exact ⟨by rw [R.out]; rfl, by first | exact H.out.drew nq | (rw [if_neg HX.out]; exact H.out.drew nq), (Stp.refl _ _).drew nq⟩
  · have hpk : pk (txt8 s) i = 256 := pk_end (by omega)
    have hge : decide ((i : Int) ≥ (L : Int)) = true := decide_eq_true (by omega)
    have R : Hid ((pk (txt8 s) i == c) = false) := by show _ = _; rw [hpk]; simp; omega
    have HX : Hid (¬ pk (txt8 s) i = c) := by show ¬ _; rw [hpk]; omega
    clear hpk
    go_enter Tryd.func87, Tryd.ntmps87
    go_wp2_with fail
    go_quiet (fail)
    go_wp2
    go_ret
    exact ⟨by rw [R.out]; rfl, by first | exact H.out.drew nq | (rw [if_neg HX.out]; exact H.out.drew nq), (Stp.refl _ _).drew nq⟩
/-- Is a byte in a string? -/
def mem (q : ByteArray) (c : Nat) : Bool := decide (0 ≤ Lib.indexByte q.data.toList c.toUInt8)
set_option maxRecDepth 100000 in
set_option maxHeartbeats 1000000 in
theorem lite_any (q : ByteArray) (c : Int) (w : World) :
    Calls Tryd.prog 114 #[.string q, .int .u8 c] w fun e w' => e = .returned (.int .i64 (Lib.indexByte q.data.toList c.toNat.toUInt8)) ∧ w' = w := by
  go_enter Tryd.func114, Tryd.ntmps114
  go_wp2
  rw [run_callFunc_extern Tryd.func125 (by kernel_rfl) (by kernel_rfl) (by kernel_rfl) (e := Extern.BytealgIndexByte.indexByte) (by kernel_rfl), Lib.run_indexByteString]
  simp only [Result.andThen]
  rw [Oper.upon_value]
  go_wp2
  go_ret
  exact ⟨rfl, rfl⟩
set_option maxRecDepth 100000 in
set_option maxHeartbeats 1000000 in
theorem ibyte_any (q : ByteArray) (c : Nat) (w : World) :
    Calls Tryd.prog 110 #[.string q, .int .u8 (c : Int)] w fun e w' => e = .returned (.int .i64 (Lib.indexByte q.data.toList c.toUInt8)) ∧ w' = w := by
  have C := Lib.hid (lite_any q c)
  go_enter Tryd.func110, Tryd.ntmps110
  go_wp2_with fail
  refine (C.out _).mono ?_
  rintro e w' ⟨rfl, rfl⟩
  clear C
  go_wp2
  go_ret
  exact ⟨rfl, rfl⟩
set_option maxRecDepth 100000 in
set_option maxHeartbeats 1000000 in
theorem next_any (P i d : Nat) (q s : ByteArray) (w : World) (h : Par w P s i d) :
    Calls Tryd.prog 102 #[.pointer (some ⟨P, 0, none⟩), .string q] w fun e w' => e = .returned (.bool (decide (i < s.size) && mem q (pk (txt8 s) i))) ∧ ∃ n, w' = w.drewN n := by
  have c0 := h.c0
  have c1 := h.c1
  have hle := h.le
  have hsm := h.sm
  clear h
  obtain ⟨L, hL⟩ : ∃ L, s.size = L := ⟨_, rfl⟩
  by_cases hi : i < L
  · have TX := fun W => txt8_at W s i (by omega)
    have hpk : pk (txt8 s) i = (txt8 s).getD i 0 := pk_lt (by omega)
    have R : Hid ((decide (i < s.size) && mem q (pk (txt8 s) i)) = decide (0 ≤ Lib.indexByte q.data.toList ((txt8 s).getD i 0).toUInt8)) := by
      show _ = _
      rw [hpk, hL, decide_eq_true hi]; rfl
    obtain ⟨x, hx⟩ : ∃ x, (txt8 s).getD i 0 = x := ⟨_, rfl⟩
    rw [hx] at R
    simp only [hx] at TX
    clear hpk hx
    have hlt : (i : Int) < (L : Int) := by omega
    have CB := Lib.hid (fun W => ibyte_any q x W)
    generalize Lib.indexByte q.data.toList x.toUInt8 = z at *
    go_enter Tryd.func102, Tryd.ntmps102
    go_wp2_with fail
    go_quiet ((go_at_call 110; exact Calls.quiet_of_same (CB.out _)))
    go_wp2
    go_ret
    exact ⟨by rw [R.out]; rfl, _, rfl⟩
  · have hlt : ¬ (i : Int) < (L : Int) := by omega
    have R : Hid ((decide (i < s.size) && mem q (pk (txt8 s) i)) = false) := by
      show _ = _
      rw [hL, decide_eq_false hi]; rfl
    go_enter Tryd.func102, Tryd.ntmps102
    go_wp2_with fail
    go_quiet (fail)
    go_wp2
    go_ret
    exact ⟨by rw [R.out]; rfl, _, rfl⟩

end Go.Proofs.YtjmojjjgifkkiaaDoor
