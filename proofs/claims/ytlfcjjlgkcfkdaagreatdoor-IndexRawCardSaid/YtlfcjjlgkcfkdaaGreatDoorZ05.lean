/-
  The program's parser in memory; what skip, next and byteBut do. Conditions: at most 40 bytes.
  Plain mathematics of the program's way through a text: a tree whose parts say whether the last byte was read in them and whether a match ends there; what reading a byte makes of it; that it says where matches end. No conditions.
  Parts in memory: where a part and all below it lie; what a store into it, or into one of its kids, leaves of the rest. No conditions.
  What the reference's after does at a node of ways, where its kids' calls do as they should. Conditions: no more than 100 places.
-/
import Derived.Test.YtlfcjjlgkcfkdaaGreatDoorProg
import Derived.Test.YtlfcjjlgkcfkdaaGreatDoorZ01
import Derived.Test.YtlfcjjlgkcfkdaaGreatDoorZ02
import Derived.Test.YtlfcjjlgkcfkdaaGreatDoorZ04
import Derived.Test.YtlfcjjlgkcfkdaaGreatDoorZ03
import Derived.Deep.QuietTactic
import Derived.BigQuiet
import Derived.Lib.Bytealg
import Derived.Laws.Externs
import Derived.Deep.RegionHeld3
import Derived.WalkKit
import Derived.WalkSpells
import Derived.WalkLawsBesides
import Derived.Lib.Hide
import Derived.Below
import Derived.Lib.QuietBelow
import Derived.Laws.StructEq
import Derived.KernelRfl
import Derived.Laws.MakeOwn
import Derived.Laws.OwnMore
import Derived.OwnWalk
import Derived.Laws.CopyOwn
import Derived.Laws.AppendOwn
namespace Go.Proofs.YtlfcjjlgkcfkdaaGreatDoor
open Go.RowKit Go.Sort
open Pz

/-- Nothing but block P was written. -/
structure Stp (P : Nat) (w w' : World) : Prop where
  os : w'.os = w.os
  tape : w'.tape = w.tape
  output : w'.output = w.output
  size : w.heap.size ≤ w'.heap.size
  block : ∀ k, k < w.heap.size → k ≠ P → w'.heap[k]? = w.heap[k]?
theorem Stp.refl (P : Nat) (w : World) : Stp P w w := ⟨rfl, rfl, rfl, Nat.le_refl _, fun _ _ _ => rfl⟩
theorem Stp.trans {P : Nat} {a b c : World} (x : Stp P a b) (y : Stp P b c) : Stp P a c :=
  ⟨y.os.trans x.os, y.tape.trans x.tape, y.output.trans x.output, Nat.le_trans x.size y.size, fun k h1 h2 => (y.block k (by have := x.size; omega) h2).trans (x.block k h1 h2)⟩
theorem Stp.of {P : Nat} {w w' : World} (h : Below w.heap.size w w') : Stp P w w' := ⟨h.os, h.tape, h.output, h.size, fun k hk _ => h.block k hk⟩
theorem Stp.put {P : Nat} (w : World) (j : Nat) (v : Value) : Stp P w (w.setCell ⟨P, j, none⟩ v) := ⟨rfl, rfl, rfl, by simp, fun k _ h => Below.heap_setCell _ _ _ k h⟩
theorem Stp.drew {P : Nat} {w w' : World} (h : Stp P w w') (q : Nat) : Stp P w (w'.drewN q) := ⟨h.os, h.tape, h.output, h.size, h.block⟩
theorem Stp.below {P B : Nat} {w w' : World} (h : Stp P w w') (hB : B ≤ P) (hs : B ≤ w.heap.size) : Below B w w' := ⟨h.os, h.tape, h.output, h.size, fun k hk => h.block k (by omega) (by omega)⟩
/-- The parser at place i, so many groups deep. -/
structure Par (w : World) (P : Nat) (s : ByteArray) (i d : Nat) : Prop where
  c0 : w.cell? ⟨P, 0, none⟩ = some (.string s)
  c1 : w.cell? ⟨P, 1, none⟩ = some (.int .i64 (i : Int))
  c2 : w.cell? ⟨P, 2, none⟩ = some (.int .i64 (d : Int))
  fr : ∀ j, w.frozen? ⟨P, j, none⟩ = false
  le : i ≤ s.size
  sm : s.size ≤ 40
theorem Par.lt {w : World} {P : Nat} {s : ByteArray} {i d : Nat} (h : Par w P s i d) : P < w.heap.size := World.block_lt_of_cell? w _ h.c0
theorem Par.grown {w w' : World} {P : Nat} {s : ByteArray} {i d : Nat} (h : Par w P s i d) (hb : Below w.heap.size w w') : Par w' P s i d :=
  ⟨(hb.cell (p := ⟨P, 0, none⟩) h.lt).trans h.c0, (hb.cell (p := ⟨P, 1, none⟩) h.lt).trans h.c1, (hb.cell (p := ⟨P, 2, none⟩) h.lt).trans h.c2, fun j => (hb.frozen (p := ⟨P, j, none⟩) h.lt).trans (h.fr j), h.le, h.sm⟩
theorem Par.drew {w : World} {P : Nat} {s : ByteArray} {i d : Nat} (h : Par w P s i d) (q : Nat) : Par (w.drewN q) P s i d := ⟨h.c0, h.c1, h.c2, h.fr, h.le, h.sm⟩
theorem Par.put1 {w : World} {P : Nat} {s : ByteArray} {i d : Nat} (h : Par w P s i d) (j : Nat) (hj : j ≤ s.size) : Par (w.setCell ⟨P, 1, none⟩ (.int .i64 (j : Int))) P s j d :=
  ⟨(World.cell?_setCell_other _ _ _ _ (by simp)).trans h.c0, World.cell?_setCell_same _ _ _ h.c1, (World.cell?_setCell_other _ _ _ _ (by simp)).trans h.c2, fun k => by rw [World.frozen?_setCell]; exact h.fr k, hj, h.sm⟩
theorem Par.put2 {w : World} {P : Nat} {s : ByteArray} {i d : Nat} (h : Par w P s i d) (j : Nat) : Par (w.setCell ⟨P, 2, none⟩ (.int .i64 (j : Int))) P s i j :=
  ⟨(World.cell?_setCell_other _ _ _ _ (by simp)).trans h.c0, (World.cell?_setCell_other _ _ _ _ (by simp)).trans h.c1, World.cell?_setCell_same _ _ _ h.c2, fun k => by rw [World.frozen?_setCell]; exact h.fr k, h.le, h.sm⟩
theorem pk_lt {s : ByteArray} {i : Nat} (h : i < s.size) : pk (txt8 s) i = (txt8 s).getD i 0 := by
  have : i < (txt8 s).length := by rw [txt8_len]; exact h
  simp [pk, List.getD, List.getElem?_eq_getElem this]
theorem pk_end {s : ByteArray} {i : Nat} (h : s.size ≤ i) : pk (txt8 s) i = 256 := by
  have : (txt8 s).length ≤ i := by rw [txt8_len]; exact h
  simp [pk, List.getD, List.getElem?_eq_none this]
theorem pk_in {s : ByteArray} {i : Nat} (h : pk (txt8 s) i ≠ 256) : i < s.size := by
  rcases Nat.lt_or_ge i s.size with h1 | h1
  · exact h1
  · exact absurd (pk_end h1) h
theorem pk_byte {s : ByteArray} {i : Nat} (h : i < s.size) : pk (txt8 s) i < 256 := by rw [pk_lt h]; exact txt8_lt s i

set_option maxRecDepth 100000 in
set_option maxHeartbeats 2000000 in
theorem skip_any (P i d c : Nat) (s : ByteArray) (w : World) (hc : c < 256) (h : Par w P s i d) :
    Calls Tryz.prog 138 #[.pointer (some ⟨P, 0, none⟩), .int .u8 (c : Int)] w fun e w' => e = .returned (.bool (pk (txt8 s) i == c)) ∧ Par w' P s (if pk (txt8 s) i = c then i + 1 else i) d ∧ Stp P w w' := by
  have H := Lib.hid h
  have c0 := h.c0
  have c1 := h.c1
  have f1 := h.fr 1
  have hle := h.le
  have hsm := h.sm
  clear h
  obtain ⟨L, hL⟩ : ∃ L, s.size = L := ⟨_, rfl⟩
  by_cases hi : i < L
  · have TX := fun W => txt8_at W s i (by omega)
    have hpk : pk (txt8 s) i = (txt8 s).getD i 0 := pk_lt (by omega)
    rw [hpk]
    obtain ⟨x, hx⟩ : ∃ x, (txt8 s).getD i 0 = x := ⟨_, rfl⟩
    rw [hx]
    simp only [hx] at TX
    clear hpk hx
    have hge : decide ((i : Int) ≥ (L : Int)) = false := decide_eq_false (by omega)
    by_cases hxc : x = c
    · subst hxc
      have P1 := Lib.hid (fun q => (H.out.drew q).put1 (i + 1) (by omega))
      have hw1 : IntKind.i64.wrap ((i : Int) + 1) = ((i + 1 : Nat) : Int) := by rw [IntKind.wrap_i64]; omega
      go_enter Tryz.func138, Tryz.ntmps138
      go_wp2_with fail
      go_quiet (fail)
      go_wp2
      go_ret
      exact ⟨by simp, by first | exact P1.out nq | (rw [if_pos rfl]; exact P1.out nq) | (have := P1.out nq; simpa using this), (Stp.refl _ _).drew nq |>.trans (Stp.put _ _ _)⟩
    · have hxz : ((x : Int) == (c : Int)) = false := by simp; omega
      have hxn : ((x : Int) != (c : Int)) = true := by simp; omega
      have R : Hid ((x == c) = false) := by show _ = _; simpa using hxc
      have HX := Lib.hid hxc
      clear hxc
      go_enter Tryz.func138, Tryz.ntmps138
      go_wp2_with fail
      go_quiet (fail)
      go_wp2
      go_ret
      exact ⟨by rw [R.out]; rfl, by first | exact H.out.drew nq | (rw [if_neg HX.out]; exact H.out.drew nq), (Stp.refl _ _).drew nq⟩
  · have hpk : pk (txt8 s) i = 256 := pk_end (by omega)
    have hge : decide ((i : Int) ≥ (L : Int)) = true := decide_eq_true (by omega)
    have R : Hid ((pk (txt8 s) i == c) = false) := by show _ = _; rw [hpk]; simp; omega
    have HX : Hid (¬ pk (txt8 s) i = c) := by show ¬ _; rw [hpk]; omega
    clear hpk
    go_enter Tryz.func138, Tryz.ntmps138
    go_wp2_with fail
    go_quiet (fail)
    go_wp2
    go_ret
    exact ⟨by rw [R.out]; rfl, by first | exact H.out.drew nq | (rw [if_neg HX.out]; exact H.out.drew nq), (Stp.refl _ _).drew nq⟩
/-- Is a byte in a string? -/
def mem (q : ByteArray) (c : Nat) : Bool := decide (0 ≤ Lib.indexByte q.data.toList c.toUInt8)
set_option maxRecDepth 100000 in
set_option maxHeartbeats 1000000 in
theorem lite_any (q : ByteArray) (c : Int) (w : World) :
    Calls Tryz.prog 163 #[.string q, .int .u8 c] w fun e w' => e = .returned (.int .i64 (Lib.indexByte q.data.toList c.toNat.toUInt8)) ∧ w' = w := by
  go_enter Tryz.func163, Tryz.ntmps163
  go_wp2
  rw [run_callFunc_extern Tryz.func170 (by kernel_rfl) (by kernel_rfl) (by kernel_rfl) (e := Extern.BytealgIndexByte.indexByte) (by kernel_rfl), Lib.run_indexByteString]
  simp only [Result.andThen]
  rw [Oper.upon_value]
  go_wp2
  go_ret
  exact ⟨rfl, rfl⟩
set_option maxRecDepth 100000 in
set_option maxHeartbeats 1000000 in
theorem ibyte_any (q : ByteArray) (c : Nat) (w : World) :
    Calls Tryz.prog 155 #[.string q, .int .u8 (c : Int)] w fun e w' => e = .returned (.int .i64 (Lib.indexByte q.data.toList c.toUInt8)) ∧ w' = w := by
  have C := Lib.hid (lite_any q c)
  go_enter Tryz.func155, Tryz.ntmps155
  go_wp2_with fail
  refine (C.out _).mono ?_
  rintro e w' ⟨rfl, rfl⟩
  clear C
  go_wp2
  go_ret
  exact ⟨rfl, rfl⟩
set_option maxRecDepth 100000 in
set_option maxHeartbeats 1000000 in
theorem next_any (P i d : Nat) (q s : ByteArray) (w : World) (h : Par w P s i d) :
    Calls Tryz.prog 151 #[.pointer (some ⟨P, 0, none⟩), .string q] w fun e w' => e = .returned (.bool (decide (i < s.size) && mem q (pk (txt8 s) i))) ∧ ∃ n, w' = w.drewN n := by
  have c0 := h.c0
  have c1 := h.c1
  have hle := h.le
  have hsm := h.sm
  clear h
  obtain ⟨L, hL⟩ : ∃ L, s.size = L := ⟨_, rfl⟩
  by_cases hi : i < L
  · have TX := fun W => txt8_at W s i (by omega)
    have hpk : pk (txt8 s) i = (txt8 s).getD i 0 := pk_lt (by omega)
    have R : Hid ((decide (i < s.size) && mem q (pk (txt8 s) i)) = decide (0 ≤ Lib.indexByte q.data.toList ((txt8 s).getD i 0).toUInt8)) := by
      show _ = _
      rw [hpk, hL, decide_eq_true hi]; rfl
    obtain ⟨x, hx⟩ : ∃ x, (txt8 s).getD i 0 = x := ⟨_, rfl⟩
    rw [hx] at R
    simp only [hx] at TX
    clear hpk hx
    have hlt : (i : Int) < (L : Int) := by omega
    have CB := Lib.hid (fun W => ibyte_any q x W)
    generalize Lib.indexByte q.data.toList x.toUInt8 = z at *
    go_enter Tryz.func151, Tryz.ntmps151
    go_wp2_with fail
    go_quiet ((go_at_call 155; exact Calls.quiet_of_same (CB.out _)))
    go_wp2
    go_ret
    exact ⟨by rw [R.out]; rfl, _, rfl⟩
  · have hlt : ¬ (i : Int) < (L : Int) := by omega
    have R : Hid ((decide (i < s.size) && mem q (pk (txt8 s) i)) = false) := by
      show _ = _
      rw [hL, decide_eq_false hi]; rfl
    go_enter Tryz.func151, Tryz.ntmps151
    go_wp2_with fail
    go_quiet (fail)
    go_wp2
    go_ret
    exact ⟨by rw [R.out]; rfl, _, rfl⟩

end Go.Proofs.YtlfcjjlgkcfkdaaGreatDoor
namespace Go.Proofs.YtlfcjjlgkcfkdaaGreatDoor
/-- A part, with the block in which its kids lie. -/
inductive Pt where
  | mk (op : Int) (a b c d blk : Nat) (em lv la : Bool) (kids : List Pt) : Pt
namespace Pt
def op : Pt → Int | .mk o _ _ _ _ _ _ _ _ _ => o
def blk : Pt → Nat | .mk _ _ _ _ _ b _ _ _ _ => b
def em : Pt → Bool | .mk _ _ _ _ _ _ e _ _ _ => e
def lv : Pt → Bool | .mk _ _ _ _ _ _ _ l _ _ => l
def la : Pt → Bool | .mk _ _ _ _ _ _ _ _ l _ => l
def kids : Pt → List Pt | .mk _ _ _ _ _ _ _ _ _ k => k
def nil : Pt := .mk 0 0 0 0 0 0 false false false []
def nth (ks : List Pt) (j : Nat) : Pt := ks.getD j nil
theorem nth_eq {ks : List Pt} {j : Nat} (h : j < ks.length) : nth ks j = ks[j] := by simp [nth, List.getD, List.getElem?_eq_getElem h]
theorem drop_nth {ks : List Pt} {k : Nat} (h : k < ks.length) : ks.drop k = nth ks k :: ks.drop (k + 1) := by rw [List.drop_eq_getElem_cons h, nth_eq h]
theorem take_nth {ks : List Pt} {k : Nat} (h : k < ks.length) : ks.take (k + 1) = ks.take k ++ [nth ks k] := by rw [List.take_succ_eq_append_getElem h, nth_eq h]
mutual
def count : Pt → Nat
  | .mk _ _ _ _ _ _ _ _ _ ks => 1 + countL ks
def countL : List Pt → Nat
  | [] => 0
  | k :: r => count k + countL r
end
theorem count_pos : ∀ t : Pt, 1 ≤ count t
  | .mk _ _ _ _ _ _ _ _ _ _ => by rw [count]; omega
theorem len_count : ∀ ks : List Pt, ks.length ≤ countL ks
  | [] => Nat.le_refl _
  | k :: r => by have := len_count r; have := count_pos k; rw [countL, List.length_cons]; omega
theorem mem_count : ∀ {ks : List Pt} {t : Pt}, t ∈ ks → count t ≤ countL ks
  | k :: r, t, h => by
    rw [countL]
    rcases List.mem_cons.1 h with rfl | h
    · omega
    · have := mem_count h; omega
theorem nth_count {ks : List Pt} {j : Nat} (h : j < ks.length) : count (nth ks j) ≤ countL ks := by rw [nth_eq h]; exact mem_count (List.getElem_mem h)
mutual
/-- The blocks in which parts below it lie. -/
def bl : Pt → List Nat
  | .mk _ _ _ _ _ b _ _ _ ks => b :: blL ks
def blL : List Pt → List Nat
  | [] => []
  | k :: r => bl k ++ blL r
end
mutual
/-- The tree without what is known of the text. -/
def sh : Pt → Rx
  | .mk op a b c d _ _ _ _ ks => .mk op a b c d (shL ks)
def shL : List Pt → List Rx
  | [] => []
  | k :: r => sh k :: shL r
end
mutual
/-- Nothing was read in it. -/
def dead : Pt → Prop
  | .mk _ _ _ _ _ _ _ lv la ks => lv = false ∧ la = false ∧ deadL ks
def deadL : List Pt → Prop
  | [] => True
  | k :: r => dead k ∧ deadL r
end
mutual
/-- A part of bytes has no kids; one in which nothing was read is so to the bottom. -/
def wf : Pt → Prop
  | .mk op _ _ _ _ _ _ lv la ks => (op = 1 → ks = []) ∧ (lv = false → la = false ∧ deadL ks) ∧ wfL ks
def wfL : List Pt → Prop
  | [] => True
  | k :: r => wf k ∧ wfL r
end
end Pt

end Go.Proofs.YtlfcjjlgkcfkdaaGreatDoor
namespace Go.Proofs.YtlfcjjlgkcfkdaaGreatDoor
open Go.RowKit Go.Sort
namespace Pt
/-- The nine cells of a part. -/
def cell : Pt → Nat → Value
  | .mk op a b c d blk em lv la ks, i => match i with
    | 0 => .int .i64 op
    | 1 => .int .u64 (a : Int)
    | 2 => .int .u64 (b : Int)
    | 3 => .int .u64 (c : Int)
    | 4 => .int .u64 (d : Int)
    | 5 => .slice (some ⟨blk, 0, none⟩) ks.length ks.length
    | 6 => .bool em
    | 7 => .bool lv
    | _ => .bool la
/-- The part t lies at place o of block g, its kids in the blocks that it names. -/
inductive Lay (w : World) : Nat → Nat → Pt → Prop where
  | mk {g o : Nat} {t : Pt} (hc : ∀ i, i < 9 → w.cell? ⟨g, o + i, none⟩ = some (t.cell i)) (hf : ∀ i, w.frozen? ⟨g, i, none⟩ = false) (hb : t.blk < w.heap.size) (hk : ∀ j, j < t.kids.length → Lay w t.blk (j * 9) (nth t.kids j)) : Lay w g o t
theorem Lay.cells {w : World} {g o : Nat} {t : Pt} (h : Lay w g o t) : ∀ i, i < 9 → w.cell? ⟨g, o + i, none⟩ = some (t.cell i) := by cases h; assumption
theorem Lay.free {w : World} {g o : Nat} {t : Pt} (h : Lay w g o t) : ∀ i, w.frozen? ⟨g, i, none⟩ = false := by cases h; assumption
theorem Lay.bnd {w : World} {g o : Nat} {t : Pt} (h : Lay w g o t) : t.blk < w.heap.size := by cases h; assumption
theorem Lay.kid {w : World} {g o : Nat} {t : Pt} (h : Lay w g o t) : ∀ j, j < t.kids.length → Lay w t.blk (j * 9) (nth t.kids j) := by cases h; assumption
theorem bl_eq (t : Pt) : bl t = t.blk :: blL t.kids := by cases t; rw [bl]; rfl
theorem mem_blL : ∀ {ks : List Pt} {k : Pt} {x : Nat}, k ∈ ks → x ∈ bl k → x ∈ blL ks
  | _ :: _, k, x, h, hx => by
    rw [blL, List.mem_append]
    rcases List.mem_cons.1 h with rfl | h
    · exact .inl hx
    · exact .inr (mem_blL h hx)
theorem nth_blL {ks : List Pt} {j x : Nat} (h : j < ks.length) (hx : x ∈ bl (nth ks j)) : x ∈ blL ks := by
  rw [nth_eq h] at hx
  exact mem_blL (List.getElem_mem h) hx
theorem Lay.lt {w : World} {g o : Nat} {t : Pt} (h : Lay w g o t) : ∀ k, k ∈ bl t → k < w.heap.size := by
  induction h with
  | @mk g o t hc hf hb hk ih =>
    intro k hm
    rw [bl_eq, List.mem_cons] at hm
    rcases hm with rfl | hm
    · exact hb
    · obtain ⟨j, hj, hx⟩ : ∃ j, j < t.kids.length ∧ k ∈ bl (nth t.kids j) := by
        clear ih hk
        generalize t.kids = ks at *
        induction ks with
        | nil => rw [blL] at hm; cases hm
        | cons a r ihr =>
          rw [blL, List.mem_append] at hm
          rcases hm with hm | hm
          · exact ⟨0, by simp, hm⟩
          · obtain ⟨j, hj, hx⟩ := ihr hm
            exact ⟨j + 1, by simpa using hj, hx⟩
      exact ih j hj k hx
theorem Lay.frame {w w' : World} {g o : Nat} {t : Pt} (h : Lay w g o t) (hs : w.heap.size ≤ w'.heap.size) : (∀ i, i < 9 → w'.cell? ⟨g, o + i, none⟩ = w.cell? ⟨g, o + i, none⟩) → (∀ i, w'.frozen? ⟨g, i, none⟩ = w.frozen? ⟨g, i, none⟩) →
    (∀ k, k ∈ bl t → w'.heap[k]? = w.heap[k]?) → Lay w' g o t := by
  induction h with
  | @mk g o t hc hf hb hk ih =>
    intro h1 h2 h3
    refine .mk (fun i hi => (h1 i hi).trans (hc i hi)) (fun i => (h2 i).trans (hf i)) (by omega) fun j hj => ?_
    have hblk := h3 t.blk (by rw [bl_eq]; simp)
    exact ih j hj (fun i _ => World.cell?_of_block (w := w) hblk) (fun i => World.frozen?_of_block (w := w) hblk) (fun k hm => h3 k (by rw [bl_eq]; exact List.mem_cons_of_mem _ (nth_blL hj hm)))
/-- Nothing but the nine cells at place o of block g, and the blocks Bs, was written. -/
structure Tch (g o : Nat) (Bs : List Nat) (w w' : World) : Prop where
  os : w'.os = w.os
  tape : w'.tape = w.tape
  output : w'.output = w.output
  size : w.heap.size ≤ w'.heap.size
  block : ∀ k, k < w.heap.size → k ≠ g → k ∉ Bs → w'.heap[k]? = w.heap[k]?
  cell : ∀ i, (i < o ∨ o + 9 ≤ i) → w'.cell? ⟨g, i, none⟩ = w.cell? ⟨g, i, none⟩
  frozen : ∀ i, w'.frozen? ⟨g, i, none⟩ = w.frozen? ⟨g, i, none⟩
theorem Tch.refl (g o : Nat) (Bs : List Nat) (w : World) : Tch g o Bs w w := ⟨rfl, rfl, rfl, Nat.le_refl _, fun _ _ _ _ => rfl, fun _ _ => rfl, fun _ => rfl⟩
theorem Tch.trans {g o : Nat} {Bs : List Nat} {w w1 w2 : World} (a : Tch g o Bs w w1) (b : Tch g o Bs w1 w2) : Tch g o Bs w w2 :=
  ⟨b.os.trans a.os, b.tape.trans a.tape, b.output.trans a.output, Nat.le_trans a.size b.size, fun k h1 h2 h3 => (b.block k (by have := a.size; omega) h2 h3).trans (a.block k h1 h2 h3), fun i hi => (b.cell i hi).trans (a.cell i hi), fun i => (b.frozen i).trans (a.frozen i)⟩
/-- What only grew. -/
theorem Tch.grown {g o : Nat} {Bs : List Nat} {w w' : World} (hg : g < w.heap.size) (h : Below w.heap.size w w') : Tch g o Bs w w' :=
  ⟨h.os, h.tape, h.output, h.size, fun k hk _ _ => h.block k hk, fun _ _ => h.cell hg, fun _ => h.frozen hg⟩
theorem Tch.drew {g o : Nat} {Bs : List Nat} {w w' : World} (a : Tch g o Bs w w') (q : Nat) : Tch g o Bs w (w'.drewN q) := ⟨a.os, a.tape, a.output, a.size, a.block, a.cell, a.frozen⟩
theorem Lay.drew {g o : Nat} {w : World} {t : Pt} (h : Lay w g o t) (q : Nat) : Lay (w.drewN q) g o t := h.frame (Nat.le_refl _) (fun _ _ => rfl) (fun _ => rfl) (fun _ _ => rfl)
theorem Lay.grown {g o : Nat} {w w' : World} {t : Pt} (h : Lay w g o t) (hb : Below w.heap.size w w') : Lay w' g o t := by
  have hg : g < w.heap.size := World.block_lt_of_cell? w _ (h.cells 0 (by omega))
  exact h.frame hb.size (fun _ _ => hb.cell hg) (fun _ => hb.frozen hg) (fun k hk => hb.block k (h.lt k hk))
theorem frozen_setCell (w : World) (a : Addr) (v : Value) (p : Addr) : (w.setCell a v).frozen? p = w.frozen? p := by simp
/-- A store into one of the nine cells. -/
theorem Lay.put {w : World} {g o : Nat} {t t' : Pt} (h : Lay w g o t) (i : Nat) (hi : i < 9) (v : Value) (hn : g ∉ bl t) (hv : t'.cell i = v) (ho : ∀ j, j < 9 → j ≠ i → t'.cell j = t.cell j) (hblk : t'.blk = t.blk) (hkids : t'.kids = t.kids) :
    Lay (w.setCell ⟨g, o + i, none⟩ v) g o t' ∧ Tch g o (bl t) w (w.setCell ⟨g, o + i, none⟩ v) := by
  have hT : Tch g o (bl t) w (w.setCell ⟨g, o + i, none⟩ v) := ⟨rfl, rfl, rfl, by simp, fun k _ h2 _ => Below.heap_setCell _ _ _ k h2, fun j hj => World.cell?_setCell_other _ _ _ _ (by intro e; simp only [Addr.mk.injEq] at e; omega), fun j => frozen_setCell _ _ _ _⟩
  refine ⟨.mk (fun j hj => ?_) (fun j => (frozen_setCell _ _ _ _).trans (h.free j)) (by rw [hblk]; simpa using h.bnd) fun j hj => ?_, hT⟩
  · by_cases e : j = i
    · subst e
      rw [hv]
      exact World.cell?_setCell_same _ _ _ (h.cells j hj)
    · rw [ho j hj e]
      exact (World.cell?_setCell_other _ _ _ _ (by intro e'; simp only [Addr.mk.injEq] at e'; omega)).trans (h.cells j hj)
  · rw [hkids] at hj ⊢
    rw [hblk]
    have hne : ∀ k, k ∈ bl t → (w.setCell ⟨g, o + i, none⟩ v).heap[k]? = w.heap[k]? := fun k hk => Below.heap_setCell _ _ _ k (fun e => hn (by rw [← show k = g from e]; exact hk))
    have hb := hne t.blk (by rw [bl_eq]; simp)
    exact (h.kid j hj).frame (by simp) (fun _ _ => World.cell?_of_block (w := w) hb) (fun _ => World.frozen?_of_block (w := w) hb) (fun k hm => hne k (by rw [bl_eq]; exact List.mem_cons_of_mem _ (nth_blL hj hm)))
/-- No block twice. -/
def Apart (g : Nat) (t : Pt) : Prop := (g :: bl t).Nodup
theorem Apart.out {g : Nat} {t : Pt} (h : Apart g t) : g ∉ bl t := (List.nodup_cons.1 h).1
theorem nodup_kid : ∀ {ks : List Pt} {j : Nat}, (blL ks).Nodup → j < ks.length → (bl (nth ks j)).Nodup
  | _ :: _, 0, h, _ => by
    rw [blL, List.nodup_append] at h
    exact h.1
  | _ :: r, j + 1, h, hj => by
    rw [blL, List.nodup_append] at h
    exact nodup_kid (ks := r) h.2.1 (by simpa using hj)
theorem Apart.kid {g : Nat} {t : Pt} (h : Apart g t) {j : Nat} (hj : j < t.kids.length) : Apart t.blk (nth t.kids j) := by
  unfold Apart at h ⊢
  rw [bl_eq, List.nodup_cons, List.nodup_cons] at h
  rw [List.nodup_cons]
  exact ⟨fun hm => h.2.1 (nth_blL hj hm), nodup_kid h.2.2 hj⟩
end Pt

end Go.Proofs.YtlfcjjlgkcfkdaaGreatDoor
namespace Go.Proofs.YtlfcjjlgkcfkdaaGreatDoor
open Go.RowKit Go.Sort

theorem aft_alt_eq {S : List Nat} {a b c d : Nat} {ks : List Rx} {f : Nat → Bool} : Rx.aft S (.mk 3 a b c d ks) f = Rx.aftAlt S ks f := rfl

set_option maxRecDepth 100000 in
set_option maxHeartbeats 2000000 in
theorem after_alt {w : World} {s : ByteArray} {S : List Nat} {L : Nat} {ks : List Rx} {N : Nat} {A : Option Addr} {blk off : Nat} {V : Nat → Nat → Value} (T : AftH w s S L ks N A blk off V) (a b c d cap : Nat) (F : Option Addr) (cf : Nat) (f : Nat → Bool) (hf : IsBo w F (L + 1) f) :
    Calls Tryz.prog 136 #[.agg #[.int .i64 3, .int .u64 (a : Int), .int .u64 (b : Int), .int .u64 (c : Int), .int .u64 (d : Int), .slice A N cap], .string s, .slice F (L + 1) cf] w (AftDone w S L (.mk 3 a b c d ks) f) := by
  have HT := Lib.hid T
  have HF := Lib.hid hf
  have hL := T.few
  have hs := T.size
  have hNN := T.lenN
  have E := Lib.hid (aft_alt_eq (S := S) (a := a) (b := b) (c := c) (d := d) (ks := ks) (f := f))
  have AT := Lib.hid (fun k => Rx.alt_take S (ks := ks) (k := k))
  have AE : Hid (Rx.aftAlt S (ks.take N) f = Rx.aftAlt S ks f) := by show _ = _; rw [← T.len, List.take_length]
  rw [T.len] at AT
  have MK := fun W => make_bools (L + 1) (by omega) W
  have BX := Lib.hid (fun W => box6 (w := w) (v0 := .int .i64 3) (v1 := .int .u64 (a : Int)) (v2 := .int .u64 (b : Int)) (v3 := .int .u64 (c : Int)) (v4 := .int .u64 (d : Int)) (v5 := .slice A N cap) (ty := 135) (W := W))
  obtain ⟨w0, hw0⟩ : ∃ w0, w.alloc (.cells #[.int .i64 3, .int .u64 (a : Int), .int .u64 (b : Int), .int .u64 (c : Int), .int .u64 (d : Int), .slice A N cap] 135) = w0 := ⟨_, rfl⟩
  obtain ⟨w1, hw1⟩ : ∃ w1, w0.alloc (.cells (bof (L + 1) fun _ => false).toArray 4) = w1 := ⟨_, rfl⟩
  have MK1 := MK w0
  have wl : IntKind.i64.wrap ((L : Int) + 1) = (L : Int) + 1 := by rw [IntKind.wrap_i64]; omega
  have el : ((L + 1 : Nat) : Int) = (L : Int) + 1 := by simp
  rw [hw1, el] at MK1
  rw [hw0] at BX
  have e0 : w0.heap.size = w.heap.size + 1 := by rw [← hw0]; simp
  have B01 : Below (w.heap.size + 1) w0 w1 := by
    rw [← hw1, ← e0]
    exact (Below.refl _ _).alloc (Nat.le_refl _) _
  have O1 : OwnB w1 w0.heap.size w0.heap.size (L + 1) (fun _ => false) := by rw [← hw1]; exact own_made (L + 1) (by omega) w0
  obtain ⟨⟨q0, _, _, _, _, _⟩, BW⟩ := BX.out w1 B01
  have I0 : Hid (OwnB w1 w.heap.size w0.heap.size (L + 1) (Rx.aftAlt S (ks.take 0) f) ∧ Below (w.heap.size + 1) w0 w1 ∧ w.heap.size + 1 ≤ w1.heap.size) := ⟨by
    have h := O1.base (b1 := w.heap.size) (by omega)
    simpa [Rx.aftAlt] using h, B01, by have := B01.size; omega⟩
  clear T MK B01 BW hf O1 hw1
  generalize hg : w0.heap.size = g0 at *
  go_enter Tryz.func136, Tryz.ntmps136
  go_wp2
  clear MK1 q0 hw0
  go_loopw [7, 11] (fun vo i wr => ∃ k q : Nat, k ≤ N ∧ i = .int .i64 (k : Int) ∧ vo = .slice (some ⟨q, 0, none⟩) (L + 1) (L + 1) ∧ Hid (OwnB wr w.heap.size q (L + 1) (Rx.aftAlt S (ks.take k) f) ∧ Below (w.heap.size + 1) w0 wr ∧ w.heap.size + 1 ≤ wr.heap.size)) (fun _ i _ => N - (intOf i).toNat)
  case atStart => exact ⟨0, g0, by omega, rfl, by rw [e0], I0⟩
  case round =>
    clear I0
    obtain ⟨k, q, hk, rfl, rfl, HI⟩ := hrel
    obtain ⟨⟨_, _, _, _, _, q5⟩, BW⟩ := BX.out wr HI.out.2.1
    have BWH := Lib.hid BW
    clear BW
    by_cases hkn : k < N
    · have hkz : (k : Int) < (N : Int) := by omega
      have hAe := HT.out.ptr (by omega)
      subst hAe
      have c0 := HT.out.cells wr BWH.out k 0 hkn (by omega)
      have c1 := HT.out.cells wr BWH.out k 1 hkn (by omega)
      have c2 := HT.out.cells wr BWH.out k 2 hkn (by omega)
      have c3 := HT.out.cells wr BWH.out k 3 hkn (by omega)
      have c4 := HT.out.cells wr BWH.out k 4 hkn (by omega)
      have c5 := HT.out.cells wr BWH.out k 5 hkn (by omega)
      simp only [Nat.add_zero] at c0
      have CK := Lib.hid (HT.out.call k wr F cf f hkn BWH.out (HF.out.below BWH.out))
      have ATK := Lib.hid (AT.out k hkn f)
      have OW := Lib.hid HI.out.1
      have B0W := Lib.hid HI.out.2.1
      have SZW := HI.out.2.2
      have JN := Lib.hid (fun q' W (hW : Below wr.heap.size wr W) (ho : OwnB W wr.heap.size q' (L + 1) (Rx.aft S (Rx.nth ks k) f)) => rjoin_any (L + 1) (Rx.aftAlt S (ks.take k) f) (Rx.aft S (Rx.nth ks k) f) (some ⟨q, 0, none⟩) (some ⟨q', 0, none⟩) (L + 1) (L + 1) W (by omega) (HI.out.1.keep hW).is ho.is)
      unfold val6 at CK
      clear HI
      generalize V k 0 = v0 at *
      generalize V k 1 = v1 at *
      generalize V k 2 = v2 at *
      generalize V k 3 = v3 at *
      generalize V k 4 = v4 at *
      generalize V k 5 = v5 at *
      go_wp2_with fail
      refine CK.out.mono ?_
      rintro e w2 ⟨⟨q2, rfl, o2⟩, b2⟩
      have d2 := B0W.out.trans (b2.mono SZW)
      have z2 := b2.size
      have CJ := Lib.hid (JN.out q2 w2 b2 o2)
      clear CK JN b2 o2 c0 c1 c2 c3 c4 c5 q5
      go_wp2_with fail
      refine CJ.out.mono ?_
      rintro e w3 ⟨⟨q3, rfl, o3⟩, b3⟩
      have I3 : Hid (OwnB w3 w.heap.size q3 (L + 1) (Rx.aftAlt S (ks.take (k + 1)) f) ∧ Below (w.heap.size + 1) w0 w3 ∧ w.heap.size + 1 ≤ w3.heap.size) := ⟨(o3.base (by omega)).congr (fun i _ => (ATK.out i).symm), d2.trans (b3.mono (by omega)), by have := b3.size; omega⟩
      clear CJ o3 b3 d2
      go_wp2
      go_roundw
      case rel => exact ⟨k + 1, q3, by omega, by go_num, rfl, I3⟩
      case measure => simp [intOf]; omega
    · obtain rfl : k = N := by omega
      have hkz : ¬ (k : Int) < (k : Int) := by omega
      have R : Hid (AftDone w S L (.mk 3 a b c d ks) f (.returned (.slice (some ⟨q, 0, none⟩) (L + 1) (L + 1))) wr) := ⟨⟨q, rfl, by rw [E.out, ← AE.out]; exact HI.out.1⟩, BWH.out⟩
      clear HI HT
      go_wp2
      go_ret
      exact R.out

end Go.Proofs.YtlfcjjlgkcfkdaaGreatDoor

