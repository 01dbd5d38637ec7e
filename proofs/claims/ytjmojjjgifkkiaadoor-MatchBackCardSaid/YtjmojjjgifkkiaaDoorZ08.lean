/-
  What the program's item and brackets do. Conditions: at most 100 bytes.
  What the program's brackets does. Conditions: at most 40 bytes.
-/
import Derived.Test.YtjmojjjgifkkiaaDoorProg
import Derived.Test.YtjmojjjgifkkiaaDoorZ01
import Derived.Test.YtjmojjjgifkkiaaDoorZ02
import Derived.Test.YtjmojjjgifkkiaaDoorZ03
import Derived.Test.YtjmojjjgifkkiaaDoorZ04
import Derived.Test.YtjmojjjgifkkiaaDoorZ06
import Derived.Test.YtjmojjjgifkkiaaDoorZ07
import Derived.Test.YtjmojjjgifkkiaaDoorZ05
import Derived.Laws.ResultCell
import Derived.Laws.MakeOwn
import Derived.Laws.OwnMore
import Derived.OwnWalk
import Derived.Deep.QuietTactic
import Derived.BigQuiet
import Derived.Lib.Bytealg
import Derived.Laws.Externs
import Derived.Laws.AppendOwn
import Derived.Deep.RegionHeld3
import Derived.Laws.CopyOwn
import Derived.StillTailTactics
import Derived.Maps.AppendAt
import Derived.WalkKit
import Derived.WalkSpells
import Derived.WalkLawsBesides
import Derived.Lib.Hide
import Derived.Below
import Derived.Lib.QuietBelow
import Derived.Laws.StructEq
import Derived.KernelRfl
import Derived.Deep.LoopGhost
namespace Go.Proofs.YtjmojjjgifkkiaaDoor
open Go.RowKit Go.Sort
open Pz

/-- On the way through a function that has the parser: its result's own block is as it was laid. -/
structure At (w : World) (P : Nat) (s : ByteArray) (i d : Nat) (row : Array Value) (ty : TypeId) (W : World) : Prop where
  st : Stp P w W
  pa : Par W P s i d
  lt : P < w.heap.size
  r : W.heap[w.heap.size]? = some (.cells row ty (0, 0))
section
variable {w W W' : World} {P i d j d' : Nat} {s : ByteArray} {row : Array Value} {ty : TypeId}
theorem At.start (h : Par w P s i d) (row : Array Value) (ty : TypeId) : At w P s i d row ty (w.alloc (.cells row ty)) :=
  ⟨Stp.of ((Below.refl _ _).alloc (Nat.le_refl _) _), h.grown ((Below.refl _ _).alloc (Nat.le_refl _) _), h.lt, heap_alloc_new w _⟩
theorem At.big (h : At w P s i d row ty W) : w.heap.size + 1 ≤ W.heap.size := (Array.getElem?_eq_some_iff.1 h.r).1
theorem At.step (h : At w P s i d row ty W) (st : Stp P W W') (pa : Par W' P s j d') : At w P s j d' row ty W' :=
  ⟨h.st.trans st, pa, h.lt, (st.block _ (by have := h.big; omega) (by have := h.lt; omega)).trans h.r⟩
theorem At.grow (h : At w P s i d row ty W) (hb : Below W.heap.size W W') : At w P s i d row ty W' := h.step (Stp.of hb) (h.pa.grown hb)
theorem At.drew (h : At w P s i d row ty W) (q : Nat) : At w P s i d row ty (W.drewN q) := h.step ((Stp.refl _ _).drew q) (h.pa.drew q)
theorem Par.frame (h : Par w P s i d) (hb : W.heap[P]? = w.heap[P]?) : Par W P s i d :=
  ⟨(World.cell?_of_block (a := ⟨P, 0, none⟩) hb).trans h.c0, (World.cell?_of_block (a := ⟨P, 1, none⟩) hb).trans h.c1, (World.cell?_of_block (a := ⟨P, 2, none⟩) hb).trans h.c2, fun j => (World.frozen?_of_block (a := ⟨P, j, none⟩) hb).trans (h.fr j), h.le, h.sm⟩
theorem At.fin (h : At w P s i d row ty W) (cs : Array Value) : Stp P w (W.setRow w.heap.size cs) ∧ Par (W.setRow w.heap.size cs) P s i d ∧ (W.setRow w.heap.size cs).heap[w.heap.size]? = some (.cells cs ty (0, 0)) :=
  ⟨⟨h.st.os, h.st.tape, h.st.output, by rw [setRow_size]; exact h.st.size, fun k h1 h2 => (setRow_other _ _ _ _ (by omega)).trans (h.st.block k h1 h2)⟩, h.pa.frame (setRow_other _ _ _ _ (by have := h.lt; omega)), setRow_heap _ _ _ _ _ _ h.r⟩
end
section
variable {P i d c j : Nat} {s : ByteArray}
theorem skip_yes (h : pk (txt8 s) i = c) (hc : c < 256) (W : World) (hp : Par W P s i d) : Calls Tryd.prog 87 #[.pointer (some ⟨P, 0, none⟩), .int .u8 (c : Int)] W fun e w' => e = .returned (.bool true) ∧ Stp P W w' ∧ Par w' P s (i + 1) d :=
  (skip_any P i d c s W hc hp).mono fun e w' ⟨h1, h2, h3⟩ => ⟨by rw [h1, h]; simp, h3, by rwa [if_pos h] at h2⟩
theorem skip_no (h : ¬ pk (txt8 s) i = c) (hc : c < 256) (W : World) (hp : Par W P s i d) : Calls Tryd.prog 87 #[.pointer (some ⟨P, 0, none⟩), .int .u8 (c : Int)] W fun e w' => e = .returned (.bool false) ∧ Stp P W w' ∧ Par w' P s i d :=
  (skip_any P i d c s W hc hp).mono fun e w' ⟨h1, h2, h3⟩ => ⟨by rw [h1, (by simpa using h : (pk (txt8 s) i == c) = false)], h3, by rwa [if_neg h] at h2⟩
theorem bb_some (q : ByteArray) (but : Nat → Bool) (hq : ∀ c, c < 256 → mem q c = but c) (h : byte1 (txt8 s) but i = some (c, j)) (W : World) (hp : Par W P s i d) : Calls Tryd.prog 118 #[.pointer (some ⟨P, 0, none⟩), .string q] W fun e w' => e = .returned (.tuple #[.int .u8 (c : Int), .bool true]) ∧ Stp P W w' ∧ Par w' P s j d :=
  (bytebut_any P i d q s but hq W hp).mono fun e w' ⟨h1, h2, k, h3, h4⟩ => ⟨by rw [h1, h]; rfl, h2, by rw [h4 c j h]; exact h3⟩
theorem bb_none (q : ByteArray) (but : Nat → Bool) (hq : ∀ c, c < 256 → mem q c = but c) (h : byte1 (txt8 s) but i = none) (W : World) (hp : Par W P s i d) : Calls Tryd.prog 118 #[.pointer (some ⟨P, 0, none⟩), .string q] W fun e w' => e = .returned (.tuple #[.int .u8 0, .bool false]) ∧ Stp P W w' ∧ ∃ j, Par w' P s j d :=
  (bytebut_any P i d q s but hq W hp).mono fun e w' ⟨h1, h2, k, h3, h4⟩ => ⟨by rw [h1, h]; rfl, h2, k, h3⟩
end
theorem run_ct {fn : Func} {p u : Tmp} {ty : TypeId} (h : fn.results = #[.cell p ty, .tmp u]) (tmps : Array Value) (P : Program) (w : World) (g : Nat) (cs : Array Value) (b : Value)
    (hp : tmps.getD p undef = .pointer (some ⟨g, 0, none⟩)) (hb : tmps.getD u undef = b) (hl : (loadVar ty ⟨g, 0, none⟩).run P w = .ok (.agg cs) w) :
    (results fn tmps).run P w = .ok (.tuple #[.agg cs, b]) w := by
  rw [results_cell_tmp h, hp, hb]
  simp [asAddr, hl, Result.andThen]
/-- What an item is told as. -/
def itemRes : Option (Nat × Nat × Nat) → Value
  | none => .tuple #[.agg zero4, .bool false]
  | some (lo, hi, _) => .tuple #[set4 (span none4 lo (hi + 1 - lo)), .bool true]
def ItemPost (w : World) (P : Nat) (s : ByteArray) (i d : Nat) (e : Ending) (w' : World) : Prop :=
  e = .returned (itemRes (item (txt8 s) i)) ∧ Stp P w w' ∧ ∃ j, Par w' P s j d ∧ ∀ lo hi k, item (txt8 s) i = some (lo, hi, k) → k = j
theorem item_post {w W : World} {P i d j : Nat} {s : ByteArray} (h : At w P s j d zero4 57 W) (cs : Array Value) (r : Option (Nat × Nat × Nat)) (b : Bool) (hr : item (txt8 s) i = r) (hv : itemRes r = .tuple #[.agg cs, .bool b]) (hj : ∀ lo hi k, r = some (lo, hi, k) → k = j) : ItemPost w P s i d (.returned (.tuple #[.agg cs, .bool b])) (W.setRow w.heap.size cs) := by
  subst hr
  exact ⟨by rw [hv], (h.fin cs).1, j, (h.fin cs).2.1, hj⟩
set_option maxRecDepth 100000 in
set_option maxHeartbeats 4000000 in
theorem item_any (P i d : Nat) (s : ByteArray) (w : World) (h : Par w P s i d) :
    Calls Tryd.prog 126 #[.pointer (some ⟨P, 0, none⟩)] w (ItemPost w P s i d) := by
  have H := Lib.hid (At.start h zero4 57)
  clear h
  unfold zero4 at H
  cases h1 : byte1 (txt8 s) inside i with
  | none =>
    have R : Hid (item (txt8 s) i = none) := by show _ = _; unfold item; rw [h1]
    have C1 := Lib.hid (fun W => bb_none (P := P) (d := d) sI inside mem_I h1 W)
    clear h1
    go_enter Tryd.func126, Tryd.ntmps126
    go_wp2_with fail
    refine (C1.out _ H.out.pa).mono ?_
    rintro e W1 ⟨rfl, S1, j1, P1⟩
    replace H := Lib.hid (H.out.step S1 P1)
    clear S1 P1
    go_wp2_with (refine wpList_store_row rfl 57 (.tmp 2) (.tmp 14) rfl w.heap.size #[.int .u64 0, .int .u64 0, .int .u64 0, .int .u64 0] rfl rfl 57 _ H.out.r Tryd.size4 rfl (by simp [Value.oneCell']) ?_)
    exact bodyPost_ret (run_ct rfl _ _ _ w.heap.size _ (.bool false) rfl rfl (run_loadVar_row _ _ _ _ _ _ _ (H.out.fin _).2.2 Tryd.underlying57 rfl Tryd.size4)) rfl (item_post H.out #[.int .u64 0, .int .u64 0, .int .u64 0, .int .u64 0] _ false R.out rfl (fun _ _ _ e => by cases e))
  | some q =>
    obtain ⟨lo, j⟩ := q
    have ⟨l1, _, _⟩ := byte1_lt h1
    have C1 := Lib.hid (fun W => bb_some (P := P) (d := d) sI inside mem_I h1 W)
    by_cases h2 : pk (txt8 s) j = 45
    · have C2 := Lib.hid (fun W => skip_yes (P := P) (d := d) h2 (by omega) W)
      cases h3 : byte1 (txt8 s) inside (j + 1) with
      | none =>
        have R : Hid (item (txt8 s) i = none) := by show _ = _; unfold item; rw [h1]; simp only [h2, if_true, h3]
        have C3 := Lib.hid (fun W => bb_none (P := P) (d := d) sI inside mem_I h3 W)
        clear h1 h2 h3
        go_enter Tryd.func126, Tryd.ntmps126
        go_wp2_with fail
        refine (C1.out _ H.out.pa).mono ?_
        rintro e W1 ⟨rfl, S1, P1⟩
        replace H := Lib.hid (H.out.step S1 P1)
        clear S1 P1
        go_wp2_with fail
        refine (C2.out _ H.out.pa).mono ?_
        rintro e W1 ⟨rfl, S1, P1⟩
        replace H := Lib.hid (H.out.step S1 P1)
        clear S1 P1
        go_wp2_with fail
        refine (C3.out _ H.out.pa).mono ?_
        rintro e W1 ⟨rfl, S1, j1, P1⟩
        replace H := Lib.hid (H.out.step S1 P1)
        clear S1 P1
        go_wp2_with (refine wpList_store_row rfl 57 (.tmp 2) (.tmp 33) rfl w.heap.size #[.int .u64 0, .int .u64 0, .int .u64 0, .int .u64 0] rfl rfl 57 _ H.out.r Tryd.size4 rfl (by simp [Value.oneCell']) ?_)
        exact bodyPost_ret (run_ct rfl _ _ _ w.heap.size _ (.bool false) rfl rfl (run_loadVar_row _ _ _ _ _ _ _ (H.out.fin _).2.2 Tryd.underlying57 rfl Tryd.size4)) rfl (item_post H.out #[.int .u64 0, .int .u64 0, .int .u64 0, .int .u64 0] _ false R.out rfl (fun _ _ _ e => by cases e))
      | some q =>
        obtain ⟨hi, k⟩ := q
        have ⟨l2, _, _⟩ := byte1_lt h3
        have C3 := Lib.hid (fun W => bb_some (P := P) (d := d) sI inside mem_I h3 W)
        by_cases h4 : hi < lo
        · have R : Hid (item (txt8 s) i = none) := by show _ = _; unfold item; rw [h1]; simp only [h2, if_true, h3, if_pos h4]
          have hz : (hi : Int) < (lo : Int) := by omega
          clear h1 h2 h3 h4
          go_enter Tryd.func126, Tryd.ntmps126
          go_wp2_with fail
          refine (C1.out _ H.out.pa).mono ?_
          rintro e W1 ⟨rfl, S1, P1⟩
          replace H := Lib.hid (H.out.step S1 P1)
          clear S1 P1
          go_wp2_with fail
          refine (C2.out _ H.out.pa).mono ?_
          rintro e W1 ⟨rfl, S1, P1⟩
          replace H := Lib.hid (H.out.step S1 P1)
          clear S1 P1
          go_wp2_with fail
          refine (C3.out _ H.out.pa).mono ?_
          rintro e W1 ⟨rfl, S1, P1⟩
          replace H := Lib.hid (H.out.step S1 P1)
          clear S1 P1
          go_wp2_with (refine wpList_store_row rfl 57 (.tmp 2) (.tmp 33) rfl w.heap.size #[.int .u64 0, .int .u64 0, .int .u64 0, .int .u64 0] rfl rfl 57 _ H.out.r Tryd.size4 rfl (by simp [Value.oneCell']) ?_)
          exact bodyPost_ret (run_ct rfl _ _ _ w.heap.size _ (.bool false) rfl rfl (run_loadVar_row _ _ _ _ _ _ _ (H.out.fin _).2.2 Tryd.underlying57 rfl Tryd.size4)) rfl (item_post H.out #[.int .u64 0, .int .u64 0, .int .u64 0, .int .u64 0] _ false R.out rfl (fun _ _ _ e => by cases e))
        · have R : Hid (item (txt8 s) i = some (lo, hi, k)) := by show _ = _; unfold item; rw [h1]; simp only [h2, if_true, h3, if_neg h4]
          have hz : ¬ (hi : Int) < (lo : Int) := by omega
          have SP := Lib.hid (fun W => span_any lo hi (by omega) (by omega) W)
          unfold set4 at SP
          obtain ⟨U, hU⟩ : ∃ U, span none4 lo (hi + 1 - lo) = U := ⟨_, rfl⟩
          rw [hU] at SP
          have HU := Lib.hid hU
          clear hU
          clear h1 h2 h3 h4
          go_enter Tryd.func126, Tryd.ntmps126
          go_wp2_with fail
          refine (C1.out _ H.out.pa).mono ?_
          rintro e W1 ⟨rfl, S1, P1⟩
          replace H := Lib.hid (H.out.step S1 P1)
          clear S1 P1
          go_wp2_with fail
          refine (C2.out _ H.out.pa).mono ?_
          rintro e W1 ⟨rfl, S1, P1⟩
          replace H := Lib.hid (H.out.step S1 P1)
          clear S1 P1
          go_wp2_with fail
          refine (C3.out _ H.out.pa).mono ?_
          rintro e W1 ⟨rfl, S1, P1⟩
          replace H := Lib.hid (H.out.step S1 P1)
          clear S1 P1
          go_wp2_with fail
          refine (SP.out _).mono ?_
          rintro e W1 ⟨rfl, B1⟩
          replace H := Lib.hid (H.out.grow B1)
          clear B1
          go_wp2_with (refine wpList_store_row rfl 57 (.tmp 2) (.tmp 36) rfl w.heap.size #[.int .u64 (U 0 : Int), .int .u64 (U 1 : Int), .int .u64 (U 2 : Int), .int .u64 (U 3 : Int)] rfl rfl 57 _ H.out.r Tryd.size4 rfl (by simp [Value.oneCell']) ?_)
          exact bodyPost_ret (run_ct rfl _ _ _ w.heap.size _ (.bool true) rfl rfl (run_loadVar_row _ _ _ _ _ _ _ (H.out.fin _).2.2 Tryd.underlying57 rfl Tryd.size4)) rfl (item_post H.out #[.int .u64 (U 0 : Int), .int .u64 (U 1 : Int), .int .u64 (U 2 : Int), .int .u64 (U 3 : Int)] _ true R.out (by rw [itemRes, HU.out]; rfl) (fun _ _ _ e => by simp at e; omega))
    · have C2 := Lib.hid (fun W => skip_no (P := P) (d := d) h2 (by omega) W)
      have R : Hid (item (txt8 s) i = some (lo, lo, j)) := by show _ = _; unfold item; rw [h1]; simp only [if_neg h2]
      have SP := Lib.hid (fun W => span_any lo lo (by omega) (by omega) W)
      unfold set4 at SP
      obtain ⟨U, hU⟩ : ∃ U, span none4 lo (lo + 1 - lo) = U := ⟨_, rfl⟩
      rw [hU] at SP
      have HU := Lib.hid hU
      clear hU
      clear h1 h2
      go_enter Tryd.func126, Tryd.ntmps126
      go_wp2_with fail
      refine (C1.out _ H.out.pa).mono ?_
      rintro e W1 ⟨rfl, S1, P1⟩
      replace H := Lib.hid (H.out.step S1 P1)
      clear S1 P1
      go_wp2_with fail
      refine (C2.out _ H.out.pa).mono ?_
      rintro e W1 ⟨rfl, S1, P1⟩
      replace H := Lib.hid (H.out.step S1 P1)
      clear S1 P1
      go_wp2_with fail
      refine (SP.out _).mono ?_
      rintro e W1 ⟨rfl, B1⟩
      replace H := Lib.hid (H.out.grow B1)
      clear B1
      go_wp2_with (refine wpList_store_row rfl 57 (.tmp 2) (.tmp 20) rfl w.heap.size #[.int .u64 (U 0 : Int), .int .u64 (U 1 : Int), .int .u64 (U 2 : Int), .int .u64 (U 3 : Int)] rfl rfl 57 _ H.out.r Tryd.size4 rfl (by simp [Value.oneCell']) ?_)
      exact bodyPost_ret (run_ct rfl _ _ _ w.heap.size _ (.bool true) rfl rfl (run_loadVar_row _ _ _ _ _ _ _ (H.out.fin _).2.2 Tryd.underlying57 rfl Tryd.size4)) rfl (item_post H.out #[.int .u64 (U 0 : Int), .int .u64 (U 1 : Int), .int .u64 (U 2 : Int), .int .u64 (U 3 : Int)] _ true R.out (by rw [itemRes, HU.out]; rfl) (fun _ _ _ e => by simp at e; omega))

end Go.Proofs.YtjmojjjgifkkiaaDoor
namespace Go.Proofs.YtjmojjjgifkkiaaDoor
open Go.RowKit Go.Sort
open Pz

def zero6 : Array Value := #[.int .i64 0, .int .u64 0, .int .u64 0, .int .u64 0, .int .u64 0, .slice none 0 0]
theorem Tryd.size6 : (Tryd.prog.info? 60).map (·.size) = some 6 := by kernel_rfl
/-- What a part of the parser hands back: a tree and where it ended, or that there is none. -/
def PRes (w : World) (P : Nat) (s : ByteArray) (d : Nat) (r : Option (Rx × Nat)) (e : Ending) (w' : World) : Prop :=
  Stp P w w' ∧ ((∃ t j v, r = some (t, j) ∧ e = .returned (.tuple #[v, .bool true]) ∧ RxIn (fun b => w.heap.size ≤ b) w' v t ∧ Par w' P s j d) ∨ (r = none ∧ e = .returned (.tuple #[.agg zero6, .bool false]) ∧ ∃ j, Par w' P s j d))
theorem pres_none {w W : World} {P j d : Nat} {s : ByteArray} {r : Option (Rx × Nat)} (hr : r = none) (h : At w P s j d zero6 60 W) : PRes w P s d r (.returned (.tuple #[.agg zero6, .bool false])) (W.setRow w.heap.size zero6) :=
  ⟨(h.fin _).1, .inr ⟨hr, rfl, j, (h.fin _).2.1⟩⟩
theorem pres_some {w W : World} {P j d : Nat} {s : ByteArray} {r : Option (Rx × Nat)} {cs : Array Value} {t : Rx} (hr : r = some (t, j)) (h : At w P s j d zero6 60 W) (ht : RxIn (fun b => w.heap.size + 1 ≤ b) W (.agg cs) t) : PRes w P s d r (.returned (.tuple #[.agg cs, .bool true])) (W.setRow w.heap.size cs) :=
  ⟨(h.fin _).1, .inl ⟨t, j, _, hr, rfl, ht.frame (fun b hb => setRow_other _ _ _ _ (by omega)) (fun b _ hb => by omega), (h.fin _).2.1⟩⟩

/-- Four words as cells. -/
def sv (W : Nat → Nat) : Array Value := #[.int .u64 (W 0 : Int), .int .u64 (W 1 : Int), .int .u64 (W 2 : Int), .int .u64 (W 3 : Int)]
/-- Four words in a block of their own. -/
def Row4 (w : World) (g : Nat) (W : Nat → Nat) : Prop := w.heap[g]? = some (.cells (sv W) 57 (0, 0))
theorem Row4.lt {w : World} {g : Nat} {W : Nat → Nat} (h : Row4 w g W) : g < w.heap.size := (Array.getElem?_eq_some_iff.1 h).1
theorem Row4.cells {w : World} {g : Nat} {W : Nat → Nat} (h : Row4 w g W) : w.cell? ⟨g, 0, none⟩ = some (.int .u64 (W 0 : Int)) ∧ w.cell? ⟨g, 1, none⟩ = some (.int .u64 (W 1 : Int)) ∧ w.cell? ⟨g, 2, none⟩ = some (.int .u64 (W 2 : Int)) ∧ w.cell? ⟨g, 3, none⟩ = some (.int .u64 (W 3 : Int)) := by
  refine ⟨?_, ?_, ?_, ?_⟩ <;> (rw [cell_of_row _ g _ _ _ _ h]; rfl)
theorem Row4.stp {P g : Nat} {w w' : World} {W : Nat → Nat} (h : Row4 w g W) (hs : Stp P w w') (hne : P < g) : Row4 w' g W := (hs.block g h.lt (by omega)).trans h
theorem Row4.grow {g : Nat} {w w' : World} {W : Nat → Nat} (h : Row4 w g W) (hb : Below w.heap.size w w') : Row4 w' g W := (hb.block g h.lt).trans h
theorem Row4.set {g : Nat} {w : World} {W : Nat → Nat} (h : Row4 w g W) (V : Nat → Nat) : Row4 (w.setRow g (sv V)) g V := setRow_heap _ _ _ _ _ _ h
theorem Row4.other {g g' : Nat} {w : World} {W : Nat → Nat} (h : Row4 w g W) (cs : Array Value) (hne : g ≠ g') : Row4 (w.setRow g' cs) g W := (setRow_other _ _ _ _ hne).trans h
theorem At.row {w W : World} {P i d g : Nat} {s : ByteArray} {row : Array Value} {ty : TypeId} (h : At w P s i d row ty W) (hg : w.heap.size < g) (cs : Array Value) : At w P s i d row ty (W.setRow g cs) :=
  ⟨⟨h.st.os, h.st.tape, h.st.output, by rw [setRow_size]; exact h.st.size, fun k h1 h2 => (setRow_other _ _ _ _ (by omega)).trans (h.st.block k h1 h2)⟩, h.pa.frame (setRow_other _ _ _ _ (by have := h.lt; omega)), h.lt, (setRow_other _ _ _ _ (by omega)).trans h.r⟩
theorem span_join (W : Nat → Nat) (lo : Nat) : ∀ n, span W lo n = join W (span none4 lo n)
  | 0 => by funext k; simp [span, join, none4]
  | n + 1 => by
    funext k
    have ih := congrFun (span_join W lo n)
    show put (span W lo n) (lo + n) k = W k ||| put (span none4 lo n) (lo + n) k
    unfold put
    rw [ih k]
    split
    · unfold join; rw [Nat.or_assoc]
    · rfl
theorem join_none (W : Nat → Nat) : join W none4 = W := by funext k; simp [join, none4]
theorem item_lt {s : ByteArray} {i lo hi j : Nat} (h : item (txt8 s) i = some (lo, hi, j)) : lo < 256 ∧ hi < 256 ∧ i < j ∧ j ≤ s.size := by
  unfold item at h
  split at h
  · cases h
  · rename_i lo' j' h1
    have ⟨a1, a2, a3⟩ := byte1_lt h1
    split at h
    · split at h
      · cases h
      · rename_i hi' k' h3
        have ⟨b1, b2, b3⟩ := byte1_lt h3
        split at h
        · cases h
        · simp at h; omega
    · simp at h; omega
/-- An item's bytes; none. -/
def iW : Option (Nat × Nat × Nat) → Nat → Nat
  | none => none4
  | some (lo, hi, _) => span none4 lo (hi + 1 - lo)
theorem iW_fits (r : Option (Nat × Nat × Nat)) : Fits4 (iW r) := by
  cases r with
  | none => exact none4_fits
  | some q => exact span_fits none4_fits _ _
theorem it_any (P i d : Nat) (s : ByteArray) (r : Option (Nat × Nat × Nat)) (hr : item (txt8 s) i = r) (W : World) (hp : Par W P s i d) : Calls Tryd.prog 126 #[.pointer (some ⟨P, 0, none⟩)] W fun e w' => e = .returned (.tuple #[.agg (sv (iW r)), .bool r.isSome]) ∧ Stp P W w' ∧ ∃ j, Par w' P s j d ∧ ∀ lo hi k, r = some (lo, hi, k) → k = j :=
  (item_any P i d s W hp).mono fun e w' ⟨h1, h2, h3⟩ => ⟨by rw [h1, hr]; cases r <;> rfl, h2, by rw [← hr]; exact h3⟩
/-- The items behind one. -/
def cont (S : List Nat) (m : Nat) (W : Nat → Nat) : Option (Nat × Nat × Nat) → Option ((Nat → Nat) × Nat)
  | none => none
  | some (lo, hi, k) => items S m (join W (span none4 lo (hi + 1 - lo))) k
theorem items_step {S : List Nat} {m i : Nat} {W : Nat → Nat} (h : ¬ pk S i = 93) : items S (m + 1) W i = cont S m W (item S i) := by
  rw [items, if_neg h]
  cases item S i with
  | none => rfl
  | some q =>
    obtain ⟨lo, hi, k⟩ := q
    show items S m (span W lo (hi + 1 - lo)) k = items S m (join W (span none4 lo (hi + 1 - lo))) k
    rw [← span_join]
/-- A choice's tree. -/
def clsOf (b : Bool) : Option ((Nat → Nat) × Nat) → Option (Rx × Nat)
  | none => none
  | some (W, m) => some (setOf (if b = true then neg W else W), m)
theorem class_eq (S : List Nat) (n i : Nat) (b : Bool) (i2 : Nat) (hb : b = decide (pk S i = 94)) (hi : i2 = if pk S i = 94 then i + 1 else i) : class1 S n i = clsOf b (cont S n none4 (item S i2)) := by
  subst hb hi
  unfold class1
  simp only
  cases item S (if pk S i = 94 then i + 1 else i) with
  | none => rfl
  | some q =>
    obtain ⟨lo, hi, k⟩ := q
    simp only [cont]
    have : join none4 (span none4 lo (hi + 1 - lo)) = span none4 lo (hi + 1 - lo) := by funext k; simp [join, none4]
    rw [this]
    cases items S n (span none4 lo (hi + 1 - lo)) k with
    | none => rfl
    | some q => obtain ⟨W, m⟩ := q; simp [clsOf]
/-- What the loop of brackets keeps. -/
def BInv (w : World) (P : Nat) (s : ByteArray) (d g : Nat) (r : Option ((Nat → Nat) × Nat)) (m : Nat) (b : Bool) (wr : World) : Prop :=
  ∃ j W, At w P s j d zero6 60 wr ∧ Row4 wr g W ∧ Fits4 W ∧ w.heap.size < g ∧ (if b = true then items (txt8 s) m W j = r ∧ s.size < j + m else r = none)
theorem BInv.mk {w wr : World} {P d g m i j : Nat} {s : ByteArray} {r : Option ((Nat → Nat) × Nat)} {W : Nat → Nat} {q : Option (Nat × Nat × Nat)} (hq : item (txt8 s) i = q) (ha : At w P s j d zero6 60 wr) (hr : Row4 wr g (join W (iW q))) (hW : Fits4 W) (hg : w.heap.size < g) (hj : ∀ lo hi k, q = some (lo, hi, k) → k = j) (hc : cont (txt8 s) m W q = r) (hm : s.size < i + (m + 1)) : BInv w P s d g r m q.isSome wr := by
  refine ⟨j, _, ha, hr, join_fits hW (iW_fits q), hg, ?_⟩
  cases q with
  | none => exact hc.symm
  | some q =>
    obtain ⟨lo, hi, k⟩ := q
    obtain rfl := hj lo hi k rfl
    have := item_lt hq
    exact ⟨hc, by omega⟩
set_option maxRecDepth 100000 in
set_option maxHeartbeats 8000000 in
theorem brackets_any (P i d : Nat) (s : ByteArray) (w : World) (h : Par w P s i d) :
    Calls Tryd.prog 116 #[.pointer (some ⟨P, 0, none⟩)] w (PRes w P s d (class1 (txt8 s) 42 i)) := by
  have H := Lib.hid (At.start h zero6 60)
  have hsm := h.sm
  clear h
  unfold zero6 at H
  obtain ⟨b, i2, hb, SK⟩ : ∃ b i2, Hid (b = decide (pk (txt8 s) i = 94) ∧ i2 = if pk (txt8 s) i = 94 then i + 1 else i) ∧ Hid (∀ W, Par W P s i d → Calls Tryd.prog 87 #[.pointer (some ⟨P, 0, none⟩), .int .u8 94] W fun e w' => e = .returned (.bool b) ∧ Stp P W w' ∧ Par w' P s i2 d) := by
    by_cases h9 : pk (txt8 s) i = 94
    · exact ⟨true, i + 1, ⟨by simp [h9], by simp [h9]⟩, fun W hp => skip_yes h9 (by omega) W hp⟩
    · exact ⟨false, i, ⟨by simp [h9], by simp [h9]⟩, fun W hp => skip_no h9 (by omega) W hp⟩
  obtain ⟨q1, hq1⟩ : ∃ q1, item (txt8 s) i2 = q1 := ⟨_, rfl⟩
  obtain ⟨r, hr⟩ : ∃ r, cont (txt8 s) 42 none4 q1 = r := ⟨_, rfl⟩
  have CE : Hid (class1 (txt8 s) 42 i = clsOf b r) := by
    show _ = _
    rw [class_eq _ _ _ b i2 hb.out.1 hb.out.2, hq1, hr]
  have IT := Lib.hid (fun W => it_any P i2 d s q1 hq1 W)
  have CR := Lib.hid (And.intro hq1 hr)
  clear hb hq1 hr
  unfold sv at IT
  generalize hbq : q1.isSome = bq at *
  obtain ⟨c0, hc0⟩ : ∃ c0, iW q1 0 = c0 := ⟨_, rfl⟩
  obtain ⟨c1, hc1⟩ : ∃ c1, iW q1 1 = c1 := ⟨_, rfl⟩
  obtain ⟨c2, hc2⟩ : ∃ c2, iW q1 2 = c2 := ⟨_, rfl⟩
  obtain ⟨c3, hc3⟩ : ∃ c3, iW q1 3 = c3 := ⟨_, rfl⟩
  rw [hc0, hc1, hc2, hc3] at IT
  have EC : Hid (sv (iW q1) = #[.int .u64 (c0 : Int), .int .u64 (c1 : Int), .int .u64 (c2 : Int), .int .u64 (c3 : Int)] ∧ q1.isSome = bq) := by refine ⟨?_, hbq⟩; unfold sv; rw [hc0, hc1, hc2, hc3]
  clear hc0 hc1 hc2 hc3 hbq
  go_enter Tryd.func116, Tryd.ntmps116
  go_wp2_with fail
  refine (SK.out _ H.out.pa).mono ?_
  rintro e W1 ⟨rfl, S1, P1⟩
  replace H := Lib.hid (H.out.step S1 P1)
  clear S1 P1
  go_wp2_with fail
  refine (IT.out _ H.out.pa).mono ?_
  rintro e W2 ⟨rfl, S1, j1, P1, J1⟩
  replace H := Lib.hid (H.out.step S1 P1)
  clear S1 P1
  have BI : Hid (BInv w P s d W2.heap.size r 42 bq (W2.alloc (.cells #[.int .u64 (c0 : Int), .int .u64 (c1 : Int), .int .u64 (c2 : Int), .int .u64 (c3 : Int)] 57))) := by
    rw [← EC.out.2]
    refine BInv.mk (W := none4) CR.out.1 (H.out.grow ((Below.refl _ _).alloc (Nat.le_refl _) _)) ?_ none4_fits (by have := H.out.big; omega) J1 CR.out.2 (by omega)
    have e : join none4 (iW q1) = iW q1 := by funext k; simp [join, none4]
    rw [e]
    unfold Row4
    rw [EC.out.1]
    exact heap_alloc_new W2 _
  have hg : P < W2.heap.size := by have := H.out.big; have := H.out.lt; omega
  clear H J1 EC IT SK CR
  go_wp2
  generalize W2.alloc (.cells #[.int .u64 (c0 : Int), .int .u64 (c1 : Int), .int .u64 (c2 : Int), .int .u64 (c3 : Int)] 57) = w3 at BI ⊢
  generalize W2.heap.size = g at *
  go_loopg [6] 42 (fun m ok wr => ∃ b1 : Bool, ok = .bool b1 ∧ Hid (BInv w P s d g r m b1 wr))
  case atStart => exact ⟨_, rfl, BI⟩
  case round =>
    clear BI
    obtain ⟨b1, rfl, HI⟩ := hrel
    obtain ⟨j, W, H, RW, FW, hgw, HB⟩ := HI
    have H := Lib.hid H
    have RW := Lib.hid RW
    have FW := Lib.hid FW
    have HB := Lib.hid HB
    cases b1
    · have hr : Hid (class1 (txt8 s) 42 i = none) := by show _ = _; rw [CE.out, show r = none from HB.out]; rfl
      clear HB CE FW RW
      unfold zero6 at H
      go_wp2_with (refine wpList_store_row rfl 60 (.tmp 2) (.tmp 31) rfl w.heap.size #[.int .i64 0, .int .u64 0, .int .u64 0, .int .u64 0, .int .u64 0, .slice none 0 0] rfl rfl 60 _ H.out.r Tryd.size6 rfl (by simp [Value.oneCell']) ?_)
      exact bodyPost_ret (run_ct rfl _ _ _ w.heap.size _ (.bool false) rfl rfl (run_loadVar_row _ _ _ _ _ _ _ (H.out.fin _).2.2 Tryd.underlying60 rfl Tryd.size6)) rfl (pres_none hr.out H.out)
    · obtain ⟨h1, h2⟩ := HB.out
      obtain ⟨m, rfl⟩ : ∃ m, gk = m + 1 := ⟨gk - 1, by have := H.out.pa.le; omega⟩
      by_cases h3 : pk (txt8 s) j = 93
      · rw [items, if_pos h3] at h1
        have hr : Hid (class1 (txt8 s) 42 i = some (setOf (if b = true then neg W else W), j + 1)) := by show _ = _; rw [CE.out, ← h1]; rfl
        have C1 := Lib.hid (fun W => skip_yes (P := P) (d := d) h3 (by omega) W)
        clear HB CE h1 h2 h3
        unfold zero6 at H
        go_wp2_with fail
        refine (C1.out _ H.out.pa).mono ?_
        rintro e W1 ⟨rfl, S1, P1⟩
        replace RW := Lib.hid (RW.out.stp S1 hg)
        replace H := Lib.hid (H.out.step S1 P1)
        clear S1 P1
        obtain ⟨x0, x1, x2, x3⟩ := RW.out.cells
        cases b
        · have h2 : Hid (class1 (txt8 s) 42 i = some (setOf W, j + 1)) := hr.out
          clear hr C1 RW FW
          go_wp2_with (refine wpList_store_row rfl 60 (.tmp 2) (.tmp 36) rfl w.heap.size #[.int .i64 1, .int .u64 (W 0 : Int), .int .u64 (W 1 : Int), .int .u64 (W 2 : Int), .int .u64 (W 3 : Int), .slice none 0 0] rfl rfl 60 _ H.out.r Tryd.size6 rfl (by simp [Value.oneCell']) ?_)
          exact bodyPost_ret (run_ct rfl _ _ _ w.heap.size #[.int .i64 1, .int .u64 (W 0 : Int), .int .u64 (W 1 : Int), .int .u64 (W 2 : Int), .int .u64 (W 3 : Int), .slice none 0 0] (.bool true) rfl rfl (run_loadVar_row _ _ _ _ _ _ _ (H.out.fin _).2.2 Tryd.underlying60 rfl Tryd.size6)) rfl (pres_some h2.out H.out (RxIn.leaf _ _ 1 _ _ _ _))
        · have h2 : Hid (class1 (txt8 s) 42 i = some (setOf (neg W), j + 1)) := hr.out
          have OT := Lib.hid (fun W' => others_any W FW.out W')
          unfold set4 at OT
          clear hr C1 FW
          go_wp2_with fail
          refine (OT.out _).mono ?_
          rintro e W2 ⟨rfl, B1⟩
          replace RW := Lib.hid (RW.out.grow B1)
          replace H := Lib.hid (H.out.grow B1)
          clear B1 x0 x1 x2 x3 OT
          go_wp2_with (first | ((refine wpList_store_row rfl 57 (.tmp 5) (.tmp 34) rfl g (sv (neg W)) rfl rfl 57 _ RW.out Tryd.size4 rfl (by simp [sv, Value.oneCell']) ?_); (replace H := Lib.hid (H.out.row hgw (sv (neg W)))); (obtain ⟨x0, x1, x2, x3⟩ := (RW.out.set (neg W)).cells); (clear RW); (generalize W2.setRow g (sv (neg W)) = W3 at *); (generalize neg W = V at *)) | (refine wpList_store_row rfl 60 (.tmp 2) (.tmp 36) rfl w.heap.size #[.int .i64 1, .int .u64 (V 0 : Int), .int .u64 (V 1 : Int), .int .u64 (V 2 : Int), .int .u64 (V 3 : Int), .slice none 0 0] rfl rfl 60 _ H.out.r Tryd.size6 rfl (by simp [Value.oneCell']) ?_))
          exact bodyPost_ret (run_ct rfl _ _ _ w.heap.size #[.int .i64 1, .int .u64 (V 0 : Int), .int .u64 (V 1 : Int), .int .u64 (V 2 : Int), .int .u64 (V 3 : Int), .slice none 0 0] (.bool true) rfl rfl (run_loadVar_row _ _ _ _ _ _ _ (H.out.fin _).2.2 Tryd.underlying60 rfl Tryd.size6)) rfl (pres_some h2.out H.out (RxIn.leaf _ _ 1 _ _ _ _))
      · rw [items_step h3] at h1
        have C1 := Lib.hid (fun W => skip_no (P := P) (d := d) h3 (by omega) W)
        obtain ⟨q, hq⟩ : ∃ q, item (txt8 s) j = q := ⟨_, rfl⟩
        have I2 := Lib.hid (fun W => it_any P j d s q hq W)
        have FI := Lib.hid (iW_fits q)
        rw [hq] at h1
        have HQ := Lib.hid (And.intro hq (And.intro h1 h2))
        clear HB CE h1 h2 h3 hq
        unfold sv at I2
        go_wp2_with fail
        refine (C1.out _ H.out.pa).mono ?_
        rintro e W1 ⟨rfl, S1, P1⟩
        replace RW := Lib.hid (RW.out.stp S1 hg)
        replace H := Lib.hid (H.out.step S1 P1)
        clear S1 P1 C1
        have RZ : Hid (Row4 (W1.alloc (.cells #[.int .u64 0, .int .u64 0, .int .u64 0, .int .u64 0] 57)) W1.heap.size none4) := heap_alloc_new W1 _
        have hgz : g < W1.heap.size := RW.out.lt
        replace RW := Lib.hid (RW.out.grow ((Below.refl _ _).alloc (Nat.le_refl _) (.cells #[.int .u64 0, .int .u64 0, .int .u64 0, .int .u64 0] 57)))
        replace H := Lib.hid (H.out.grow ((Below.refl _ _).alloc (Nat.le_refl _) (.cells #[.int .u64 0, .int .u64 0, .int .u64 0, .int .u64 0] 57)))
        go_wp2_with fail
        generalize W1.alloc (.cells #[.int .u64 0, .int .u64 0, .int .u64 0, .int .u64 0] 57) = W2 at *
        generalize W1.heap.size = g7 at *
        refine (I2.out _ H.out.pa).mono ?_
        rintro e W3 ⟨rfl, S1, j1, P1, J1⟩
        replace RZ := Lib.hid (RZ.out.stp S1 (by omega))
        replace RW := Lib.hid (RW.out.stp S1 hg)
        replace H := Lib.hid (H.out.step S1 P1)
        have J1 := Lib.hid J1
        clear S1 P1 I2
        go_wp2_with ((refine wpList_store_row rfl 57 (.tmp 7) (.tmp 24) rfl g7 (sv (iW q)) rfl rfl 57 _ RZ.out Tryd.size4 rfl (by simp [sv, Value.oneCell']) ?_); (replace RW := Lib.hid (RW.out.other (sv (iW q)) (Nat.ne_of_lt hgz))); (replace H := Lib.hid (H.out.row (g := g7) (by omega) (sv (iW q)))); (obtain ⟨x0, x1, x2, x3⟩ := RW.out.cells); (obtain ⟨y0, y1, y2, y3⟩ := (RZ.out.set (iW q)).cells); (clear RZ); (generalize W3.setRow g7 (sv (iW q)) = W4 at *))
        have UN := Lib.hid (fun V => union_any W (iW q) FW.out FI.out V)
        unfold set4 at UN
        obtain ⟨U, hU⟩ : ∃ U, join W (iW q) = U := ⟨_, rfl⟩
        rw [hU] at UN
        have HU := Lib.hid hU
        clear hU
        go_wp2_with fail
        refine (UN.out _).mono ?_
        rintro e W5 ⟨rfl, B1⟩
        replace RW := Lib.hid (RW.out.grow B1)
        replace H := Lib.hid (H.out.grow B1)
        clear B1 x0 x1 x2 x3 y0 y1 y2 y3 UN
        go_wp2_with ((refine wpList_store_row rfl 57 (.tmp 5) (.tmp 28) rfl g (sv U) rfl rfl 57 _ RW.out Tryd.size4 rfl (by simp [sv, Value.oneCell']) ?_); (replace H := Lib.hid (H.out.row hgw (sv U))); (replace RW := Lib.hid (RW.out.set U)); (generalize W5.setRow g (sv U) = W6 at *))
        go_wp2
        go_roundg m
        case measure => omega
        case rel => exact ⟨_, rfl, BInv.mk HQ.out.1 H.out (by rw [HU.out]; exact RW.out) FW.out hgw J1.out HQ.out.2.1 HQ.out.2.2⟩

end Go.Proofs.YtjmojjjgifkkiaaDoor
