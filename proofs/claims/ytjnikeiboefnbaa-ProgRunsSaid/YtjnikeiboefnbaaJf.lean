/-
  What the program's item and brackets do. Conditions: at most 100 bytes.
-/
import Derived.Test.YtjnikeiboefnbaaProg
import Derived.Test.YtjnikeiboefnbaaEa
import Derived.Test.YtjnikeiboefnbaaEd
import Derived.Test.YtjnikeiboefnbaaEm
import Derived.Test.YtjnikeiboefnbaaEi
import Derived.Test.YtjnikeiboefnbaaEk
import Derived.Test.YtjnikeiboefnbaaJa
import Derived.Test.YtjnikeiboefnbaaJb
import Derived.Test.YtjnikeiboefnbaaJc
import Derived.Test.YtjnikeiboefnbaaHd
import Derived.Test.YtjnikeiboefnbaaHe
import Derived.Test.YtjnikeiboefnbaaJd
import Derived.Test.YtjnikeiboefnbaaJe
import Derived.Laws.ResultCell
import Derived.Laws.AppendOwn
import Derived.Maps.AppendAt
import Derived.Deep.QuietTactic
import Derived.BigQuiet
import Derived.Lib.Bytealg
import Derived.Laws.Externs
import Derived.Laws.CopyOwn
import Derived.Laws.MakeOwn
import Derived.Laws.OwnMore
import Derived.OwnWalk
import Derived.StillTailTactics
import Derived.WalkKit
import Derived.WalkSpells
import Derived.WalkLawsBesides
import Derived.Lib.Hide
import Derived.Below
import Derived.Lib.QuietBelow
import Derived.Laws.StructEq
import Derived.KernelRfl
import Derived.Deep.RegionHeld3
namespace Go.Proofs.Ytjnikeiboefnbaa
open Go.RowKit Go.Sort
open Pz

/-- On the way through a function that has the parser: its result's own block is as it was laid. -/
structure At (w : World) (P : Nat) (s : ByteArray) (i d : Nat) (row : Array Value) (ty : TypeId) (W : World) : Prop where
  st : Stp P w W
  pa : Par W P s i d
  lt : P < w.heap.size
  r : W.heap[w.heap.size]? = some (.cells row ty (0, 0))
section
variable {w W W' : World} {P i d j d' : Nat} {s : ByteArray} {row : Array Value} {ty : TypeId}
theorem At.start (h : Par w P s i d) (row : Array Value) (ty : TypeId) : At w P s i d row ty (w.alloc (.cells row ty)) :=
  ⟨Stp.of ((Below.refl _ _).alloc (Nat.le_refl _) _), h.grown ((Below.refl _ _).alloc (Nat.le_refl _) _), h.lt, heap_alloc_new w _⟩
theorem At.big (h : At w P s i d row ty W) : w.heap.size + 1 ≤ W.heap.size := (Array.getElem?_eq_some_iff.1 h.r).1
theorem At.step (h : At w P s i d row ty W) (st : Stp P W W') (pa : Par W' P s j d') : At w P s j d' row ty W' :=
  ⟨h.st.trans st, pa, h.lt, (st.block _ (by have := h.big; omega) (by have := h.lt; omega)).trans h.r⟩
theorem At.grow (h : At w P s i d row ty W) (hb : Below W.heap.size W W') : At w P s i d row ty W' := h.step (Stp.of hb) (h.pa.grown hb)
theorem At.drew (h : At w P s i d row ty W) (q : Nat) : At w P s i d row ty (W.drewN q) := h.step ((Stp.refl _ _).drew q) (h.pa.drew q)
theorem Par.frame (h : Par w P s i d) (hb : W.heap[P]? = w.heap[P]?) : Par W P s i d :=
  ⟨(World.cell?_of_block (a := ⟨P, 0, none⟩) hb).trans h.c0, (World.cell?_of_block (a := ⟨P, 1, none⟩) hb).trans h.c1, (World.cell?_of_block (a := ⟨P, 2, none⟩) hb).trans h.c2, fun j => (World.frozen?_of_block (a := ⟨P, j, none⟩) hb).trans (h.fr j), h.le, h.sm⟩
theorem At.fin (h : At w P s i d row ty W) (cs : Array Value) : Stp P w (W.setRow w.heap.size cs) ∧ Par (W.setRow w.heap.size cs) P s i d ∧ (W.setRow w.heap.size cs).heap[w.heap.size]? = some (.cells cs ty (0, 0)) :=
  ⟨⟨h.st.os, h.st.tape, h.st.output, by rw [setRow_size]; exact h.st.size, fun k h1 h2 => (setRow_other _ _ _ _ (by omega)).trans (h.st.block k h1 h2)⟩, h.pa.frame (setRow_other _ _ _ _ (by have := h.lt; omega)), setRow_heap _ _ _ _ _ _ h.r⟩
end
section
variable {P i d c j : Nat} {s : ByteArray}
theorem skip_yes (h : pk (txt8 s) i = c) (hc : c < 256) (W : World) (hp : Par W P s i d) : Calls Try.prog 30 #[.pointer (some ⟨P, 0, none⟩), .int .u8 (c : Int)] W fun e w' => e = .returned (.bool true) ∧ Stp P W w' ∧ Par w' P s (i + 1) d :=
  (skip_any P i d c s W hc hp).mono fun e w' ⟨h1, h2, h3⟩ => ⟨by rw [h1, h]; simp, h3, by rwa [if_pos h] at h2⟩
theorem skip_no (h : ¬ pk (txt8 s) i = c) (hc : c < 256) (W : World) (hp : Par W P s i d) : Calls Try.prog 30 #[.pointer (some ⟨P, 0, none⟩), .int .u8 (c : Int)] W fun e w' => e = .returned (.bool false) ∧ Stp P W w' ∧ Par w' P s i d :=
  (skip_any P i d c s W hc hp).mono fun e w' ⟨h1, h2, h3⟩ => ⟨by rw [h1, (by simpa using h : (pk (txt8 s) i == c) = false)], h3, by rwa [if_neg h] at h2⟩
theorem bb_some (q : ByteArray) (but : Nat → Bool) (hq : ∀ c, c < 256 → mem q c = but c) (h : byte1 (txt8 s) but i = some (c, j)) (W : World) (hp : Par W P s i d) : Calls Try.prog 50 #[.pointer (some ⟨P, 0, none⟩), .string q] W fun e w' => e = .returned (.tuple #[.int .u8 (c : Int), .bool true]) ∧ Stp P W w' ∧ Par w' P s j d :=
  (bytebut_any P i d q s but hq W hp).mono fun e w' ⟨h1, h2, k, h3, h4⟩ => ⟨by rw [h1, h]; rfl, h2, by rw [h4 c j h]; exact h3⟩
theorem bb_none (q : ByteArray) (but : Nat → Bool) (hq : ∀ c, c < 256 → mem q c = but c) (h : byte1 (txt8 s) but i = none) (W : World) (hp : Par W P s i d) : Calls Try.prog 50 #[.pointer (some ⟨P, 0, none⟩), .string q] W fun e w' => e = .returned (.tuple #[.int .u8 0, .bool false]) ∧ Stp P W w' ∧ ∃ j, Par w' P s j d :=
  (bytebut_any P i d q s but hq W hp).mono fun e w' ⟨h1, h2, k, h3, h4⟩ => ⟨by rw [h1, h]; rfl, h2, k, h3⟩
end
theorem run_ct {fn : Func} {p u : Tmp} {ty : TypeId} (h : fn.results = #[.cell p ty, .tmp u]) (tmps : Array Value) (P : Program) (w : World) (g : Nat) (cs : Array Value) (b : Value)
    (hp : tmps.getD p undef = .pointer (some ⟨g, 0, none⟩)) (hb : tmps.getD u undef = b) (hl : (loadVar ty ⟨g, 0, none⟩).run P w = .ok (.agg cs) w) :
    (results fn tmps).run P w = .ok (.tuple #[.agg cs, b]) w := by
  rw [results_cell_tmp h, hp, hb]
  simp [asAddr, hl, Result.andThen]
/-- What an item is told as. -/
def itemRes : Option (Nat × Nat × Nat) → Value
  | none => .tuple #[.agg zero4, .bool false]
  | some (lo, hi, _) => .tuple #[set4 (span none4 lo (hi + 1 - lo)), .bool true]
def ItemPost (w : World) (P : Nat) (s : ByteArray) (i d : Nat) (e : Ending) (w' : World) : Prop :=
  e = .returned (itemRes (item (txt8 s) i)) ∧ Stp P w w' ∧ ∃ j, Par w' P s j d ∧ ∀ lo hi k, item (txt8 s) i = some (lo, hi, k) → k = j
theorem item_post {w W : World} {P i d j : Nat} {s : ByteArray} (h : At w P s j d zero4 23 W) (cs : Array Value) (r : Option (Nat × Nat × Nat)) (b : Bool) (hr : item (txt8 s) i = r) (hv : itemRes r = .tuple #[.agg cs, .bool b]) (hj : ∀ lo hi k, r = some (lo, hi, k) → k = j) : ItemPost w P s i d (.returned (.tuple #[.agg cs, .bool b])) (W.setRow w.heap.size cs) := by
  subst hr
  exact ⟨by rw [hv], (h.fin cs).1, j, (h.fin cs).2.1, hj⟩
set_option maxRecDepth 100000 in
set_option maxHeartbeats 4000000 in
theorem item_any (P i d : Nat) (s : ByteArray) (w : World) (h : Par w P s i d) :
    Calls Try.prog 58 #[.pointer (some ⟨P, 0, none⟩)] w (ItemPost w P s i d) := by
  have H := Lib.hid (At.start h zero4 23)
  clear h
  unfold zero4 at H
  cases h1 : byte1 (txt8 s) inside i with
  | none =>
    have R : Hid (item (txt8 s) i = none) := by show _ = _; unfold item; rw [h1]
    have C1 := Lib.hid (fun W => bb_none (P := P) (d := d) sI inside mem_I h1 W)
    clear h1
    go_enter Try.func58, Try.ntmps58
    go_wp2_with fail
    refine (C1.out _ H.out.pa).mono ?_
    rintro e W1 ⟨rfl, S1, j1, P1⟩
    replace H := Lib.hid (H.out.step S1 P1)
    clear S1 P1
    go_wp2_with (refine wpList_store_row rfl 23 (.tmp 2) (.tmp 14) rfl w.heap.size #[.int .u64 0, .int .u64 0, .int .u64 0, .int .u64 0] rfl rfl 23 _ H.out.r Try.size4 rfl (by simp [Value.oneCell']) ?_)
    exact bodyPost_ret (run_ct rfl _ _ _ w.heap.size _ (.bool false) rfl rfl (run_loadVar_row _ _ _ _ _ _ _ (H.out.fin _).2.2 Try.underlying23 rfl Try.size4)) rfl (item_post H.out #[.int .u64 0, .int .u64 0, .int .u64 0, .int .u64 0] _ false R.out rfl (fun _ _ _ e => by cases e))
  | some q =>
    obtain ⟨lo, j⟩ := q
    have ⟨l1, _, _⟩ := byte1_lt h1
    have C1 := Lib.hid (fun W => bb_some (P := P) (d := d) sI inside mem_I h1 W)
    by_cases h2 : pk (txt8 s) j = 45
    · have C2 := Lib.hid (fun W => skip_yes (P := P) (d := d) h2 (by omega) W)
      cases h3 : byte1 (txt8 s) inside (j + 1) with
      | none =>
        have R : Hid (item (txt8 s) i = none) := by show _ = _; unfold item; rw [h1]; simp only [h2, if_true, h3]
        have C3 := Lib.hid (fun W => bb_none (P := P) (d := d) sI inside mem_I h3 W)
        clear h1 h2 h3
        go_enter Try.func58, Try.ntmps58
        go_wp2_with fail
        refine (C1.out _ H.out.pa).mono ?_
        rintro e W1 ⟨rfl, S1, P1⟩
        replace H := Lib.hid (H.out.step S1 P1)
        clear S1 P1
        go_wp2_with fail
        refine (C2.out _ H.out.pa).mono ?_
        rintro e W1 ⟨rfl, S1, P1⟩
        replace H := Lib.hid (H.out.step S1 P1)
        clear S1 P1
        go_wp2_with fail
        refine (C3.out _ H.out.pa).mono ?_
        rintro e W1 ⟨rfl, S1, j1, P1⟩
        replace H := Lib.hid (H.out.step S1 P1)
        clear S1 P1
        go_wp2_with (refine wpList_store_row rfl 23 (.tmp 2) (.tmp 33) rfl w.heap.size #[.int .u64 0, .int .u64 0, .int .u64 0, .int .u64 0] rfl rfl 23 _ H.out.r Try.size4 rfl (by simp [Value.oneCell']) ?_)
        exact bodyPost_ret (run_ct rfl _ _ _ w.heap.size _ (.bool false) rfl rfl (run_loadVar_row _ _ _ _ _ _ _ (H.out.fin _).2.2 Try.underlying23 rfl Try.size4)) rfl (item_post H.out #[.int .u64 0, .int .u64 0, .int .u64 0, .int .u64 0] _ false R.out rfl (fun _ _ _ e => by cases e))
      | some q =>
        obtain ⟨hi, k⟩ := q
        have ⟨l2, _, _⟩ := byte1_lt h3
        have C3 := Lib.hid (fun W => bb_some (P := P) (d := d) sI inside mem_I h3 W)
        by_cases h4 : hi < lo
        · have R : Hid (item (txt8 s) i = none) := by show _ = _; unfold item; rw [h1]; simp only [h2, if_true, h3, if_pos h4]
          have hz : (hi : Int) < (lo : Int) := by omega
          clear h1 h2 h3 h4
          go_enter Try.func58, Try.ntmps58
          go_wp2_with fail
          refine (C1.out _ H.out.pa).mono ?_
          rintro e W1 ⟨rfl, S1, P1⟩
          replace H := Lib.hid (H.out.step S1 P1)
          clear S1 P1
          go_wp2_with fail
          refine (C2.out _ H.out.pa).mono ?_
          rintro e W1 ⟨rfl, S1, P1⟩
          replace H := Lib.hid (H.out.step S1 P1)
          clear S1 P1
          go_wp2_with fail
          refine (C3.out _ H.out.pa).mono ?_
          rintro e W1 ⟨rfl, S1, P1⟩
          replace H := Lib.hid (H.out.step S1 P1)
          clear S1 P1
          go_wp2_with (refine wpList_store_row rfl 23 (.tmp 2) (.tmp 33) rfl w.heap.size #[.int .u64 0, .int .u64 0, .int .u64 0, .int .u64 0] rfl rfl 23 _ H.out.r Try.size4 rfl (by simp [Value.oneCell']) ?_)
          exact bodyPost_ret (run_ct rfl _ _ _ w.heap.size _ (.bool false) rfl rfl (run_loadVar_row _ _ _ _ _ _ _ (H.out.fin _).2.2 Try.underlying23 rfl Try.size4)) rfl (item_post H.out #[.int .u64 0, .int .u64 0, .int .u64 0, .int .u64 0] _ false R.out rfl (fun _ _ _ e => by cases e))
        · have R : Hid (item (txt8 s) i = some (lo, hi, k)) := by show _ = _; unfold item; rw [h1]; simp only [h2, if_true, h3, if_neg h4]
          have hz : ¬ (hi : Int) < (lo : Int) := by omega
          have SP := Lib.hid (fun W => span_any lo hi (by omega) (by omega) W)
          unfold set4 at SP
          obtain ⟨U, hU⟩ : ∃ U, span none4 lo (hi + 1 - lo) = U := ⟨_, rfl⟩
          rw [hU] at SP
          have HU := Lib.hid hU
          clear hU
          clear h1 h2 h3 h4
          go_enter Try.func58, Try.ntmps58
          go_wp2_with fail
          refine (C1.out _ H.out.pa).mono ?_
          rintro e W1 ⟨rfl, S1, P1⟩
          replace H := Lib.hid (H.out.step S1 P1)
          clear S1 P1
          go_wp2_with fail
          refine (C2.out _ H.out.pa).mono ?_
          rintro e W1 ⟨rfl, S1, P1⟩
          replace H := Lib.hid (H.out.step S1 P1)
          clear S1 P1
          go_wp2_with fail
          refine (C3.out _ H.out.pa).mono ?_
          rintro e W1 ⟨rfl, S1, P1⟩
          replace H := Lib.hid (H.out.step S1 P1)
          clear S1 P1
          go_wp2_with fail
          refine (SP.out _).mono ?_
          rintro e W1 ⟨rfl, B1⟩
          replace H := Lib.hid (H.out.grow B1)
          clear B1
          go_wp2_with (refine wpList_store_row rfl 23 (.tmp 2) (.tmp 36) rfl w.heap.size #[.int .u64 (U 0 : Int), .int .u64 (U 1 : Int), .int .u64 (U 2 : Int), .int .u64 (U 3 : Int)] rfl rfl 23 _ H.out.r Try.size4 rfl (by simp [Value.oneCell']) ?_)
          exact bodyPost_ret (run_ct rfl _ _ _ w.heap.size _ (.bool true) rfl rfl (run_loadVar_row _ _ _ _ _ _ _ (H.out.fin _).2.2 Try.underlying23 rfl Try.size4)) rfl (item_post H.out #[.int .u64 (U 0 : Int), .int .u64 (U 1 : Int), .int .u64 (U 2 : Int), .int .u64 (U 3 : Int)] _ true R.out (by rw [itemRes, HU.out]; rfl) (fun _ _ _ e => by simp at e; omega))
    · have C2 := Lib.hid (fun W => skip_no (P := P) (d := d) h2 (by omega) W)
      have R : Hid (item (txt8 s) i = some (lo, lo, j)) := by show _ = _; unfold item; rw [h1]; simp only [if_neg h2]
      have SP := Lib.hid (fun W => span_any lo lo (by omega) (by omega) W)
      unfold set4 at SP
      obtain ⟨U, hU⟩ : ∃ U, span none4 lo (lo + 1 - lo) = U := ⟨_, rfl⟩
      rw [hU] at SP
      have HU := Lib.hid hU
      clear hU
      clear h1 h2
      go_enter Try.func58, Try.ntmps58
      go_wp2_with fail
      refine (C1.out _ H.out.pa).mono ?_
      rintro e W1 ⟨rfl, S1, P1⟩
      replace H := Lib.hid (H.out.step S1 P1)
      clear S1 P1
      go_wp2_with fail
      refine (C2.out _ H.out.pa).mono ?_
      rintro e W1 ⟨rfl, S1, P1⟩
      replace H := Lib.hid (H.out.step S1 P1)
      clear S1 P1
      go_wp2_with fail
      refine (SP.out _).mono ?_
      rintro e W1 ⟨rfl, B1⟩
      replace H := Lib.hid (H.out.grow B1)
      clear B1
      go_wp2_with (refine wpList_store_row rfl 23 (.tmp 2) (.tmp 20) rfl w.heap.size #[.int .u64 (U 0 : Int), .int .u64 (U 1 : Int), .int .u64 (U 2 : Int), .int .u64 (U 3 : Int)] rfl rfl 23 _ H.out.r Try.size4 rfl (by simp [Value.oneCell']) ?_)
      exact bodyPost_ret (run_ct rfl _ _ _ w.heap.size _ (.bool true) rfl rfl (run_loadVar_row _ _ _ _ _ _ _ (H.out.fin _).2.2 Try.underlying23 rfl Try.size4)) rfl (item_post H.out #[.int .u64 (U 0 : Int), .int .u64 (U 1 : Int), .int .u64 (U 2 : Int), .int .u64 (U 3 : Int)] _ true R.out (by rw [itemRes, HU.out]; rfl) (fun _ _ _ e => by simp at e; omega))

end Go.Proofs.Ytjnikeiboefnbaa
