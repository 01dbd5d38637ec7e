/-
  What the program's brackets does. Conditions: at most 40 bytes.
  What the program's joined and repeated do; steps of the parser's walk. Conditions: at most 1000 kids.
  Steps in memory: a row that one owns, appended to, written into; what moves of a world while it grows. Conditions: lengths fit.
  What the program's isNode and Is do: may a tree be? Conditions: at most 1000 nodes.
-/
import Derived.Test.YtlfcjjlgkcfkdaaGreatDoorProg
import Derived.Test.YtlfcjjlgkcfkdaaGreatDoorZ01
import Derived.Test.YtlfcjjlgkcfkdaaGreatDoorZ02
import Derived.Test.YtlfcjjlgkcfkdaaGreatDoorZ04
import Derived.Test.YtlfcjjlgkcfkdaaGreatDoorZ05
import Derived.Test.YtlfcjjlgkcfkdaaGreatDoorZ07
import Derived.Test.YtlfcjjlgkcfkdaaGreatDoorZ06
import Derived.Test.YtlfcjjlgkcfkdaaGreatDoorZ03
import Derived.Deep.LoopGhost
import Derived.Deep.RegionHeld3
import Derived.WalkKit
import Derived.WalkSpells
import Derived.WalkLawsBesides
import Derived.Lib.Hide
import Derived.Below
import Derived.BigQuiet
import Derived.Lib.QuietBelow
import Derived.Laws.StructEq
import Derived.KernelRfl
import Derived.Laws.MakeOwn
import Derived.Laws.OwnMore
import Derived.OwnWalk
import Derived.Laws.CopyOwn
import Derived.Laws.AppendOwn
import Derived.Deep.QuietTactic
import Derived.Lib.Bytealg
import Derived.Laws.Externs
import Derived.Maps.AppendAt
import Derived.StillTailTactics
import Derived.Laws.ResultCell
namespace Go.Proofs.YtlfcjjlgkcfkdaaGreatDoor
open Go.RowKit Go.Sort
open Pz

def zero6 : Array Value := #[.int .i64 0, .int .u64 0, .int .u64 0, .int .u64 0, .int .u64 0, .slice none 0 0]
theorem Tryz.size6 : (Tryz.prog.info? 135).map (·.size) = some 6 := by kernel_rfl
/-- What a part of the parser hands back: a tree and where it ended, or that there is none. -/
def PRes (w : World) (P : Nat) (s : ByteArray) (d : Nat) (r : Option (Rx × Nat)) (e : Ending) (w' : World) : Prop :=
  Stp P w w' ∧ ((∃ t j v, r = some (t, j) ∧ e = .returned (.tuple #[v, .bool true]) ∧ RxIn (fun b => w.heap.size ≤ b) w' v t ∧ Par w' P s j d) ∨ (r = none ∧ e = .returned (.tuple #[.agg zero6, .bool false]) ∧ ∃ j, Par w' P s j d))
theorem pres_none {w W : World} {P j d : Nat} {s : ByteArray} {r : Option (Rx × Nat)} (hr : r = none) (h : At w P s j d zero6 135 W) : PRes w P s d r (.returned (.tuple #[.agg zero6, .bool false])) (W.setRow w.heap.size zero6) :=
  ⟨(h.fin _).1, .inr ⟨hr, rfl, j, (h.fin _).2.1⟩⟩
theorem pres_some {w W : World} {P j d : Nat} {s : ByteArray} {r : Option (Rx × Nat)} {cs : Array Value} {t : Rx} (hr : r = some (t, j)) (h : At w P s j d zero6 135 W) (ht : RxIn (fun b => w.heap.size + 1 ≤ b) W (.agg cs) t) : PRes w P s d r (.returned (.tuple #[.agg cs, .bool true])) (W.setRow w.heap.size cs) :=
  ⟨(h.fin _).1, .inl ⟨t, j, _, hr, rfl, ht.frame (fun b hb => setRow_other _ _ _ _ (by omega)) (fun b _ hb => by omega), (h.fin _).2.1⟩⟩

/-- Four words as cells. -/
def sv (W : Nat → Nat) : Array Value := #[.int .u64 (W 0 : Int), .int .u64 (W 1 : Int), .int .u64 (W 2 : Int), .int .u64 (W 3 : Int)]
/-- Four words in a block of their own. -/
def Row4 (w : World) (g : Nat) (W : Nat → Nat) : Prop := w.heap[g]? = some (.cells (sv W) 132 (0, 0))
theorem Row4.lt {w : World} {g : Nat} {W : Nat → Nat} (h : Row4 w g W) : g < w.heap.size := (Array.getElem?_eq_some_iff.1 h).1
theorem Row4.cells {w : World} {g : Nat} {W : Nat → Nat} (h : Row4 w g W) : w.cell? ⟨g, 0, none⟩ = some (.int .u64 (W 0 : Int)) ∧ w.cell? ⟨g, 1, none⟩ = some (.int .u64 (W 1 : Int)) ∧ w.cell? ⟨g, 2, none⟩ = some (.int .u64 (W 2 : Int)) ∧ w.cell? ⟨g, 3, none⟩ = some (.int .u64 (W 3 : Int)) := by
  refine ⟨?_, ?_, ?_, ?_⟩ <;> (rw [cell_of_row _ g _ _ _ _ h]; rfl)
theorem Row4.stp {P g : Nat} {w w' : World} {W : Nat → Nat} (h : Row4 w g W) (hs : Stp P w w') (hne : P < g) : Row4 w' g W := (hs.block g h.lt (by omega)).trans h
theorem Row4.grow {g : Nat} {w w' : World} {W : Nat → Nat} (h : Row4 w g W) (hb : Below w.heap.size w w') : Row4 w' g W := (hb.block g h.lt).trans h
theorem Row4.set {g : Nat} {w : World} {W : Nat → Nat} (h : Row4 w g W) (V : Nat → Nat) : Row4 (w.setRow g (sv V)) g V := setRow_heap _ _ _ _ _ _ h
theorem Row4.other {g g' : Nat} {w : World} {W : Nat → Nat} (h : Row4 w g W) (cs : Array Value) (hne : g ≠ g') : Row4 (w.setRow g' cs) g W := (setRow_other _ _ _ _ hne).trans h
theorem At.row {w W : World} {P i d g : Nat} {s : ByteArray} {row : Array Value} {ty : TypeId} (h : At w P s i d row ty W) (hg : w.heap.size < g) (cs : Array Value) : At w P s i d row ty (W.setRow g cs) :=
  ⟨⟨h.st.os, h.st.tape, h.st.output, by rw [setRow_size]; exact h.st.size, fun k h1 h2 => (setRow_other _ _ _ _ (by omega)).trans (h.st.block k h1 h2)⟩, h.pa.frame (setRow_other _ _ _ _ (by have := h.lt; omega)), h.lt, (setRow_other _ _ _ _ (by omega)).trans h.r⟩
theorem span_join (W : Nat → Nat) (lo : Nat) : ∀ n, span W lo n = join W (span none4 lo n)
  | 0 => by funext k; simp [span, join, none4]
  | n + 1 => by
    funext k
    have ih := congrFun (span_join W lo n)
    show put (span W lo n) (lo + n) k = W k ||| put (span none4 lo n) (lo + n) k
    unfold put
    rw [ih k]
    split
    · unfold join; rw [Nat.or_assoc]
    · rfl
theorem item_lt {s : ByteArray} {i lo hi j : Nat} (h : item (txt8 s) i = some (lo, hi, j)) : lo < 256 ∧ hi < 256 ∧ i < j ∧ j ≤ s.size := by
  unfold item at h
  split at h
  · cases h
  · rename_i lo' j' h1
    have ⟨a1, a2, a3⟩ := byte1_lt h1
    split at h
    · split at h
      · cases h
      · rename_i hi' k' h3
        have ⟨b1, b2, b3⟩ := byte1_lt h3
        split at h
        · cases h
        · simp at h; omega
    · simp at h; omega
/-- An item's bytes; none. -/
def iW : Option (Nat × Nat × Nat) → Nat → Nat
  | none => none4
  | some (lo, hi, _) => span none4 lo (hi + 1 - lo)
theorem iW_fits (r : Option (Nat × Nat × Nat)) : Fits4 (iW r) := by
  cases r with
  | none => exact none4_fits
  | some q => exact span_fits none4_fits _ _
theorem it_any (P i d : Nat) (s : ByteArray) (r : Option (Nat × Nat × Nat)) (hr : item (txt8 s) i = r) (W : World) (hp : Par W P s i d) : Calls Tryz.prog 171 #[.pointer (some ⟨P, 0, none⟩)] W fun e w' => e = .returned (.tuple #[.agg (sv (iW r)), .bool r.isSome]) ∧ Stp P W w' ∧ ∃ j, Par w' P s j d ∧ ∀ lo hi k, r = some (lo, hi, k) → k = j :=
  (item_any P i d s W hp).mono fun e w' ⟨h1, h2, h3⟩ => ⟨by rw [h1, hr]; cases r <;> rfl, h2, by rw [← hr]; exact h3⟩
/-- The items behind one. -/
def cont (S : List Nat) (m : Nat) (W : Nat → Nat) : Option (Nat × Nat × Nat) → Option ((Nat → Nat) × Nat)
  | none => none
  | some (lo, hi, k) => items S m (join W (span none4 lo (hi + 1 - lo))) k
theorem items_step {S : List Nat} {m i : Nat} {W : Nat → Nat} (h : ¬ pk S i = 93) : items S (m + 1) W i = cont S m W (item S i) := by
  rw [items, if_neg h]
  cases item S i with
  | none => rfl
  | some q =>
    obtain ⟨lo, hi, k⟩ := q
    show items S m (span W lo (hi + 1 - lo)) k = items S m (join W (span none4 lo (hi + 1 - lo))) k
    rw [← span_join]
/-- A choice's tree. -/
def clsOf (b : Bool) : Option ((Nat → Nat) × Nat) → Option (Rx × Nat)
  | none => none
  | some (W, m) => some (setOf (if b = true then neg W else W), m)
theorem class_eq (S : List Nat) (n i : Nat) (b : Bool) (i2 : Nat) (hb : b = decide (pk S i = 94)) (hi : i2 = if pk S i = 94 then i + 1 else i) : class1 S n i = clsOf b (cont S n none4 (item S i2)) := by
  subst hb hi
  unfold class1
  simp only
  cases item S (if pk S i = 94 then i + 1 else i) with
  | none => rfl
  | some q =>
    obtain ⟨lo, hi, k⟩ := q
    simp only [cont]
    have : join none4 (span none4 lo (hi + 1 - lo)) = span none4 lo (hi + 1 - lo) := by funext k; simp [join, none4]
    rw [this]
    cases items S n (span none4 lo (hi + 1 - lo)) k with
    | none => rfl
    | some q => obtain ⟨W, m⟩ := q; simp [clsOf]
/-- What the loop of brackets keeps. -/
def BInv (w : World) (P : Nat) (s : ByteArray) (d g : Nat) (r : Option ((Nat → Nat) × Nat)) (m : Nat) (b : Bool) (wr : World) : Prop :=
  ∃ j W, At w P s j d zero6 135 wr ∧ Row4 wr g W ∧ Fits4 W ∧ w.heap.size < g ∧ (if b = true then items (txt8 s) m W j = r ∧ s.size < j + m else r = none)
theorem BInv.mk {w wr : World} {P d g m i j : Nat} {s : ByteArray} {r : Option ((Nat → Nat) × Nat)} {W : Nat → Nat} {q : Option (Nat × Nat × Nat)} (hq : item (txt8 s) i = q) (ha : At w P s j d zero6 135 wr) (hr : Row4 wr g (join W (iW q))) (hW : Fits4 W) (hg : w.heap.size < g) (hj : ∀ lo hi k, q = some (lo, hi, k) → k = j) (hc : cont (txt8 s) m W q = r) (hm : s.size < i + (m + 1)) : BInv w P s d g r m q.isSome wr := by
  refine ⟨j, _, ha, hr, join_fits hW (iW_fits q), hg, ?_⟩
  cases q with
  | none => exact hc.symm
  | some q =>
    obtain ⟨lo, hi, k⟩ := q
    obtain rfl := hj lo hi k rfl
    have := item_lt hq
    exact ⟨hc, by omega⟩
set_option maxRecDepth 100000 in
set_option maxHeartbeats 8000000 in
theorem brackets_any (P i d : Nat) (s : ByteArray) (w : World) (h : Par w P s i d) :
    Calls Tryz.prog 165 #[.pointer (some ⟨P, 0, none⟩)] w (PRes w P s d (class1 (txt8 s) 42 i)) := by
  have H := Lib.hid (At.start h zero6 135)
  have hsm := h.sm
  clear h
  unfold zero6 at H
  obtain ⟨b, i2, hb, SK⟩ : ∃ b i2, Hid (b = decide (pk (txt8 s) i = 94) ∧ i2 = if pk (txt8 s) i = 94 then i + 1 else i) ∧ Hid (∀ W, Par W P s i d → Calls Tryz.prog 138 #[.pointer (some ⟨P, 0, none⟩), .int .u8 94] W fun e w' => e = .returned (.bool b) ∧ Stp P W w' ∧ Par w' P s i2 d) := by
    by_cases h9 : pk (txt8 s) i = 94
    · exact ⟨true, i + 1, ⟨by simp [h9], by simp [h9]⟩, fun W hp => skip_yes h9 (by omega) W hp⟩
    · exact ⟨false, i, ⟨by simp [h9], by simp [h9]⟩, fun W hp => skip_no h9 (by omega) W hp⟩
  obtain ⟨q1, hq1⟩ : ∃ q1, item (txt8 s) i2 = q1 := ⟨_, rfl⟩
  obtain ⟨r, hr⟩ : ∃ r, cont (txt8 s) 42 none4 q1 = r := ⟨_, rfl⟩
  have CE : Hid (class1 (txt8 s) 42 i = clsOf b r) := by
    show _ = _
    rw [class_eq _ _ _ b i2 hb.out.1 hb.out.2, hq1, hr]
  have IT := Lib.hid (fun W => it_any P i2 d s q1 hq1 W)
  have CR := Lib.hid (And.intro hq1 hr)
  clear hb hq1 hr
  unfold sv at IT
  generalize hbq : q1.isSome = bq at *
  obtain ⟨c0, hc0⟩ : ∃ c0, iW q1 0 = c0 := ⟨_, rfl⟩
  obtain ⟨c1, hc1⟩ : ∃ c1, iW q1 1 = c1 := ⟨_, rfl⟩
  obtain ⟨c2, hc2⟩ : ∃ c2, iW q1 2 = c2 := ⟨_, rfl⟩
  obtain ⟨c3, hc3⟩ : ∃ c3, iW q1 3 = c3 := ⟨_, rfl⟩
  rw [hc0, hc1, hc2, hc3] at IT
  have EC : Hid (sv (iW q1) = #[.int .u64 (c0 : Int), .int .u64 (c1 : Int), .int .u64 (c2 : Int), .int .u64 (c3 : Int)] ∧ q1.isSome = bq) := by refine ⟨?_, hbq⟩; unfold sv; rw [hc0, hc1, hc2, hc3]
  clear hc0 hc1 hc2 hc3 hbq
  go_enter Tryz.func165, Tryz.ntmps165
  go_wp2_with fail
  refine (SK.out _ H.out.pa).mono ?_
  rintro e W1 ⟨rfl, S1, P1⟩
  replace H := Lib.hid (H.out.step S1 P1)
  clear S1 P1
  go_wp2_with fail
  refine (IT.out _ H.out.pa).mono ?_
  rintro e W2 ⟨rfl, S1, j1, P1, J1⟩
  replace H := Lib.hid (H.out.step S1 P1)
  clear S1 P1
  have BI : Hid (BInv w P s d W2.heap.size r 42 bq (W2.alloc (.cells #[.int .u64 (c0 : Int), .int .u64 (c1 : Int), .int .u64 (c2 : Int), .int .u64 (c3 : Int)] 132))) := by
    rw [← EC.out.2]
    refine BInv.mk (W := none4) CR.out.1 (H.out.grow ((Below.refl _ _).alloc (Nat.le_refl _) _)) ?_ none4_fits (by have := H.out.big; omega) J1 CR.out.2 (by omega)
    have e : join none4 (iW q1) = iW q1 := by funext k; simp [join, none4]
    rw [e]
    unfold Row4
    rw [EC.out.1]
    exact heap_alloc_new W2 _
  have hg : P < W2.heap.size := by have := H.out.big; have := H.out.lt; omega
  clear H J1 EC IT SK CR
  go_wp2
  generalize W2.alloc (.cells #[.int .u64 (c0 : Int), .int .u64 (c1 : Int), .int .u64 (c2 : Int), .int .u64 (c3 : Int)] 132) = w3 at BI ⊢
  generalize W2.heap.size = g at *
  go_loopg [6] 42 (fun m ok wr => ∃ b1 : Bool, ok = .bool b1 ∧ Hid (BInv w P s d g r m b1 wr))
  case atStart => exact ⟨_, rfl, BI⟩
  case round =>
    clear BI
    obtain ⟨b1, rfl, HI⟩ := hrel
    obtain ⟨j, W, H, RW, FW, hgw, HB⟩ := HI
    have H := Lib.hid H
    have RW := Lib.hid RW
    have FW := Lib.hid FW
    have HB := Lib.hid HB
    cases b1
    · have hr : Hid (class1 (txt8 s) 42 i = none) := by show _ = _; rw [CE.out, show r = none from HB.out]; rfl
      clear HB CE FW RW
      unfold zero6 at H
      go_wp2_with (refine wpList_store_row rfl 135 (.tmp 2) (.tmp 31) rfl w.heap.size #[.int .i64 0, .int .u64 0, .int .u64 0, .int .u64 0, .int .u64 0, .slice none 0 0] rfl rfl 135 _ H.out.r Tryz.size6 rfl (by simp [Value.oneCell']) ?_)
      exact bodyPost_ret (run_ct rfl _ _ _ w.heap.size _ (.bool false) rfl rfl (run_loadVar_row _ _ _ _ _ _ _ (H.out.fin _).2.2 Tryz.underlying135 rfl Tryz.size6)) rfl (pres_none hr.out H.out)
    · obtain ⟨h1, h2⟩ := HB.out
      obtain ⟨m, rfl⟩ : ∃ m, gk = m + 1 := ⟨gk - 1, by have := H.out.pa.le; omega⟩
      by_cases h3 : pk (txt8 s) j = 93
      · rw [items, if_pos h3] at h1
        have hr : Hid (class1 (txt8 s) 42 i = some (setOf (if b = true then neg W else W), j + 1)) := by show _ = _; rw [CE.out, ← h1]; rfl
        have C1 := Lib.hid (fun W => skip_yes (P := P) (d := d) h3 (by omega) W)
        clear HB CE h1 h2 h3
        unfold zero6 at H
        go_wp2_with fail
        refine (C1.out _ H.out.pa).mono ?_
        rintro e W1 ⟨rfl, S1, P1⟩
        replace RW := Lib.hid (RW.out.stp S1 hg)
        replace H := Lib.hid (H.out.step S1 P1)
        clear S1 P1
        obtain ⟨x0, x1, x2, x3⟩ := RW.out.cells
        cases b
        · have h2 : Hid (class1 (txt8 s) 42 i = some (setOf W, j + 1)) := hr.out
          clear hr C1 RW FW
          go_wp2_with (refine wpList_store_row rfl 135 (.tmp 2) (.tmp 36) rfl w.heap.size #[.int .i64 1, .int .u64 (W 0 : Int), .int .u64 (W 1 : Int), .int .u64 (W 2 : Int), .int .u64 (W 3 : Int), .slice none 0 0] rfl rfl 135 _ H.out.r Tryz.size6 rfl (by simp [Value.oneCell']) ?_)
          exact bodyPost_ret (run_ct rfl _ _ _ w.heap.size #[.int .i64 1, .int .u64 (W 0 : Int), .int .u64 (W 1 : Int), .int .u64 (W 2 : Int), .int .u64 (W 3 : Int), .slice none 0 0] (.bool true) rfl rfl (run_loadVar_row _ _ _ _ _ _ _ (H.out.fin _).2.2 Tryz.underlying135 rfl Tryz.size6)) rfl (pres_some h2.out H.out (RxIn.leaf _ _ 1 _ _ _ _))
        · have h2 : Hid (class1 (txt8 s) 42 i = some (setOf (neg W), j + 1)) := hr.out
          have OT := Lib.hid (fun W' => others_any W FW.out W')
          unfold set4 at OT
          clear hr C1 FW
          go_wp2_with fail
          refine (OT.out _).mono ?_
          rintro e W2 ⟨rfl, B1⟩
          replace RW := Lib.hid (RW.out.grow B1)
          replace H := Lib.hid (H.out.grow B1)
          clear B1 x0 x1 x2 x3 OT
          go_wp2_with (first | ((refine wpList_store_row rfl 132 (.tmp 5) (.tmp 34) rfl g (sv (neg W)) rfl rfl 132 _ RW.out Tryz.size4 rfl (by simp [sv, Value.oneCell']) ?_); (replace H := Lib.hid (H.out.row hgw (sv (neg W)))); (obtain ⟨x0, x1, x2, x3⟩ := (RW.out.set (neg W)).cells); (clear RW); (generalize W2.setRow g (sv (neg W)) = W3 at *); (generalize neg W = V at *)) | (refine wpList_store_row rfl 135 (.tmp 2) (.tmp 36) rfl w.heap.size #[.int .i64 1, .int .u64 (V 0 : Int), .int .u64 (V 1 : Int), .int .u64 (V 2 : Int), .int .u64 (V 3 : Int), .slice none 0 0] rfl rfl 135 _ H.out.r Tryz.size6 rfl (by simp [Value.oneCell']) ?_))
          exact bodyPost_ret (run_ct rfl _ _ _ w.heap.size #[.int .i64 1, .int .u64 (V 0 : Int), .int .u64 (V 1 : Int), .int .u64 (V 2 : Int), .int .u64 (V 3 : Int), .slice none 0 0] (.bool true) rfl rfl (run_loadVar_row _ _ _ _ _ _ _ (H.out.fin _).2.2 Tryz.underlying135 rfl Tryz.size6)) rfl (pres_some h2.out H.out (RxIn.leaf _ _ 1 _ _ _ _))
      · rw [items_step h3] at h1
        have C1 := Lib.hid (fun W => skip_no (P := P) (d := d) h3 (by omega) W)
        obtain ⟨q, hq⟩ : ∃ q, item (txt8 s) j = q := ⟨_, rfl⟩
        have I2 := Lib.hid (fun W => it_any P j d s q hq W)
        have FI := Lib.hid (iW_fits q)
        rw [hq] at h1
        have HQ := Lib.hid (And.intro hq (And.intro h1 h2))
        clear HB CE h1 h2 h3 hq
        unfold sv at I2
        go_wp2_with fail
        refine (C1.out _ H.out.pa).mono ?_
        rintro e W1 ⟨rfl, S1, P1⟩
        replace RW := Lib.hid (RW.out.stp S1 hg)
        replace H := Lib.hid (H.out.step S1 P1)
        clear S1 P1 C1
        have RZ : Hid (Row4 (W1.alloc (.cells #[.int .u64 0, .int .u64 0, .int .u64 0, .int .u64 0] 132)) W1.heap.size none4) := heap_alloc_new W1 _
        have hgz : g < W1.heap.size := RW.out.lt
        replace RW := Lib.hid (RW.out.grow ((Below.refl _ _).alloc (Nat.le_refl _) (.cells #[.int .u64 0, .int .u64 0, .int .u64 0, .int .u64 0] 132)))
        replace H := Lib.hid (H.out.grow ((Below.refl _ _).alloc (Nat.le_refl _) (.cells #[.int .u64 0, .int .u64 0, .int .u64 0, .int .u64 0] 132)))
        go_wp2_with fail
        generalize W1.alloc (.cells #[.int .u64 0, .int .u64 0, .int .u64 0, .int .u64 0] 132) = W2 at *
        generalize W1.heap.size = g7 at *
        refine (I2.out _ H.out.pa).mono ?_
        rintro e W3 ⟨rfl, S1, j1, P1, J1⟩
        replace RZ := Lib.hid (RZ.out.stp S1 (by omega))
        replace RW := Lib.hid (RW.out.stp S1 hg)
        replace H := Lib.hid (H.out.step S1 P1)
        have J1 := Lib.hid J1
        clear S1 P1 I2
        go_wp2_with ((refine wpList_store_row rfl 132 (.tmp 7) (.tmp 24) rfl g7 (sv (iW q)) rfl rfl 132 _ RZ.out Tryz.size4 rfl (by simp [sv, Value.oneCell']) ?_); (replace RW := Lib.hid (RW.out.other (sv (iW q)) (Nat.ne_of_lt hgz))); (replace H := Lib.hid (H.out.row (g := g7) (by omega) (sv (iW q)))); (obtain ⟨x0, x1, x2, x3⟩ := RW.out.cells); (obtain ⟨y0, y1, y2, y3⟩ := (RZ.out.set (iW q)).cells); (clear RZ); (generalize W3.setRow g7 (sv (iW q)) = W4 at *))
        have UN := Lib.hid (fun V => union_any W (iW q) FW.out FI.out V)
        unfold set4 at UN
        obtain ⟨U, hU⟩ : ∃ U, join W (iW q) = U := ⟨_, rfl⟩
        rw [hU] at UN
        have HU := Lib.hid hU
        clear hU
        go_wp2_with fail
        refine (UN.out _).mono ?_
        rintro e W5 ⟨rfl, B1⟩
        replace RW := Lib.hid (RW.out.grow B1)
        replace H := Lib.hid (H.out.grow B1)
        clear B1 x0 x1 x2 x3 y0 y1 y2 y3 UN
        go_wp2_with ((refine wpList_store_row rfl 132 (.tmp 5) (.tmp 28) rfl g (sv U) rfl rfl 132 _ RW.out Tryz.size4 rfl (by simp [sv, Value.oneCell']) ?_); (replace H := Lib.hid (H.out.row hgw (sv U))); (replace RW := Lib.hid (RW.out.set U)); (generalize W5.setRow g (sv U) = W6 at *))
        go_wp2
        go_roundg m
        case measure => omega
        case rel => exact ⟨_, rfl, BInv.mk HQ.out.1 H.out (by rw [HU.out]; exact RW.out) FW.out hgw J1.out HQ.out.2.1 HQ.out.2.2⟩

end Go.Proofs.YtlfcjjlgkcfkdaaGreatDoor
namespace Go.Proofs.YtlfcjjlgkcfkdaaGreatDoor
open Go.RowKit Go.Sort
open Pz

theorem val6_eq {V : Nat → Value} {v0 v1 v2 v3 v4 v5 : Value} (h : val6 V = .agg #[v0, v1, v2, v3, v4, v5]) : V 0 = v0 ∧ V 1 = v1 ∧ V 2 = v2 ∧ V 3 = v3 ∧ V 4 = v4 ∧ V 5 = v5 := by simpa [val6] using h
theorem alloc2 (w : World) (o1 o2 : Obj) : ((w.alloc o1).alloc o2).heap[w.heap.size]? = some o1 ∧ ((w.alloc o1).alloc o2).heap[w.heap.size + 1]? = some o2 ∧ ((w.alloc o1).alloc o2).heap.size = w.heap.size + 2 ∧ Below w.heap.size w ((w.alloc o1).alloc o2) := by
  have e1 := heap_alloc_new w o1
  have b1 : Below w.heap.size w (w.alloc o1) := (Below.refl _ _).alloc (Nat.le_refl _) _
  have z1 : (w.alloc o1).heap.size = w.heap.size + 1 := by simp
  generalize w.alloc o1 = w1 at *
  have e2 := heap_alloc_new w1 o2
  rw [z1] at e2
  exact ⟨(heap_alloc_old w1 _ (by omega)).trans e1, e2, by simp; omega, b1.alloc (by omega) _⟩
theorem alloc3 (w : World) (o1 o2 o3 : Obj) : (((w.alloc o1).alloc o2).alloc o3).heap[w.heap.size]? = some o1 ∧ (((w.alloc o1).alloc o2).alloc o3).heap[w.heap.size + 1]? = some o2 ∧ (((w.alloc o1).alloc o2).alloc o3).heap[w.heap.size + 2]? = some o3 ∧ (((w.alloc o1).alloc o2).alloc o3).heap.size = w.heap.size + 3 ∧ Below w.heap.size w (((w.alloc o1).alloc o2).alloc o3) := by
  obtain ⟨e1, e2, z, b⟩ := alloc2 w o1 o2
  generalize (w.alloc o1).alloc o2 = w2 at *
  have e3 := heap_alloc_new w2 o3
  rw [z] at e3
  exact ⟨(heap_alloc_old w2 _ (by omega)).trans e1, (heap_alloc_old w2 _ (by omega)).trans e2, e3, by simp; omega, b.alloc (by omega) _⟩
/-- Six cells of a node. -/
def c6 (op : Int) (a b c d : Nat) (A : Option Addr) (n cap : Nat) : Array Value := #[.int .i64 op, .int .u64 (a : Int), .int .u64 (b : Int), .int .u64 (c : Int), .int .u64 (d : Int), .slice A n cap]
theorem PRes.yes {w w' : World} {P d j : Nat} {s : ByteArray} {r : Option (Rx × Nat)} {t : Rx} {e : Ending} (h : PRes w P s d r e w') (hr : r = some (t, j)) :
    ∃ op a b c d' A n cap, e = .returned (.tuple #[.agg #[.int .i64 op, .int .u64 ((a : Nat) : Int), .int .u64 ((b : Nat) : Int), .int .u64 ((c : Nat) : Int), .int .u64 ((d' : Nat) : Int), .slice A n cap], .bool true]) ∧ RxIn (fun b => w.heap.size ≤ b) w' (.agg (c6 op a b c d' A n cap)) t ∧ Stp P w w' ∧ Par w' P s j d := by
  subst hr
  obtain ⟨st, ⟨t', j', v, hr, he, hx, hp⟩ | ⟨hr, _⟩⟩ := h
  · injection hr with hr; injection hr with h1 h2
    subst h1 h2
    obtain ⟨op, a, b, c, d', A, n, cap, rfl⟩ := hx.form
    exact ⟨op, a, b, c, d', A, n, cap, he, hx, st, hp⟩
  · cases hr
theorem PRes.no {w w' : World} {P d : Nat} {s : ByteArray} {r : Option (Rx × Nat)} {e : Ending} (h : PRes w P s d r e w') (hr : r = none) :
    e = .returned (.tuple #[.agg #[.int .i64 0, .int .u64 0, .int .u64 0, .int .u64 0, .int .u64 0, .slice none 0 0], .bool false]) ∧ Stp P w w' ∧ ∃ j, Par w' P s j d := by
  subst hr
  obtain ⟨st, ⟨_, _, _, hr, _⟩ | ⟨_, he, hp⟩⟩ := h
  · cases hr
  · exact ⟨he, st, hp⟩
/-- A node in a block of its own. -/
def Row6 (w : World) (g : Nat) (cs : Array Value) : Prop := w.heap[g]? = some (.cells cs 135 (0, 0))
theorem Row6.lt {w : World} {g : Nat} {cs : Array Value} (h : Row6 w g cs) : g < w.heap.size := (Array.getElem?_eq_some_iff.1 h).1
theorem Row6.cells {w : World} {g : Nat} {v0 v1 v2 v3 v4 v5 : Value} (h : Row6 w g #[v0, v1, v2, v3, v4, v5]) : w.cell? ⟨g, 0, none⟩ = some v0 ∧ w.cell? ⟨g, 1, none⟩ = some v1 ∧ w.cell? ⟨g, 2, none⟩ = some v2 ∧ w.cell? ⟨g, 3, none⟩ = some v3 ∧ w.cell? ⟨g, 4, none⟩ = some v4 ∧ w.cell? ⟨g, 5, none⟩ = some v5 := by
  refine ⟨?_, ?_, ?_, ?_, ?_, ?_⟩ <;> (rw [cell_of_row _ g _ _ _ _ h]; rfl)
theorem Row6.stp {P g : Nat} {w w' : World} {cs : Array Value} (h : Row6 w g cs) (hs : Stp P w w') (hne : P < g) : Row6 w' g cs := (hs.block g h.lt (by omega)).trans h
theorem Row6.grow {g : Nat} {w w' : World} {cs : Array Value} (h : Row6 w g cs) (hb : Below w.heap.size w w') : Row6 w' g cs := (hb.block g h.lt).trans h
theorem RxIn.under {w w' : World} {B B' : Nat} {v : Value} {t : Rx} (h : RxIn (fun b => B ≤ b) w v t) (hb : Below w.heap.size w w') (hB : B' ≤ B) : RxIn (fun b => B' ≤ b) w' v t := by
  have h2 : RxIn (fun b => B ≤ b ∧ b < w.heap.size) w v t := h.frame (fun _ _ => rfl) (fun b h1 h2 => ⟨h2, h1⟩)
  exact h2.frame (fun b hq => hb.block b hq.2) (fun b _ hq => by omega)
theorem RxIn.stp {P : Nat} {w w' : World} {B B' : Nat} {v : Value} {t : Rx} (h : RxIn (fun b => B ≤ b) w v t) (hs : Stp P w w') (hP : P < B) (hB : B' ≤ B) : RxIn (fun b => B' ≤ b) w' v t := by
  have h2 : RxIn (fun b => B ≤ b ∧ b < w.heap.size) w v t := h.frame (fun _ _ => rfl) (fun b h1 h2 => ⟨h2, h1⟩)
  exact h2.frame (fun b hq => hs.block b hq.2 (by omega)) (fun b _ hq => by omega)
theorem At.grown {w W W' : World} {P i d : Nat} {s : ByteArray} {row : Array Value} {ty : TypeId} {o : Option Nat} (h : At w P s i d row ty W) (hg : W.grownBy W' o) (ho : ∀ k, o = some k → w.heap.size < k) : At w P s i d row ty W' := by
  have hb : ∀ k, k < W.heap.size → k ≤ w.heap.size → W'.heap[k]? = W.heap[k]? := fun k h1 h2 => hg.block k h1 (fun e => by have := ho k e.symm; omega)
  have h1 := h.big
  have h2 := h.lt
  exact ⟨⟨hg.os.trans h.st.os, hg.tape.trans h.st.tape, hg.output.trans h.st.output, Nat.le_trans h.st.size hg.size, fun k q1 q2 => (hb k (by omega) (by omega)).trans (h.st.block k q1 q2)⟩, h.pa.frame (hb P (by omega) (by omega)), h2, (hb _ (by omega) (Nat.le_refl _)).trans h.r⟩
/-- append(v, x) of one tree: the operation. -/
theorem wpList_appR {ops : Array Oper} {rest : List Oper} {o : Oper} {a : Act} {w : World} {Q : Exit → Act → World → Prop} (hgd : o.guard = none) (s x : Operand) (ho : o.op = .call { callee := .builtin .append, args := #[s, x], argTypes := #[133, 133] })
    (base : Nat) (v : Value) (ts : List Rx) (g : Nat) (hs : a.eval s = v) (hx : a.eval x = .slice (some ⟨g, 0, none⟩) 1 1) (h : Kids base w v ts) (V : Nat → Value) (t : Rx) (hV : ∀ i, i < 6 → w.cell? ⟨g, i, none⟩ = some (V i)) (h1 : ∀ i, i < 6 → (V i).oneCell' = true)
    (ht : RxIn (fun b => base ≤ b ∧ b < w.heap.size ∧ v.ownBlock ≠ some b) w (val6 V) t) (hn : ts.length ≤ 1000) (hbase : base ≤ w.heap.size)
    (hk : ∀ v' w', Kids base w' v' (ts ++ [t]) → w.grownBy w' v.ownBlock → wpList Tryz.prog ops Q rest (a.put o.dst v') w') : wpList Tryz.prog ops Q (o :: rest) a w := by
  refine wpList_plain hgd fun K hK => ?_
  obtain ⟨v', w', hr, h2, h3⟩ := run_appR o.type h g V t hV h1 ht hn hbase
  unfold Oper.wp execOp
  simp only [ho, resolve, invoke, builtin, Sem.run_bind, Sem.run_pure, Result.andThen_ok, List.map_toArray, List.map_cons, List.map_nil, hs, hx, hr]
  exact hK _ _ (hk v' w' h2 h3)
theorem joined_two {op : Int} {ts : List Rx} (h : ¬ ts.length = 1) : joined op ts = .mk op 0 0 0 0 ts := by
  match ts, h with
  | [], _ => rfl
  | [_], h => exact absurd rfl h
  | _ :: _ :: _, _ => rfl

set_option maxRecDepth 100000 in
set_option maxHeartbeats 2000000 in
theorem joined_any (op : Int) (ts : List Rx) (base : Nat) (A : Option Addr) (n cap : Nat) (w : World) (hk : Kids base w (.slice A n cap) ts) (hn : ts.length ≤ 1000) :
    Calls Tryz.prog 139 #[.int .i64 op, .slice A n cap] w fun e w' => ∃ op' a b c d A' n' cap', e = .returned (.agg #[.int .i64 op', .int .u64 ((a : Nat) : Int), .int .u64 ((b : Nat) : Int), .int .u64 ((c : Nat) : Int), .int .u64 ((d : Nat) : Int), .slice A' n' cap']) ∧ RxIn (fun b => base ≤ b) w' (.agg (c6 op' a b c d A' n' cap')) (joined op ts) ∧ Below w.heap.size w w' := by
  by_cases h1 : ts.length = 1
  · obtain ⟨t, rfl⟩ := List.length_eq_one_iff.1 h1
    obtain ⟨rfl, g, V, rfl, hc, hx⟩ := hk.one
    obtain ⟨op', a, b, c, d, A', n', cap', hv⟩ := hx.form
    obtain ⟨e0, e1, e2, e3, e4, e5⟩ := val6_eq hv
    have hgl : g < w.heap.size := World.block_lt_of_cell? w _ (hc 0 (by omega))
    have c0 := hc 0 (by omega)
    have c1 := hc 1 (by omega)
    have c2 := hc 2 (by omega)
    have c3 := hc 3 (by omega)
    have c4 := hc 4 (by omega)
    have c5 := hc 5 (by omega)
    rw [e0] at c0
    rw [e1] at c1
    rw [e2] at c2
    rw [e3] at c3
    rw [e4] at c4
    rw [e5] at c5
    have B := Lib.hid (((Below.refl w.heap.size w)).alloc (Nat.le_refl _) (.cells #[.int .i64 op', .int .u64 (a : Int), .int .u64 (b : Int), .int .u64 (c : Int), .int .u64 (d : Int), .slice A' n' cap'] 135))
    rw [hv] at hx
    have X := Lib.hid (hx.under B.out (Nat.le_refl _))
    have HH := Lib.hid (heap_alloc_new w (.cells #[.int .i64 op', .int .u64 (a : Int), .int .u64 (b : Int), .int .u64 (c : Int), .int .u64 (d : Int), .slice A' n' cap'] 135))
    clear hc hv e0 e1 e2 e3 e4 e5 hx h1 hn hk
    go_enter Tryz.func139, Tryz.ntmps139
    go_wp2
    exact bodyPost_ret (results_cell_row rfl _ _ w.heap.size 135 _ (0, 0) _ rfl HH.out Tryz.underlying135 rfl Tryz.size6) rfl ⟨op', a, b, c, d, A', n', cap', rfl, X.out, B.out⟩
  · obtain ⟨rfl, hx⟩ := hk.node op
    have e : Hid (joined op ts = .mk op 0 0 0 0 ts) := joined_two h1
    have h1z : ((ts.length : Int) == 1) = false := by simp; omega
    have B := Lib.hid (((Below.refl w.heap.size w)).alloc (Nat.le_refl _) (.cells #[.int .i64 op, .int .u64 0, .int .u64 0, .int .u64 0, .int .u64 0, .slice A ts.length cap] 135))
    have X := Lib.hid (hx.under B.out (Nat.le_refl _))
    have HH := Lib.hid (heap_alloc_new w (.cells #[.int .i64 op, .int .u64 0, .int .u64 0, .int .u64 0, .int .u64 0, .slice A ts.length cap] 135))
    clear hx h1 hk
    generalize hN : ts.length = N at *
    clear hN
    go_enter Tryz.func139, Tryz.ntmps139
    go_wp2
    exact bodyPost_ret (results_cell_row rfl _ _ w.heap.size 135 _ (0, 0) _ rfl HH.out Tryz.underlying135 rfl Tryz.size6) rfl ⟨op, 0, 0, 0, 0, A, N, cap, rfl, by rw [e.out]; exact X.out, B.out⟩

set_option maxRecDepth 100000 in
set_option maxHeartbeats 2000000 in
theorem repeated_any (op : Int) (t : Rx) (base : Nat) (o : Int) (a b c d : Nat) (A : Option Addr) (n cap : Nat) (w : World) (hb : base ≤ w.heap.size) (hx : RxIn (fun b => base ≤ b) w (.agg (c6 o a b c d A n cap)) t) :
    Calls Tryz.prog 157 #[.int .i64 op, .agg #[.int .i64 o, .int .u64 (a : Int), .int .u64 (b : Int), .int .u64 (c : Int), .int .u64 (d : Int), .slice A n cap]] w fun e w' => ∃ A' n' cap', e = .returned (.agg #[.int .i64 op, .int .u64 0, .int .u64 0, .int .u64 0, .int .u64 0, .slice A' n' cap']) ∧ RxIn (fun b => base ≤ b) w' (.agg (c6 op 0 0 0 0 A' n' cap')) (rep op t) ∧ Below w.heap.size w w' := by
  obtain ⟨_, e2, e3, z, B⟩ := alloc3 w (.cells #[.int .i64 o, .int .u64 (a : Int), .int .u64 (b : Int), .int .u64 (c : Int), .int .u64 (d : Int), .slice A n cap] 135) (.cells #[.int .i64 op, .int .u64 0, .int .u64 0, .int .u64 0, .int .u64 0, .slice (some ⟨w.heap.size + 2, 0, none⟩) 1 1] 135) (.cells #[.int .i64 o, .int .u64 (a : Int), .int .u64 (b : Int), .int .u64 (c : Int), .int .u64 (d : Int), .slice A n cap] 135)
  have X := hx.under B (Nat.le_refl _)
  have HH := Lib.hid e2
  have BB := Lib.hid B
  have RX : Hid (RxIn (fun b => base ≤ b) (((w.alloc (.cells #[.int .i64 o, .int .u64 (a : Int), .int .u64 (b : Int), .int .u64 (c : Int), .int .u64 (d : Int), .slice A n cap] 135)).alloc (.cells #[.int .i64 op, .int .u64 0, .int .u64 0, .int .u64 0, .int .u64 0, .slice (some ⟨w.heap.size + 2, 0, none⟩) 1 1] 135)).alloc (.cells #[.int .i64 o, .int .u64 (a : Int), .int .u64 (b : Int), .int .u64 (c : Int), .int .u64 (d : Int), .slice A n cap] 135)) (.agg (c6 op 0 0 0 0 (some ⟨w.heap.size + 2, 0, none⟩) 1 1)) (rep op t)) := by
    generalize ((w.alloc (.cells #[.int .i64 o, .int .u64 (a : Int), .int .u64 (b : Int), .int .u64 (c : Int), .int .u64 (d : Int), .slice A n cap] 135)).alloc (.cells #[.int .i64 op, .int .u64 0, .int .u64 0, .int .u64 0, .int .u64 0, .slice (some ⟨w.heap.size + 2, 0, none⟩) 1 1] 135)).alloc (.cells #[.int .i64 o, .int .u64 (a : Int), .int .u64 (b : Int), .int .u64 (c : Int), .int .u64 (d : Int), .slice A n cap] 135) = W at *
    refine RxIn.node op 0 0 0 0 [t] (some ⟨w.heap.size + 2, 0, none⟩) 1 (w.heap.size + 2) 0 (fun _ i => (c6 o a b c d A n cap).getD i Go.undef) (Nat.le_refl _) (fun e => by cases e) (fun _ => rfl) (fun _ => by omega) (fun j i hj hi => ?_) (fun j hj => ?_)
    · obtain rfl : j = 0 := by simpa using hj
      obtain ⟨q0, q1, q2, q3, q4, q5⟩ := Row6.cells e3
      match i, hi with
      | 0, _ => exact q0
      | 1, _ => exact q1
      | 2, _ => exact q2
      | 3, _ => exact q3
      | 4, _ => exact q4
      | 5, _ => exact q5
    · obtain rfl : j = 0 := by simpa using hj
      exact X
  clear e2 e3 z B X hx
  go_enter Tryz.func157, Tryz.ntmps157
  go_wp2
  exact bodyPost_ret (results_cell_row rfl _ _ (w.heap.size + 1) 135 _ (0, 0) _ rfl HH.out Tryz.underlying135 rfl Tryz.size6) rfl ⟨_, _, _, rfl, RX.out, BB.out⟩

end Go.Proofs.YtlfcjjlgkcfkdaaGreatDoor
namespace Go.Proofs.YtlfcjjlgkcfkdaaGreatDoor
open Go.RowKit

def cells7 (s : St) : List Value := [.int .i64 s.op, .int .u64 (s.a : Int), .int .u64 (s.b : Int), .int .u64 (s.c : Int), .int .u64 (s.d : Int), .int .i64 s.x, .int .i64 s.y]
def sc (L : List St) : List Value := L.flatMap cells7
theorem sc_app (L M : List St) : sc (L ++ M) = sc L ++ sc M := by simp [sc]
theorem sc_one (s : St) : sc [s] = cells7 s := by simp [sc]
def nthS (L : List St) (j : Nat) : St := L.getD j St.nil
theorem nthS_eq {L : List St} {j : Nat} (h : j < L.length) : nthS L j = L[j] := by simp [nthS, List.getD, List.getElem?_eq_getElem h]
/-- Cell i of a step. -/
def cellS (s : St) (i : Nat) : Value := (cells7 s).getD i Go.undef
theorem cells7_get (s : St) {i : Nat} (h : i < 7) : (cells7 s)[i]? = some (cellS s i) := by
  match i, h with
  | 0, _ => rfl
  | 1, _ => rfl
  | 2, _ => rfl
  | 3, _ => rfl
  | 4, _ => rfl
  | 5, _ => rfl
  | 6, _ => rfl
theorem sc_get : ∀ (L : List St) (j i : Nat), j < L.length → i < 7 → (sc L)[j * 7 + i]? = some (cellS (nthS L j) i)
  | x :: r, 0, i, _, hi => by
    show (cells7 x ++ sc r)[0 * 7 + i]? = _
    rw [Nat.zero_mul, Nat.zero_add, List.getElem?_append_left (by simp [cells7]; omega), cells7_get x hi]; rfl
  | x :: r, j + 1, i, hj, hi => by
    show (cells7 x ++ sc r)[(j + 1) * 7 + i]? = _
    rw [List.getElem?_append_right (by simp [cells7]; omega)]
    have := sc_get r j i (by simpa using hj) hi
    rw [show (j + 1) * 7 + i - (cells7 x).length = j * 7 + i by simp [cells7]; omega, this]
    rfl
/-- A store into a field of a step. -/
theorem sc_set (f : St → Int → St) (i : Nat) (hf : ∀ (s : St) (z : Int), (cells7 s).set i (.int .i64 z) = cells7 (f s z)) (hi : i < 7) (z : Int) : ∀ (L : List St) (j : Nat), j < L.length → (sc L).set (j * 7 + i) (.int .i64 z) = sc (L.set j (f (nthS L j) z))
  | x :: r, 0, _ => by
    show (cells7 x ++ sc r).set (0 * 7 + i) _ = _
    rw [Nat.zero_mul, Nat.zero_add, List.set_append_left _ _ (by simp [cells7]; omega), hf]; rfl
  | x :: r, j + 1, h => by
    show (cells7 x ++ sc r).set ((j + 1) * 7 + i) _ = _
    rw [List.set_append_right _ _ (by simp [cells7]; omega), show (j + 1) * 7 + i - (cells7 x).length = j * 7 + i by simp [cells7]; omega, sc_set f i hf hi z r j (by simpa using h)]
    rfl
def St.setX (s : St) (z : Int) : St := { s with x := z }
def St.setY (s : St) (z : Int) : St := { s with y := z }
theorem sc_setX (L : List St) (j : Nat) (z : Int) (h : j < L.length) : (sc L).set (j * 7 + 5) (.int .i64 z) = sc (L.set j ((nthS L j).setX z)) := sc_set St.setX 5 (fun _ _ => rfl) (by omega) z L j h
theorem sc_setY (L : List St) (j : Nat) (z : Int) (h : j < L.length) : (sc L).set (j * 7 + 6) (.int .i64 z) = sc (L.set j ((nthS L j).setY z)) := sc_set St.setY 6 (fun _ _ => rfl) (by omega) z L j h
theorem Tryz.infoS : (Tryz.prog.info? 163).map (fun i => (i.zero, i.size, i.bytes)) = some (some (.agg #[.int .i64 0, .int .u64 0, .int .u64 0, .int .u64 0, .int .u64 0, .int .i64 0, .int .i64 0]), 7, 56) := by kernel_rfl

/-- A row of steps that one owns. -/
def Steps (base : Nat) (w : World) (v : Value) (L : List St) : Prop := w.ownsRow base 163 7 v L.length (sc L)
theorem Steps.nil (base : Nat) (w : World) : Steps base w (.slice none 0 0) [] := World.ownsRow_nil _ _ _ _
/-- What moves of a world while v grows to v'. -/
structure Moved (w : World) (v : Value) (w' : World) (v' : Value) : Prop where
  os : w'.os = w.os
  tape : w'.tape = w.tape
  output : w'.output = w.output
  size : w.heap.size ≤ w'.heap.size
  block : ∀ k, k < w.heap.size → some k ≠ v.ownBlock → w'.heap[k]? = w.heap[k]?
  own : v'.ownBlock = v.ownBlock ∨ ∃ g, v'.ownBlock = some g ∧ w.heap.size ≤ g
theorem Moved.refl (w : World) (v : Value) : Moved w v w v := ⟨rfl, rfl, rfl, Nat.le_refl _, fun _ _ _ => rfl, .inl rfl⟩
theorem Moved.trans {w w1 w2 : World} {v v1 v2 : Value} (h : Moved w v w1 v1) (k : Moved w1 v1 w2 v2) : Moved w v w2 v2 := by
  refine ⟨k.os.trans h.os, k.tape.trans h.tape, k.output.trans h.output, Nat.le_trans h.size k.size, fun b hb hne => (k.block b (Nat.lt_of_lt_of_le hb h.size) ?_).trans (h.block b hb hne), ?_⟩
  · rcases h.own with e | ⟨g, e, hg⟩
    · rw [e]; exact hne
    · rw [e]; intro e2; injection e2; omega
  · rcases k.own with e | ⟨g, e, hg⟩
    · rcases h.own with e2 | ⟨g, e2, hg⟩
      · exact .inl (e.trans e2)
      · exact .inr ⟨g, e.trans e2, hg⟩
    · exact .inr ⟨g, e, Nat.le_trans h.size hg⟩
theorem Moved.grow {w w1 w2 : World} {v v1 : Value} (h : Moved w v w1 v1) (k : Below w1.heap.size w1 w2) : Moved w v w2 v1 :=
  ⟨k.os.trans h.os, k.tape.trans h.tape, k.output.trans h.output, Nat.le_trans h.size k.size, fun b hb hne => (k.block b (Nat.lt_of_lt_of_le hb h.size)).trans (h.block b hb hne), h.own⟩
theorem Moved.of {w w' : World} (v : Value) (h : Below w.heap.size w w') : Moved w v w' v := (Moved.refl w v).grow h
theorem Moved.below {B : Nat} {w w' : World} {v v' : Value} (h : Moved w v w' v') (hB : B ≤ w.heap.size) (hv : ∀ k, v.ownBlock = some k → B ≤ k) : Below B w w' :=
  ⟨h.os, h.tape, h.output, h.size, fun k hk => h.block k (by omega) (fun e => by have := hv k e.symm; omega)⟩
theorem Steps.low {base : Nat} {w : World} {v : Value} {L : List St} (h : Steps base w v L) : ∀ k, v.ownBlock = some k → base ≤ k := fun k hk => (h.lt k hk).1
theorem Steps.top {base : Nat} {w : World} {v : Value} {L : List St} (h : Steps base w v L) : ∀ k, v.ownBlock = some k → k < w.heap.size := fun k hk => (h.lt k hk).2
theorem Steps.grow {base : Nat} {w w' : World} {v : Value} {L : List St} (h : Steps base w v L) (hb : Below w.heap.size w w') : Steps base w' v L := by
  refine ⟨h.1, ?_⟩
  rcases h.2 with hn | ⟨g, cap, cur, e, hbg, hg, rest⟩
  · exact .inl hn
  · exact .inr ⟨g, cap, cur, e, hbg, (hb.block g (Array.getElem?_eq_some_iff.1 hg).1).trans hg, rest⟩
theorem Steps.form {base : Nat} {w : World} {A : Option Addr} {n cap : Nat} {L : List St} (h : Steps base w (.slice A n cap) L) : n = L.length := by
  rcases h.2 with ⟨e, h0⟩ | ⟨g, cap', cur, e, rest⟩
  · injection e with e1 e2 e3; omega
  · injection e with e1 e2 e3
theorem Steps.form2 {base : Nat} {w : World} {v : Value} {L : List St} (h : Steps base w v L) (hp : 0 < L.length) : ∃ g cap, v = .slice (some ⟨g, 0, none⟩) L.length cap := by
  rcases h.2 with ⟨e, h0⟩ | ⟨g, cap', cur, e, rest⟩
  · omega
  · exact ⟨g, cap', e⟩
theorem Steps.cell {base : Nat} {w : World} {g n cap : Nat} {L : List St} (h : Steps base w (.slice (some ⟨g, 0, none⟩) n cap) L) {j i : Nat} (hj : j < L.length) (hi : i < 7) : w.cell? ⟨g, j * 7 + i, none⟩ = some (cellS (nthS L j) i) := by
  have := h.cells (g := g) rfl (j * 7 + i) _ (sc_get L j i hj hi)
  rw [add0] at this; exact this
theorem Steps.free {base : Nat} {w : World} {g n cap : Nat} {L : List St} (h : Steps base w (.slice (some ⟨g, 0, none⟩) n cap) L) (j : Nat) : w.frozen? ⟨g, j, none⟩ = false := by
  have e := h.form
  subst e
  exact World.ownsRow.frozenAt h j
theorem Steps.putX {base : Nat} {w : World} {g n cap : Nat} {L : List St} (h : Steps base w (.slice (some ⟨g, 0, none⟩) n cap) L) {j : Nat} (hj : j < L.length) (z : Int) : Steps base (w.setCell ⟨g, j * 7 + 5, none⟩ (.int .i64 z)) (.slice (some ⟨g, 0, none⟩) n cap) (L.set j ((nthS L j).setX z)) ∧ Moved w (.slice (some ⟨g, 0, none⟩) n cap) (w.setCell ⟨g, j * 7 + 5, none⟩ (.int .i64 z)) (.slice (some ⟨g, 0, none⟩) n cap) := by
  have e := h.form
  subst e
  obtain ⟨h1, h2⟩ := World.ownsRow.stored h (j * 7 + 5) (.int .i64 z)
  rw [sc_setX L j z hj] at h1
  refine ⟨by unfold Steps; rw [List.length_set]; exact h1, ⟨h2.os, h2.tape, h2.output, h2.size, fun k hk hne => h2.block k hk hne, .inl rfl⟩⟩
theorem Steps.putY {base : Nat} {w : World} {g n cap : Nat} {L : List St} (h : Steps base w (.slice (some ⟨g, 0, none⟩) n cap) L) {j : Nat} (hj : j < L.length) (z : Int) : Steps base (w.setCell ⟨g, j * 7 + 6, none⟩ (.int .i64 z)) (.slice (some ⟨g, 0, none⟩) n cap) (L.set j ((nthS L j).setY z)) ∧ Moved w (.slice (some ⟨g, 0, none⟩) n cap) (w.setCell ⟨g, j * 7 + 6, none⟩ (.int .i64 z)) (.slice (some ⟨g, 0, none⟩) n cap) := by
  have e := h.form
  subst e
  obtain ⟨h1, h2⟩ := World.ownsRow.stored h (j * 7 + 6) (.int .i64 z)
  rw [sc_setY L j z hj] at h1
  refine ⟨by unfold Steps; rw [List.length_set]; exact h1, ⟨h2.os, h2.tape, h2.output, h2.size, fun k hk hne => h2.block k hk hne, .inl rfl⟩⟩
theorem nthS_mid {L M : List St} {s : St} {n : Nat} (h : L.length = n) : nthS (L ++ s :: M) n = s := by subst h; simp [nthS, List.getD]
theorem set_mid {L M : List St} {s s' : St} {n : Nat} (h : L.length = n) : (L ++ s :: M).set n s' = L ++ s' :: M := by subst h; simp
theorem Steps.fixY {base : Nat} {w : World} {g m cap n : Nat} {L M : List St} {s : St} (h : Steps base w (.slice (some ⟨g, 0, none⟩) m cap) (L ++ s :: M)) (hL : L.length = n) (z : Int) {s' : St} (hs : s.setY z = s') :
    Steps base (w.setCell ⟨g, n * 7 + 6, none⟩ (.int .i64 z)) (.slice (some ⟨g, 0, none⟩) m cap) (L ++ s' :: M) ∧ Moved w (.slice (some ⟨g, 0, none⟩) m cap) (w.setCell ⟨g, n * 7 + 6, none⟩ (.int .i64 z)) (.slice (some ⟨g, 0, none⟩) m cap) := by
  have hn : n < (L ++ s :: M).length := by rw [List.length_append, List.length_cons]; omega
  have := h.putY hn z
  rw [nthS_mid hL, set_mid hL, hs] at this
  exact this
/-- append(v, s) of one step, which a literal's row holds. -/
theorem wpList_appS {ops : Array Oper} {rest : List Oper} {o : Oper} {a : Act} {w : World} {Q : Exit → Act → World → Prop} {cs : Array Value} (hgd : o.guard = none) (sl x : Operand) (ho : o.op = .call { callee := .builtin .append, args := #[sl, x], argTypes := #[106, 106] })
    (base : Nat) (v : Value) (L : List St) (n : Nat) (s : St) (g : Nat) (hs : a.eval sl = v) (hx : a.eval x = .slice (some ⟨g, 0, none⟩) 1 1) (hg : w.heap.size = g) (hcs : cs = (cells7 s).toArray) (h : Steps base w v L) (hL : L.length = n) (hn : n ≤ 100000) (hbase : base ≤ w.heap.size)
    (hk : ∀ g' cap' w', Steps base w' (.slice (some ⟨g', 0, none⟩) (n + 1) cap') (L ++ [s]) → Moved w v w' (.slice (some ⟨g', 0, none⟩) (n + 1) cap') → wpList Tryz.prog ops Q rest (a.put o.dst (.slice (some ⟨g', 0, none⟩) (n + 1) cap')) w') : wpList Tryz.prog ops Q (o :: rest) a (w.alloc (.cells cs 163)) := by
  subst hcs
  subst hL
  subst hg
  have B1 : Below w.heap.size w (w.alloc (.cells (cells7 s).toArray 163)) := (Below.refl _ _).alloc (Nat.le_refl _) _
  have hnew := heap_alloc_new w (.cells (cells7 s).toArray 163)
  have h1 : Steps base (w.alloc (.cells (cells7 s).toArray 163)) v L := h.grow B1
  have z1 : (w.alloc (.cells (cells7 s).toArray 163)).heap.size = w.heap.size + 1 := by simp
  generalize w.alloc (.cells (cells7 s).toArray 163) = w1 at *
  obtain ⟨i0, hi, hz0, hz1, hz2⟩ := info_parts Tryz.infoS
  refine wpList_append_own_at (P := Tryz.prog) w1 hgd sl x 106 ho base 163 i0 _ 7 56 Tryz.underlying106 hi hz0 hz1 hz2 rfl (by decide) v L.length (sc L) hs h1 ⟨w.heap.size, 0, none⟩ 1 1 (cells7 s) hx rfl ?_ ?_ (by unfold maxLen; omega) (by omega) (by omega) ?_
  · intro j u hj
    rw [add0, cell_of_row _ w.heap.size j _ _ _ hnew]
    simpa using hj
  · intro u hu
    simp only [cells7, List.mem_cons, List.not_mem_nil, or_false] at hu
    rcases hu with rfl | rfl | rfl | rfl | rfl | rfl | rfl <;> rfl
  · intro v' w' h2 h3 h4 h5
    have hS : Steps base w' v' (L ++ [s]) := by unfold Steps; rw [List.length_append, sc_app, sc_one]; exact h2
    obtain ⟨g', cap', e⟩ := hS.form2 (by simp)
    rw [List.length_append, List.length_singleton] at e
    subst e
    refine hk g' cap' w' hS ?_
    have M1 : Moved w v w1 v := Moved.of v B1
    refine M1.trans ⟨h3.os, h3.tape, h3.output, h3.size, fun k hk hne => h3.block k hk hne, ?_⟩
    rcases h5 with e | e
    · exact .inl e
    · exact .inr ⟨_, e, Nat.le_refl _⟩
/-- A tree lies in blocks that are there. -/
theorem IsRx.in {w : World} {v : Value} {t : Rx} (h : IsRx w v t) : RxIn (fun b => b < w.heap.size) w v t := by
  induction h with
  | node op a b c d ks A cap blk off V hcap hA hp hc hk ih => exact .node op a b c d ks A cap blk off V hcap hA hp (fun h0 => World.block_lt_of_cell? w _ (hc 0 0 h0 (by omega))) hc ih
theorem RxIn.low {B : Nat} {w w' : World} {v : Value} {t : Rx} (h : RxIn (fun b => b < B) w v t) (hb : Below B w w') : RxIn (fun b => b < B) w' v t := h.frame (fun b hq => hb.block b hq) (fun _ _ hq => hq)
/-- A node's box, and what it holds while a row grows that lies elsewhere. -/
theorem Moved.box {w w' : World} {v v' : Value} {B : Nat} {v0 v1 v2 v3 v4 v5 : Value} {ty : TypeId} (h : Moved w v w' v') (hb : w.heap[B]? = some (.cells #[v0, v1, v2, v3, v4, v5] ty (0, 0))) (hne : some B ≠ v.ownBlock) :
    w'.cell? ⟨B, 0, none⟩ = some v0 ∧ w'.cell? ⟨B, 1, none⟩ = some v1 ∧ w'.cell? ⟨B, 2, none⟩ = some v2 ∧ w'.cell? ⟨B, 3, none⟩ = some v3 ∧ w'.cell? ⟨B, 4, none⟩ = some v4 ∧ w'.cell? ⟨B, 5, none⟩ = some v5 := by
  have e2 : w'.heap[B]? = _ := (h.block B (Array.getElem?_eq_some_iff.1 hb).1 hne).trans hb
  refine ⟨?_, ?_, ?_, ?_, ?_, ?_⟩ <;> (rw [cell_of_row _ B _ _ ty (0, 0) e2]; rfl)
theorem Steps.at {base : Nat} {w : World} {g m cap n : Nat} {L M : List St} {s : St} (h : Steps base w (.slice (some ⟨g, 0, none⟩) m cap) (L ++ s :: M)) (hL : L.length = n) : w.cell? ⟨g, n * 7 + 6, none⟩ = some (.int .i64 s.y) ∧ w.cell? ⟨g, n * 7 + 5, none⟩ = some (.int .i64 s.x) ∧ w.frozen? ⟨g, n * 7 + 6, none⟩ = false ∧ w.frozen? ⟨g, n * 7 + 5, none⟩ = false := by
  have hn : n < (L ++ s :: M).length := by rw [List.length_append, List.length_cons]; omega
  have c6 := h.cell (i := 6) hn (by omega)
  have c5 := h.cell (i := 5) hn (by omega)
  rw [nthS_mid hL] at c6 c5
  exact ⟨c6, c5, h.free _, h.free _⟩

end Go.Proofs.YtlfcjjlgkcfkdaaGreatDoor
namespace Go.Proofs.YtlfcjjlgkcfkdaaGreatDoor
open Go.RowKit Go.Sort

set_option maxRecDepth 100000 in
theorem set_neq4 (a b c d a' b' c' d' : Int) : ∀ W, (binOp .neq 132 (.agg #[.int .u64 a, .int .u64 b, .int .u64 c, .int .u64 d]) (.agg #[.int .u64 a', .int .u64 b', .int .u64 c', .int .u64 d'])).run Tryz.prog W = .ok (.bool (!(a == a' && b == b' && c == c' && d == d'))) W := by
  intro W
  have h := set_eql a b c d a' b' c' d' W
  rw [run_eql_struct] at h
  rw [run_neq_struct]
  cases hx : (Op.equalIn 10000 132 (.agg #[.int .u64 a, .int .u64 b, .int .u64 c, .int .u64 d]) (.agg #[.int .u64 a', .int .u64 b', .int .u64 c', .int .u64 d'])).run Tryz.prog W with
  | ok x w' =>
    rw [hx] at h
    simp only [Result.andThen] at h ⊢
    injection h with h1 h2
    injection h1 with h1
    rw [h1, h2]
  | _ => rw [hx] at h; simp [Result.andThen] at h
/-- May a node be, whatever its kids are? -/
def nodeB (op : Int) (a b c d N : Nat) : Bool := if op = 1 then N == 0 else (a == 0 && b == 0 && c == 0 && d == 0) && Rx.may op N

set_option maxRecDepth 100000 in
set_option maxHeartbeats 4000000 in
theorem isNode_any (op : Int) (a b c d N cap : Nat) (A : Option Addr) (w : World) (hN : N ≤ 1000) :
    Calls Tryz.prog 153 #[.agg #[.int .i64 op, .int .u64 (a : Int), .int .u64 (b : Int), .int .u64 (c : Int), .int .u64 (d : Int), .slice A N cap]] w fun e w' => e = .returned (.bool (nodeB op a b c d N)) ∧ Below w.heap.size w w' := by
  have BW0 : Hid (Below w.heap.size w (w.alloc (.cells #[.int .i64 op, .int .u64 (a : Int), .int .u64 (b : Int), .int .u64 (c : Int), .int .u64 (d : Int), .slice A N cap] 135))) := (Below.refl _ _).alloc (Nat.le_refl _) _
  have e0 : ((N : Int) == 0) = (N == 0) := by rw [Bool.eq_iff_iff]; simp
  have e1 : ((N : Int) == 1) = (N == 1) := by rw [Bool.eq_iff_iff]; simp; omega
  have e2 : (decide ((N : Int) ≥ 1)) = decide (1 ≤ N) := by rw [Bool.eq_iff_iff]; simp; omega
  have E0 := Lib.hid e0
  have E1 := Lib.hid e1
  have E2 := Lib.hid e2
  clear e0 e1 e2
  have EQ := set_neq4 (a : Int) b c d 0 0 0 0
  have ez : ((a : Int) == 0 && (b : Int) == 0 && (c : Int) == 0 && (d : Int) == 0) = (a == 0 && b == 0 && c == 0 && d == 0) := by rw [Bool.eq_iff_iff]; simp
  rw [ez] at EQ
  clear ez
  by_cases o1 : op = 1
  · subst o1
    have RX : Hid (nodeB 1 a b c d N = (N == 0)) := rfl
    clear EQ
    go_enter Tryz.func153, Tryz.ntmps153
    go_wp2
    go_ret
    exact ⟨by rw [RX.out, ← E0.out]; rfl, BW0.out⟩
  have RX0 : Hid (nodeB op a b c d N = ((a == 0 && b == 0 && c == 0 && d == 0) && Rx.may op N)) := by show _ = _; unfold nodeB; rw [if_neg o1]
  have p1 : (op == 1) = false := by simpa using o1
  cases hz : (a == 0 && b == 0 && c == 0 && d == 0)
  · rw [hz] at EQ RX0
    simp only [Bool.not_false, Bool.false_and] at EQ RX0
    clear hz o1
    go_enter Tryz.func153, Tryz.ntmps153
    go_wp2
    go_ret
    exact ⟨by rw [RX0.out]; rfl, BW0.out⟩
  rw [hz] at EQ RX0
  simp only [Bool.not_true, Bool.true_and] at EQ RX0
  clear hz
  by_cases o2 : op = 2
  · subst o2
    clear o1 p1
    go_enter Tryz.func153, Tryz.ntmps153
    go_wp2
    go_ret
    exact ⟨by rw [RX0.out]; rfl, BW0.out⟩
  by_cases o3 : op = 3
  · subst o3
    have R : Hid (Rx.may 3 N = decide (1 ≤ N)) := by show _ = _; simp [Rx.may]
    clear o1 p1 o2
    go_enter Tryz.func153, Tryz.ntmps153
    go_wp2
    go_ret
    exact ⟨by rw [RX0.out, R.out, ← E2.out]; rfl, BW0.out⟩
  by_cases o4 : op = 4
  · subst o4
    have R : Hid (Rx.may 4 N = (N == 1)) := by show _ = _; simp [Rx.may]
    clear o1 p1 o2 o3
    go_enter Tryz.func153, Tryz.ntmps153
    go_wp2
    go_ret
    exact ⟨by rw [RX0.out, R.out, ← E1.out]; rfl, BW0.out⟩
  by_cases o5 : op = 5
  · subst o5
    have R : Hid (Rx.may 5 N = (N == 1)) := by show _ = _; simp [Rx.may]
    clear o1 p1 o2 o3 o4
    go_enter Tryz.func153, Tryz.ntmps153
    go_wp2
    go_ret
    exact ⟨by rw [RX0.out, R.out, ← E1.out]; rfl, BW0.out⟩
  by_cases o6 : op = 6
  · subst o6
    have R : Hid (Rx.may 6 N = (N == 1)) := by show _ = _; simp [Rx.may]
    clear o1 p1 o2 o3 o4 o5
    go_enter Tryz.func153, Tryz.ntmps153
    go_wp2
    go_ret
    exact ⟨by rw [RX0.out, R.out, ← E1.out]; rfl, BW0.out⟩
  have R : Hid (Rx.may op N = false) := by show _ = _; simp [Rx.may, o2, o3, o4, o5, o6]
  have p2 : (op == 2) = false := by simpa using o2
  have p3 : (op == 3) = false := by simpa using o3
  have p4 : (op == 4) = false := by simpa using o4
  have p5 : (op == 5) = false := by simpa using o5
  have p6 : (op == 6) = false := by simpa using o6
  clear o1 o2 o3 o4 o5 o6
  go_enter Tryz.func153, Tryz.ntmps153
  go_wp2
  go_ret
  exact ⟨by rw [RX0.out, R.out]; rfl, BW0.out⟩

/-- The cells of a node are what they are. -/
theorem IsRx.form {w : World} {V : Nat → Value} {t : Rx} (h : IsRx w (val6 V) t) : ∃ (op : Int) (a b c d : Nat) (A : Option Addr) (n cap : Nat), V 0 = .int .i64 op ∧ V 1 = .int .u64 (a : Int) ∧ V 2 = .int .u64 (b : Int) ∧ V 3 = .int .u64 (c : Int) ∧ V 4 = .int .u64 (d : Int) ∧ V 5 = .slice A n cap := by
  generalize hv : val6 V = v at h
  cases h with
  | node op a b c d ks A cap blk off V' hcap hA hp hc hk =>
    unfold val6 at hv
    injection hv with hv
    simp only [Array.mk.injEq, List.cons.injEq, and_true] at hv
    obtain ⟨h0, h1, h2, h3, h4, h5⟩ := hv
    exact ⟨op, a, b, c, d, A, ks.length, cap, h0, h1, h2, h3, h4, h5⟩
set_option maxRecDepth 100000 in
set_option maxHeartbeats 4000000 in
theorem is_any : ∀ (n : Nat) (t : Rx) (v : Value) (w : World), n ≤ 1000 → Rx.count t ≤ n → IsRx w v t → Calls Tryz.prog 140 #[v] w fun e w' => e = .returned (.bool (Rx.isRex t)) ∧ Below w.heap.size w w' := by
  intro n
  induction n with
  | zero => intro t v w _ hs; have := Rx.count_pos t; omega
  | succ n ih =>
    intro t v w hn hs h
    cases h with
    | node op a b c d ks A cap blk off V hcap hA hp hc hk =>
      rw [Rx.count] at hs
      have hsmall := Rx.len_count ks
      have IH : Hid (∀ j, j < ks.length → ∀ W, Below w.heap.size w W → Calls Tryz.prog 140 #[val6 (V j)] W fun e w' => e = .returned (.bool (Rx.isRex (Rx.nth ks j))) ∧ Below W.heap.size W w') := fun j hj W hW => ih _ _ W (by omega) (by have := Rx.nth_count hj; omega) ((hk j hj).grown hW)
      have HC : Hid (∀ W, Below w.heap.size w W → ∀ j i, j < ks.length → i < 6 → W.cell? ⟨blk, off + j * 6 + i, none⟩ = some (V j i)) := fun W hW j i hj hi => (hW.cell (World.block_lt_of_cell? w _ (hc j i hj hi))).trans (hc j i hj hi)
      have HP := Lib.hid hp
      have DR := Lib.hid (fun k => Rx.all_step (ks := ks) (k := k))
      have DE := Lib.hid (Rx.all_end (Nat.le_refl ks.length))
      have CN := Lib.hid (fun W => isNode_any op a b c d ks.length cap A W (by omega))
      have RX0 : Hid (Rx.isRex (.mk op a b c d ks) = (nodeB op a b c d ks.length && Rx.isAll ks)) := by
        show _ = _
        rw [Rx.isRex, nodeB]
        split
        · cases hk : ks with
          | nil => simp [Rx.isAll]
          | cons y r => simp
        · rw [Bool.eq_iff_iff]; simp only [Bool.and_eq_true]; constructor
          · rintro ⟨⟨h1, h2⟩, h3⟩; exact ⟨⟨h3, h1⟩, h2⟩
          · rintro ⟨⟨h3, h1⟩, h2⟩; exact ⟨⟨h1, h2⟩, h3⟩
      have FM := Lib.hid (fun j hj => (hk j hj).form)
      clear hp hc hk ih hA
      obtain ⟨N, hN⟩ : ∃ N, ks.length = N := ⟨_, rfl⟩
      rw [hN] at FM hcap IH HC HP DR DE CN RX0 hsmall ⊢
      have hN1 : N ≤ 1000 := by omega
      clear hN hs hsmall hcap
      have BX := Lib.hid (fun W => box6 (w := w) (v0 := .int .i64 op) (v1 := .int .u64 (a : Int)) (v2 := .int .u64 (b : Int)) (v3 := .int .u64 (c : Int)) (v4 := .int .u64 (d : Int)) (v5 := .slice A N cap) (ty := 135) (W := W))
      have SZ0 : Hid (w.heap.size + 1 ≤ (w.alloc (.cells #[.int .i64 op, .int .u64 (a : Int), .int .u64 (b : Int), .int .u64 (c : Int), .int .u64 (d : Int), .slice A N cap] 135)).heap.size) := by show _ ≤ _; simp
      go_enter Tryz.func140, Tryz.ntmps140
      go_wp2_with fail
      obtain ⟨w0, hw0⟩ : ∃ w0, w.alloc (.cells #[.int .i64 op, .int .u64 (a : Int), .int .u64 (b : Int), .int .u64 (c : Int), .int .u64 (d : Int), .slice A N cap] 135) = w0 := ⟨_, rfl⟩
      rw [hw0] at BX SZ0 ⊢
      clear hw0
      refine (CN.out w0).mono ?_
      rintro e w2 ⟨rfl, b2⟩
      have d2 : Hid (Below (w.heap.size + 1) w0 w2) := b2.mono SZ0.out
      obtain ⟨⟨_, _, _, _, _, q5⟩, BW⟩ := BX.out w2 d2.out
      have BWH := Lib.hid BW
      clear BW b2 CN
      cases hnd : nodeB op a b c d N
      · have R : Hid (Rx.isRex (.mk op a b c d ks) = false) := by show _ = _; rw [RX0.out, hnd]; rfl
        clear hnd RX0
        go_wp2
        go_ret
        exact ⟨by rw [R.out]; rfl, BWH.out⟩
      have R : Hid (Rx.isRex (.mk op a b c d ks) = Rx.isAll ks) := by show _ = _; rw [RX0.out, hnd]; rfl
      clear hnd RX0
      go_wp2
      clear q5
      go_loopw [11] (fun i wr => ∃ k : Nat, k ≤ N ∧ i = .int .i64 (k : Int) ∧ Hid (Below (w.heap.size + 1) w0 wr ∧ Rx.isAll (ks.drop k) = Rx.isAll ks)) (fun i _ => N - (intOf i).toNat)
      case atStart => exact ⟨0, by omega, rfl, d2.out, rfl⟩
      case round =>
        clear d2 BWH
        obtain ⟨k, hk, rfl, HI⟩ := hrel
        obtain ⟨_, BW⟩ := BX.out wr HI.out.1
        have BWH := Lib.hid BW
        have A1 := Lib.hid HI.out.1
        have A2 := Lib.hid HI.out.2
        clear BW HI
        by_cases hkn : k < N
        · have hkz : (k : Int) < (N : Int) := by omega
          have hAe := HP.out (by omega)
          subst hAe
          have c0 := HC.out wr BWH.out k 0 hkn (by omega)
          have c1 := HC.out wr BWH.out k 1 hkn (by omega)
          have c2 := HC.out wr BWH.out k 2 hkn (by omega)
          have c3 := HC.out wr BWH.out k 3 hkn (by omega)
          have c4 := HC.out wr BWH.out k 4 hkn (by omega)
          have c5 := HC.out wr BWH.out k 5 hkn (by omega)
          simp only [Nat.add_zero] at c0
          have SZ : w.heap.size + 1 ≤ wr.heap.size := by have := A1.out.size; have := SZ0.out; omega
          have CK : Hid (∀ W, Below wr.heap.size wr W → Calls Tryz.prog 140 #[val6 (V k)] W fun e w' => e = .returned (.bool (Rx.isRex (Rx.nth ks k))) ∧ Below W.heap.size W w') := fun W hW => IH.out k hkn W (BWH.out.trans (hW.mono (by omega)))
          obtain ⟨op', a', b', c', d', A', n', cap', x0, x1, x2, x3, x4, x5⟩ := FM.out k hkn
          unfold val6 at CK
          rw [x0, x1, x2, x3, x4, x5] at CK
          rw [x0] at c0
          rw [x1] at c1
          rw [x2] at c2
          rw [x3] at c3
          rw [x4] at c4
          rw [x5] at c5
          clear HC IH FM x0 x1 x2 x3 x4 x5
          have DK := Lib.hid (DR.out k hkn)
          have B6 : Hid (Below wr.heap.size wr (wr.alloc (.cells #[.int .i64 op', .int .u64 (a' : Int), .int .u64 (b' : Int), .int .u64 (c' : Int), .int .u64 (d' : Int), .slice A' n' cap'] 135))) := (Below.refl _ _).alloc (Nat.le_refl _) _
          have CKB := Lib.hid (CK.out _ B6.out)
          clear CK
          go_wp2_with fail
          clear c0 c1 c2 c3 c4 c5
          refine CKB.out.mono ?_
          rintro e w' ⟨rfl, b'⟩
          have b7 := Lib.hid (B6.out.trans (b'.mono B6.out.size))
          clear b' CKB B6
          cases hq : Rx.isRex (Rx.nth ks k)
          · rw [hq] at DK
            have R2 : Hid (Rx.isRex (.mk op a b c d ks) = false) := by show _ = _; rw [R.out, ← A2.out, DK.out]; rfl
            have B := Lib.hid (BWH.out.trans (b7.out.mono (by omega)))
            clear hq b7
            go_wp2
            go_ret
            exact ⟨by rw [R2.out]; rfl, B.out⟩
          · rw [hq] at DK
            have B : Hid (Below (w.heap.size + 1) w0 w' ∧ Rx.isAll (ks.drop (k + 1)) = Rx.isAll ks) := ⟨A1.out.trans (b7.out.mono (by omega)), by rw [← A2.out, DK.out]; rfl⟩
            clear hq b7
            go_wp2
            go_roundw
            case rel => exact ⟨k + 1, by omega, by go_num, B⟩
            case measure => simp [intOf]; omega
        · obtain rfl : k = N := by omega
          have hkz : ¬ (k : Int) < (k : Int) := by omega
          have R2 : Hid (Rx.isRex (.mk op a b c d ks) = true) := by show _ = _; rw [R.out, ← A2.out, DE.out]
          clear HC IH FM
          go_wp2
          go_ret
          exact ⟨by rw [R2.out]; rfl, BWH.out⟩

end Go.Proofs.YtlfcjjlgkcfkdaaGreatDoor

