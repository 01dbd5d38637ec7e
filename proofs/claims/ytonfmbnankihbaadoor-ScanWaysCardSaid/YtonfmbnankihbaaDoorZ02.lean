/-
  Rows of bools in a walk (places of a text); what the reference's join and same do. Conditions: no more than 1000 places.
  What the reference's same and Has do. Conditions: no more than 1000 places; words have 64 bits, a byte 8.
-/
import Derived.Test.YtonfmbnankihbaaDoorProg
import Derived.Test.YtonfmbnankihbaaDoorZ01
import Derived.Laws.MakeOwn
import Derived.Laws.OwnMore
import Derived.OwnWalk
import Derived.Deep.RegionHeld3
import Derived.WalkKit
import Derived.WalkSpells
import Derived.WalkLawsBesides
import Derived.Lib.Hide
import Derived.Below
import Derived.BigQuiet
import Derived.Lib.QuietBelow
import Derived.Laws.StructEq
import Derived.KernelRfl
namespace Go.Proofs.YtonfmbnankihbaaDoor
open Go.RowKit Go.Sort

/-- n bools as cells. -/
def bof (n : Nat) (f : Nat → Bool) : List Value := (List.range n).map fun i => Value.bool (f i)
theorem bof_len (n : Nat) (f : Nat → Bool) : (bof n f).length = n := by simp [bof]
theorem bof_get {n : Nat} {f : Nat → Bool} {j : Nat} (h : j < n) : (bof n f)[j]? = some (.bool (f j)) := by simp [bof, h]
theorem bof_congr {n : Nat} {f g : Nat → Bool} (h : ∀ i, i < n → f i = g i) : bof n f = bof n g := by
  unfold bof
  exact List.map_congr_left fun i hi => by rw [h i (by simpa using hi)]
theorem bof_set {n : Nat} {f : Nat → Bool} {k : Nat} (b : Bool) : (bof n f).set k (.bool b) = bof n (fun i => if i = k then b else f i) := by
  refine List.ext_getElem? fun j => ?_
  by_cases hj : j < n
  · rw [bof_get hj, List.getElem?_set]
    by_cases e : k = j
    · subst e; simp [bof_len, hj]
    · rw [if_neg e, if_neg (Ne.symm e), bof_get hj]
  · rw [List.getElem?_eq_none (by simp [bof_len]; omega), List.getElem?_eq_none (by rw [bof_len]; omega)]
/-- The slice at address a reads as these bools. -/
def IsBo (w : World) (a : Option Addr) (n : Nat) (f : Nat → Bool) : Prop :=
  0 < n → ∃ b off, a = some ⟨b, off, none⟩ ∧ ∀ j, j < n → w.cell? ⟨b, off + j, none⟩ = some (.bool (f j))
theorem IsBo.below {w w' : World} {a : Option Addr} {n : Nat} {f : Nat → Bool} (h : IsBo w a n f) (hb : Below w.heap.size w w') : IsBo w' a n f := by
  intro hp
  obtain ⟨b, off, e, hc⟩ := h hp
  exact ⟨b, off, e, fun j hj => (hb.cell (World.block_lt_of_cell? w _ (hc j hj))).trans (hc j hj)⟩
/-- A row of bools of one's own. -/
def OwnB (w : World) (base g n : Nat) (f : Nat → Bool) : Prop := w.ownsRow base 4 1 (.slice (some ⟨g, 0, none⟩) n n) n (bof n f)
theorem OwnB.is {w : World} {base g n : Nat} {f : Nat → Bool} (h : OwnB w base g n f) : IsBo w (some ⟨g, 0, none⟩) n f := fun _ => ⟨g, 0, rfl, fun j hj => by
  have := World.ownsRow.cellAt h (g := g) j (by omega)
  rw [Nat.zero_add, this, bof_get hj]⟩
theorem OwnB.cell {w : World} {base g n : Nat} {f : Nat → Bool} (h : OwnB w base g n f) {j : Nat} (hj : j < n) : w.cell? ⟨g, j, none⟩ = some (.bool (f j)) := by
  have := World.ownsRow.cellAt h (g := g) j (by omega)
  rw [this, bof_get hj]
theorem OwnB.free {w : World} {base g n : Nat} {f : Nat → Bool} (h : OwnB w base g n f) (j : Nat) : w.frozen? ⟨g, j, none⟩ = false := World.ownsRow.frozenAt h j
theorem OwnB.put {w w0 : World} {base g n : Nat} {f : Nat → Bool} (h : OwnB w base g n f) (k : Nat) (b : Bool) (hb : Below base w0 w) (hs : base ≤ w.heap.size) (hg : base ≤ g) :
    OwnB (w.setCell ⟨g, k, none⟩ (.bool b)) base g n (fun i => if i = k then b else f i) ∧ Below base w0 (w.setCell ⟨g, k, none⟩ (.bool b)) ∧ base ≤ (w.setCell ⟨g, k, none⟩ (.bool b)).heap.size := by
  obtain ⟨s1, g1⟩ := World.ownsRow.stored h k (.bool b)
  rw [bof_set] at s1
  exact ⟨s1, hb.grown g1 hs (fun q hq => by injection hq with hq; omega), by have := g1.size; omega⟩
theorem OwnB.keep {w w' : World} {base g n : Nat} {f : Nat → Bool} (h : OwnB w base g n f) (hb : Below w.heap.size w w') : OwnB w' base g n f := by
  refine ⟨h.1, ?_⟩
  rcases h.2 with ⟨e, _⟩ | ⟨g', cap, cur, e, hbg, hg, rest⟩
  · cases e
  · exact .inr ⟨g', cap, cur, e, hbg, (hb.block g' (Array.getElem?_eq_some_iff.1 hg).1).trans hg, rest⟩
theorem Tryd.infoB : (Tryd.prog.info? 4).map (fun i => (i.zero, i.size, i.bytes)) = some (some (.bool false), 1, 1) := by kernel_rfl
theorem made_bof (n : Nat) : madeCells (Value.bool false).cells n = (bof n fun _ => false).toArray := by
  unfold madeCells bof
  refine Array.ext (by simp) fun i h1 h2 => ?_
  simp [Value.cells, Nat.mod_one]
theorem make_bools (n : Nat) (hn : n ≤ 1000) (W : World) : (Instr.makeSlice 73 (.int .i64 (n : Int)) (.int .i64 (n : Int))).run Tryd.prog W = .ok (.slice (some ⟨W.heap.size, 0, none⟩) n n) (W.alloc (.cells (bof n fun _ => false).toArray 4)) := by
  obtain ⟨i0, hi, hz0, hz1, hz2⟩ := info_parts Tryd.infoB
  have := run_make (P := Tryd.prog) W 73 4 i0 (.bool false) Tryd.underlying73 hi hz0 .i64 .i64 (n : Int) (n : Int) (by omega) (by omega) (by rw [hz2]; omega) (by omega)
  rw [this, hz1, Nat.mul_one, Int.toNat_natCast, made_bof]
theorem own_made (n : Nat) (hn : n ≤ 1000) (W : World) : OwnB (W.alloc (.cells (bof n fun _ => false).toArray 4)) W.heap.size W.heap.size n (fun _ => false) :=
  ⟨by rw [bof_len]; omega, .inr ⟨W.heap.size, n, _, rfl, Nat.le_refl _, heap_alloc_new W _, Nat.le_refl _, by unfold maxLen; omega, by simp [bof_len], by simp [bof_len, List.take_of_length_le]⟩⟩

set_option maxRecDepth 100000 in
set_option maxHeartbeats 1000000 in
theorem rjoin_any (n : Nat) (f g : Nat → Bool) (A B : Option Addr) (ca cb : Nat) (w : World) (hn : n ≤ 1000) (ha : IsBo w A n f) (hb : IsBo w B n g) :
    Calls Tryd.prog 64 #[.slice A n ca, .slice B n cb] w fun e w' => (∃ q, e = .returned (.slice (some ⟨q, 0, none⟩) n n) ∧ OwnB w' w.heap.size q n (fun i => f i || g i)) ∧ Below w.heap.size w w' := by
  have HA := Lib.hid (fun W (hW : Below w.heap.size w W) => ha.below hW)
  have HB := Lib.hid (fun W (hW : Below w.heap.size w W) => hb.below hW)
  have MK := make_bools n hn w
  have O0 := own_made n hn w
  have B0 : Below w.heap.size w (w.alloc (.cells (bof n fun _ => false).toArray 4)) := (Below.refl _ _).alloc (Nat.le_refl _) _
  obtain ⟨w0, hw0⟩ : ∃ w0, w.alloc (.cells (bof n fun _ => false).toArray 4) = w0 := ⟨_, rfl⟩
  rw [hw0] at MK O0 B0
  clear ha hb hw0
  have I0 : Hid (OwnB w0 w.heap.size w.heap.size n (fun i => decide (i < 0) && (f i || g i)) ∧ Below w.heap.size w w0 ∧ w.heap.size ≤ w0.heap.size) := ⟨by simpa using O0, B0, B0.size⟩
  clear O0 B0
  go_enter Tryd.func64, Tryd.ntmps64
  go_wp2
  clear MK
  go_loopw [6] (fun i wr => ∃ k : Nat, k ≤ n ∧ i = .int .i64 (k : Int) ∧ Hid (OwnB wr w.heap.size w.heap.size n (fun i => decide (i < k) && (f i || g i)) ∧ Below w.heap.size w wr ∧ w.heap.size ≤ wr.heap.size)) (fun i _ => n - (intOf i).toNat)
  case atStart => exact ⟨0, by omega, rfl, I0⟩
  case round =>
    clear I0
    obtain ⟨k, hk, rfl, HI⟩ := hrel
    by_cases hkn : k < n
    · have hkz : (k : Int) < (n : Int) := by omega
      obtain ⟨b1, o1, rfl, h1⟩ := HA.out wr HI.out.2.1 (by omega)
      obtain ⟨b2, o2, rfl, h2⟩ := HB.out wr HI.out.2.1 (by omega)
      have c1 := h1 k hkn
      have c2 := h2 k hkn
      have c3 := HI.out.1.cell hkn
      have fr := HI.out.1.free k
      obtain ⟨p1, p2, p3⟩ := HI.out.1.put k (f k || g k) HI.out.2.1 HI.out.2.2 (Nat.le_refl _)
      have P : Hid (OwnB (wr.setCell ⟨w.heap.size, k, none⟩ (.bool (f k || g k))) w.heap.size w.heap.size n (fun i => decide (i < k + 1) && (f i || g i)) ∧ Below w.heap.size w (wr.setCell ⟨w.heap.size, k, none⟩ (.bool (f k || g k))) ∧ w.heap.size ≤ (wr.setCell ⟨w.heap.size, k, none⟩ (.bool (f k || g k))).heap.size) := by
        refine ⟨?_, p2, p3⟩
        unfold OwnB at p1 ⊢
        rw [bof_congr (g := fun i => decide (i < k + 1) && (f i || g i))] at p1
        · exact p1
        · intro i hi
          by_cases e : i = k
          · subst e; simp
          · by_cases h : i < k
            · simp [e, h, show i < k + 1 by omega]
            · simp [e, h, show ¬ i < k + 1 by omega]
      clear p1 p2 p3 h1 h2 HI
      cases hf : f k
      · rw [hf] at c1 P
        simp only [Bool.false_or] at P
        generalize g k = y at *
        generalize (decide (k < k) && (f k || y)) = z at *
        clear hf
        go_wp2
        generalize wr.setCell ⟨w.heap.size, k, none⟩ (.bool y) = w5 at *
        clear c1 c2 c3 fr
        go_roundw
        case rel => exact ⟨k + 1, by omega, by go_num, P⟩
        case measure => simp [intOf]; omega
      · rw [hf] at c1 P
        simp only [Bool.true_or] at P
        generalize (decide (k < k) && (f k || g k)) = z at *
        clear hf
        go_wp2
        generalize wr.setCell ⟨w.heap.size, k, none⟩ (.bool true) = w5 at *
        clear c1 c2 c3 fr
        go_roundw
        case rel => exact ⟨k + 1, by omega, by go_num, P⟩
        case measure => simp [intOf]; omega
    · obtain rfl : k = n := by omega
      have hkz : ¬ (k : Int) < (k : Int) := by omega
      have R : Hid (OwnB wr w.heap.size w.heap.size k (fun i => f i || g i)) := by
        have h := HI.out.1
        show OwnB _ _ _ _ _
        unfold OwnB at h ⊢
        rw [bof_congr (g := fun i => f i || g i)] at h
        · exact h
        · intro i hi; simp [hi]
      have B := Lib.hid HI.out.2.1
      clear HI
      go_wp2
      go_ret
      exact ⟨⟨_, rfl, R.out⟩, B.out⟩

end Go.Proofs.YtonfmbnankihbaaDoor
namespace Go.Proofs.YtonfmbnankihbaaDoor
open Go.RowKit Go.Sort

theorem drewN_below {B : Nat} {a w : World} (h : Below B a w) (q : Nat) : Below B a (w.drewN q) := ⟨h.os, h.tape, h.output, h.size, h.block⟩
def sameB (n : Nat) (f g : Nat → Bool) : Bool := decide (∀ i, i < n → f i = g i)
set_option maxRecDepth 100000 in
set_option maxHeartbeats 1000000 in
theorem rsame_any (n : Nat) (f g : Nat → Bool) (A B : Option Addr) (ca cb : Nat) (w : World) (hn : n ≤ 1000) (ha : IsBo w A n f) (hb : IsBo w B n g) :
    Calls Tryd.prog 65 #[.slice A n ca, .slice B n cb] w fun e w' => e = .returned (.bool (sameB n f g)) ∧ Below w.heap.size w w' := by
  have HA := Lib.hid (fun W (hW : Below w.heap.size w W) => ha.below hW)
  have HB := Lib.hid (fun W (hW : Below w.heap.size w W) => hb.below hW)
  clear ha hb
  go_enter Tryd.func65, Tryd.ntmps65
  go_wp2
  go_loopw [5] (fun i wr => ∃ k : Nat, k ≤ n ∧ i = .int .i64 (k : Int) ∧ Hid ((∀ i, i < k → f i = g i) ∧ Below w.heap.size w wr)) (fun i _ => n - (intOf i).toNat)
  case atStart => exact ⟨0, by omega, rfl, fun i hi => by omega, Below.refl _ _⟩
  case round =>
    obtain ⟨k, hk, rfl, HI⟩ := hrel
    by_cases hkn : k < n
    · have hkz : (k : Int) < (n : Int) := by omega
      obtain ⟨b1, o1, rfl, h1⟩ := HA.out wr HI.out.2 (by omega)
      obtain ⟨b2, o2, rfl, h2⟩ := HB.out wr HI.out.2 (by omega)
      have c1 := h1 k hkn
      have c2 := h2 k hkn
      have AL := Lib.hid HI.out.1
      have BL := Lib.hid HI.out.2
      clear h1 h2 HI
      by_cases e : f k = g k
      · have E := Lib.hid e
        rw [e] at c1
        clear e
        cases hy : g k
        · rw [hy] at c1 c2
          clear hy
          go_wp2_with fail
          go_quiet (fail)
          have B2 := Lib.hid (drewN_below BL.out nq)
          clear c1 c2 BL
          go_wp2
          go_roundw
          case rel => exact ⟨k + 1, by omega, by go_num, fun i hi => by
            by_cases hik : i < k
            · exact AL.out i hik
            · obtain rfl : i = k := by omega
              exact E.out, B2.out⟩
          case measure => simp [intOf]; omega
        · rw [hy] at c1 c2
          clear hy
          go_wp2_with fail
          go_quiet (fail)
          have B2 := Lib.hid (drewN_below BL.out nq)
          clear c1 c2 BL
          go_wp2
          go_roundw
          case rel => exact ⟨k + 1, by omega, by go_num, fun i hi => by
            by_cases hik : i < k
            · exact AL.out i hik
            · obtain rfl : i = k := by omega
              exact E.out, B2.out⟩
          case measure => simp [intOf]; omega
      · have NE : Hid (sameB n f g = false) := decide_eq_false fun h => e (h k hkn)
        have hy : g k = !f k := by cases h1 : f k <;> cases h2 : g k <;> simp_all
        rw [hy] at c2
        clear hy e
        cases hx : f k
        · rw [hx] at c1 c2
          simp only [Bool.not_false] at c2
          clear hx
          go_wp2_with fail
          go_quiet (fail)
          have B2 := Lib.hid (drewN_below BL.out nq)
          clear c1 c2 BL
          go_wp2
          go_ret
          exact ⟨by rw [NE.out]; rfl, B2.out⟩
        · rw [hx] at c1 c2
          simp only [Bool.not_true] at c2
          clear hx
          go_wp2_with fail
          go_quiet (fail)
          have B2 := Lib.hid (drewN_below BL.out nq)
          clear c1 c2 BL
          go_wp2
          go_ret
          exact ⟨by rw [NE.out]; rfl, B2.out⟩
    · obtain rfl : k = n := by omega
      have hkz : ¬ (k : Int) < (k : Int) := by omega
      have YE : Hid (sameB k f g = true) := decide_eq_true HI.out.1
      have B2 := Lib.hid HI.out.2
      clear HI
      go_wp2
      go_ret
      exact ⟨by rw [YE.out]; rfl, B2.out⟩

/-- The word of a set that a byte belongs to. -/
def word4 (a b c d j : Nat) : Nat := if j = 0 then a else if j = 1 then b else if j = 2 then c else d
/-- Is a byte in the set? -/
def hasB (a b c d x : Nat) : Bool := word4 a b c d (x / 64) / 2 ^ (x % 64) % 2 == 1
/-- Four words of 64 bits. -/
def Fit4 (a b c d : Nat) : Prop := a < 18446744073709551616 ∧ b < 18446744073709551616 ∧ c < 18446744073709551616 ∧ d < 18446744073709551616
theorem word4_lt {a b c d : Nat} (h : Fit4 a b c d) (j : Nat) : word4 a b c d j < 18446744073709551616 := by
  obtain ⟨h1, h2, h3, h4⟩ := h
  unfold word4
  split
  · exact h1
  · split
    · exact h2
    · split
      · exact h3
      · exact h4
set_option maxRecDepth 100000 in
set_option maxHeartbeats 1000000 in
theorem rhas_any (a b c d x : Nat) (hx : x < 256) (w : World) (hf : Fit4 a b c d) :
    Calls Tryd.prog 31 #[.agg #[.int .u64 (a : Int), .int .u64 (b : Int), .int .u64 (c : Int), .int .u64 (d : Int)], .int .u8 (x : Int)] w fun e w' => e = .returned (.bool (hasB a b c d x)) ∧ Below w.heap.size w w' := by
  have B0 : Hid (Below w.heap.size w (w.alloc (.cells #[.int .u64 (a : Int), .int .u64 (b : Int), .int .u64 (c : Int), .int .u64 (d : Int)] 31))) := (Below.refl _ _).alloc (Nat.le_refl _) _
  have CW : (w.alloc (.cells #[.int .u64 (a : Int), .int .u64 (b : Int), .int .u64 (c : Int), .int .u64 (d : Int)] 31)).cell? ⟨w.heap.size, x / 64, none⟩ = some (.int .u64 ((word4 a b c d (x / 64) : Nat) : Int)) := by
    rw [cell_of_row _ w.heap.size _ _ 31 (0, 0) (heap_alloc_new w _)]
    have hj : x / 64 < 4 := by omega
    generalize x / 64 = j at *
    match j, hj with
    | 0, _ => rfl
    | 1, _ => rfl
    | 2, _ => rfl
    | 3, _ => rfl
  have HF : Hid (word4 a b c d (x / 64) / 2 ^ (x % 64) < 18446744073709551616) := Nat.lt_of_le_of_lt (Nat.div_le_self _ _) (word4_lt hf _)
  clear hf
  go_enter Tryd.func31, Tryd.ntmps31
  go_wp2_with fail
  clear CW
  go_ret
  refine ⟨?_, B0.out⟩
  have hf := HF.out
  have e1 : ((word4 a b c d (x / 64) : Nat) : Int) / 2 ^ (x % 64) = ((word4 a b c d (x / 64) / 2 ^ (x % 64) : Nat) : Int) := by simp
  unfold hasB
  generalize word4 a b c d (x / 64) / 2 ^ (x % 64) = q at *
  have e2 := u64_and_nat q 1 hf (by omega)
  rw [Nat.and_one_is_mod] at e2
  have e3 : (bits .and .u64 (q : Int) 1 == 1) = (q % 2 == 1) := by
    have c1 : ((1 : Nat) : Int) = 1 := rfl
    rw [c1] at e2
    rw [e2, Bool.eq_iff_iff]
    simp
    omega
  show Ending.returned (.bool (bits .and .u64 (((word4 a b c d (x / 64) : Nat) : Int) / 2 ^ (x % 64)) 1 == 1)) = _
  rw [e1, e3]

end Go.Proofs.YtonfmbnankihbaaDoor
