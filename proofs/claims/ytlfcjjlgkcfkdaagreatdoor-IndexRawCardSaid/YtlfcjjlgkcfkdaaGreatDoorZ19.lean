/-
  A stable sort by blocks and merges, as mathematics: rows as functions of places; exchanges; insertion, rotation and merging by exchanges keep what they hold, and sort it. Conditions: an order that is transitive, and of any two numbers that stand the wrong way round tells which comes first.
  What List, AnyLarge and All do, the program's and the reference's. Conditions: names and values of at most 1000 bytes, labels' values of at most 100 (the reference's) or 1000; the library's table lies in its variable (DTab) where matchers hold.
  What Is and the reference's IsSet do: they tell whether labels are a label set. Conditions: lengths fit.
  What the reference's IsSet does: it tells whether labels are a label set; what WeightLabels and SameLabels do. Conditions: lengths fit.
-/
import Derived.Test.YtlfcjjlgkcfkdaaGreatDoorProg
import Derived.Test.YtlfcjjlgkcfkdaaGreatDoorZ01
import Derived.Test.YtlfcjjlgkcfkdaaGreatDoorZ02
import Derived.Test.YtlfcjjlgkcfkdaaGreatDoorZ05
import Derived.Test.YtlfcjjlgkcfkdaaGreatDoorZ06
import Derived.Test.YtlfcjjlgkcfkdaaGreatDoorZ07
import Derived.Test.YtlfcjjlgkcfkdaaGreatDoorZ08
import Derived.Test.YtlfcjjlgkcfkdaaGreatDoorZ09
import Derived.Test.YtlfcjjlgkcfkdaaGreatDoorZ10
import Derived.Test.YtlfcjjlgkcfkdaaGreatDoorZ11
import Derived.Test.YtlfcjjlgkcfkdaaGreatDoorZ12
import Derived.Test.YtlfcjjlgkcfkdaaGreatDoorZ13
import Derived.Test.YtlfcjjlgkcfkdaaGreatDoorZ14
import Derived.Test.YtlfcjjlgkcfkdaaGreatDoorZ15
import Derived.Test.YtlfcjjlgkcfkdaaGreatDoorZ16
import Derived.Test.YtlfcjjlgkcfkdaaGreatDoorZ18
import Derived.Below
import Derived.WalkKit
import Derived.WalkSpells
import Derived.WalkLawsBesides
import Derived.Lib.Hide
import Derived.Lib.AppendStr
import Derived.Laws.BytesArg
import Derived.Laws.AppendOwnNone
import Derived.KernelRfl
import Derived.Lib.Bytealg
import Derived.Deep.RegionHeld3
import Derived.BigQuiet
import Derived.Lib.QuietBelow
import Derived.Laws.StructEq
import Derived.Laws.MakeOwn
import Derived.Laws.OwnMore
import Derived.OwnWalk
import Derived.Laws.CopyOwn
import Derived.Laws.AppendOwn
import Derived.Deep.QuietTactic
import Derived.Laws.Externs
import Derived.Maps.AppendAt
import Derived.StillTailTactics
import Derived.Laws.ResultCell
import Derived.Deep.LoopGhost
import Derived.Deep.MidRow
import Derived.Deep.Upon
import Derived.Deep.Cut
import Derived.Lib.TrailingZeros
import Derived.Laws.Bits64b
import Derived.Deep.CutRange
namespace Go.Proofs.YtlfcjjlgkcfkdaaGreatDoor
namespace So
/-- The row with two places exchanged. -/
def sw (d : Nat → Nat) (i j k : Nat) : Nat := if k = i then d j else if k = j then d i else d k
/-- d' is made of d by exchanges of places in [a, b). -/
inductive Via (a b : Nat) (d : Nat → Nat) : (Nat → Nat) → Prop where
  | refl : Via a b d d
  | step {d' : Nat → Nat} (i j : Nat) : Via a b d d' → a ≤ i → i < b → a ≤ j → j < b → Via a b d (sw d' i j)
theorem Via.mono {a b a' b' : Nat} {d d' : Nat → Nat} (h : Via a b d d') (ha : a' ≤ a) (hb : b ≤ b') : Via a' b' d d' := by
  induction h with
  | refl => exact .refl
  | step i j _ h1 h2 h3 h4 ih => exact .step i j ih (by omega) (by omega) (by omega) (by omega)
theorem Via.trans {a b : Nat} {d d' d'' : Nat → Nat} (h : Via a b d d') (h' : Via a b d' d'') : Via a b d d'' := by
  induction h' with
  | refl => exact h
  | step i j _ h1 h2 h3 h4 ih => exact .step i j ih h1 h2 h3 h4
theorem Via.out {a b : Nat} {d d' : Nat → Nat} (h : Via a b d d') (k : Nat) (hk : k < a ∨ b ≤ k) : d' k = d k := by
  induction h with
  | refl => rfl
  | step i j _ h1 h2 h3 h4 ih =>
    unfold sw
    rw [if_neg (by omega), if_neg (by omega)]
    exact ih
/-- What holds of all that stands in [a, b) holds behind the exchanges. -/
theorem Via.all {a b : Nat} {d d' : Nat → Nat} (h : Via a b d d') (P : Nat → Prop) (hp : ∀ k, a ≤ k → k < b → P (d k)) : ∀ k, a ≤ k → k < b → P (d' k) := by
  induction h with
  | refl => exact hp
  | step i j _ h1 h2 h3 h4 ih =>
    intro k k1 k2
    unfold sw
    split
    · exact ih j h3 h4
    · split
      · exact ih i h1 h2
      · exact ih k k1 k2
variable {R : Nat → Nat → Prop} {lt : Nat → Nat → Bool}
def Sorted (R : Nat → Nat → Prop) (d : Nat → Nat) (a b : Nat) : Prop := ∀ i j, a ≤ i → i < j → j < b → R (d i) (d j)
theorem Sorted.congr {d d' : Nat → Nat} {a b : Nat} (h : Sorted R d a b) (he : ∀ k, a ≤ k → k < b → d' k = d k) : Sorted R d' a b := fun i j x y z => by
  rw [he i x (by omega), he j (by omega) z]; exact h i j x y z

/-- Behind some rounds of the inner loop: the number of place i has come to place j. -/
structure Ins (R : Nat → Nat → Prop) (d0 d : Nat → Nat) (a i j : Nat) : Prop where
  via : Via a (i + 1) d0 d
  rest : ∀ p q, a ≤ p → p < q → q ≤ i → p ≠ j → q ≠ j → R (d p) (d q)
  up : ∀ q, j < q → q ≤ i → R (d j) (d q)
  big : ∀ p, a ≤ p → p ≤ i → p ≠ j → d p < d j
theorem Ins.start {d0 d : Nat → Nat} {a i : Nat} (hv : Via a i d0 d) (hs : Sorted R d a i) (hc : ∀ k, a ≤ k → k < i → d0 k < d0 i) : Ins R d0 d a i i where
  via := hv.mono (Nat.le_refl _) (by omega)
  rest p q h1 h2 h3 h4 h5 := hs p q h1 h2 (by omega)
  up q h1 h2 := by omega
  big p h1 h2 h3 := by
    have e : d i = d0 i := hv.out i (.inr (Nat.le_refl _))
    rw [e]
    exact hv.all (fun x => x < d0 i) hc p h1 (by omega)
end So

end Go.Proofs.YtlfcjjlgkcfkdaaGreatDoor
namespace Go.Proofs.YtlfcjjlgkcfkdaaGreatDoor
open Go.RowKit Go.Sort

/-- Matchers of few bytes. -/
def SmallM (l : List Mat) : Prop := ∀ m ∈ l, m.n.size ≤ 1000 ∧ m.v.size ≤ 1000
theorem SmallM.at {l : List Mat} (h : SmallM l) {j : Nat} (hj : j < l.length) : (Mat.nth l j).n.size ≤ 1000 ∧ (Mat.nth l j).v.size ≤ 1000 := h _ (Mat.nth_mem hj)
set_option maxRecDepth 100000 in
set_option maxHeartbeats 4000000 in
theorem rall_any (l : List Mat) (A : Option Addr) (N cap : Nat) (ls : List La.Lab) (B : Option Addr) (M cb : Nat) (w : World) (hN : l.length = N) (hl : N ≤ 1099511627776) (hs : SmallM l) (ha : IsMats w A l) (hM : ls.length = M) (hM1 : M ≤ 1000) (hls : ∀ x ∈ ls, x.2.size ≤ 100) (hB : IsLabs w B ls) :
    Calls Tryz.prog 44 #[.slice A N cap, .slice B M cb] w fun e w' => e = .returned (.bool (Mat.allHold l ls)) ∧ Below w.heap.size w w' := by
  have CH := Lib.hid (fun k n v W (h1 : n.size ≤ 1000) (h2 : v.size ≤ 1000) (hW : Below w.heap.size w W) => rholds_any k n v ls B M cb W h1 h2 hM hM1 hls (hB.below hW))
  clear hls hB hM hM1
  have HA := Lib.hid ha
  have HS := Lib.hid hs
  have HN := Lib.hid hN
  clear ha hs hN
  go_enter Tryz.func44, Tryz.ntmps44
  go_wp2
  go_loopw [5] (fun i wr => ∃ k : Nat, k ≤ N ∧ i = .int .i64 (k : Int) ∧ Hid (Below w.heap.size w wr ∧ Mat.allHold (l.drop k) ls = Mat.allHold l ls)) (fun i _ => N - (intOf i).toNat)
  case atStart => exact ⟨0, by omega, rfl, Below.refl _ _, rfl⟩
  case round =>
    obtain ⟨k, hk, rfl, HI⟩ := hrel
    by_cases hkn : k < N
    · have hk2 : k < l.length := by rw [HN.out]; exact hkn
      have hc' := (HA.out.below HI.out.1) (by omega)
      obtain ⟨b, off, rfl, hc⟩ := hc'
      obtain ⟨c0, c1, c2⟩ := hc k hk2
      have hkz : (k : Int) < (N : Int) := by omega
      have B0 : Below w.heap.size w wr := HI.out.1
      have ST : Hid (Mat.allHold l ls = ((Mat.nth l k).holds ls && Mat.allHold (l.drop (k + 1)) ls)) := by show _ = _; rw [← HI.out.2]; exact Mat.all_step (ls := ls) hk2
      have CI : Hid (Calls Tryz.prog 66 #[.agg #[.int .i64 (Mat.nth l k).k, .string (Mat.nth l k).n, .string (Mat.nth l k).v], .slice B M cb] (wr) fun e w' => e = .returned (.bool ((Mat.nth l k).holds ls)) ∧ Below (wr).heap.size (wr) w') := CH.out _ _ _ _ (HS.out.at hk2).1 (HS.out.at hk2).2 B0
      have HB := Lib.hid B0
      obtain ⟨q, hq⟩ : ∃ q, (Mat.nth l k).holds ls = q := ⟨_, rfl⟩
      rw [hq] at CI ST
      clear HI B0 hc hq
      generalize (Mat.nth l k).k = x0 at *
      generalize (Mat.nth l k).n = x1 at *
      generalize (Mat.nth l k).v = x2 at *
      go_wp2_with fail
      refine CI.out.mono ?_
      rintro e w2 ⟨rfl, b2⟩
      have B2 := Lib.hid (HB.out.trans (b2.mono HB.out.size))
      clear b2 CI HB c0 c1 c2
      cases q
      · have R0 : Hid (Mat.allHold l ls = false) := by show _ = _; rw [ST.out]; rfl
        clear ST
        go_wp2
        go_ret
        exact ⟨by rw [R0.out]; rfl, B2.out⟩
      · have R : Hid (Mat.allHold (l.drop (k + 1)) ls = Mat.allHold l ls) := by show _ = _; rw [ST.out]; rfl
        clear ST
        go_wp2
        go_roundw
        case rel => exact ⟨k + 1, by omega, by go_num, B2.out, R.out⟩
        case measure => simp [intOf]; omega
    · obtain rfl : k = N := by omega
      have R0 : Hid (Mat.allHold l ls = true) := by show _ = _; rw [← HI.out.2]; exact Mat.all_end (by rw [HN.out]; omega)
      have B := Lib.hid HI.out.1
      clear HI
      go_wp2
      go_ret
      exact ⟨by rw [R0.out]; rfl, B.out⟩

end Go.Proofs.YtlfcjjlgkcfkdaaGreatDoor
namespace Go.Proofs.YtlfcjjlgkcfkdaaGreatDoor
open Go.RowKit La

/-- Texts that a machine can hold. -/
def Small (ls : List Lab) : Prop := ∀ x ∈ ls, x.1.size ≤ 140737488351232 ∧ x.2.size ≤ 140737488351232
theorem okAt_eq {ls : List Lab} {k : Nat} : okAt ls k = (name (nth ls k).1 && value (nth ls k).2 && (decide (k = 0) || lt (nth ls (k - 1)).1 (nth ls k).1)) := rfl

theorem below_drewN {B : Nat} {a w : World} (h : Below B a w) (q : Nat) : Below B a (w.drewN q) := ⟨h.os, h.tape, h.output, h.size, h.block⟩
theorem cell_alloc_old {w : World} {a : Addr} {v : Value} (h : w.cell? a = some v) (o : Obj) : (w.alloc o).cell? a = some v := ((Below.refl w.heap.size w).alloc (Nat.le_refl _) o).cell (World.block_lt_of_cell? w _ h) ▸ h

set_option maxRecDepth 100000 in
set_option maxHeartbeats 2000000 in
theorem lis_any (ls : List Lab) (A : Option Addr) (cap : Nat) (w : World) (hl : ls.length ≤ 1099511627776) (hs : Small ls) (ha : IsLabs w A ls) :
    Calls Tryz.prog 30 #[.slice A ls.length cap] w fun e w' => e = .returned (.bool (isSet ls)) ∧ Below w.heap.size w w' := by
  have HA := Lib.hid ha
  have HS := Lib.hid hs
  have NO := Lib.hid (isSet_no (ls := ls))
  have BAD := Lib.hid (fun k => isSet_bad (ls := ls) (k := k))
  have YES := Lib.hid (isSet_iff (ls := ls)).2
  have OK := Lib.hid (fun k => okAt_eq (ls := ls) (k := k))
  clear ha hs
  obtain ⟨N, hN⟩ : ∃ N, ls.length = N := ⟨_, rfl⟩
  rw [hN] at hl ⊢
  rw [hN] at NO BAD YES
  have HN := Lib.hid hN
  clear hN
  by_cases h1 : N < 1
  · have R : Hid (isSet ls = false) := NO.out (by omega)
    go_enter Tryz.func30, Tryz.ntmps30
    go_wp2
    go_ret
    exact ⟨by rw [R.out]; rfl, Below.refl _ _⟩
  have h1z : ¬ (N : Int) < 1 := by omega
  by_cases h6 : 6 < N
  · have R : Hid (isSet ls = false) := NO.out (by omega)
    have h6d : decide ((N : Int) > 6) = true := decide_eq_true (by omega)
    go_enter Tryz.func30, Tryz.ntmps30
    go_wp2
    go_ret
    exact ⟨by rw [R.out]; rfl, Below.refl _ _⟩
  have h6d : decide ((N : Int) > 6) = false := decide_eq_false (by omega)
  go_enter Tryz.func30, Tryz.ntmps30
  go_wp2
  clear h6d
  go_loopw [15] (fun i wr => ∃ k : Nat, k ≤ N ∧ i = .int .i64 (k : Int) ∧ Hid (Below w.heap.size w wr ∧ ∀ j, j < k → okAt ls j = true)) (fun i _ => N - (intOf i).toNat)
  case atStart => exact ⟨0, by omega, rfl, Below.refl _ _, fun j hj => by omega⟩
  case round =>
    obtain ⟨k, hk, rfl, HI⟩ := hrel
    by_cases hkn : k < N
    · obtain ⟨b, off, rfl, hc⟩ := (HA.out.below HI.out.1) (by rw [HN.out]; omega)
      obtain ⟨c1, c2⟩ := hc k (by rw [HN.out]; exact hkn)
      have hkz : (k : Int) < (N : Int) := by omega
      have sz := HS.out _ (nth_mem (ls := ls) (j := k) (by rw [HN.out]; exact hkn))
      have NM := Lib.hid (fun W => name_any (nth ls k).1 W sz.1)
      have VL := Lib.hid (fun W => value_any (nth ls k).2 W)
      have BL := Lib.hid HI.out.1
      have AL := Lib.hid HI.out.2
      have BK := Lib.hid (BAD.out k hkn)
      have OKk := Lib.hid (OK.out k)
      have PV : Hid (∀ m, k = m + 1 → wr.cell? ⟨b, off + m * 2, none⟩ = some (.string (nth ls m).1)) := fun m hm => (hc m (by rw [HN.out]; omega)).1
      clear hc sz HI
      obtain ⟨x, hx⟩ : ∃ x, (nth ls k).1 = x := ⟨_, rfl⟩
      obtain ⟨y, hy⟩ : ∃ y, (nth ls k).2 = y := ⟨_, rfl⟩
      rw [hx] at c1 NM OKk
      rw [hy] at c2 VL OKk
      clear hy
      have HX := Lib.hid hx
      clear hx
      cases hn : name x
      · have R : Hid (isSet ls = false) := BK.out (by rw [OKk.out, hn]; rfl)
        rw [hn] at NM
        clear hn
        go_wp2_with fail
        refine (NM.out _).mono ?_
        rintro e w' ⟨rfl, rfl⟩
        go_wp2
        go_ret
        exact ⟨by rw [R.out]; rfl, BL.out.alloc BL.out.size _⟩
      rw [hn] at NM
      cases hv : value y
      · have R : Hid (isSet ls = false) := BK.out (by rw [OKk.out, hn, hv]; rfl)
        rw [hv] at VL
        clear hn hv
        go_wp2_with fail
        refine (NM.out _).mono ?_
        rintro e w' ⟨rfl, rfl⟩
        go_wp2_with fail
        refine (VL.out _).mono ?_
        rintro e w' ⟨rfl, rfl⟩
        go_wp2
        go_ret
        exact ⟨by rw [R.out]; rfl, BL.out.alloc BL.out.size _⟩
      rw [hv] at VL
      rw [hn, hv] at OKk
      clear hn hv
      cases k with
      | zero =>
        have R : Hid (okAt ls 0 = true) := by show _ = _; rw [OKk.out]; rfl
        simp only [Nat.zero_mul, Nat.add_zero] at c1 c2
        clear hkz PV
        go_wp2_with fail
        refine (NM.out _).mono ?_
        rintro e w' ⟨rfl, rfl⟩
        go_wp2_with fail
        refine (VL.out _).mono ?_
        rintro e w' ⟨rfl, rfl⟩
        go_wp2_with fail
        go_quiet (fail)
        have B2 := Lib.hid (below_drewN (BL.out.alloc BL.out.size (.cells #[.string x, .string y] 26)) nq)
        clear c1 c2 BL
        go_wp2
        go_roundw
        case rel => exact ⟨1, by omega, by go_num, B2.out, fun j hj => by obtain rfl : j = 0 := by omega
                                                                          exact R.out⟩
        case measure => simp [intOf]; omega
      | succ m =>
        have c0 := PV.out m rfl
        obtain ⟨z, hz⟩ : ∃ z, (nth ls m).1 = z := ⟨_, rfl⟩
        rw [hz] at c0
        have OKm : Hid (okAt ls (m + 1) = lt z x) := by
          show _ = _
          rw [OKk.out]
          simp only [Nat.add_sub_cancel, hz]
          simp
        clear PV hz OKk HX
        have hk0 : decide ((m : Int) + 1 > 0) = true := decide_eq_true (by omega)
        have hmz : (m : Int) < (N : Int) := by omega
        have c3 := cell_alloc_old c0 (.cells #[.string x, .string y] 26)
        cases hlt : Op.bytesLess z.toList x.toList
        · have R : Hid (isSet ls = false) := BK.out (by rw [OKm.out]; exact hlt)
          go_wp2_with fail
          refine (NM.out _).mono ?_
          rintro e w' ⟨rfl, rfl⟩
          go_wp2_with fail
          refine (VL.out _).mono ?_
          rintro e w' ⟨rfl, rfl⟩
          go_wp2_with fail
          go_quiet (fail)
          have B2 := Lib.hid (below_drewN (BL.out.alloc BL.out.size (.cells #[.string x, .string y] 26)) nq)
          clear c0 c1 c2 c3 BL
          go_wp2
          go_ret
          exact ⟨by rw [R.out]; rfl, B2.out⟩
        · have R : Hid (okAt ls (m + 1) = true) := by show _ = _; rw [OKm.out]; exact hlt
          go_wp2_with fail
          refine (NM.out _).mono ?_
          rintro e w' ⟨rfl, rfl⟩
          go_wp2_with fail
          refine (VL.out _).mono ?_
          rintro e w' ⟨rfl, rfl⟩
          go_wp2_with fail
          go_quiet (fail)
          have B2 := Lib.hid (below_drewN (BL.out.alloc BL.out.size (.cells #[.string x, .string y] 26)) nq)
          clear c0 c1 c2 c3 BL
          go_wp2
          go_roundw
          case rel => exact ⟨m + 2, by omega, by go_num, B2.out, fun j hj => by
            by_cases hjm : j = m + 1
            · rw [hjm]; exact R.out
            · exact AL.out j (by omega)⟩
          case measure => simp [intOf]; omega
    · obtain rfl : k = N := by omega
      have hkz : ¬ (k : Int) < (k : Int) := by omega
      have R : Hid (isSet ls = true) := YES.out ⟨by omega, by omega, HI.out.2⟩
      have B := Lib.hid HI.out.1
      clear HI
      go_wp2
      go_ret
      exact ⟨by rw [R.out]; rfl, B.out⟩

end Go.Proofs.YtlfcjjlgkcfkdaaGreatDoor
namespace Go.Proofs.YtlfcjjlgkcfkdaaGreatDoor
open Go.RowKit La

set_option maxRecDepth 100000 in
set_option maxHeartbeats 2000000 in
theorem isset_any (ls : List Lab) (A : Option Addr) (cap : Nat) (w : World) (hl : ls.length ≤ 1099511627776) (hs : Small ls) (ha : IsLabs w A ls) :
    Calls Tryz.prog 28 #[.slice A ls.length cap] w fun e w' => e = .returned (.bool (isSet ls)) ∧ Below w.heap.size w w' := by
  have HA := Lib.hid ha
  have HS := Lib.hid hs
  have NO := Lib.hid (isSet_no (ls := ls))
  have BAD := Lib.hid (fun k => isSet_bad (ls := ls) (k := k))
  have YES := Lib.hid (isSet_iff (ls := ls)).2
  have OK := Lib.hid (fun k => okAt_eq (ls := ls) (k := k))
  clear ha hs
  obtain ⟨N, hN⟩ : ∃ N, ls.length = N := ⟨_, rfl⟩
  rw [hN] at hl ⊢
  rw [hN] at NO BAD YES
  have HN := Lib.hid hN
  clear hN
  by_cases h1 : N < 1
  · have R : Hid (isSet ls = false) := NO.out (by omega)
    go_enter Tryz.func28, Tryz.ntmps28
    go_wp2
    go_ret
    exact ⟨by rw [R.out]; rfl, Below.refl _ _⟩
  have h1z : ¬ (N : Int) < 1 := by omega
  by_cases h6 : 6 < N
  · have R : Hid (isSet ls = false) := NO.out (by omega)
    have h6d : decide ((N : Int) > 6) = true := decide_eq_true (by omega)
    go_enter Tryz.func28, Tryz.ntmps28
    go_wp2
    go_ret
    exact ⟨by rw [R.out]; rfl, Below.refl _ _⟩
  have h6d : decide ((N : Int) > 6) = false := decide_eq_false (by omega)
  go_enter Tryz.func28, Tryz.ntmps28
  go_wp2
  clear h6d
  go_loopw [3] (fun i wr => ∃ k : Nat, k ≤ N ∧ i = .int .i64 (k : Int) ∧ Hid (Below w.heap.size w wr ∧ ∀ j, j < k → okAt ls j = true)) (fun i _ => N - (intOf i).toNat)
  case atStart => exact ⟨0, by omega, rfl, Below.refl _ _, fun j hj => by omega⟩
  case round =>
    obtain ⟨k, hk, rfl, HI⟩ := hrel
    by_cases hkn : k < N
    · obtain ⟨b, off, rfl, hc⟩ := (HA.out.below HI.out.1) (by rw [HN.out]; omega)
      obtain ⟨c1, c2⟩ := hc k (by rw [HN.out]; exact hkn)
      have hkz : (k : Int) < (N : Int) := by omega
      have sz := HS.out _ (nth_mem (ls := ls) (j := k) (by rw [HN.out]; exact hkn))
      have NM := Lib.hid (fun W => rname_any (nth ls k).1 W sz.1)
      have VL := Lib.hid (fun W => rvalue_any (nth ls k).2 W)
      have BL := Lib.hid HI.out.1
      have AL := Lib.hid HI.out.2
      have BK := Lib.hid (BAD.out k hkn)
      have OKk := Lib.hid (OK.out k)
      have PV : Hid (∀ m, k = m + 1 → wr.cell? ⟨b, off + m * 2, none⟩ = some (.string (nth ls m).1)) := fun m hm => (hc m (by rw [HN.out]; omega)).1
      clear hc sz HI
      obtain ⟨x, hx⟩ : ∃ x, (nth ls k).1 = x := ⟨_, rfl⟩
      obtain ⟨y, hy⟩ : ∃ y, (nth ls k).2 = y := ⟨_, rfl⟩
      rw [hx] at c1 NM OKk
      rw [hy] at c2 VL OKk
      clear hy hx
      cases hn : name x
      · have R : Hid (isSet ls = false) := BK.out (by rw [OKk.out, hn]; rfl)
        rw [hn] at NM
        clear hn
        go_wp2_with fail
        go_quiet (first | (go_at_call 48; exact Calls.quiet_of_same (NM.out _)) | (go_at_call 49; exact Calls.quiet_of_same (VL.out _)))
        have B2 := Lib.hid (below_drewN BL.out nq)
        clear c1 c2 BL
        go_wp2
        go_ret
        exact ⟨by rw [R.out]; rfl, B2.out⟩
      rw [hn] at NM
      cases hv : value y
      · have R : Hid (isSet ls = false) := BK.out (by rw [OKk.out, hn, hv]; rfl)
        rw [hv] at VL
        clear hn hv
        go_wp2_with fail
        go_quiet (first | (go_at_call 48; exact Calls.quiet_of_same (NM.out _)) | (go_at_call 49; exact Calls.quiet_of_same (VL.out _)))
        have B2 := Lib.hid (below_drewN BL.out nq)
        clear c1 c2 BL
        go_wp2
        go_ret
        exact ⟨by rw [R.out]; rfl, B2.out⟩
      rw [hv] at VL
      rw [hn, hv] at OKk
      clear hn hv
      cases k with
      | zero =>
        have R : Hid (okAt ls 0 = true) := by show _ = _; rw [OKk.out]; rfl
        simp only [Nat.zero_mul, Nat.add_zero] at c1 c2
        clear hkz PV
        go_wp2_with fail
        go_quiet (first | (go_at_call 48; exact Calls.quiet_of_same (NM.out _)) | (go_at_call 49; exact Calls.quiet_of_same (VL.out _)))
        have B2 := Lib.hid (below_drewN BL.out nq)
        clear c1 c2 BL
        go_wp2
        go_roundw
        case rel => exact ⟨1, by omega, by go_num, B2.out, fun j hj => by obtain rfl : j = 0 := by omega
                                                                          exact R.out⟩
        case measure => simp [intOf]; omega
      | succ m =>
        have c0 := PV.out m rfl
        obtain ⟨z, hz⟩ : ∃ z, (nth ls m).1 = z := ⟨_, rfl⟩
        rw [hz] at c0
        have OKm : Hid (okAt ls (m + 1) = lt z x) := by
          show _ = _
          rw [OKk.out]
          simp only [Nat.add_sub_cancel, hz]
          simp
        clear PV hz OKk
        have hk0 : decide ((m : Int) + 1 > 0) = true := decide_eq_true (by omega)
        have hmz : (m : Int) < (N : Int) := by omega
        have LE := le_not x z
        cases hlt : lt z x
        · have R : Hid (isSet ls = false) := BK.out (by rw [OKm.out]; exact hlt)
          rw [hlt] at LE
          simp only [Bool.not_false] at LE
          clear hlt
          go_wp2_with fail
          go_quiet (first | (go_at_call 48; exact Calls.quiet_of_same (NM.out _)) | (go_at_call 49; exact Calls.quiet_of_same (VL.out _)))
          have B2 := Lib.hid (below_drewN BL.out nq)
          clear c0 c1 c2 BL
          go_wp2
          go_ret
          exact ⟨by rw [R.out]; rfl, B2.out⟩
        · have R : Hid (okAt ls (m + 1) = true) := by show _ = _; rw [OKm.out]; exact hlt
          rw [hlt] at LE
          simp only [Bool.not_true] at LE
          clear hlt
          go_wp2_with fail
          go_quiet (first | (go_at_call 48; exact Calls.quiet_of_same (NM.out _)) | (go_at_call 49; exact Calls.quiet_of_same (VL.out _)))
          have B2 := Lib.hid (below_drewN BL.out nq)
          clear c0 c1 c2 BL
          go_wp2
          go_roundw
          case rel => exact ⟨m + 2, by omega, by go_num, B2.out, fun j hj => by
            by_cases hjm : j = m + 1
            · rw [hjm]; exact R.out
            · exact AL.out j (by omega)⟩
          case measure => simp [intOf]; omega
    · obtain rfl : k = N := by omega
      have hkz : ¬ (k : Int) < (k : Int) := by omega
      have R : Hid (isSet ls = true) := YES.out ⟨by omega, by omega, HI.out.2⟩
      have B := Lib.hid HI.out.1
      clear HI
      go_wp2
      go_ret
      exact ⟨by rw [R.out]; rfl, B.out⟩

/-- Few labels with short texts. -/
def Few (ls : List Lab) : Prop := ls.length ≤ 300 ∧ ∀ x ∈ ls, x.1.size ≤ 300 ∧ x.2.size ≤ 300
theorem Few.small {ls : List Lab} (h : Few ls) : Small ls := fun x hx => by have := h.2 x hx; omega

end Go.Proofs.YtlfcjjlgkcfkdaaGreatDoor

