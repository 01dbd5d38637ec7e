/-
  Slices of ints in a walk; what the reference's SameInts and Has do. Conditions: lengths fit.
  What the reference's Ends does, for every tree that may be: the places at which a match may end, in order. Conditions: at most 1000 nodes, 100 places; words have 64 bits.
  Chapter 5's runs (RexRuns), as a contract. No conditions.
  What the program's appendStar, appendPlus and appendMaybe do, of what appendTree does to the kid. Conditions: at most 1000 steps.
  Rows of places in memory beside a row of steps, each of which grows. Conditions: lengths fit.
-/
import Derived.Test.YtjmojjjgifkkiaaDoorProg
import Derived.Test.YtjmojjjgifkkiaaDoorZ01
import Derived.Test.YtjmojjjgifkkiaaDoorZ02
import Derived.Test.YtjmojjjgifkkiaaDoorZ11
import Derived.Test.YtjmojjjgifkkiaaDoorZ03
import Derived.Test.YtjmojjjgifkkiaaDoorZ06
import Derived.Test.YtjmojjjgifkkiaaDoorZ04
import Derived.Test.YtjmojjjgifkkiaaDoorZ05
import Derived.Test.YtjmojjjgifkkiaaDoorZ08
import Derived.Test.YtjmojjjgifkkiaaDoorZ09
import Derived.Test.YtjmojjjgifkkiaaDoorZ15
import Derived.Test.YtjmojjjgifkkiaaDoorZ16
import Derived.Test.YtjmojjjgifkkiaaDoorZ10
import Derived.Deep.QuietTactic
import Derived.Laws.MakeOwn
import Derived.Laws.OwnMore
import Derived.OwnWalk
import Derived.Deep.RegionHeld3
import Derived.Laws.CopyOwn
import Derived.Laws.AppendOwn
import Derived.WalkKit
import Derived.WalkSpells
import Derived.WalkLawsBesides
import Derived.Lib.Hide
import Derived.Below
import Derived.BigQuiet
import Derived.Lib.QuietBelow
import Derived.Laws.StructEq
import Derived.KernelRfl
import Derived.Lib.Bytealg
import Derived.Laws.Externs
import Derived.StillTailTactics
import Derived.Deep.MidRow
import Derived.Deep.Upon
import Derived.Deep.LoopGhost
import Derived.Laws.ResultCell
import Derived.Maps.AppendAt
import Derived.Deep.Cut
namespace Go.Proofs.YtjmojjjgifkkiaaDoor
open Go.RowKit

/-- Ints as cells. -/
def zs (l : List Int) : List Value := l.map fun k => Value.int .i64 k
def zn (l : List Nat) : List Int := l.map fun k : Nat => (k : Int)
theorem zs_len (l : List Int) : (zs l).length = l.length := by simp [zs]
theorem zs_app (a b : List Int) : zs (a ++ b) = zs a ++ zs b := by simp [zs]
theorem zn_len (l : List Nat) : (zn l).length = l.length := by simp [zn]
theorem iz_zs (l : List Nat) : iz l = zs (zn l) := by simp [iz, zs, zn]
theorem zn_inj {a b : List Nat} : zn a = zn b ↔ a = b := by
  constructor
  · intro h
    have := congrArg (List.map Int.toNat) h
    simpa [zn, Function.comp_def] using this
  · rintro rfl; rfl
theorem zn_mem {l : List Nat} {k : Nat} : (k : Int) ∈ zn l ↔ k ∈ l := by
  simp only [zn, List.mem_map]
  constructor
  · rintro ⟨a, h, e⟩
    obtain rfl : a = k := by omega
    exact h
  · intro h; exact ⟨k, h, rfl⟩
/-- The slice at address a reads as these ints. -/
def IsZ (w : World) (a : Option Addr) (l : List Int) : Prop := 0 < l.length → ∃ b off, a = some ⟨b, off, none⟩ ∧ ∀ j, j < l.length → w.cell? ⟨b, off + j, none⟩ = some (.int .i64 (l.getD j 0))
theorem IsZ.drewN {w : World} {a : Option Addr} {l : List Int} (h : IsZ w a l) (n : Nat) : IsZ (w.drewN n) a l := h
theorem IsZ.below {w w' : World} {a : Option Addr} {l : List Int} (h : IsZ w a l) (hb : Below w.heap.size w w') : IsZ w' a l := by
  intro hp
  obtain ⟨b, off, e, hc⟩ := h hp
  exact ⟨b, off, e, fun j hj => (hb.cell (World.block_lt_of_cell? w _ (hc j hj))).trans (hc j hj)⟩
theorem IsZ.nil (w : World) (a : Option Addr) : IsZ w a [] := fun h => absurd h (by simp)
theorem zeq_of_getD {xs ys : List Int} (hl : xs.length = ys.length) (h : ∀ j, j < xs.length → xs.getD j 0 = ys.getD j 0) : xs = ys := by
  refine List.ext_getElem hl fun j h1 h2 => ?_
  have := h j h1
  simpa [List.getD, List.getElem?_eq_getElem h1, List.getElem?_eq_getElem h2] using this
/-- A slice of ints that one owns reads so. -/
theorem own_z {w : World} {base n : Nat} {v : Value} {l : List Int} (h : w.ownsRow base 3 1 v n (zs l)) : ∃ A c, v = .slice A n c ∧ n ≤ c ∧ (A = none → c = 0) ∧ IsZ w A l ∧ l.length = n := by
  have hl : l.length = n := by have := h.1; rw [zs_len] at this; omega
  rcases h.2 with ⟨rfl, rfl⟩ | ⟨g, cap, cur, rfl, _, hg, hc, _⟩
  · exact ⟨none, 0, rfl, Nat.le_refl _, fun _ => rfl, fun hp => by omega, hl⟩
  · refine ⟨_, cap, rfl, hc, (fun e => by cases e), fun _ => ⟨g, 0, rfl, fun j hj => ?_⟩, hl⟩
    have e : (zs l)[j]? = some (.int .i64 (l.getD j 0)) := by simp [zs, List.getD, List.getElem?_eq_getElem hj]
    have := h.cells (g := g) rfl j _ e
    rw [Nat.zero_add]
    have e2 : (⟨g, 0, none⟩ : Addr).add j = ⟨g, j, none⟩ := by unfold Addr.add; split <;> simp_all
    rwa [e2] at this
theorem mem_take_succ {xs : List Int} {k : Nat} {x : Int} (h : k < xs.length) : x ∈ xs.take (k + 1) ↔ x ∈ xs.take k ∨ x = xs.getD k 0 := by
  rw [List.take_succ_eq_append_getElem h, List.mem_append, List.mem_singleton, show xs.getD k 0 = xs[k] by simp [List.getD, List.getElem?_eq_getElem h]]
end Go.Proofs.YtjmojjjgifkkiaaDoor
namespace Go.Proofs.YtjmojjjgifkkiaaDoor
open Go.RowKit Go.Sort

set_option maxRecDepth 100000 in
set_option maxHeartbeats 4000000 in
theorem rends_some (t : Rx) (v : Value) (p : Nat) (s : ByteArray) (L : Nat) (w : World) (hcnt : Rx.count t ≤ 1000) (hr : Rx.isRex t = true) (hfit : Rx.fit t) (hs : s.size = L) (hL : L ≤ 100) (hpL : p ≤ L) (h : IsRx w v t) :
    Calls Tryd.prog 73 #[v, .string s, .int .i64 (p : Int)] w (MadeInts w (endsTo (txt8 s) t p (L + 1))) := by
  obtain ⟨i0, hi, hz0, hz1, hz2⟩ := info_parts Tryd.infoZ
  have h0 := Lib.hid h
  have YES := Lib.hid (fun k => endsTo_yes (S := txt8 s) (t := t) (a := p) (k := k))
  have NO := Lib.hid (fun k => endsTo_no (S := txt8 s) (t := t) (a := p) (k := k))
  have LEN := Lib.hid (endsTo_len (txt8 s) t p)
  have E0 : Hid (endsTo (txt8 s) t p 0 = []) := rfl
  obtain ⟨el, hel⟩ : ∃ el, endsTo (txt8 s) t p = el := ⟨_, rfl⟩
  obtain ⟨G, hG⟩ : ∃ G, Rx.aft (txt8 s) t (fun j => j == p) = G := ⟨_, rfl⟩
  rw [hel] at YES NO LEN E0 ⊢
  rw [hG] at YES NO
  have fe : (fun i => if i = p then true else (fun _ => false : Nat → Bool) i) = fun j => j == p := by
    funext i
    by_cases e : i = p
    · simp [e]
    · simp [e]
  have CI := Lib.hid (fun W (hW : Below w.heap.size w W) => risrex_any 1000 t v W (Nat.le_refl _) hcnt (h0.out.grown hW))
  rw [hr] at CI
  have CA := Lib.hid (fun W F (hW : Below w.heap.size w W) (hf : IsBo W F (L + 1) (fun j => j == p)) => rafter_any 1000 t v W s L F (L + 1) (fun j => j == p) (Nat.le_refl _) hcnt hr hfit hs hL (h0.out.grown hW) hf)
  unfold AftDone at CA
  rw [hG] at CA
  have MK := fun W => make_bools (L + 1) (by omega) W
  have el1 : ((L + 1 : Nat) : Int) = (L : Int) + 1 := by simp
  simp only [el1] at MK
  have OM := Lib.hid (fun W => own_made (L + 1) (by omega) W)
  have wl : IntKind.i64.wrap ((L : Int) + 1) = (L : Int) + 1 := by rw [IntKind.wrap_i64]; omega
  clear hG hel hcnt hr hfit
  cases h with
  | node op a b c d ks A cap blk off V hcap hA hp hc hk =>
    have BX := Lib.hid (fun W => box6 (w := w) (v0 := .int .i64 op) (v1 := .int .u64 (a : Int)) (v2 := .int .u64 (b : Int)) (v3 := .int .u64 (c : Int)) (v4 := .int .u64 (d : Int)) (v5 := .slice A ks.length cap) (ty := 60) (W := W))
    have SZ0 : Hid (w.heap.size + 1 ≤ (w.alloc (.cells #[.int .i64 op, .int .u64 (a : Int), .int .u64 (b : Int), .int .u64 (c : Int), .int .u64 (d : Int), .slice A ks.length cap] 60)).heap.size) := by show _ ≤ _; simp
    clear hcap hA hp hc hk h0
    generalize ks.length = N at *
    have hq1 : ¬ (p : Int) < 0 := by omega
    have hq2 : decide ((p : Int) > (L : Int)) = false := decide_eq_false (by omega)
    have hp1 : (p : Int) < (L : Int) + 1 := by omega
    go_enter Tryd.func73, Tryd.ntmps73
    go_wp2_with fail
    obtain ⟨w0, hw0⟩ : ∃ w0, w.alloc (.cells #[.int .i64 op, .int .u64 (a : Int), .int .u64 (b : Int), .int .u64 (c : Int), .int .u64 (d : Int), .slice A N cap] 60) = w0 := ⟨_, rfl⟩
    rw [hw0] at BX SZ0 ⊢
    clear hw0
    refine (CI.out w0 (BX.out w0 (Below.refl _ _)).2).mono ?_
    rintro e w2 ⟨rfl, b2⟩
    have d2 : Below (w.heap.size + 1) w0 w2 := b2.mono SZ0.out
    have z2 : w.heap.size + 1 ≤ w2.heap.size := Nat.le_trans SZ0.out b2.size
    have O3 := OM.out w2
    have d3 : Below (w.heap.size + 1) w0 (w2.alloc (.cells (bof (L + 1) fun _ => false).toArray 4)) := d2.alloc z2 _
    have MK2 := MK w2
    obtain ⟨w3, hw3⟩ : ∃ w3, w2.alloc (.cells (bof (L + 1) fun _ => false).toArray 4) = w3 := ⟨_, rfl⟩
    have z3 : w2.heap.size ≤ w3.heap.size := by rw [← hw3]; simp
    rw [hw3] at O3 d3 MK2
    obtain ⟨p1, p2, p3⟩ := (O3.base (b1 := w.heap.size + 1) z2).put p true d3 (by omega) z2
    rw [fe] at p1
    have cc := O3.cell (j := p) (by omega)
    have fr := O3.free p
    have W4 : Hid (Below w.heap.size w (w3.setCell ⟨w2.heap.size, p, none⟩ (.bool true)) ∧ IsBo (w3.setCell ⟨w2.heap.size, p, none⟩ (.bool true)) (some ⟨w2.heap.size, 0, none⟩) (L + 1) (fun j => j == p)) := ⟨(BX.out _ p2).2, p1.is⟩
    have P2 := Lib.hid p2
    obtain ⟨⟨q0, q1, q2, q3, q4, q5⟩, _⟩ := BX.out _ p2
    clear p1 p2 p3 O3 d3 d2 b2 CI OM MK hw3
    go_wp2_with fail
    generalize w3.setCell ⟨w2.heap.size, p, none⟩ (.bool true) = w4 at *
    refine (CA.out w4 _ W4.out.1 W4.out.2).mono ?_
    rintro e w5 ⟨⟨q, rfl, o5⟩, b5⟩
    have D5 := Lib.hid (W4.out.1.trans (b5.mono W4.out.1.size))
    have IB := Lib.hid (fun W (hW : Below w5.heap.size w5 W) => o5.is.below hW)
    clear CA o5 b5 W4 P2 cc fr q0 q1 q2 q3 q4 q5 BX SZ0 MK2
    have I0 : Hid (w5.ownsRow w5.heap.size 3 1 (.slice none 0 0) (el 0).length (iz (el 0)) ∧ Below w5.heap.size w5 w5) := ⟨by rw [E0.out]; exact World.ownsRow_nil _ _ _ _, Below.refl _ _⟩
    go_wp2
    go_loopw [9, 10] (fun vo i wr => ∃ k : Nat, k ≤ L + 1 ∧ i = .int .i64 (k : Int) ∧ Hid (wr.ownsRow w5.heap.size 3 1 vo (el k).length (iz (el k)) ∧ Below w5.heap.size w5 wr)) (fun _ i _ => L + 1 - (intOf i).toNat)
    case atStart => exact ⟨0, by omega, rfl, I0⟩
    case round =>
      clear I0
      obtain ⟨k, hk, rfl, HI⟩ := hrel
      have own := HI.out.1
      have HB := Lib.hid HI.out.2
      have szr := HI.out.2.size
      clear HI
      by_cases hkL : k ≤ L
      · have hkz : (k : Int) ≤ (L : Int) := by omega
        have hkz1 : (k : Int) < (L : Int) + 1 := by omega
        obtain ⟨_, _, e, hx⟩ := IB.out wr HB.out (by omega)
        injection e with e; injection e with e1 e2
        subst e1 e2
        have c1 := hx k (by omega)
        rw [Nat.zero_add] at c1
        have hlen := LEN.out k
        clear hx
        cases hg : G k
        · rw [hg] at c1
          have I2 : Hid (wr.ownsRow w5.heap.size 3 1 u9 (el (k + 1)).length (iz (el (k + 1))) ∧ Below w5.heap.size w5 wr) := ⟨by rw [NO.out k hg]; exact own, HB.out⟩
          clear hg own
          go_wp2
          go_roundw
          case rel => exact ⟨k + 1, by omega, by go_num, I2⟩
          case measure => simp [intOf]; omega
        · rw [hg] at c1
          have YK := Lib.hid (YES.out k hg)
          clear hg
          go_wp2_with (at_builtin; refine wpList_append_own _ rfl _ _ 34 rfl w5.heap.size 3 i0 (.int .i64 0) 1 8 Tryd.underlying34 hi hz0 hz1 hz2 rfl (by decide) _ _ _ rfl (own.alloc _) ⟨wr.heap.size, 0, none⟩ 1 1 [.int .i64 (k : Int)] rfl rfl (cell_one_new _ _ _) (one_iz k) (by unfold maxLen; omega) (by omega) (by simp; omega) ?_)
          intro v' w6 o6 g6 _
          have I2 : Hid (w6.ownsRow w5.heap.size 3 1 v' (el (k + 1)).length (iz (el (k + 1))) ∧ Below w5.heap.size w5 w6) := ⟨by rw [YK.out, List.length_append, iz_app]; exact o6, (HB.out.alloc szr _).grown g6 (by simp; omega) (fun q hq => (own.lt q hq).1)⟩
          clear o6 g6 own
          go_wp2
          go_roundw
          case rel => exact ⟨k + 1, by omega, by go_num, I2⟩
          case measure => simp [intOf]; omega
      · obtain rfl : k = L + 1 := by omega
        have hkz : ¬ (((L + 1 : Nat) : Int)) ≤ (L : Int) := by omega
        have R : Hid (MadeInts w (el (L + 1)) (.returned u9) wr) := ⟨_, rfl, by
          refine ⟨own.1, ?_⟩
          rcases own.2 with hn | ⟨g, cap, cur, e, hg, rest⟩
          · exact .inl hn
          · exact .inr ⟨g, cap, cur, e, by have := D5.out.size; omega, rest⟩, D5.out.trans (HB.out.mono D5.out.size)⟩
        clear own
        go_wp2
        go_ret
        exact R.out

end Go.Proofs.YtjmojjjgifkkiaaDoor
namespace Go.Proofs.YtjmojjjgifkkiaaDoor
open Go.RowKit Go.Sort
open Pz

/-- What the reference's Ends makes of any tree, as a list. -/
theorem rends_all {t : Rx} (hcnt : Rx.count t ≤ 1000) (hfit : Rx.fit t) (v : Value) (z : Int) (s : ByteArray) (w : World) (hL : s.size ≤ 100) (h : IsRx w v t) :
    Calls Tryd.prog 73 #[v, .string s, .int .i64 z] w fun e w' => ∃ A n c, e = .returned (.slice A n c) ∧ (ends (txt8 s) t z).length = n ∧ n ≤ 101 ∧ IsZ w' A (zn (ends (txt8 s) t z)) ∧ Below w.heap.size w w' := by
  by_cases hz : Rx.isRex t = true ∧ 0 ≤ z ∧ z ≤ (s.size : Int)
  · obtain ⟨p, rfl⟩ : ∃ p : Nat, z = (p : Int) := ⟨z.toNat, by omega⟩
    have e : ends (txt8 s) t (p : Int) = endsTo (txt8 s) t p (s.size + 1) := by
      unfold ends; rw [if_pos ⟨hz.1, hz.2.1, by rw [txt8_len]; exact hz.2.2⟩, txt8_len, Int.toNat_natCast]
    rw [e]
    refine (rends_some t v p s s.size w hcnt hz.1 hfit rfl hL (by omega) h).mono ?_
    rintro e w' ⟨v', rfl, ho, hb⟩
    rw [iz_zs] at ho
    obtain ⟨A, c, rfl, h1, h2, h3, h4⟩ := own_z ho
    exact ⟨A, _, c, rfl, rfl, Nat.le_trans (endsTo_len _ _ _ _) (by omega), h3, hb⟩
  · have e : ends (txt8 s) t z = [] := by unfold ends; rw [if_neg (fun h => hz (by rw [txt8_len] at h; exact h))]
    rw [e]
    refine (rends_none t v z s w hcnt h hz).mono ?_
    rintro e w' ⟨rfl, hb⟩
    exact ⟨none, 0, 0, rfl, rfl, by omega, IsZ.nil _ _, hb⟩
def s1 : ByteArray := ⟨#[97, 42, 124, 98]⟩
def s2 : ByteArray := ⟨#[97, 42]⟩
def s3 : ByteArray := ⟨#[97, 42, 42]⟩
def s4 : ByteArray := ⟨#[97, 97, 98]⟩
def t2 : Rx := .mk 4 0 0 0 0 [.mk 1 0 8589934592 0 0 []]
def t1 : Rx := .mk 3 0 0 0 0 [t2, .mk 1 0 17179869184 0 0 []]
theorem p1 : parse (txt8 s1) = some t1 := by kernel_rfl
theorem p2 : parse (txt8 s2) = some t2 := by kernel_rfl
theorem p3 : parse (txt8 s3) = none := by kernel_rfl
theorem e4 : ends (txt8 s4) t2 0 = [0, 1, 2] := by decide +kernel
theorem ParseRes.yes {w w' : World} {r : Option Rx} {t : Rx} {e : Ending} (h : ParseRes w r e w') (hr : r = some t) : ∃ op a b c d A n cap, e = .returned (.tuple #[.agg #[.int .i64 op, .int .u64 ((a : Nat) : Int), .int .u64 ((b : Nat) : Int), .int .u64 ((c : Nat) : Int), .int .u64 ((d : Nat) : Int), .slice A n cap], .bool true]) ∧ IsRx w' (.agg (c6 op a b c d A n cap)) t ∧ Below w.heap.size w w' := by
  subst hr
  obtain ⟨hb, ⟨t', v, hr, he, hx⟩ | ⟨hr, _⟩⟩ := h
  · injection hr with hr
    subst hr
    obtain ⟨op, a, b, c, d, A, n, cap, rfl⟩ := hx.form
    exact ⟨op, a, b, c, d, A, n, cap, he, hx.is, hb⟩
  · cases hr
theorem ParseRes.no {w w' : World} {r : Option Rx} {e : Ending} (h : ParseRes w r e w') (hr : r = none) : e = .returned (.tuple #[.agg #[.int .i64 0, .int .u64 0, .int .u64 0, .int .u64 0, .int .u64 0, .slice none 0 0], .bool false]) ∧ Below w.heap.size w w' := by
  subst hr
  obtain ⟨hb, ⟨_, _, hr, _⟩ | ⟨_, he⟩⟩ := h
  · cases hr
  · exact ⟨he, hb⟩
theorem cell_grow {w w' : World} (hb : Below w.heap.size w w') {p : Addr} {v : Value} (h : w.cell? p = some v) : w'.cell? p = some v := (hb.cell (World.block_lt_of_cell? w _ h)).trans h
theorem IsRx.op {w : World} {V : Nat → Value} {op : Int} {a b c d : Nat} {ks : List Rx} (h : IsRx w (val6 V) (.mk op a b c d ks)) : V 0 = .int .i64 op := by
  generalize hv : val6 V = v at h
  cases h
  exact (val6_eq hv).1
theorem t1_form {w : World} {op : Int} {a b c d n cap : Nat} {A : Option Addr} (h : IsRx w (.agg (c6 op a b c d A n cap)) t1) : op = 3 ∧ n = 2 ∧ ∃ blk off, A = some ⟨blk, off, none⟩ ∧ w.cell? ⟨blk, off, none⟩ = some (.int .i64 4) ∧ w.cell? ⟨blk, off + 6, none⟩ = some (.int .i64 1) := by
  generalize hv : Value.agg (c6 op a b c d A n cap) = v at h
  unfold t1 at h
  cases h with
  | node _ _ _ _ _ _ A' cap' blk off V hcap hA hp hc hk =>
    simp [c6] at hv
    obtain ⟨h1, _, _, _, _, h2, h3, _⟩ := hv
    refine ⟨h1, h3, blk, off, h2.trans (hp (by simp)), ?_, ?_⟩
    · have := hc 0 0 (by simp) (by omega)
      have e := (hk 0 (by simp)).op
      rw [e] at this
      simpa using this
    · have := hc 1 0 (by simp) (by omega)
      have e := (hk 1 (by simp)).op
      rw [e] at this
      simpa using this
end Go.Proofs.YtjmojjjgifkkiaaDoor
namespace Go.Proofs.YtjmojjjgifkkiaaDoor
open Go.RowKit

/-- What lays the steps of a tree behind others. -/
def LayPost (base : Nat) (w : World) (v : Value) (n : Nat) (L M : List St) : Ending → World → Prop := fun e w' => ∃ A' m cap', m = n + M.length ∧ e = .returned (.slice A' m cap') ∧ Steps base w' (.slice A' m cap') (L ++ M) ∧ Moved w v w' (.slice A' m cap')
def Lays (f : FuncId) (base : Nat) (t : Rx) : Prop := ∀ (tv : Value) (L : List St) (A : Option Addr) (n cap : Nat) (w : World), L.length = n → n + Rx.sz t ≤ 1000 → base ≤ w.heap.size → RxIn (fun b => b < base) w tv t → Steps base w (.slice A n cap) L →
  Calls Tryd.prog f #[.slice A n cap, tv] w (LayPost base w (.slice A n cap) n L (Rx.lay n t))
/-- Its kid in a box, at the beginning of a walk. -/
structure Boxed (base : Nat) (w w0 : World) (v : Value) (L : List St) (cs : Array Value) (t : Rx) : Prop where
  moved : Moved w v w0 v
  steps : Steps base w0 v L
  box : w0.heap[w.heap.size]? = some (.cells cs 60 (0, 0))
  size : w0.heap.size = w.heap.size + 1
  tree : RxIn (fun b => b < base) w0 (.agg cs) t
theorem Boxed.of {base : Nat} {w : World} {v : Value} {L : List St} {cs : Array Value} {t : Rx} (hb : base ≤ w.heap.size) (hs : Steps base w v L) (ht : RxIn (fun b => b < base) w (.agg cs) t) : Boxed base w (w.alloc (.cells cs 60)) v L cs t := by
  have B : Below w.heap.size w (w.alloc (.cells cs 60)) := (Below.refl _ _).alloc (Nat.le_refl _) _
  exact ⟨Moved.of v B, hs.grow B, heap_alloc_new w _, by simp, ht.low (B.mono hb)⟩
/-- What is known of its kid in a later world. -/
theorem Boxed.later {base : Nat} {w w0 W : World} {v V : Value} {L : List St} {v0 v1 v2 v3 v4 v5 : Value} {t : Rx} (h : Boxed base w w0 v L #[v0, v1, v2, v3, v4, v5] t) (hb : base ≤ w.heap.size) (htop : ∀ k, v.ownBlock = some k → k < w.heap.size) (hlow : ∀ k, v.ownBlock = some k → base ≤ k) (hm : Moved w0 v W V) :
    (W.cell? ⟨w.heap.size, 0, none⟩ = some v0 ∧ W.cell? ⟨w.heap.size, 1, none⟩ = some v1 ∧ W.cell? ⟨w.heap.size, 2, none⟩ = some v2 ∧ W.cell? ⟨w.heap.size, 3, none⟩ = some v3 ∧ W.cell? ⟨w.heap.size, 4, none⟩ = some v4 ∧ W.cell? ⟨w.heap.size, 5, none⟩ = some v5) ∧ RxIn (fun b => b < base) W (.agg #[v0, v1, v2, v3, v4, v5]) t ∧ base ≤ W.heap.size := by
  have hz := h.size
  have hz2 := hm.size
  exact ⟨hm.box h.box (fun e => by have := htop _ e.symm; omega), h.tree.low (hm.below (by omega) hlow), by omega⟩

set_option maxRecDepth 100000 in
set_option maxHeartbeats 4000000 in
theorem star_any (base : Nat) (t : Rx) (hT : Lays 82 base t) (tv : Value) (L : List St) (A : Option Addr) (n cap : Nat) (w : World) (hL : L.length = n) (hn : n + Rx.sz t + 2 ≤ 1000) (hb : base ≤ w.heap.size) (hx : RxIn (fun b => b < base) w tv t) (hs : Steps base w (.slice A n cap) L) (a b c d : Nat) :
    Calls Tryd.prog 98 #[.slice A n cap, tv] w (LayPost base w (.slice A n cap) n L (Rx.lay n (.mk 4 a b c d [t]))) := by
  obtain ⟨op, xa, xb, xc, xd, XA, xn, xcap, rfl⟩ := hx.form
  obtain ⟨Z, hZ⟩ : ∃ Z, Rx.sz t = Z := ⟨_, rfl⟩
  have BX := Lib.hid (Boxed.of hb hs hx)
  have LT := Lib.hid (fun W V => Boxed.later (W := W) (V := V) BX.out hb hs.top hs.low)
  have FIN : Hid (L ++ Rx.lay n (.mk 4 a b c d [t]) = L ++ (St.split (n + 1) (n + 2 + Z) :: (Rx.lay (n + 1) t ++ [St.jump n])) ∧ (Rx.lay n (.mk 4 a b c d [t])).length = Z + 2) := by
    refine ⟨?_, ?_⟩
    · simp [Rx.lay, Rx.layL, Rx.szL, hZ]
    · rw [Rx.lay_len]; simp [Rx.sz, Rx.szL, hZ]
  have TT : Hid (∀ L1 A1 cap1 W, L1.length = n + 1 → base ≤ W.heap.size → RxIn (fun b => b < base) W _ t → Steps base W (.slice A1 (n + 1) cap1) L1 → Calls Tryd.prog 82 #[.slice A1 (n + 1) cap1, _] W (LayPost base W (.slice A1 (n + 1) cap1) (n + 1) L1 (Rx.lay (n + 1) t))) := fun L1 A1 cap1 W h1 h2 h3 h4 => hT (.agg #[.int .i64 op, .int .u64 (xa : Int), .int .u64 (xb : Int), .int .u64 (xc : Int), .int .u64 (xd : Int), .slice XA xn xcap]) L1 A1 (n + 1) cap1 W h1 (by omega) h2 h3 h4
  have ZL : Hid ((Rx.lay (n + 1) t).length = Z) := by show _ = _; rw [Rx.lay_len, hZ]
  rw [hZ] at hn
  have hLL := Lib.hid hL
  clear hL hT hs hx hZ
  go_enter Tryd.func98, Tryd.ntmps98
  go_upto_region 2 with fail
  generalize w.alloc (.cells #[.int .i64 op, .int .u64 (xa : Int), .int .u64 (xb : Int), .int .u64 (xc : Int), .int .u64 (xd : Int), .slice XA xn xcap] 60) = w0 at *
  go_wp2_with (at_builtin; go_must (refine wpList_appS rfl (.tmp 8) (.tmp 12) rfl base (.slice A n cap) L n ⟨2, 0, 0, 0, 0, (n : Int) + 1, 0⟩ w0.heap.size rfl rfl rfl rfl BX.out.steps hLL.out (by omega) (by have := BX.out.size; omega) ?_); (intro g1 cap1 w1 S1 M1); (replace S1 := Lib.hid S1); (replace M1 := Lib.hid M1); (obtain ⟨⟨q0, q1, q2, q3, q4, q5⟩, X1, Z1⟩ := LT.out _ _ M1.out); (replace X1 := Lib.hid X1))
  refine (TT.out _ _ _ _ (by rw [List.length_append, hLL.out]; rfl) Z1 X1.out S1.out).mono ?_
  rintro e w2 ⟨A2, m2, cap2, hm, rfl, S2, M2⟩
  rw [ZL.out] at hm
  subst hm
  replace M2 := Lib.hid (M1.out.trans M2)
  replace S2 := Lib.hid S2
  obtain ⟨_, _, Z2⟩ := LT.out _ _ M2.out
  have L2 : Hid ((L ++ [(⟨2, 0, 0, 0, 0, (n : Int) + 1, 0⟩ : St)] ++ Rx.lay (n + 1) t).length = n + 1 + Z) := by show _ = _; rw [List.length_append, List.length_append, hLL.out, ZL.out]; rfl
  clear M1 S1 X1 q0 q1 q2 q3 q4 q5 TT
  go_wp2_with (at_builtin; go_must (refine wpList_appS rfl (.tmp 17) (.tmp 20) rfl base _ _ (n + 1 + Z) ⟨3, 0, 0, 0, 0, (n : Int), 0⟩ w2.heap.size rfl rfl rfl rfl S2.out L2.out (by omega) Z2 ?_); (intro g3 cap3 w3 S3 M3); go_must (simp only [List.append_assoc, List.cons_append, List.nil_append] at S3); (replace S3 := Lib.hid S3); (replace M3 := Lib.hid (M2.out.trans M3)); go_must (obtain ⟨hc, _, hf, _⟩ := S3.out.at hLL.out); (dsimp only at hc))
  obtain ⟨S4, M4⟩ := S3.out.fixY hLL.out ((n : Int) + 1 + Z + 1) (s' := St.split (n + 1) (n + 2 + Z)) (by simp [St.setY, St.split]; omega)
  go_ret
  refine ⟨_, n + 1 + Z + 1, cap3, by rw [FIN.out.2]; omega, rfl, ?_, BX.out.moved.trans (M3.out.trans M4)⟩
  rw [FIN.out.1]
  exact S4

set_option maxRecDepth 100000 in
set_option maxHeartbeats 4000000 in
theorem plus_any (base : Nat) (t : Rx) (hT : Lays 82 base t) (tv : Value) (L : List St) (A : Option Addr) (n cap : Nat) (w : World) (hL : L.length = n) (hn : n + Rx.sz t + 1 ≤ 1000) (hb : base ≤ w.heap.size) (hx : RxIn (fun b => b < base) w tv t) (hs : Steps base w (.slice A n cap) L) (a b c d : Nat) :
    Calls Tryd.prog 99 #[.slice A n cap, tv] w (LayPost base w (.slice A n cap) n L (Rx.lay n (.mk 5 a b c d [t]))) := by
  obtain ⟨op, xa, xb, xc, xd, XA, xn, xcap, rfl⟩ := hx.form
  obtain ⟨Z, hZ⟩ : ∃ Z, Rx.sz t = Z := ⟨_, rfl⟩
  have BX := Lib.hid (Boxed.of hb hs hx)
  have LT := Lib.hid (fun W V => Boxed.later (W := W) (V := V) BX.out hb hs.top hs.low)
  have FIN : Hid (L ++ Rx.lay n (.mk 5 a b c d [t]) = L ++ Rx.lay n t ++ [St.split n (n + Z + 1)] ∧ (Rx.lay n (.mk 5 a b c d [t])).length = Z + 1) := by
    refine ⟨?_, ?_⟩
    · simp [Rx.lay, Rx.layL, Rx.szL, hZ]
    · rw [Rx.lay_len]; simp [Rx.sz, Rx.szL, hZ]
  have TT := Lib.hid (hT (.agg #[.int .i64 op, .int .u64 (xa : Int), .int .u64 (xb : Int), .int .u64 (xc : Int), .int .u64 (xd : Int), .slice XA xn xcap]) L A n cap)
  have ZL : Hid ((Rx.lay n t).length = Z) := by show _ = _; rw [Rx.lay_len, hZ]
  rw [hZ] at hn TT
  have hLL := Lib.hid hL
  clear hL hT hs hx hZ
  go_enter Tryd.func99, Tryd.ntmps99
  go_upto_region 2 with fail
  generalize w.alloc (.cells #[.int .i64 op, .int .u64 (xa : Int), .int .u64 (xb : Int), .int .u64 (xc : Int), .int .u64 (xd : Int), .slice XA xn xcap] 60) = w0 at *
  obtain ⟨⟨q0, q1, q2, q3, q4, q5⟩, X1, Z1⟩ := LT.out _ _ (Moved.refl _ _)
  have T2 := Lib.hid (TT.out w0 hLL.out (by omega) Z1 X1 BX.out.steps)
  clear X1 TT
  go_wp2_with fail
  refine T2.out.mono ?_
  rintro e w2 ⟨A2, m2, cap2, hm, rfl, S2, M2⟩
  rw [ZL.out] at hm
  subst hm
  replace M2 := Lib.hid M2
  replace S2 := Lib.hid S2
  obtain ⟨_, _, Z2⟩ := LT.out _ _ M2.out
  have L2 : Hid ((L ++ Rx.lay n t).length = n + Z) := by show _ = _; rw [List.length_append, hLL.out, ZL.out]
  clear q0 q1 q2 q3 q4 q5 T2
  go_wp2_with (at_builtin; go_must (refine wpList_appS rfl (.tmp 11) (.tmp 17) rfl base _ _ (n + Z) ⟨2, 0, 0, 0, 0, (n : Int), (n : Int) + Z + 1⟩ w2.heap.size rfl rfl rfl rfl S2.out L2.out (by omega) Z2 ?_); (intro g3 cap3 w3 S3 M3); (replace S3 := Lib.hid S3); (replace M3 := Lib.hid (M2.out.trans M3)))
  go_ret
  refine ⟨_, n + Z + 1, cap3, by rw [FIN.out.2]; omega, rfl, ?_, BX.out.moved.trans M3.out⟩
  rw [FIN.out.1]
  have e : St.split n (n + Z + 1) = ⟨2, 0, 0, 0, 0, (n : Int), (n : Int) + Z + 1⟩ := by simp [St.split]
  rw [e]
  exact S3.out

set_option maxRecDepth 100000 in
set_option maxHeartbeats 4000000 in
theorem maybe_any (base : Nat) (t : Rx) (hT : Lays 82 base t) (tv : Value) (L : List St) (A : Option Addr) (n cap : Nat) (w : World) (hL : L.length = n) (hn : n + Rx.sz t + 1 ≤ 1000) (hb : base ≤ w.heap.size) (hx : RxIn (fun b => b < base) w tv t) (hs : Steps base w (.slice A n cap) L) (a b c d : Nat) :
    Calls Tryd.prog 100 #[.slice A n cap, tv] w (LayPost base w (.slice A n cap) n L (Rx.lay n (.mk 6 a b c d [t]))) := by
  obtain ⟨op, xa, xb, xc, xd, XA, xn, xcap, rfl⟩ := hx.form
  obtain ⟨Z, hZ⟩ : ∃ Z, Rx.sz t = Z := ⟨_, rfl⟩
  have BX := Lib.hid (Boxed.of hb hs hx)
  have LT := Lib.hid (fun W V => Boxed.later (W := W) (V := V) BX.out hb hs.top hs.low)
  have FIN : Hid (L ++ Rx.lay n (.mk 6 a b c d [t]) = L ++ (St.split (n + 1) (n + 1 + Z) :: Rx.lay (n + 1) t) ∧ (Rx.lay n (.mk 6 a b c d [t])).length = Z + 1) := by
    refine ⟨?_, ?_⟩
    · simp [Rx.lay, Rx.layL, Rx.szL, hZ]
    · rw [Rx.lay_len]; simp [Rx.sz, Rx.szL, hZ]
  have TT : Hid (∀ L1 A1 cap1 W, L1.length = n + 1 → base ≤ W.heap.size → RxIn (fun b => b < base) W _ t → Steps base W (.slice A1 (n + 1) cap1) L1 → Calls Tryd.prog 82 #[.slice A1 (n + 1) cap1, _] W (LayPost base W (.slice A1 (n + 1) cap1) (n + 1) L1 (Rx.lay (n + 1) t))) := fun L1 A1 cap1 W h1 h2 h3 h4 => hT (.agg #[.int .i64 op, .int .u64 (xa : Int), .int .u64 (xb : Int), .int .u64 (xc : Int), .int .u64 (xd : Int), .slice XA xn xcap]) L1 A1 (n + 1) cap1 W h1 (by omega) h2 h3 h4
  have ZL : Hid ((Rx.lay (n + 1) t).length = Z) := by show _ = _; rw [Rx.lay_len, hZ]
  rw [hZ] at hn
  have hLL := Lib.hid hL
  clear hL hT hs hx hZ
  go_enter Tryd.func100, Tryd.ntmps100
  go_upto_region 2 with fail
  generalize w.alloc (.cells #[.int .i64 op, .int .u64 (xa : Int), .int .u64 (xb : Int), .int .u64 (xc : Int), .int .u64 (xd : Int), .slice XA xn xcap] 60) = w0 at *
  go_wp2_with (at_builtin; go_must (refine wpList_appS rfl (.tmp 8) (.tmp 12) rfl base (.slice A n cap) L n ⟨2, 0, 0, 0, 0, (n : Int) + 1, 0⟩ w0.heap.size rfl rfl rfl rfl BX.out.steps hLL.out (by omega) (by have := BX.out.size; omega) ?_); (intro g1 cap1 w1 S1 M1); (replace S1 := Lib.hid S1); (replace M1 := Lib.hid M1); (obtain ⟨⟨q0, q1, q2, q3, q4, q5⟩, X1, Z1⟩ := LT.out _ _ M1.out); (replace X1 := Lib.hid X1))
  refine (TT.out _ _ _ _ (by rw [List.length_append, hLL.out]; rfl) Z1 X1.out S1.out).mono ?_
  rintro e w2 ⟨A2, m2, cap2, hm, rfl, S2, M2⟩
  rw [ZL.out] at hm
  subst hm
  replace M2 := Lib.hid (M1.out.trans M2)
  simp only [List.append_assoc, List.cons_append, List.nil_append] at S2
  obtain ⟨g2, cap2', hv⟩ := S2.form2 (by rw [List.length_append, List.length_cons]; omega)
  injection hv with hv1 hv2 hv3
  subst hv1 hv3
  clear hv2
  replace S2 := Lib.hid S2
  obtain ⟨hc, _, hf, _⟩ := S2.out.at hLL.out
  dsimp only at hc
  clear M1 S1 X1 q0 q1 q2 q3 q4 q5 TT
  go_wp2
  obtain ⟨S4, M4⟩ := S2.out.fixY hLL.out ((n : Int) + 1 + Z) (s' := St.split (n + 1) (n + 1 + Z)) (by simp [St.setY, St.split])
  go_ret
  refine ⟨_, n + 1 + Z, cap2, by rw [FIN.out.2]; omega, rfl, ?_, BX.out.moved.trans (M2.out.trans M4)⟩
  rw [FIN.out.1]
  exact S4

end Go.Proofs.YtjmojjjgifkkiaaDoor
namespace Go.Proofs.YtjmojjjgifkkiaaDoor
open Go.RowKit

/-- A row of places that one owns. -/
def Js (base : Nat) (w : World) (v : Value) (l : List Nat) : Prop := w.ownsRow base 3 1 v l.length (iz l)
theorem Js.nil (base : Nat) (w : World) : Js base w (.slice none 0 0) [] := World.ownsRow_nil _ _ _ _
/-- Two rows that lie apart. -/
def Apt (v u : Value) : Prop := ∀ g, v.ownBlock = some g → u.ownBlock ≠ some g
theorem Apt.symm {v u : Value} (h : Apt v u) : Apt u v := fun g h1 h2 => h g h2 h1
theorem Js.kept {base : Nat} {w w' : World} {j v v' : Value} {l : List Nat} (h : Js base w j l) (hm : Moved w v w' v') (ha : Apt j v) : Js base w' j l ∧ Apt j v' := by
  have hlt := World.ownsRow.lt h
  refine ⟨⟨h.1, ?_⟩, fun g hg e => ?_⟩
  · rcases h.2 with hn | ⟨g, cap, cur, e, hbg, hg, rest⟩
    · exact .inl hn
    · exact .inr ⟨g, cap, cur, e, hbg, (hm.block g (Array.getElem?_eq_some_iff.1 hg).1 (fun e2 => ha g (by rw [e]; rfl) e2.symm)).trans hg, rest⟩
  · rcases hm.own with e2 | ⟨g2, e2, h2⟩
    · rw [e2] at e; exact ha g hg e
    · rw [e2] at e; injection e with e; have := (hlt g hg).2; omega
theorem Steps.kept {base : Nat} {w w' : World} {j v v' : Value} {L : List St} (h : Steps base w j L) (hm : Moved w v w' v') (ha : Apt j v) : Steps base w' j L ∧ Apt j v' := by
  have hlt := World.ownsRow.lt h
  refine ⟨⟨h.1, ?_⟩, fun g hg e => ?_⟩
  · rcases h.2 with hn | ⟨g, cap, cur, e, hbg, hg, rest⟩
    · exact .inl hn
    · exact .inr ⟨g, cap, cur, e, hbg, (hm.block g (Array.getElem?_eq_some_iff.1 hg).1 (fun e2 => ha g (by rw [e]; rfl) e2.symm)).trans hg, rest⟩
  · rcases hm.own with e2 | ⟨g2, e2, h2⟩
    · rw [e2] at e; exact ha g hg e
    · rw [e2] at e; injection e with e; have := (hlt g hg).2; omega
/-- Beside v, a row in newer blocks grows. -/
theorem Moved.aside {w W W' : World} {v V j j' : Value} (h : Moved w v W V) (hm : Moved W j W' j') (hj : ∀ g, j.ownBlock = some g → w.heap.size ≤ g) : Moved w v W' V :=
  ⟨hm.os.trans h.os, hm.tape.trans h.tape, hm.output.trans h.output, Nat.le_trans h.size hm.size, fun k hk hne => (hm.block k (Nat.lt_of_lt_of_le hk h.size) (fun e => by have := hj k e.symm; omega)).trans (h.block k hk hne), h.own⟩
theorem Js.low {base : Nat} {w : World} {v : Value} {l : List Nat} (h : Js base w v l) : ∀ k, v.ownBlock = some k → base ≤ k := fun k hk => (World.ownsRow.lt h k hk).1
theorem Js.form2 {base : Nat} {w : World} {v : Value} {l : List Nat} (h : Js base w v l) (hp : 0 < l.length) : ∃ g cap, v = .slice (some ⟨g, 0, none⟩) l.length cap := by
  rcases h.2 with ⟨e, h0⟩ | ⟨g, cap', cur, e, rest⟩
  · omega
  · exact ⟨g, cap', e⟩
theorem Js.cell {base : Nat} {w : World} {g n cap : Nat} {l : List Nat} (h : Js base w (.slice (some ⟨g, 0, none⟩) n cap) l) {j p : Nat} (hj : l[j]? = some p) : w.cell? ⟨g, j, none⟩ = some (.int .i64 (p : Int)) := by
  have := World.ownsRow.cells h (g := g) rfl j (.int .i64 (p : Int)) (by simp [iz, hj])
  rw [add0] at this; exact this
/-- append(v, x) of one place, which a literal's row holds. -/
theorem wpList_appJ {ops : Array Oper} {rest : List Oper} {o : Oper} {a : Act} {w : World} {Q : Exit → Act → World → Prop} (hgd : o.guard = none) (sl x : Operand) (ho : o.op = .call { callee := .builtin .append, args := #[sl, x], argTypes := #[34, 34] })
    (base : Nat) (v : Value) (l : List Nat) (n : Nat) (p : Nat) (z : Int) (g : Nat) (hs : a.eval sl = v) (hx : a.eval x = .slice (some ⟨g, 0, none⟩) 1 1) (hg : w.heap.size = g) (hz : z = (p : Int)) (h : Js base w v l) (hL : l.length = n) (hn : n ≤ 100000) (hbase : base ≤ w.heap.size)
    (hk : ∀ g' cap' w', Js base w' (.slice (some ⟨g', 0, none⟩) (n + 1) cap') (l ++ [p]) → Moved w v w' (.slice (some ⟨g', 0, none⟩) (n + 1) cap') → wpList Tryd.prog ops Q rest (a.put o.dst (.slice (some ⟨g', 0, none⟩) (n + 1) cap')) w') : wpList Tryd.prog ops Q (o :: rest) a (w.alloc (.cells #[.int .i64 z] 3)) := by
  subst hL
  subst hg
  subst hz
  have B1 : Below w.heap.size w (w.alloc (.cells #[.int .i64 (p : Int)] 3)) := (Below.refl _ _).alloc (Nat.le_refl _) _
  have hnew := heap_alloc_new w (.cells #[.int .i64 (p : Int)] 3)
  have h1 : Js base (w.alloc (.cells #[.int .i64 (p : Int)] 3)) v l := (h.kept (v := .bool true) (v' := .bool true) (Moved.of _ B1) (fun _ _ e => by cases e)).1
  have z1 : (w.alloc (.cells #[.int .i64 (p : Int)] 3)).heap.size = w.heap.size + 1 := by simp
  generalize w.alloc (.cells #[.int .i64 (p : Int)] 3) = w1 at *
  obtain ⟨i0, hi, hz0, hz1, hz2⟩ := info_parts Tryd.infoZ
  refine wpList_append_own_at (P := Tryd.prog) w1 hgd sl x 34 ho base 3 i0 _ 1 8 Tryd.underlying34 hi hz0 hz1 hz2 rfl (by decide) v l.length (iz l) hs h1 ⟨w.heap.size, 0, none⟩ 1 1 [.int .i64 (p : Int)] hx rfl ?_ ?_ (by unfold maxLen; omega) (by omega) (by omega) ?_
  · intro j u hj
    rw [add0, cell_of_row _ w.heap.size j _ _ _ hnew]
    simpa using hj
  · intro u hu
    rw [List.mem_singleton] at hu
    subst hu; rfl
  · intro v' w' h2 h3 h4 h5
    have hS : Js base w' v' (l ++ [p]) := by unfold Js; rw [List.length_append, iz_app]; exact h2
    obtain ⟨g', cap', e⟩ := hS.form2 (by simp)
    rw [List.length_append, List.length_singleton] at e
    subst e
    refine hk g' cap' w' hS ?_
    have M1 : Moved w v w1 v := Moved.of v B1
    refine M1.trans ⟨h3.os, h3.tape, h3.output, h3.size, fun k hk hne => h3.block k hk hne, ?_⟩
    rcases h5 with e | e
    · exact .inl e
    · exact .inr ⟨_, e, Nat.le_refl _⟩
/-- A patched jump. -/
theorem Steps.fixX {base : Nat} {w : World} {g m cap n p : Nat} {L P R P' : List St} {s : St} (h : Steps base w (.slice (some ⟨g, 0, none⟩) m cap) (L ++ P ++ R)) (hL : L.length = n) (hp : n ≤ p) (hs : P[p - n]? = some s) (z : Int) (hP : P.set (p - n) (s.setX z) = P') :
    w.cell? ⟨g, p * 7 + 5, none⟩ = some (.int .i64 s.x) ∧ w.frozen? ⟨g, p * 7 + 5, none⟩ = false ∧ p < m ∧ Steps base (w.setCell ⟨g, p * 7 + 5, none⟩ (.int .i64 z)) (.slice (some ⟨g, 0, none⟩) m cap) (L ++ P' ++ R) ∧ Moved w (.slice (some ⟨g, 0, none⟩) m cap) (w.setCell ⟨g, p * 7 + 5, none⟩ (.int .i64 z)) (.slice (some ⟨g, 0, none⟩) m cap) := by
  have hlt : p - n < P.length := by
    rcases Nat.lt_or_ge (p - n) P.length with h | h
    · exact h
    · rw [List.getElem?_eq_none h] at hs; cases hs
  have hn : p < (L ++ P ++ R).length := by rw [List.length_append, List.length_append]; omega
  have hget : nthS (L ++ P ++ R) p = s := by
    simp only [nthS, List.getD]
    rw [List.getElem?_append_left (by rw [List.length_append]; omega), List.getElem?_append_right (by omega), hL, hs]; rfl
  have hset : (L ++ P ++ R).set p (s.setX z) = L ++ P' ++ R := by
    rw [List.set_append_left _ _ (by rw [List.length_append]; omega), List.set_append_right _ _ (by omega), hL, hP]
  have c5 := h.cell (i := 5) hn (by omega)
  have := h.putX hn z
  rw [hget] at c5 this
  rw [hset] at this
  exact ⟨c5, h.free _, by rw [h.form]; exact hn, this⟩

end Go.Proofs.YtjmojjjgifkkiaaDoor
