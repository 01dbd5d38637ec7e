/-
  Slices of ints in a walk; what the reference's SameInts and Has do. Conditions: lengths fit.
  What the reference's Ends does, for every tree that may be: the places at which a match may end, in order. Conditions: at most 1000 nodes, 100 places; words have 64 bits.
  Plain mathematics of the program's way through a text: a new part says what is so ahead of any byte; read byte by byte it tells where matches end. No conditions.
  Parts that are made of a tree, kid by kid, in new blocks. No conditions.
  What the program's Ends does: the places at which a match of a tree may end, in order; none of what may not be. Conditions: at most 1000 nodes, 100 places; words have 64 bits.
-/
import Derived.Test.YtonfmbnankihbaaDoorProg
import Derived.Test.YtonfmbnankihbaaDoorZ01
import Derived.Test.YtonfmbnankihbaaDoorZ02
import Derived.Test.YtonfmbnankihbaaDoorZ03
import Derived.Test.YtonfmbnankihbaaDoorZ12
import Derived.Test.YtonfmbnankihbaaDoorZ05
import Derived.Test.YtonfmbnankihbaaDoorZ08
import Derived.Test.YtonfmbnankihbaaDoorZ07
import Derived.Test.YtonfmbnankihbaaDoorZ04
import Derived.Test.YtonfmbnankihbaaDoorZ13
import Derived.Deep.QuietTactic
import Derived.Laws.MakeOwn
import Derived.Laws.OwnMore
import Derived.OwnWalk
import Derived.WalkKit
import Derived.WalkSpells
import Derived.WalkLawsBesides
import Derived.Lib.Hide
import Derived.Below
import Derived.BigQuiet
import Derived.Lib.QuietBelow
import Derived.Laws.StructEq
import Derived.KernelRfl
import Derived.Laws.AppendOwn
import Derived.Deep.RegionHeld3
import Derived.Laws.CopyOwn
import Derived.StillTailTactics
import Derived.Deep.MidRow
import Derived.Deep.Upon
namespace Go.Proofs.YtonfmbnankihbaaDoor
open Go.RowKit

/-- Ints as cells. -/
def zs (l : List Int) : List Value := l.map fun k => Value.int .i64 k
def zn (l : List Nat) : List Int := l.map fun k : Nat => (k : Int)
theorem zs_len (l : List Int) : (zs l).length = l.length := by simp [zs]
theorem zs_app (a b : List Int) : zs (a ++ b) = zs a ++ zs b := by simp [zs]
theorem zn_len (l : List Nat) : (zn l).length = l.length := by simp [zn]
theorem iz_zs (l : List Nat) : iz l = zs (zn l) := by simp [iz, zs, zn]
theorem zn_inj {a b : List Nat} : zn a = zn b ↔ a = b := by
  constructor
  · intro h
    have := congrArg (List.map Int.toNat) h
    simpa [zn, Function.comp_def] using this
  · rintro rfl; rfl
theorem zn_mem {l : List Nat} {k : Nat} : (k : Int) ∈ zn l ↔ k ∈ l := by
  simp only [zn, List.mem_map]
  constructor
  · rintro ⟨a, h, e⟩
    obtain rfl : a = k := by omega
    exact h
  · intro h; exact ⟨k, h, rfl⟩
/-- The slice at address a reads as these ints. -/
def IsZ (w : World) (a : Option Addr) (l : List Int) : Prop := 0 < l.length → ∃ b off, a = some ⟨b, off, none⟩ ∧ ∀ j, j < l.length → w.cell? ⟨b, off + j, none⟩ = some (.int .i64 (l.getD j 0))
theorem IsZ.drewN {w : World} {a : Option Addr} {l : List Int} (h : IsZ w a l) (n : Nat) : IsZ (w.drewN n) a l := h
theorem IsZ.below {w w' : World} {a : Option Addr} {l : List Int} (h : IsZ w a l) (hb : Below w.heap.size w w') : IsZ w' a l := by
  intro hp
  obtain ⟨b, off, e, hc⟩ := h hp
  exact ⟨b, off, e, fun j hj => (hb.cell (World.block_lt_of_cell? w _ (hc j hj))).trans (hc j hj)⟩
theorem IsZ.nil (w : World) (a : Option Addr) : IsZ w a [] := fun h => absurd h (by simp)
theorem zeq_of_getD {xs ys : List Int} (hl : xs.length = ys.length) (h : ∀ j, j < xs.length → xs.getD j 0 = ys.getD j 0) : xs = ys := by
  refine List.ext_getElem hl fun j h1 h2 => ?_
  have := h j h1
  simpa [List.getD, List.getElem?_eq_getElem h1, List.getElem?_eq_getElem h2] using this
/-- A slice of ints that one owns reads so. -/
theorem own_z {w : World} {base n : Nat} {v : Value} {l : List Int} (h : w.ownsRow base 3 1 v n (zs l)) : ∃ A c, v = .slice A n c ∧ n ≤ c ∧ (A = none → c = 0) ∧ IsZ w A l ∧ l.length = n := by
  have hl : l.length = n := by have := h.1; rw [zs_len] at this; omega
  rcases h.2 with ⟨rfl, rfl⟩ | ⟨g, cap, cur, rfl, _, hg, hc, _⟩
  · exact ⟨none, 0, rfl, Nat.le_refl _, fun _ => rfl, fun hp => by omega, hl⟩
  · refine ⟨_, cap, rfl, hc, (fun e => by cases e), fun _ => ⟨g, 0, rfl, fun j hj => ?_⟩, hl⟩
    have e : (zs l)[j]? = some (.int .i64 (l.getD j 0)) := by simp [zs, List.getD, List.getElem?_eq_getElem hj]
    have := h.cells (g := g) rfl j _ e
    rw [Nat.zero_add]
    have e2 : (⟨g, 0, none⟩ : Addr).add j = ⟨g, j, none⟩ := by unfold Addr.add; split <;> simp_all
    rwa [e2] at this
theorem mem_take_succ {xs : List Int} {k : Nat} {x : Int} (h : k < xs.length) : x ∈ xs.take (k + 1) ↔ x ∈ xs.take k ∨ x = xs.getD k 0 := by
  rw [List.take_succ_eq_append_getElem h, List.mem_append, List.mem_singleton, show xs.getD k 0 = xs[k] by simp [List.getD, List.getElem?_eq_getElem h]]
set_option maxRecDepth 100000 in
set_option maxHeartbeats 400000 in
theorem hasz_any (xs : List Int) (x : Int) (A : Option Addr) (nx ca : Nat) (w : World) (ex : xs.length = nx) (hx : nx ≤ 1099511627776) (ha : IsZ w A xs) :
    Calls Tryd.prog 19 #[.slice A nx ca, .int .i64 x] w fun e w' => e = .returned (.bool (decide (x ∈ xs))) ∧ w = w' := by
  have HA := Lib.hid ha
  have MT := Lib.hid (fun k (h : k < nx) => mem_take_succ (xs := xs) (k := k) (x := x) (by rw [ex]; exact h))
  have EX := Lib.hid ex
  clear ha ex
  go_enter Tryd.func19, Tryd.ntmps19
  go_wp2
  go_loop [5] (fun i => ∃ k : Nat, k ≤ nx ∧ i = .int .i64 (k : Int) ∧ Hid (¬ x ∈ xs.take k)) (fun i => nx - (intOf i).toNat)
  case atStart => exact ⟨0, by omega, rfl, by show ¬ _; simp⟩
  case round =>
    obtain ⟨k, hk, rfl, HN⟩ := hrel
    by_cases hkn : k < nx
    · obtain ⟨b1, o1, rfl, h1⟩ := HA.out (by rw [EX.out]; omega)
      have c1 := h1 k (by rw [EX.out]; exact hkn)
      clear h1
      have MK := Lib.hid (MT.out k hkn)
      by_cases e : xs.getD k 0 = x
      · have R : Hid (decide (x ∈ xs) = true) := decide_eq_true (List.mem_of_mem_take (MK.out.2 (.inr e.symm)))
        rw [e] at c1
        clear e
        go_wp2
        go_ret
        exact ⟨by rw [R.out]; rfl, rfl⟩
      · have e2 : (xs.getD k 0 == x) = false := by simpa using e
        have R : Hid (¬ x ∈ xs.take (k + 1)) := fun h => by
          rcases MK.out.1 h with h | h
          · exact HN.out h
          · exact e h.symm
        clear e
        generalize xs.getD k 0 = y at *
        go_wp2
        go_round
        case rel => exact ⟨k + 1, by omega, by go_num, R⟩
        case measure => simp [intOf]; omega
    · obtain rfl : k = nx := by omega
      have R : Hid (decide (x ∈ xs) = false) := decide_eq_false (by have := HN.out; rwa [List.take_of_length_le (by rw [EX.out]; exact Nat.le_refl _)] at this)
      go_wp2
      go_ret
      exact ⟨by rw [R.out]; rfl, rfl⟩

end Go.Proofs.YtonfmbnankihbaaDoor
namespace Go.Proofs.YtonfmbnankihbaaDoor
open Go.RowKit Go.Sort

set_option maxRecDepth 100000 in
set_option maxHeartbeats 4000000 in
theorem rends_some (t : Rx) (v : Value) (p : Nat) (s : ByteArray) (L : Nat) (w : World) (hcnt : Rx.count t ≤ 1000) (hr : Rx.isRex t = true) (hfit : Rx.fit t) (hs : s.size = L) (hL : L ≤ 100) (hpL : p ≤ L) (h : IsRx w v t) :
    Calls Tryd.prog 40 #[v, .string s, .int .i64 (p : Int)] w (MadeInts w (endsTo (txt8 s) t p (L + 1))) := by
  obtain ⟨i0, hi, hz0, hz1, hz2⟩ := info_parts Tryd.infoZ
  have h0 := Lib.hid h
  have YES := Lib.hid (fun k => endsTo_yes (S := txt8 s) (t := t) (a := p) (k := k))
  have NO := Lib.hid (fun k => endsTo_no (S := txt8 s) (t := t) (a := p) (k := k))
  have LEN := Lib.hid (endsTo_len (txt8 s) t p)
  have E0 : Hid (endsTo (txt8 s) t p 0 = []) := rfl
  obtain ⟨el, hel⟩ : ∃ el, endsTo (txt8 s) t p = el := ⟨_, rfl⟩
  obtain ⟨G, hG⟩ : ∃ G, Rx.aft (txt8 s) t (fun j => j == p) = G := ⟨_, rfl⟩
  rw [hel] at YES NO LEN E0 ⊢
  rw [hG] at YES NO
  have fe : (fun i => if i = p then true else (fun _ => false : Nat → Bool) i) = fun j => j == p := by
    funext i
    by_cases e : i = p
    · simp [e]
    · simp [e]
  have CI := Lib.hid (fun W (hW : Below w.heap.size w W) => risrex_any 1000 t v W (Nat.le_refl _) hcnt (h0.out.grown hW))
  rw [hr] at CI
  have CA := Lib.hid (fun W F (hW : Below w.heap.size w W) (hf : IsBo W F (L + 1) (fun j => j == p)) => rafter_any 1000 t v W s L F (L + 1) (fun j => j == p) (Nat.le_refl _) hcnt hr hfit hs hL (h0.out.grown hW) hf)
  unfold AftDone at CA
  rw [hG] at CA
  have MK := fun W => make_bools (L + 1) (by omega) W
  have el1 : ((L + 1 : Nat) : Int) = (L : Int) + 1 := by simp
  simp only [el1] at MK
  have OM := Lib.hid (fun W => own_made (L + 1) (by omega) W)
  have wl : IntKind.i64.wrap ((L : Int) + 1) = (L : Int) + 1 := by rw [IntKind.wrap_i64]; omega
  clear hG hel hcnt hr hfit
  cases h with
  | node op a b c d ks A cap blk off V hcap hA hp hc hk =>
    have BX := Lib.hid (fun W => box6 (w := w) (v0 := .int .i64 op) (v1 := .int .u64 (a : Int)) (v2 := .int .u64 (b : Int)) (v3 := .int .u64 (c : Int)) (v4 := .int .u64 (d : Int)) (v5 := .slice A ks.length cap) (ty := 34) (W := W))
    have SZ0 : Hid (w.heap.size + 1 ≤ (w.alloc (.cells #[.int .i64 op, .int .u64 (a : Int), .int .u64 (b : Int), .int .u64 (c : Int), .int .u64 (d : Int), .slice A ks.length cap] 34)).heap.size) := by show _ ≤ _; simp
    clear hcap hA hp hc hk h0
    generalize ks.length = N at *
    have hq1 : ¬ (p : Int) < 0 := by omega
    have hq2 : decide ((p : Int) > (L : Int)) = false := decide_eq_false (by omega)
    have hp1 : (p : Int) < (L : Int) + 1 := by omega
    go_enter Tryd.func40, Tryd.ntmps40
    go_wp2_with fail
    obtain ⟨w0, hw0⟩ : ∃ w0, w.alloc (.cells #[.int .i64 op, .int .u64 (a : Int), .int .u64 (b : Int), .int .u64 (c : Int), .int .u64 (d : Int), .slice A N cap] 34) = w0 := ⟨_, rfl⟩
    rw [hw0] at BX SZ0 ⊢
    clear hw0
    refine (CI.out w0 (BX.out w0 (Below.refl _ _)).2).mono ?_
    rintro e w2 ⟨rfl, b2⟩
    have d2 : Below (w.heap.size + 1) w0 w2 := b2.mono SZ0.out
    have z2 : w.heap.size + 1 ≤ w2.heap.size := Nat.le_trans SZ0.out b2.size
    have O3 := OM.out w2
    have d3 : Below (w.heap.size + 1) w0 (w2.alloc (.cells (bof (L + 1) fun _ => false).toArray 4)) := d2.alloc z2 _
    have MK2 := MK w2
    obtain ⟨w3, hw3⟩ : ∃ w3, w2.alloc (.cells (bof (L + 1) fun _ => false).toArray 4) = w3 := ⟨_, rfl⟩
    have z3 : w2.heap.size ≤ w3.heap.size := by rw [← hw3]; simp
    rw [hw3] at O3 d3 MK2
    obtain ⟨p1, p2, p3⟩ := (O3.base (b1 := w.heap.size + 1) z2).put p true d3 (by omega) z2
    rw [fe] at p1
    have cc := O3.cell (j := p) (by omega)
    have fr := O3.free p
    have W4 : Hid (Below w.heap.size w (w3.setCell ⟨w2.heap.size, p, none⟩ (.bool true)) ∧ IsBo (w3.setCell ⟨w2.heap.size, p, none⟩ (.bool true)) (some ⟨w2.heap.size, 0, none⟩) (L + 1) (fun j => j == p)) := ⟨(BX.out _ p2).2, p1.is⟩
    have P2 := Lib.hid p2
    obtain ⟨⟨q0, q1, q2, q3, q4, q5⟩, _⟩ := BX.out _ p2
    clear p1 p2 p3 O3 d3 d2 b2 CI OM MK hw3
    go_wp2_with fail
    generalize w3.setCell ⟨w2.heap.size, p, none⟩ (.bool true) = w4 at *
    refine (CA.out w4 _ W4.out.1 W4.out.2).mono ?_
    rintro e w5 ⟨⟨q, rfl, o5⟩, b5⟩
    have D5 := Lib.hid (W4.out.1.trans (b5.mono W4.out.1.size))
    have IB := Lib.hid (fun W (hW : Below w5.heap.size w5 W) => o5.is.below hW)
    clear CA o5 b5 W4 P2 cc fr q0 q1 q2 q3 q4 q5 BX SZ0 MK2
    have I0 : Hid (w5.ownsRow w5.heap.size 3 1 (.slice none 0 0) (el 0).length (iz (el 0)) ∧ Below w5.heap.size w5 w5) := ⟨by rw [E0.out]; exact World.ownsRow_nil _ _ _ _, Below.refl _ _⟩
    go_wp2
    go_loopw [9, 10] (fun vo i wr => ∃ k : Nat, k ≤ L + 1 ∧ i = .int .i64 (k : Int) ∧ Hid (wr.ownsRow w5.heap.size 3 1 vo (el k).length (iz (el k)) ∧ Below w5.heap.size w5 wr)) (fun _ i _ => L + 1 - (intOf i).toNat)
    case atStart => exact ⟨0, by omega, rfl, I0⟩
    case round =>
      clear I0
      obtain ⟨k, hk, rfl, HI⟩ := hrel
      have own := HI.out.1
      have HB := Lib.hid HI.out.2
      have szr := HI.out.2.size
      clear HI
      by_cases hkL : k ≤ L
      · have hkz : (k : Int) ≤ (L : Int) := by omega
        have hkz1 : (k : Int) < (L : Int) + 1 := by omega
        obtain ⟨_, _, e, hx⟩ := IB.out wr HB.out (by omega)
        injection e with e; injection e with e1 e2
        subst e1 e2
        have c1 := hx k (by omega)
        rw [Nat.zero_add] at c1
        have hlen := LEN.out k
        clear hx
        cases hg : G k
        · rw [hg] at c1
          have I2 : Hid (wr.ownsRow w5.heap.size 3 1 u9 (el (k + 1)).length (iz (el (k + 1))) ∧ Below w5.heap.size w5 wr) := ⟨by rw [NO.out k hg]; exact own, HB.out⟩
          clear hg own
          go_wp2
          go_roundw
          case rel => exact ⟨k + 1, by omega, by go_num, I2⟩
          case measure => simp [intOf]; omega
        · rw [hg] at c1
          have YK := Lib.hid (YES.out k hg)
          clear hg
          go_wp2_with (at_builtin; refine wpList_append_own _ rfl _ _ 38 rfl w5.heap.size 3 i0 (.int .i64 0) 1 8 Tryd.underlying38 hi hz0 hz1 hz2 rfl (by decide) _ _ _ rfl (own.alloc _) ⟨wr.heap.size, 0, none⟩ 1 1 [.int .i64 (k : Int)] rfl rfl (cell_one_new _ _ _) (one_iz k) (by unfold maxLen; omega) (by omega) (by simp; omega) ?_)
          intro v' w6 o6 g6 _
          have I2 : Hid (w6.ownsRow w5.heap.size 3 1 v' (el (k + 1)).length (iz (el (k + 1))) ∧ Below w5.heap.size w5 w6) := ⟨by rw [YK.out, List.length_append, iz_app]; exact o6, (HB.out.alloc szr _).grown g6 (by simp; omega) (fun q hq => (own.lt q hq).1)⟩
          clear o6 g6 own
          go_wp2
          go_roundw
          case rel => exact ⟨k + 1, by omega, by go_num, I2⟩
          case measure => simp [intOf]; omega
      · obtain rfl : k = L + 1 := by omega
        have hkz : ¬ (((L + 1 : Nat) : Int)) ≤ (L : Int) := by omega
        have R : Hid (MadeInts w (el (L + 1)) (.returned u9) wr) := ⟨_, rfl, by
          refine ⟨own.1, ?_⟩
          rcases own.2 with hn | ⟨g, cap, cur, e, hg, rest⟩
          · exact .inl hn
          · exact .inr ⟨g, cap, cur, e, by have := D5.out.size; omega, rest⟩, D5.out.trans (HB.out.mono D5.out.size)⟩
        clear own
        go_wp2
        go_ret
        exact R.out

end Go.Proofs.YtonfmbnankihbaaDoor
namespace Go.Proofs.YtonfmbnankihbaaDoor
open Rx
namespace Pt
/-- May it be empty, by its kids? -/
def emOf (op : Int) (ks : List Pt) : Bool := if op = 4 ∨ op = 6 then true else if op = 2 then ks.countP em == ks.length else decide (0 < ks.countP em)
mutual
def emOk : Pt → Prop
  | .mk op _ _ _ _ _ em _ _ ks => em = emOf op ks ∧ emOkL ks
def emOkL : List Pt → Prop
  | [] => True
  | k :: r => emOk k ∧ emOkL r
end
variable {S : List Nat}
theorem emOk_em : ∀ {t : Pt}, emOk t → t.em = emOf t.op t.kids
  | .mk _ _ _ _ _ _ _ _ _ _, h => by rw [emOk] at h; exact h.1
mutual
theorem em_says : ∀ (t : Pt) (j : Nat), emOk t → isRex (sh t) = true → (t.em = true ↔ mt S (sh t) j j)
  | .mk op a b c d blk em l la ks, j, h, hr => by
    rw [sh, isRex] at hr
    rw [emOk] at h
    obtain ⟨h1, h2⟩ := h
    show em = true ↔ _
    rw [h1, emOf, sh]
    have QS := em_seq ks j h2
    have QA := em_alt ks j h2
    by_cases o1 : op = 1
    · subst o1
      rw [Rx.mt]
      simp only [if_true] at hr
      have e : ks = [] := by
        match ks, hr with
        | [], _ => rfl
        | _ :: _, hr => simp [shL] at hr
      subst e
      simp
    rw [if_neg o1] at hr
    simp only [Bool.and_eq_true] at hr
    obtain ⟨⟨hm, ha⟩, _⟩ := hr
    have QS := QS ha
    have QA := QA ha
    by_cases o4 : op = 4
    · subst o4
      have e2 : mt S (.mk 4 a b c d (shL ks)) = Star (mtHd S (shL ks)) := by funext i j; rw [Rx.mt]; simp
      rw [e2]
      simp [Star.refl j]
    by_cases o6 : op = 6
    · subst o6
      rw [Rx.mt]
      simp
    rw [if_neg (fun h => h.elim o4 o6)]
    by_cases o2 : op = 2
    · subst o2
      have e2 : mt S (.mk 2 a b c d (shL ks)) = mtSeq S (shL ks) := by funext i j; rw [Rx.mt]; simp
      rw [e2, if_pos rfl, ← QS]
      simp
    rw [if_neg o2]
    by_cases o3 : op = 3
    · subst o3
      have e2 : mt S (.mk 3 a b c d (shL ks)) = mtAlt S (shL ks) := by funext i j; rw [Rx.mt]; simp
      rw [e2, ← QA]
      simp
    · have o5 : op = 5 := by
        unfold may at hm
        simp [o2, o3, o4, o6] at hm
        exact hm.1
      subst o5
      have hl : (shL ks).length = 1 := by unfold may at hm; simpa using hm
      obtain ⟨k, rfl⟩ : ∃ k, ks = [k] := by
        match ks, hl with
        | [k], _ => exact ⟨k, rfl⟩
        | [], hl => simp [shL] at hl
        | _ :: _ :: _, hl => simp [shL] at hl
      have es : shL [k] = [sh k] := by rw [shL, shL]
      have e2 : mt S (.mk 5 a b c d (shL [k])) = fun i j => ∃ m, mt S (sh k) i m ∧ Star (mt S (sh k)) m j := by funext i j; rw [Rx.mt, es, hd_one]; simp
      rw [e2]
      rw [es] at QA
      simp only [mtAlt, or_false] at QA
      rw [decide_eq_true_eq, QA]
      constructor
      · intro q; exact ⟨j, q, .refl j⟩
      · rintro ⟨m, q1, q2⟩
        have a1 := mt_le _ q1
        have a2 := (Star.few (fun i j => mt_le (S := S) (sh k) (i := i) (j := j)) q2).1
        obtain rfl : m = j := by omega
        exact q1
theorem em_seq : ∀ (l : List Pt) (j : Nat), emOkL l → isAll (shL l) = true → (l.countP em = l.length ↔ mtSeq S (shL l) j j)
  | [], j, _, _ => by simp [shL, mtSeq]
  | k :: r, j, h, hr => by
    rw [emOkL] at h
    rw [shL, isAll, Bool.and_eq_true] at hr
    have h1 := em_says k j h.1 hr.1
    have h2 := em_seq r j h.2 hr.2
    have hle := List.countP_le_length (p := em) (l := r)
    rw [shL, List.countP_cons, List.length_cons]
    constructor
    · intro q
      by_cases e : k.em = true
      · rw [if_pos e] at q
        exact ⟨j, h1.1 e, h2.1 (by omega)⟩
      · rw [if_neg e] at q; omega
    · rintro ⟨m, q1, q2⟩
      have a1 := mt_le _ q1
      have a2 := seq_le _ q2
      obtain rfl : m = j := by omega
      rw [if_pos (h1.2 q1), h2.2 q2]
theorem em_alt : ∀ (l : List Pt) (j : Nat), emOkL l → isAll (shL l) = true → (0 < l.countP em ↔ mtAlt S (shL l) j j)
  | [], j, _, _ => by simp [shL, mtAlt]
  | k :: r, j, h, hr => by
    rw [emOkL] at h
    rw [shL, isAll, Bool.and_eq_true] at hr
    have h1 := em_says k j h.1 hr.1
    have h2 := em_alt r j h.2 hr.2
    rw [shL, List.countP_cons, mtAlt, ← h1, ← h2]
    constructor
    · intro q
      by_cases e : k.em = true
      · exact .inl e
      · rw [if_neg e] at q; exact .inr q
    · rintro (q | q)
      · rw [if_pos q]; omega
      · omega
end
mutual
theorem good_new : ∀ (t : Pt) (B : Nat → Prop) (i : Nat), emOk t → dead t → isRex (sh t) = true → (∀ b, b < i → ¬ B b) → good S t B i
  | .mk op a b c d blk em l la ks, B, i, h, hd, hr, hB => by
    have E := fun j => em_says (S := S) _ j h hr
    rw [sh] at E hr
    rw [emOk] at h
    rw [dead] at hd
    obtain ⟨_, rfl, hd⟩ := hd
    rw [good]
    refine ⟨E, ⟨fun q => absurd q (by decide), fun ⟨b', q1, q2, _⟩ => absurd q2 (hB b' q1)⟩, ?_⟩
    rw [isRex] at hr
    split
    · trivial
    · rename_i o1
      rw [if_neg o1] at hr
      simp only [Bool.and_eq_true] at hr
      split
      · exact goodSeq_new ks B i h.2 hd hr.1.2 hB
      · split
        · exact goodAll_new ks _ i h.2 hd hr.1.2 (fun b' q ⟨b1, q1, q2, _⟩ => hB b1 (by omega) q2)
        · exact goodAll_new ks _ i h.2 hd hr.1.2 hB
theorem goodAll_new : ∀ (l : List Pt) (B : Nat → Prop) (i : Nat), emOkL l → deadL l → isAll (shL l) = true → (∀ b, b < i → ¬ B b) → goodAll S l B i
  | [], _, _, _, _, _, _ => by rw [goodAll]; trivial
  | k :: r, B, i, h, hd, hr, hB => by
    rw [emOkL] at h
    rw [deadL] at hd
    rw [shL, isAll, Bool.and_eq_true] at hr
    rw [goodAll]
    exact ⟨good_new k B i h.1 hd.1 hr.1 hB, goodAll_new r B i h.2 hd.2 hr.2 hB⟩
theorem goodSeq_new : ∀ (l : List Pt) (B : Nat → Prop) (i : Nat), emOkL l → deadL l → isAll (shL l) = true → (∀ b, b < i → ¬ B b) → goodSeq S l B i
  | [], _, _, _, _, _, _ => by rw [goodSeq]; trivial
  | k :: r, B, i, h, hd, hr, hB => by
    rw [emOkL] at h
    rw [deadL] at hd
    rw [shL, isAll, Bool.and_eq_true] at hr
    rw [goodSeq]
    exact ⟨good_new k B i h.1 hd.1 hr.1 hB, goodSeq_new r _ i h.2 hd.2 hr.2 (fun b' q ⟨b1, q1, q2, _⟩ => hB b1 (by omega) q2)⟩
end
mutual
theorem dead_wf : ∀ (t : Pt), dead t → isRex (sh t) = true → wf t
  | .mk op a b c d blk em l la ks, h, hr => by
    rw [dead] at h
    rw [sh, isRex] at hr
    rw [wf]
    refine ⟨fun o => ?_, fun _ => h.2, ?_⟩
    · rw [if_pos o] at hr
      match ks, hr with
      | [], _ => rfl
      | _ :: _, hr => simp [shL] at hr
    · by_cases o : op = 1
      · rw [if_pos o] at hr
        match ks, hr with
        | [], _ => rw [wfL]; trivial
        | _ :: _, hr => simp [shL] at hr
      · rw [if_neg o] at hr
        simp only [Bool.and_eq_true] at hr
        exact dead_wfL ks h.2.2 hr.1.2
theorem dead_wfL : ∀ (l : List Pt), deadL l → isAll (shL l) = true → wfL l
  | [], _, _ => by rw [wfL]; trivial
  | k :: r, h, hr => by
    rw [deadL] at h
    rw [shL, isAll, Bool.and_eq_true] at hr
    rw [wfL]
    exact ⟨dead_wf k h.1 hr.1, dead_wfL r h.2 hr.2⟩
end
/-- Read from place p on, k bytes. -/
def rdTo (S : List Nat) (t : Pt) (p : Nat) : Nat → Pt
  | 0 => t
  | k + 1 => rd (S.getD (p + k) 0) (rdTo S t p k) (k == 0)
theorem sh_rdTo (t : Pt) (p : Nat) : ∀ k, sh (rdTo S t p k) = sh t
  | 0 => rfl
  | k + 1 => by rw [rdTo, sh_rd, sh_rdTo t p k]
theorem em_rdTo (t : Pt) (p : Nat) : ∀ k, (rdTo S t p k).em = t.em
  | 0 => rfl
  | k + 1 => by rw [rdTo, em_rd, em_rdTo t p k]
theorem bl_rdTo (t : Pt) (p : Nat) : ∀ k, bl (rdTo S t p k) = bl t
  | 0 => rfl
  | k + 1 => by rw [rdTo, bl_rd, bl_rdTo t p k]
theorem count_rdTo (t : Pt) (p : Nat) : ∀ k, count (rdTo S t p k) = count t
  | 0 => rfl
  | k + 1 => by rw [rdTo, count_rd, count_rdTo t p k]
theorem wf_rdTo {t : Pt} (p : Nat) (h : wf t) : ∀ k, wf (rdTo S t p k)
  | 0 => h
  | k + 1 => by rw [rdTo]; exact wf_rd _ _ _ (wf_rdTo p h k)
theorem good_rdTo {t : Pt} {p : Nat} (h : emOk t) (hd : dead t) (hr : isRex (sh t) = true) : ∀ k, p + k ≤ S.length → good S (rdTo S t p k) (fun j => j = p) (p + k)
  | 0, _ => good_new t _ _ h hd hr (fun b q e => by omega)
  | k + 1, hk => by
    rw [rdTo, ← Nat.add_assoc]
    refine good_rd (p + k) (by omega) _ _ _ (by rw [sh_rdTo]; exact hr) ?_ (good_rdTo h hd hr k (by omega))
    simp
theorem rdTo_la {t : Pt} {p k : Nat} (h : emOk t) (hd : dead t) (hr : isRex (sh t) = true) (hk : p + k ≤ S.length) (h0 : 0 < k) : (rdTo S t p k).la = true ↔ mt S (sh t) p (p + k) := by
  rw [good_la (good_rdTo h hd hr k hk), sh_rdTo]
  constructor
  · rintro ⟨b, _, rfl, q⟩; exact q
  · intro q; exact ⟨p, by omega, rfl, q⟩
theorem rdTo_dead {t : Pt} {p k : Nat} (hd : wf t) (h0 : 0 < k) (he : (rdTo S t p k).lv = false) : ∀ m, rdTo S t p (k + m) = rdTo S t p k
  | 0 => rfl
  | m + 1 => by
    rw [← Nat.add_assoc, rdTo, rdTo_dead hd h0 he m]
    have e : (k + m == 0) = false := by simp; omega
    rw [e]
    exact dead_rd _ _ (wf_rdTo p hd k) (wf_dead (wf_rdTo p hd k) he)
end Pt
theorem aft_mt {S : List Nat} {t : Rx} {p j : Nat} (hp : p ≤ S.length) (hj : j ≤ S.length) : aft S t (fun i => i == p) j = true ↔ mt S t p j := by
  rw [(aft_says S t).2 _ j hj]
  constructor
  · rintro ⟨i, _, e, q⟩
    have e2 : i = p := by simpa using e
    subst e2; exact q
  · intro q; exact ⟨p, hp, by simp, q⟩
theorem endsTo_front {S : List Nat} {t : Rx} {p : Nat} (hp : p ≤ S.length) : ∀ k, k ≤ p → endsTo S t p k = []
  | 0, _ => rfl
  | k + 1, hk => by
    rw [endsTo_no, endsTo_front hp k (by omega)]
    cases h : aft S t (fun j => j == p) k
    · rfl
    · have := Pt.mt_le _ ((aft_mt hp (by omega)).1 h); omega
theorem endsTo_stop {S : List Nat} {t : Rx} {p k : Nat} : ∀ m, (∀ j, k ≤ j → j < k + m → aft S t (fun i => i == p) j = false) → endsTo S t p (k + m) = endsTo S t p k
  | 0, _ => rfl
  | m + 1, h => by
    rw [← Nat.add_assoc, endsTo_no (h (k + m) (by omega) (by omega))]
    exact endsTo_stop m (fun j h1 h2 => h j h1 (by omega))

end Go.Proofs.YtonfmbnankihbaaDoor
namespace Go.Proofs.YtonfmbnankihbaaDoor
open Go.RowKit Go.Sort
open Pt

/-- The nine cells, as a value. -/
def val9 (t : Pt) : Value := .agg #[t.cell 0, t.cell 1, t.cell 2, t.cell 3, t.cell 4, t.cell 5, t.cell 6, t.cell 7, t.cell 8]
/-- A part that was made of a tree, in blocks from B on. -/
structure New (B : Nat) (x : Rx) (t : Pt) (w : World) : Prop where
  sh : sh t = x
  dead : dead t
  em : emOk t
  nodup : (bl t).Nodup
  low : ∀ b, b ∈ bl t → B ≤ b
  top : t.blk < w.heap.size
  free : ∀ i, w.frozen? ⟨t.blk, i, none⟩ = false
  kid : ∀ j, j < t.kids.length → Lay w t.blk (j * 9) (nth t.kids j)
def zero9 : Array Value := #[.int .i64 0, .int .u64 0, .int .u64 0, .int .u64 0, .int .u64 0, .slice none 0 0, .bool false, .bool false, .bool false]
theorem Tryd.infoP : (Tryd.prog.info? 58).map (fun i => (i.zero, i.size, i.bytes)) = some (some (.agg zero9), 9, 72) := by kernel_rfl
theorem make_parts (n : Nat) (hn : n ≤ 1000) (W : World) : (Instr.makeSlice 56 (.int .i64 (n : Int)) (.int .i64 (n : Int))).run Tryd.prog W = .ok (.slice (some ⟨W.heap.size, 0, none⟩) n n) (W.alloc (.cells (madeCells zero9 (n * 9)) 58)) := by
  obtain ⟨i0, hi, hz0, hz1, hz2⟩ := info_parts Tryd.infoP
  have := run_make (P := Tryd.prog) W 56 58 i0 (.agg zero9) Tryd.underlying56 hi hz0 .i64 .i64 (n : Int) (n : Int) (by omega) (by omega) (by rw [hz2]; omega) (by omega)
  rw [this, hz1, Int.toNat_natCast]
  rfl

theorem blL_snoc (t : Pt) : ∀ ts : List Pt, blL (ts ++ [t]) = blL ts ++ bl t
  | [] => by rw [List.nil_append, blL, blL, blL]; simp
  | k :: r => by rw [List.cons_append, blL, blL, blL_snoc t r, List.append_assoc]
theorem nth_snoc {ts : List Pt} {t : Pt} {j : Nat} : nth (ts ++ [t]) j = if j = ts.length then t else nth ts j := by
  unfold nth
  rw [List.getD_eq_getElem?_getD, List.getD_eq_getElem?_getD]
  by_cases e : j = ts.length
  · subst e; simp
  · rw [if_neg e]
    rcases Nat.lt_or_ge j ts.length with h | h
    · rw [List.getElem?_append_left h]
    · rw [List.getElem?_eq_none (by simp; omega), List.getElem?_eq_none (by omega)]
theorem mem_nth : ∀ {ks : List Pt} {k : Nat}, k ∈ blL ks → ∃ j, j < ks.length ∧ k ∈ bl (nth ks j)
  | [], k, hm => by rw [blL] at hm; cases hm
  | a :: r, k, hm => by
    rw [blL, List.mem_append] at hm
    rcases hm with hm | hm
    · exact ⟨0, by simp, hm⟩
    · obtain ⟨j, hj, hx⟩ := mem_nth hm
      exact ⟨j + 1, by simpa using hj, hx⟩
/-- What the loop of newPart keeps: the part itself in block gp, its first kids in block gk. -/
structure NInv (w2 : World) (gp gk N base : Nat) (V : Nat → Value) (ks : List Rx) (ts : List Pt) (k : Nat) (wr : World) : Prop where
  len : ts.length = k
  below : Below w2.heap.size w2 wr
  size : base ≤ wr.heap.size
  gpk : gp ≠ gk
  gkb : gk < base
  gpb : gp < base
  gpo : w2.heap.size ≤ gp
  gko : w2.heap.size ≤ gk
  pcell : ∀ i, i < 9 → wr.cell? ⟨gp, i, none⟩ = some (V i)
  pfree : ∀ i, wr.frozen? ⟨gp, i, none⟩ = false
  kcell : ∀ i, i < N * 9 → (wr.cell? ⟨gk, i, none⟩).isSome = true
  kfree : ∀ i, wr.frozen? ⟨gk, i, none⟩ = false
  kids : ∀ j, j < k → Lay wr gk (j * 9) (nth ts j)
  shp : ∀ j, j < k → sh (nth ts j) = Rx.nth ks j
  dead : ∀ j, j < k → dead (nth ts j)
  em : ∀ j, j < k → emOk (nth ts j)
  nodup : (blL ts).Nodup
  low : ∀ b, b ∈ blL ts → base ≤ b
  top : ∀ b, b ∈ blL ts → b < wr.heap.size
/-- What only grew. -/
theorem NInv.grown {w2 wr w' : World} {gp gk N base k : Nat} {V : Nat → Value} {ks : List Rx} {ts : List Pt} (I : NInv w2 gp gk N base V ks ts k wr) (h : Below wr.heap.size wr w') : NInv w2 gp gk N base V ks ts k w' := by
  have h1 := I.size
  have h2 := I.gpb
  have h3 := I.gkb
  have h4 := h.size
  exact { I with
    below := I.below.trans (h.mono I.below.size)
    size := by omega
    pcell := fun i hi => (h.cell (p := ⟨gp, i, none⟩) (by show gp < _; omega)).trans (I.pcell i hi)
    pfree := fun i => (h.frozen (p := ⟨gp, i, none⟩) (by show gp < _; omega)).trans (I.pfree i)
    kcell := fun i hi => by rw [h.cell (p := ⟨gk, i, none⟩) (by show gk < _; omega)]; exact I.kcell i hi
    kfree := fun i => (h.frozen (p := ⟨gk, i, none⟩) (by show gk < _; omega)).trans (I.kfree i)
    kids := fun j hj => (I.kids j hj).grown h
    top := fun b hb => Nat.lt_of_lt_of_le (I.top b hb) h4 }
def cells9 (t : Pt) : List Value := [t.cell 0, t.cell 1, t.cell 2, t.cell 3, t.cell 4, t.cell 5, t.cell 6, t.cell 7, t.cell 8]
theorem cells9_get (t : Pt) {i : Nat} (hi : i < 9) (h : i < (cells9 t).length) : (cells9 t)[i] = t.cell i := by
  match i, hi with
  | 0, _ => rfl | 1, _ => rfl | 2, _ => rfl | 3, _ => rfl | 4, _ => rfl | 5, _ => rfl | 6, _ => rfl | 7, _ => rfl | 8, _ => rfl
theorem size_setCells9 (b : Nat) : ∀ (vs : List Value) (o : Nat) (w : World), (w.setCells b o vs).heap.size = w.heap.size
  | [], _, _ => rfl
  | v :: r, o, w => by rw [World.setCells, size_setCells9 b r]; simp
theorem setCells_meta (b : Nat) : ∀ (vs : List Value) (o : Nat) (w : World), (w.setCells b o vs).os = w.os ∧ (w.setCells b o vs).tape = w.tape ∧ (w.setCells b o vs).output = w.output
  | [], _, _ => ⟨rfl, rfl, rfl⟩
  | v :: r, o, w => by
    rw [World.setCells]
    obtain ⟨h1, h2, h3⟩ := setCells_meta b r (o + 1) (w.setCell ⟨b, o, none⟩ v)
    exact ⟨h1.trans rfl, h2.trans rfl, h3.trans rfl⟩
set_option maxHeartbeats 1000000 in
/-- One kid more. -/
theorem NInv.next {w2 wr w3 : World} {gp gk N base k B : Nat} {V : Nat → Value} {ks : List Rx} {ts : List Pt} {t : Pt} (I : NInv w2 gp gk N base V ks ts k wr) (hk : k < N) (hB : wr.heap.size ≤ B) (h : Below wr.heap.size wr w3) (n : New B (Rx.nth ks k) t w3) :
    NInv w2 gp gk N base V ks (ts ++ [t]) (k + 1) (w3.setCells gk (k * 9) (cells9 t)) := by
  have J := I.grown h
  have h1 := I.size
  have h2 := J.size
  have hgp := I.gpb
  have hgk := I.gkb
  have hpk := I.gpk
  have l9 : (cells9 t).length = 9 := rfl
  have oth : ∀ b, b < w3.heap.size → b ≠ gk → (w3.setCells gk (k * 9) (cells9 t)).heap[b]? = w3.heap[b]? := fun b hb hne => World.heap_setCells_other w3 gk _ _ hb hne
  have M := setCells_meta gk (cells9 t) (k * 9) w3
  have lenk : ts.length = k := I.len
  have isS : ∀ j, j < (cells9 t).length → (w3.cell? ⟨gk, k * 9 + j, none⟩).isSome = true := fun j hj => J.kcell _ (by rw [l9] at hj; omega)
  have fz : ∀ x, (w3.setCells gk (k * 9) (cells9 t)).frozen? x = w3.frozen? x := fun x => World.frozen?_setCells gk _ _ _ x
  have sz : (w3.setCells gk (k * 9) (cells9 t)).heap.size = w3.heap.size := size_setCells9 _ _ _ _
  have cout : ∀ x : Addr, (x.block = gk → x.spot = none → x.off < k * 9 ∨ k * 9 + (cells9 t).length ≤ x.off) → (w3.setCells gk (k * 9) (cells9 t)).cell? x = w3.cell? x := World.cell?_setCells_out gk _ _ _
  have cin : ∀ i, i < 9 → (w3.setCells gk (k * 9) (cells9 t)).cell? ⟨gk, k * 9 + i, none⟩ = some (t.cell i) := fun i hi => by
    rw [World.cell?_setCells_in gk _ _ w3 isS i (by rw [l9]; exact hi), cells9_get t hi]
  have kis : ∀ x, (w3.cell? x).isSome = true → ((w3.setCells gk (k * 9) (cells9 t)).cell? x).isSome = true := World.isSome_setCells gk _ _ _
  clear isS
  generalize w3.setCells gk (k * 9) (cells9 t) = w4 at *
  have hbel : Below w2.heap.size w2 w4 := ⟨M.1.trans J.below.os, M.2.1.trans J.below.tape, M.2.2.trans J.below.output, by rw [sz]; exact J.below.size, fun b hb => (oth b (by have := J.below.size; omega) (by have := I.gko; omega)).trans (J.below.block b hb)⟩
  have hpc : ∀ i, i < 9 → w4.cell? ⟨gp, i, none⟩ = some (V i) := fun i hi => (World.cell?_of_block (w := w3) (oth gp (by omega) hpk)).trans (J.pcell i hi)
  refine ⟨by rw [List.length_append]; simp [lenk], hbel, by rw [sz]; exact h2, hpk, hgk, hgp, I.gpo, I.gko, hpc, fun i => (fz _).trans (J.pfree i), fun i hi => kis _ (J.kcell i hi), fun i => (fz _).trans (J.kfree i), ?_, ?_, ?_, ?_, ?_, ?_, ?_⟩
  · intro j hj
    rw [nth_snoc, lenk]
    by_cases e : j = k
    · subst e
      rw [if_pos rfl]
      refine .mk (fun i hi => ?_) (fun i => (fz _).trans (J.kfree i)) (by rw [sz]; exact n.top) fun q hq => ?_
      · exact cin i hi
      · have hb := n.low t.blk (by rw [bl_eq]; simp)
        have hne : ∀ b, b ∈ bl t → w4.heap[b]? = w3.heap[b]? := fun b hm => by
          have hb := n.low b hm
          by_cases hs : b < w3.heap.size
          · exact oth b hs (by omega)
          · rw [Array.getElem?_eq_none (by rw [sz]; omega), Array.getElem?_eq_none (by omega)]
        have h0 := hne t.blk (by rw [bl_eq]; simp)
        exact (n.kid q hq).frame (by rw [sz]; omega) (fun _ _ => World.cell?_of_block (w := w3) h0) (fun _ => World.frozen?_of_block (w := w3) h0) (fun b hm => hne b (by rw [bl_eq]; exact List.mem_cons_of_mem _ (nth_blL hq hm)))
    · rw [if_neg e]
      have hj' : j < k := by omega
      refine (J.kids j hj').frame (by rw [sz]; omega) (fun i hi => cout _ (fun _ _ => .inl (by show j * 9 + i < k * 9; omega))) (fun _ => fz _) (fun b hm => ?_)
      have hm2 : b ∈ blL ts := nth_blL (by omega) hm
      have := I.low b hm2
      have := J.top b hm2
      exact oth b (by omega) (by omega)
  · intro j hj
    rw [nth_snoc, lenk]
    split
    · rename_i e; subst e; exact n.sh
    · exact I.shp j (by omega)
  · intro j hj
    rw [nth_snoc, lenk]
    split
    · exact n.dead
    · exact I.dead j (by omega)
  · intro j hj
    rw [nth_snoc, lenk]
    split
    · exact n.em
    · exact I.em j (by omega)
  · rw [blL_snoc, List.nodup_append]
    refine ⟨I.nodup, n.nodup, fun x hx y hy e => ?_⟩
    have := I.top x hx
    have := n.low y hy
    omega
  · intro b hb
    rw [blL_snoc, List.mem_append] at hb
    rcases hb with hb | hb
    · exact I.low b hb
    · have := n.low b hb; omega
  · intro b hb
    rw [sz]
    rw [blL_snoc, List.mem_append] at hb
    rcases hb with hb | hb
    · exact J.top b hb
    · rw [bl_eq, List.mem_cons] at hb
      rcases hb with rfl | hb
      · exact n.top
      · obtain ⟨j, hj, hx⟩ := mem_nth hb
        exact (n.kid j hj).lt b hx
/-- All kids. -/
theorem NInv.lay {w2 wr : World} {gp gk N base : Nat} {ks : List Rx} {ts : List Pt} {op : Int} {a b c d : Nat} {V : Nat → Value} (hV : ∀ i, i < 9 → V i = (Pt.mk op a b c d gk false false false ts).cell i) (I : NInv w2 gp gk N base V ks ts N wr) : Lay wr gp 0 (.mk op a b c d gk false false false ts) := by
  have := I.gkb
  have := I.size
  refine .mk (fun i hi => ?_) I.pfree (by show gk < _; omega) fun j hj => I.kids j (by have := I.len; have : j < ts.length := hj; omega)
  rw [Nat.zero_add, I.pcell i hi, hV i hi]

end Go.Proofs.YtonfmbnankihbaaDoor
namespace Go.Proofs.YtonfmbnankihbaaDoor
open Go.RowKit Go.Sort
open Pt

set_option maxRecDepth 100000 in
set_option maxHeartbeats 2000000 in
theorem ends_none (t : Rx) (v : Value) (z : Int) (s : ByteArray) (w : World) (hcnt : Rx.count t ≤ 1000) (h : IsRx w v t) (hno : ¬ (Rx.isRex t = true ∧ 0 ≤ z ∧ z ≤ (s.size : Int))) :
    Calls Tryd.prog 20 #[v, .string s, .int .i64 z] w fun e w' => e = .returned (.slice none 0 0) ∧ Below w.heap.size w w' := by
  have h0 := h
  cases h with
  | node op a b c d ks A cap blk off V hcap hA hp hc hk =>
    have BX := box6 (w := w) (v0 := .int .i64 op) (v1 := .int .u64 (a : Int)) (v2 := .int .u64 (b : Int)) (v3 := .int .u64 (c : Int)) (v4 := .int .u64 (d : Int)) (v5 := .slice A ks.length cap) (ty := 34) (W := _) (Below.refl _ _)
    have CI := Lib.hid (is_any 1000 _ _ _ (Nat.le_refl _) hcnt (h0.grown BX.2))
    have BW := Lib.hid BX.2
    clear BX hcap hA hp hc hk h0 hcnt
    generalize ks.length = N at *
    by_cases hz : z < 0
    · clear hno CI
      go_enter Tryd.func20, Tryd.ntmps20
      go_wp2
      go_ret
      exact ⟨rfl, BW.out⟩
    by_cases hz2 : z > (s.size : Int)
    · have hzd : decide (z > (s.size : Int)) = true := decide_eq_true hz2
      clear hno CI hz2
      go_enter Tryd.func20, Tryd.ntmps20
      go_wp2
      go_ret
      exact ⟨rfl, BW.out⟩
    have hzd : decide (z > (s.size : Int)) = false := decide_eq_false hz2
    have hr : Rx.isRex (.mk op a b c d ks) = false := by
      cases hq : Rx.isRex (.mk op a b c d ks)
      · rfl
      · exact absurd ⟨hq, by omega, by omega⟩ hno
    rw [hr] at CI
    clear hno hr hz2
    go_enter Tryd.func20, Tryd.ntmps20
    go_wp2_with fail
    refine CI.out.mono ?_
    rintro e w2 ⟨rfl, b2⟩
    have B := Lib.hid (BW.out.trans (b2.mono BW.out.size))
    clear CI b2 BW
    go_wp2
    go_ret
    exact ⟨rfl, B.out⟩

mutual
theorem count_sh : ∀ t : Pt, Rx.count (sh t) = count t
  | .mk _ _ _ _ _ _ _ _ _ ks => by rw [sh, Rx.count, count, countL_sh ks]
theorem countL_sh : ∀ ks : List Pt, Rx.countL (shL ks) = countL ks
  | [] => by rw [shL, Rx.countL, countL]
  | k :: r => by rw [shL, Rx.countL, countL, count_sh k, countL_sh r]
end
theorem New.lay {B : Nat} {x : Rx} {t : Pt} {w : World} (n : New B x t w) : Lay (w.alloc (.cells (cells9 t).toArray 58)) w.heap.size 0 t ∧ Apart w.heap.size t := by
  have hb : Below w.heap.size w (w.alloc (.cells (cells9 t).toArray 58)) := (Below.refl _ _).alloc (Nat.le_refl _) _
  have hh := heap_alloc_new w (.cells (cells9 t).toArray 58)
  have lt : ∀ k, k ∈ bl t → k < w.heap.size := fun k hk => by
    rw [bl_eq, List.mem_cons] at hk
    rcases hk with rfl | hk
    · exact n.top
    · obtain ⟨j, hj, hx⟩ := mem_nth hk
      exact (n.kid j hj).lt k hx
  refine ⟨.mk (fun i hi => ?_) (fun i => by rw [World.frozen?, hh]; simp) (by have := n.top; simp; omega) (fun j hj => (n.kid j hj).grown hb), ?_⟩
  · rw [Nat.zero_add, cell_of_row _ _ _ _ _ _ hh, List.getElem?_toArray, List.getElem?_eq_getElem (show i < (cells9 t).length from hi), cells9_get t hi]
  · unfold Apart
    rw [List.nodup_cons]
    exact ⟨fun hm => by have := lt _ hm; omega, n.nodup⟩
theorem Tch.below {g o B : Nat} {Bs : List Nat} {w0 w w' : World} (T : Tch g o Bs w w') (h : Below B w0 w) (hg : B ≤ g) (hb : ∀ k, k ∈ Bs → B ≤ k) (hs : B ≤ w.heap.size) : Below B w0 w' :=
  h.trans ⟨T.os, T.tape, T.output, T.size, fun k hk => T.block k (by omega) (by omega) (fun hm => by have := hb k hm; omega)⟩
theorem own_tch {g o : Nat} {Bs : List Nat} {w w' : World} {base : Nat} {e : TypeId} {size : Nat} {v : Value} {n : Nat} {xs : List Value} (T : Tch g o Bs w w') (h : w.ownsRow base e size v n xs) (hg : g < base) (hb : ∀ k, k ∈ Bs → k < base) : w'.ownsRow base e size v n xs := by
  refine ⟨h.1, ?_⟩
  rcases h.2 with hn | ⟨g', cap, cur, e1, hbg, hg', rest⟩
  · exact .inl hn
  · exact .inr ⟨g', cap, cur, e1, hbg, (T.block g' (Array.getElem?_eq_some_iff.1 hg').1 (by omega) (fun hm => by have := hb g' hm; omega)).trans hg', rest⟩

end Go.Proofs.YtonfmbnankihbaaDoor
