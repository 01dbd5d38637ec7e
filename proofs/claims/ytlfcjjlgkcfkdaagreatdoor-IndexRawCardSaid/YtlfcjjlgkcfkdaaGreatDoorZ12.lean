/-
  Plain mathematics of the program's way through a text: a new part says what is so ahead of any byte; read byte by byte it tells where matches end. No conditions.
  Parts that are made of a tree, kid by kid, in new blocks. No conditions.
  What the program's Ends does: the places at which a match of a tree may end, in order; none of what may not be. Conditions: at most 1000 nodes, 100 places; words have 64 bits.
  What the reference's Ends does, for every tree that may be: the places at which a match may end, in order. Conditions: at most 1000 nodes, 100 places; words have 64 bits.
-/
import Derived.Test.YtlfcjjlgkcfkdaaGreatDoorProg
import Derived.Test.YtlfcjjlgkcfkdaaGreatDoorZ01
import Derived.Test.YtlfcjjlgkcfkdaaGreatDoorZ02
import Derived.Test.YtlfcjjlgkcfkdaaGreatDoorZ05
import Derived.Test.YtlfcjjlgkcfkdaaGreatDoorZ09
import Derived.Test.YtlfcjjlgkcfkdaaGreatDoorZ03
import Derived.Test.YtlfcjjlgkcfkdaaGreatDoorZ04
import Derived.Test.YtlfcjjlgkcfkdaaGreatDoorZ06
import Derived.Deep.RegionHeld3
import Derived.WalkKit
import Derived.WalkSpells
import Derived.WalkLawsBesides
import Derived.Lib.Hide
import Derived.Below
import Derived.BigQuiet
import Derived.Lib.QuietBelow
import Derived.Laws.StructEq
import Derived.KernelRfl
import Derived.Laws.MakeOwn
import Derived.Laws.OwnMore
import Derived.OwnWalk
import Derived.Laws.CopyOwn
import Derived.Laws.AppendOwn
import Derived.StillTailTactics
import Derived.Deep.MidRow
import Derived.Deep.Upon
import Derived.Deep.QuietTactic
namespace Go.Proofs.YtlfcjjlgkcfkdaaGreatDoor
open Rx
namespace Pt
/-- May it be empty, by its kids? -/
def emOf (op : Int) (ks : List Pt) : Bool := if op = 4 ∨ op = 6 then true else if op = 2 then ks.countP em == ks.length else decide (0 < ks.countP em)
mutual
def emOk : Pt → Prop
  | .mk op _ _ _ _ _ em _ _ ks => em = emOf op ks ∧ emOkL ks
def emOkL : List Pt → Prop
  | [] => True
  | k :: r => emOk k ∧ emOkL r
end
variable {S : List Nat}
end Pt
end Go.Proofs.YtlfcjjlgkcfkdaaGreatDoor
namespace Go.Proofs.YtlfcjjlgkcfkdaaGreatDoor
open Go.RowKit Go.Sort
open Pt

/-- A part that was made of a tree, in blocks from B on. -/
structure New (B : Nat) (x : Rx) (t : Pt) (w : World) : Prop where
  sh : sh t = x
  dead : dead t
  em : emOk t
  nodup : (bl t).Nodup
  low : ∀ b, b ∈ bl t → B ≤ b
  top : t.blk < w.heap.size
  free : ∀ i, w.frozen? ⟨t.blk, i, none⟩ = false
  kid : ∀ j, j < t.kids.length → Lay w t.blk (j * 9) (nth t.kids j)
theorem blL_snoc (t : Pt) : ∀ ts : List Pt, blL (ts ++ [t]) = blL ts ++ bl t
  | [] => by rw [List.nil_append, blL, blL, blL]; simp
  | k :: r => by rw [List.cons_append, blL, blL, blL_snoc t r, List.append_assoc]
theorem nth_snoc {ts : List Pt} {t : Pt} {j : Nat} : nth (ts ++ [t]) j = if j = ts.length then t else nth ts j := by
  unfold nth
  rw [List.getD_eq_getElem?_getD, List.getD_eq_getElem?_getD]
  by_cases e : j = ts.length
  · subst e; simp
  · rw [if_neg e]
    rcases Nat.lt_or_ge j ts.length with h | h
    · rw [List.getElem?_append_left h]
    · rw [List.getElem?_eq_none (by simp; omega), List.getElem?_eq_none (by omega)]
theorem mem_nth : ∀ {ks : List Pt} {k : Nat}, k ∈ blL ks → ∃ j, j < ks.length ∧ k ∈ bl (nth ks j)
  | [], k, hm => by rw [blL] at hm; cases hm
  | a :: r, k, hm => by
    rw [blL, List.mem_append] at hm
    rcases hm with hm | hm
    · exact ⟨0, by simp, hm⟩
    · obtain ⟨j, hj, hx⟩ := mem_nth hm
      exact ⟨j + 1, by simpa using hj, hx⟩
/-- What the loop of newPart keeps: the part itself in block gp, its first kids in block gk. -/
structure NInv (w2 : World) (gp gk N base : Nat) (V : Nat → Value) (ks : List Rx) (ts : List Pt) (k : Nat) (wr : World) : Prop where
  len : ts.length = k
  below : Below w2.heap.size w2 wr
  size : base ≤ wr.heap.size
  gpk : gp ≠ gk
  gkb : gk < base
  gpb : gp < base
  gpo : w2.heap.size ≤ gp
  gko : w2.heap.size ≤ gk
  pcell : ∀ i, i < 9 → wr.cell? ⟨gp, i, none⟩ = some (V i)
  pfree : ∀ i, wr.frozen? ⟨gp, i, none⟩ = false
  kcell : ∀ i, i < N * 9 → (wr.cell? ⟨gk, i, none⟩).isSome = true
  kfree : ∀ i, wr.frozen? ⟨gk, i, none⟩ = false
  kids : ∀ j, j < k → Lay wr gk (j * 9) (nth ts j)
  shp : ∀ j, j < k → sh (nth ts j) = Rx.nth ks j
  dead : ∀ j, j < k → dead (nth ts j)
  em : ∀ j, j < k → emOk (nth ts j)
  nodup : (blL ts).Nodup
  low : ∀ b, b ∈ blL ts → base ≤ b
  top : ∀ b, b ∈ blL ts → b < wr.heap.size
/-- What only grew. -/
theorem NInv.grown {w2 wr w' : World} {gp gk N base k : Nat} {V : Nat → Value} {ks : List Rx} {ts : List Pt} (I : NInv w2 gp gk N base V ks ts k wr) (h : Below wr.heap.size wr w') : NInv w2 gp gk N base V ks ts k w' := by
  have h1 := I.size
  have h2 := I.gpb
  have h3 := I.gkb
  have h4 := h.size
  exact { I with
    below := I.below.trans (h.mono I.below.size)
    size := by omega
    pcell := fun i hi => (h.cell (p := ⟨gp, i, none⟩) (by show gp < _; omega)).trans (I.pcell i hi)
    pfree := fun i => (h.frozen (p := ⟨gp, i, none⟩) (by show gp < _; omega)).trans (I.pfree i)
    kcell := fun i hi => by rw [h.cell (p := ⟨gk, i, none⟩) (by show gk < _; omega)]; exact I.kcell i hi
    kfree := fun i => (h.frozen (p := ⟨gk, i, none⟩) (by show gk < _; omega)).trans (I.kfree i)
    kids := fun j hj => (I.kids j hj).grown h
    top := fun b hb => Nat.lt_of_lt_of_le (I.top b hb) h4 }
def cells9 (t : Pt) : List Value := [t.cell 0, t.cell 1, t.cell 2, t.cell 3, t.cell 4, t.cell 5, t.cell 6, t.cell 7, t.cell 8]
theorem cells9_get (t : Pt) {i : Nat} (hi : i < 9) (h : i < (cells9 t).length) : (cells9 t)[i] = t.cell i := by
  match i, hi with
  | 0, _ => rfl | 1, _ => rfl | 2, _ => rfl | 3, _ => rfl | 4, _ => rfl | 5, _ => rfl | 6, _ => rfl | 7, _ => rfl | 8, _ => rfl
theorem size_setCells9 (b : Nat) : ∀ (vs : List Value) (o : Nat) (w : World), (w.setCells b o vs).heap.size = w.heap.size
  | [], _, _ => rfl
  | v :: r, o, w => by rw [World.setCells, size_setCells9 b r]; simp
theorem setCells_meta (b : Nat) : ∀ (vs : List Value) (o : Nat) (w : World), (w.setCells b o vs).os = w.os ∧ (w.setCells b o vs).tape = w.tape ∧ (w.setCells b o vs).output = w.output
  | [], _, _ => ⟨rfl, rfl, rfl⟩
  | v :: r, o, w => by
    rw [World.setCells]
    obtain ⟨h1, h2, h3⟩ := setCells_meta b r (o + 1) (w.setCell ⟨b, o, none⟩ v)
    exact ⟨h1.trans rfl, h2.trans rfl, h3.trans rfl⟩
set_option maxHeartbeats 1000000 in
/-- One kid more. -/
theorem NInv.next {w2 wr w3 : World} {gp gk N base k B : Nat} {V : Nat → Value} {ks : List Rx} {ts : List Pt} {t : Pt} (I : NInv w2 gp gk N base V ks ts k wr) (hk : k < N) (hB : wr.heap.size ≤ B) (h : Below wr.heap.size wr w3) (n : New B (Rx.nth ks k) t w3) :
    NInv w2 gp gk N base V ks (ts ++ [t]) (k + 1) (w3.setCells gk (k * 9) (cells9 t)) := by
  have J := I.grown h
  have h1 := I.size
  have h2 := J.size
  have hgp := I.gpb
  have hgk := I.gkb
  have hpk := I.gpk
  have l9 : (cells9 t).length = 9 := rfl
  have oth : ∀ b, b < w3.heap.size → b ≠ gk → (w3.setCells gk (k * 9) (cells9 t)).heap[b]? = w3.heap[b]? := fun b hb hne => World.heap_setCells_other w3 gk _ _ hb hne
  have M := setCells_meta gk (cells9 t) (k * 9) w3
  have lenk : ts.length = k := I.len
  have isS : ∀ j, j < (cells9 t).length → (w3.cell? ⟨gk, k * 9 + j, none⟩).isSome = true := fun j hj => J.kcell _ (by rw [l9] at hj; omega)
  have fz : ∀ x, (w3.setCells gk (k * 9) (cells9 t)).frozen? x = w3.frozen? x := fun x => World.frozen?_setCells gk _ _ _ x
  have sz : (w3.setCells gk (k * 9) (cells9 t)).heap.size = w3.heap.size := size_setCells9 _ _ _ _
  have cout : ∀ x : Addr, (x.block = gk → x.spot = none → x.off < k * 9 ∨ k * 9 + (cells9 t).length ≤ x.off) → (w3.setCells gk (k * 9) (cells9 t)).cell? x = w3.cell? x := World.cell?_setCells_out gk _ _ _
  have cin : ∀ i, i < 9 → (w3.setCells gk (k * 9) (cells9 t)).cell? ⟨gk, k * 9 + i, none⟩ = some (t.cell i) := fun i hi => by
    rw [World.cell?_setCells_in gk _ _ w3 isS i (by rw [l9]; exact hi), cells9_get t hi]
  have kis : ∀ x, (w3.cell? x).isSome = true → ((w3.setCells gk (k * 9) (cells9 t)).cell? x).isSome = true := World.isSome_setCells gk _ _ _
  clear isS
  generalize w3.setCells gk (k * 9) (cells9 t) = w4 at *
  have hbel : Below w2.heap.size w2 w4 := ⟨M.1.trans J.below.os, M.2.1.trans J.below.tape, M.2.2.trans J.below.output, by rw [sz]; exact J.below.size, fun b hb => (oth b (by have := J.below.size; omega) (by have := I.gko; omega)).trans (J.below.block b hb)⟩
  have hpc : ∀ i, i < 9 → w4.cell? ⟨gp, i, none⟩ = some (V i) := fun i hi => (World.cell?_of_block (w := w3) (oth gp (by omega) hpk)).trans (J.pcell i hi)
  refine ⟨by rw [List.length_append]; simp [lenk], hbel, by rw [sz]; exact h2, hpk, hgk, hgp, I.gpo, I.gko, hpc, fun i => (fz _).trans (J.pfree i), fun i hi => kis _ (J.kcell i hi), fun i => (fz _).trans (J.kfree i), ?_, ?_, ?_, ?_, ?_, ?_, ?_⟩
  · intro j hj
    rw [nth_snoc, lenk]
    by_cases e : j = k
    · subst e
      rw [if_pos rfl]
      refine .mk (fun i hi => ?_) (fun i => (fz _).trans (J.kfree i)) (by rw [sz]; exact n.top) fun q hq => ?_
      · exact cin i hi
      · have hb := n.low t.blk (by rw [bl_eq]; simp)
        have hne : ∀ b, b ∈ bl t → w4.heap[b]? = w3.heap[b]? := fun b hm => by
          have hb := n.low b hm
          by_cases hs : b < w3.heap.size
          · exact oth b hs (by omega)
          · rw [Array.getElem?_eq_none (by rw [sz]; omega), Array.getElem?_eq_none (by omega)]
        have h0 := hne t.blk (by rw [bl_eq]; simp)
        exact (n.kid q hq).frame (by rw [sz]; omega) (fun _ _ => World.cell?_of_block (w := w3) h0) (fun _ => World.frozen?_of_block (w := w3) h0) (fun b hm => hne b (by rw [bl_eq]; exact List.mem_cons_of_mem _ (nth_blL hq hm)))
    · rw [if_neg e]
      have hj' : j < k := by omega
      refine (J.kids j hj').frame (by rw [sz]; omega) (fun i hi => cout _ (fun _ _ => .inl (by show j * 9 + i < k * 9; omega))) (fun _ => fz _) (fun b hm => ?_)
      have hm2 : b ∈ blL ts := nth_blL (by omega) hm
      have := I.low b hm2
      have := J.top b hm2
      exact oth b (by omega) (by omega)
  · intro j hj
    rw [nth_snoc, lenk]
    split
    · rename_i e; subst e; exact n.sh
    · exact I.shp j (by omega)
  · intro j hj
    rw [nth_snoc, lenk]
    split
    · exact n.dead
    · exact I.dead j (by omega)
  · intro j hj
    rw [nth_snoc, lenk]
    split
    · exact n.em
    · exact I.em j (by omega)
  · rw [blL_snoc, List.nodup_append]
    refine ⟨I.nodup, n.nodup, fun x hx y hy e => ?_⟩
    have := I.top x hx
    have := n.low y hy
    omega
  · intro b hb
    rw [blL_snoc, List.mem_append] at hb
    rcases hb with hb | hb
    · exact I.low b hb
    · have := n.low b hb; omega
  · intro b hb
    rw [sz]
    rw [blL_snoc, List.mem_append] at hb
    rcases hb with hb | hb
    · exact J.top b hb
    · rw [bl_eq, List.mem_cons] at hb
      rcases hb with rfl | hb
      · exact n.top
      · obtain ⟨j, hj, hx⟩ := mem_nth hb
        exact (n.kid j hj).lt b hx
/-- All kids. -/
theorem NInv.lay {w2 wr : World} {gp gk N base : Nat} {ks : List Rx} {ts : List Pt} {op : Int} {a b c d : Nat} {V : Nat → Value} (hV : ∀ i, i < 9 → V i = (Pt.mk op a b c d gk false false false ts).cell i) (I : NInv w2 gp gk N base V ks ts N wr) : Lay wr gp 0 (.mk op a b c d gk false false false ts) := by
  have := I.gkb
  have := I.size
  refine .mk (fun i hi => ?_) I.pfree (by show gk < _; omega) fun j hj => I.kids j (by have := I.len; have : j < ts.length := hj; omega)
  rw [Nat.zero_add, I.pcell i hi, hV i hi]

end Go.Proofs.YtlfcjjlgkcfkdaaGreatDoor
namespace Go.Proofs.YtlfcjjlgkcfkdaaGreatDoor
open Go.RowKit Go.Sort
open Pt

theorem Tch.below {g o B : Nat} {Bs : List Nat} {w0 w w' : World} (T : Tch g o Bs w w') (h : Below B w0 w) (hg : B ≤ g) (hb : ∀ k, k ∈ Bs → B ≤ k) (hs : B ≤ w.heap.size) : Below B w0 w' :=
  h.trans ⟨T.os, T.tape, T.output, T.size, fun k hk => T.block k (by omega) (by omega) (fun hm => by have := hb k hm; omega)⟩
end Go.Proofs.YtlfcjjlgkcfkdaaGreatDoor
namespace Go.Proofs.YtlfcjjlgkcfkdaaGreatDoor
open Go.RowKit Go.Sort

set_option maxRecDepth 100000 in
set_option maxHeartbeats 4000000 in
theorem rends_some (t : Rx) (v : Value) (p : Nat) (s : ByteArray) (L : Nat) (w : World) (hcnt : Rx.count t ≤ 1000) (hr : Rx.isRex t = true) (hfit : Rx.fit t) (hs : s.size = L) (hL : L ≤ 100) (hpL : p ≤ L) (h : IsRx w v t) :
    Calls Tryz.prog 123 #[v, .string s, .int .i64 (p : Int)] w (MadeInts w (endsTo (txt8 s) t p (L + 1))) := by
  obtain ⟨i0, hi, hz0, hz1, hz2⟩ := info_parts Tryz.infoZ
  have h0 := Lib.hid h
  have YES := Lib.hid (fun k => endsTo_yes (S := txt8 s) (t := t) (a := p) (k := k))
  have NO := Lib.hid (fun k => endsTo_no (S := txt8 s) (t := t) (a := p) (k := k))
  have LEN := Lib.hid (endsTo_len (txt8 s) t p)
  have E0 : Hid (endsTo (txt8 s) t p 0 = []) := rfl
  obtain ⟨el, hel⟩ : ∃ el, endsTo (txt8 s) t p = el := ⟨_, rfl⟩
  obtain ⟨G, hG⟩ : ∃ G, Rx.aft (txt8 s) t (fun j => j == p) = G := ⟨_, rfl⟩
  rw [hel] at YES NO LEN E0 ⊢
  rw [hG] at YES NO
  have fe : (fun i => if i = p then true else (fun _ => false : Nat → Bool) i) = fun j => j == p := by
    funext i
    by_cases e : i = p
    · simp [e]
    · simp [e]
  have CI := Lib.hid (fun W (hW : Below w.heap.size w W) => risrex_any 1000 t v W (Nat.le_refl _) hcnt (h0.out.grown hW))
  rw [hr] at CI
  have CA := Lib.hid (fun W F (hW : Below w.heap.size w W) (hf : IsBo W F (L + 1) (fun j => j == p)) => rafter_any 1000 t v W s L F (L + 1) (fun j => j == p) (Nat.le_refl _) hcnt hr hfit hs hL (h0.out.grown hW) hf)
  unfold AftDone at CA
  rw [hG] at CA
  have MK := fun W => make_bools (L + 1) (by omega) W
  have el1 : ((L + 1 : Nat) : Int) = (L : Int) + 1 := by simp
  simp only [el1] at MK
  have OM := Lib.hid (fun W => own_made (L + 1) (by omega) W)
  have wl : IntKind.i64.wrap ((L : Int) + 1) = (L : Int) + 1 := by rw [IntKind.wrap_i64]; omega
  clear hG hel hcnt hr hfit
  cases h with
  | node op a b c d ks A cap blk off V hcap hA hp hc hk =>
    have BX := Lib.hid (fun W => box6 (w := w) (v0 := .int .i64 op) (v1 := .int .u64 (a : Int)) (v2 := .int .u64 (b : Int)) (v3 := .int .u64 (c : Int)) (v4 := .int .u64 (d : Int)) (v5 := .slice A ks.length cap) (ty := 135) (W := W))
    have SZ0 : Hid (w.heap.size + 1 ≤ (w.alloc (.cells #[.int .i64 op, .int .u64 (a : Int), .int .u64 (b : Int), .int .u64 (c : Int), .int .u64 (d : Int), .slice A ks.length cap] 135)).heap.size) := by show _ ≤ _; simp
    clear hcap hA hp hc hk h0
    generalize ks.length = N at *
    have hq1 : ¬ (p : Int) < 0 := by omega
    have hq2 : decide ((p : Int) > (L : Int)) = false := decide_eq_false (by omega)
    have hp1 : (p : Int) < (L : Int) + 1 := by omega
    go_enter Tryz.func123, Tryz.ntmps123
    go_wp2_with fail
    obtain ⟨w0, hw0⟩ : ∃ w0, w.alloc (.cells #[.int .i64 op, .int .u64 (a : Int), .int .u64 (b : Int), .int .u64 (c : Int), .int .u64 (d : Int), .slice A N cap] 135) = w0 := ⟨_, rfl⟩
    rw [hw0] at BX SZ0 ⊢
    clear hw0
    refine (CI.out w0 (BX.out w0 (Below.refl _ _)).2).mono ?_
    rintro e w2 ⟨rfl, b2⟩
    have d2 : Below (w.heap.size + 1) w0 w2 := b2.mono SZ0.out
    have z2 : w.heap.size + 1 ≤ w2.heap.size := Nat.le_trans SZ0.out b2.size
    have O3 := OM.out w2
    have d3 : Below (w.heap.size + 1) w0 (w2.alloc (.cells (bof (L + 1) fun _ => false).toArray 4)) := d2.alloc z2 _
    have MK2 := MK w2
    obtain ⟨w3, hw3⟩ : ∃ w3, w2.alloc (.cells (bof (L + 1) fun _ => false).toArray 4) = w3 := ⟨_, rfl⟩
    have z3 : w2.heap.size ≤ w3.heap.size := by rw [← hw3]; simp
    rw [hw3] at O3 d3 MK2
    obtain ⟨p1, p2, p3⟩ := (O3.base (b1 := w.heap.size + 1) z2).put p true d3 (by omega) z2
    rw [fe] at p1
    have cc := O3.cell (j := p) (by omega)
    have fr := O3.free p
    have W4 : Hid (Below w.heap.size w (w3.setCell ⟨w2.heap.size, p, none⟩ (.bool true)) ∧ IsBo (w3.setCell ⟨w2.heap.size, p, none⟩ (.bool true)) (some ⟨w2.heap.size, 0, none⟩) (L + 1) (fun j => j == p)) := ⟨(BX.out _ p2).2, p1.is⟩
    have P2 := Lib.hid p2
    obtain ⟨⟨q0, q1, q2, q3, q4, q5⟩, _⟩ := BX.out _ p2
    clear p1 p2 p3 O3 d3 d2 b2 CI OM MK hw3
    go_wp2_with fail
    generalize w3.setCell ⟨w2.heap.size, p, none⟩ (.bool true) = w4 at *
    refine (CA.out w4 _ W4.out.1 W4.out.2).mono ?_
    rintro e w5 ⟨⟨q, rfl, o5⟩, b5⟩
    have D5 := Lib.hid (W4.out.1.trans (b5.mono W4.out.1.size))
    have IB := Lib.hid (fun W (hW : Below w5.heap.size w5 W) => o5.is.below hW)
    clear CA o5 b5 W4 P2 cc fr q0 q1 q2 q3 q4 q5 BX SZ0 MK2
    have I0 : Hid (w5.ownsRow w5.heap.size 3 1 (.slice none 0 0) (el 0).length (iz (el 0)) ∧ Below w5.heap.size w5 w5) := ⟨by rw [E0.out]; exact World.ownsRow_nil _ _ _ _, Below.refl _ _⟩
    go_wp2
    go_loopw [9, 10] (fun vo i wr => ∃ k : Nat, k ≤ L + 1 ∧ i = .int .i64 (k : Int) ∧ Hid (wr.ownsRow w5.heap.size 3 1 vo (el k).length (iz (el k)) ∧ Below w5.heap.size w5 wr)) (fun _ i _ => L + 1 - (intOf i).toNat)
    case atStart => exact ⟨0, by omega, rfl, I0⟩
    case round =>
      clear I0
      obtain ⟨k, hk, rfl, HI⟩ := hrel
      have own := HI.out.1
      have HB := Lib.hid HI.out.2
      have szr := HI.out.2.size
      clear HI
      by_cases hkL : k ≤ L
      · have hkz : (k : Int) ≤ (L : Int) := by omega
        have hkz1 : (k : Int) < (L : Int) + 1 := by omega
        obtain ⟨_, _, e, hx⟩ := IB.out wr HB.out (by omega)
        injection e with e; injection e with e1 e2
        subst e1 e2
        have c1 := hx k (by omega)
        rw [Nat.zero_add] at c1
        have hlen := LEN.out k
        clear hx
        cases hg : G k
        · rw [hg] at c1
          have I2 : Hid (wr.ownsRow w5.heap.size 3 1 u9 (el (k + 1)).length (iz (el (k + 1))) ∧ Below w5.heap.size w5 wr) := ⟨by rw [NO.out k hg]; exact own, HB.out⟩
          clear hg own
          go_wp2
          go_roundw
          case rel => exact ⟨k + 1, by omega, by go_num, I2⟩
          case measure => simp [intOf]; omega
        · rw [hg] at c1
          have YK := Lib.hid (YES.out k hg)
          clear hg
          go_wp2_with (at_builtin; refine wpList_append_own _ rfl _ _ 29 rfl w5.heap.size 3 i0 (.int .i64 0) 1 8 Tryz.underlying29 hi hz0 hz1 hz2 rfl (by decide) _ _ _ rfl (own.alloc _) ⟨wr.heap.size, 0, none⟩ 1 1 [.int .i64 (k : Int)] rfl rfl (cell_one_new _ _ _) (one_iz k) (by unfold maxLen; omega) (by omega) (by simp; omega) ?_)
          intro v' w6 o6 g6 _
          have I2 : Hid (w6.ownsRow w5.heap.size 3 1 v' (el (k + 1)).length (iz (el (k + 1))) ∧ Below w5.heap.size w5 w6) := ⟨by rw [YK.out, List.length_append, iz_app]; exact o6, (HB.out.alloc szr _).grown g6 (by simp; omega) (fun q hq => (own.lt q hq).1)⟩
          clear o6 g6 own
          go_wp2
          go_roundw
          case rel => exact ⟨k + 1, by omega, by go_num, I2⟩
          case measure => simp [intOf]; omega
      · obtain rfl : k = L + 1 := by omega
        have hkz : ¬ (((L + 1 : Nat) : Int)) ≤ (L : Int) := by omega
        have R : Hid (MadeInts w (el (L + 1)) (.returned u9) wr) := ⟨_, rfl, by
          refine ⟨own.1, ?_⟩
          rcases own.2 with hn | ⟨g, cap, cur, e, hg, rest⟩
          · exact .inl hn
          · exact .inr ⟨g, cap, cur, e, by have := D5.out.size; omega, rest⟩, D5.out.trans (HB.out.mono D5.out.size)⟩
        clear own
        go_wp2
        go_ret
        exact R.out

end Go.Proofs.YtlfcjjlgkcfkdaaGreatDoor

