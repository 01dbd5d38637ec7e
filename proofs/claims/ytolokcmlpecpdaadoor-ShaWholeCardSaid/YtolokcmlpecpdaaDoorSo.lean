/-
  What the reference's First and Of do: the first state; for all bytes their digest (Sm.dig of the blocks of the padded bytes), writing nothing that was there. Conditions: at most 2^40 bytes; the table of constants lies in its variable.
-/
import Derived.Test.YtolokcmlpecpdaaDoorSr
import Derived.Test.YtolokcmlpecpdaaDoorSp
import Derived.Laws.CopyOwn
import Derived.Deep.MidRow
namespace Go.Proofs.YtolokcmlpecpdaaDoor
open Go.RowKit

set_option maxRecDepth 100000 in
set_option maxHeartbeats 400000 in
theorem rfirst_any (w : World) : Calls Tryd.prog 14 #[] w fun e w' => e = .returned (.agg (st8 Sm.first)) ∧ Below w.heap.size w w' := by
  go_enter Tryd.func14, Tryd.ntmps14
  go_wp2
  exact bodyPost_ret (v := .agg (st8 Sm.first)) (by simp [results, Tryd.results14, go_sem, st8, Sm.first, wi]) rfl ⟨rfl, (Below.refl _ _).alloc (Nat.le_refl _) _⟩

theorem Sm.pad_byte {l : List Nat} (h : ∀ x ∈ l, x < 256) : ∀ x ∈ Sm.pad l, x < 256 := by
  intro x hx
  simp only [Sm.pad, List.mem_append, List.mem_singleton, List.mem_replicate] at hx
  rcases hx with ((hx | hx) | hx) | hx
  · exact h x hx
  · omega
  · omega
  · exact Sm.word_byte _ x hx
theorem Sm.pad_len (l : List Nat) : ∃ m, (Sm.pad l).length = 64 * m := by
  refine ⟨(Sm.pad l).length / 64, ?_⟩
  have hw : (Vm.word (8 * l.length)).length = 8 := rfl
  simp only [Sm.pad, List.length_append, List.length_replicate, List.length_cons, List.length_nil, hw, Sm.zeros]
  omega
theorem Sm.pad_le (l : List Nat) : (Sm.pad l).length ≤ l.length + 72 := by
  have hw : (Vm.word (8 * l.length)).length = 8 := rfl
  simp only [Sm.pad, List.length_append, List.length_replicate, List.length_cons, List.length_nil, hw, Sm.zeros]
  omega
structure OfInv (w : World) (p : List Nat) (A : Option Addr) (H D g k : Nat) (wr : World) : Prop where
  oh : Has wr H 29 (st8 (Sm.blocks p k))
  od : Has wr D 22 (by8 (List.replicate 32 0)).toArray
  op : IsBytes wr A p
  oe : Below w.heap.size w wr
  ok : KTab wr g

theorem OfInv.keep {w : World} {p : List Nat} {A : Option Addr} {H D g k : Nat} {wr wr' : World} (T : OfInv w p A H D g k wr) (hb : Below wr.heap.size wr wr') (hk : KTab w g) : OfInv w p A H D g k wr' :=
  have e := T.oe.trans (hb.mono T.oe.size)
  ⟨T.oh.below hb T.oh.lt, T.od.below hb T.od.lt, isBytes_below T.op hb, e, hk.below e⟩
theorem OfInv.alloc {w : World} {p : List Nat} {A : Option Addr} {H D g k : Nat} {wr : World} (T : OfInv w p A H D g k wr) (o : Obj) : OfInv w p A H D g k (wr.alloc o) :=
  have b : Below wr.heap.size wr (wr.alloc o) := (Below.refl _ _).alloc (Nat.le_refl _) o
  ⟨T.oh.alloc o, T.od.alloc o, isBytes_below T.op b, T.oe.alloc T.oe.size o, T.ok.below b⟩

theorem splice_all {a b : List Value} (h : a.length = b.length) : splice a 0 b = b := by simp [splice, List.drop_of_length_le (Nat.le_of_eq h)]
theorem take_byte {p : List Nat} (h : ∀ x ∈ p, x < 256) (a n : Nat) : ∀ x ∈ (p.drop a).take n, x < 256 := fun x hx => h x (List.mem_of_mem_drop (List.mem_of_mem_take hx))
theorem blk_cells {w : World} {gp a n : Nat} {p : List Nat} (h : IsBytes w (some ⟨gp, 0, none⟩) p) (hn : a + n ≤ p.length) : ∀ j v, (by8 ((p.drop a).take n))[j]? = some v → w.cell? ((⟨gp, a, none⟩ : Addr).add j) = some v := by
  intro j v hv
  have hj : j < n := by
    by_cases hj : j < n
    · exact hj
    · rw [List.getElem?_eq_none (by simp [by8]; omega)] at hv; cases hv
  obtain ⟨b, off, e, hc⟩ := h.2 (by omega)
  injection e with e; injection e with e1 e2
  subst e1 e2
  have e2 : (⟨gp, a, none⟩ : Addr).add j = ⟨gp, 0 + (a + j), none⟩ := by unfold Addr.add; split <;> simp_all
  rw [e2, hc (a + j) (by omega), ← hv]
  simp [by8, hj, List.getElem?_drop, List.getElem?_eq_getElem (show a + j < p.length by omega)]
theorem OfInv.keep2 {w : World} {p : List Nat} {gp H D g k G : Nat} {wr wr' : World} (T : OfInv w p (some ⟨gp, 0, none⟩) H D g k wr) (hb : Below G wr wr') (hH : H < G) (hD : D < G) (hp : gp < G) (hG : w.heap.size ≤ G) (hk : KTab w g) : OfInv w p (some ⟨gp, 0, none⟩) H D g k wr' := by
  have e := T.oe.trans (hb.mono hG)
  refine ⟨T.oh.below hb hH, T.od.below hb hD, ⟨T.op.1, fun hp0 => ?_⟩, e, hk.below e⟩
  obtain ⟨b, off, e1, hc⟩ := T.op.2 hp0
  refine ⟨b, off, e1, fun j hj => ?_⟩
  injection e1 with e1; injection e1 with e2 _
  subst e2
  exact (hb.cell (p := ⟨gp, off + j, none⟩) hp).trans (hc j hj)

/-- The cells of a digest of which i bytes are there. -/
def dcells (t : Sm.St) (i : Nat) : Array Value := (by8 (Sm.dig t i ++ List.replicate (32 - i) 0)).toArray
structure Dig (w : World) (t : Sm.St) (H D E i : Nat) (wr : World) : Prop where
  dh : Has wr H 29 (st8 t)
  dd : Has wr D 22 (by8 (List.replicate 32 0)).toArray
  dx : Has wr E 22 (dcells t i)
  de : Below w.heap.size w wr
theorem Dig.start {w : World} {p : List Nat} {A : Option Addr} {H D g k : Nat} {wr : World} {t : Sm.St} (T : OfInv w p A H D g k wr) (_hD : w.heap.size = D) (ht : Sm.blocks p k = t) : Dig w t H D wr.heap.size 0 (wr.alloc (.cells (by8 (List.replicate 32 0)).toArray 22)) := by
  have h := T.oh
  rw [ht] at h
  exact ⟨h.alloc _, T.od.alloc _, Has.new _ _ _, T.oe.alloc T.oe.size _⟩
theorem Dig.word {w : World} {t : Sm.St} {H D E i : Nat} {wr : World} (Y : Dig w t H D E i wr) {q : Nat} (hq : q < 8) : wr.cell? ⟨H, q, none⟩ = some (.int .u32 (wi ((Sm.wl t).getD q 0))) := by
  have e : st8 t = (w32 (Sm.wl t)).toArray := rfl
  rw [Y.dh.cell, e, List.getElem?_toArray]
  exact w32_get _ _ _ (by simp [List.getElem?_eq_getElem (show q < (Sm.wl t).length from hq)])
theorem Dig.there {w : World} {t : Sm.St} {H D E i : Nat} {wr : World} (Y : Dig w t H D E i wr) (hi : i < 32) : ∃ u, wr.cell? ⟨E, i, none⟩ = some u := by
  rw [Y.dx.cell, dcells, List.getElem?_toArray]
  have : i < (by8 (Sm.dig t i ++ List.replicate (32 - i) 0)).length := by simp [by8, Sm.dig_len]; omega
  exact ⟨_, List.getElem?_eq_getElem this⟩
theorem Dig.step {w : World} {t : Sm.St} {H D E i : Nat} {wr : World} (Y : Dig w t H D E i wr) (hi : i < 32) (hH : H ≠ E) (hD : D ≠ E) (hw : w.heap.size ≤ E) :
    Dig w t H D E (i + 1) (wr.setCell ⟨E, i, none⟩ (.int .u8 ((Sm.dbyte t i : Nat) : Int))) := by
  refine ⟨Y.dh.far hH _, Y.dd.far hD _, ?_, Y.de.setCell hw _⟩
  have h := Y.dx.stored i (.int .u8 ((Sm.dbyte t i : Nat) : Int))
  obtain ⟨m, hm⟩ : ∃ m, 32 - i = m + 1 := ⟨31 - i, by omega⟩
  have hm' : 32 - (i + 1) = m := by omega
  have hl : (by8 (Sm.dig t i)).length = i := by simp [by8, Sm.dig_len]
  have e : (dcells t i).setIfInBounds i (.int .u8 ((Sm.dbyte t i : Nat) : Int)) = dcells t (i + 1) := by
    simp only [dcells, hm, hm', List.replicate_succ, List.setIfInBounds_toArray]
    congr 1
    have e1 : by8 (Sm.dig t i ++ 0 :: List.replicate m 0) = by8 (Sm.dig t i) ++ (Value.int .u8 0 :: by8 (List.replicate m 0)) := by simp [by8]
    have e2 : by8 (Sm.dig t (i + 1) ++ List.replicate m 0) = by8 (Sm.dig t i) ++ (Value.int .u8 ((Sm.dbyte t i : Nat) : Int) :: by8 (List.replicate m 0)) := by rw [Sm.dig]; simp [by8]
    rw [e1, e2, List.set_append_right _ _ (by omega), hl, Nat.sub_self]
    rfl
  rw [e] at h
  exact h
theorem puts_eq {G : Nat} : ∀ (l : List Value) (i : Nat) (W : World), puts G i l W = W.setCells G i l
  | [], _, _ => rfl
  | _ :: r, i, _ => puts_eq r (i + 1) _
theorem Tryd.size32 : (Tryd.prog.info? 22).map (·.size) = some 32 := by kernel_rfl
theorem Tryd.size8 : (Tryd.prog.info? 29).map (·.size) = some 8 := by kernel_rfl
theorem Tryd.size64 : (Tryd.prog.info? 30).map (·.size) = some 64 := by kernel_rfl
theorem puts_cell {H : Nat} {p : Addr} (hp : p.block ≠ H) : ∀ (l : List Value) (i : Nat) (W : World), (puts H i l W).cell? p = W.cell? p
  | [], _, _ => rfl
  | u :: r, i, W => (puts_cell hp r (i + 1) _).trans (World.cell?_setCell_other W ⟨H, i, none⟩ p u (fun e => hp (by rw [← e])))
theorem OfInv.step {w : World} {p : List Nat} {gp H D g k : Nat} {t : Sm.St} {wr : World} (T : OfInv w p (some ⟨gp, 0, none⟩) H D g k wr) (ht : Sm.blocks p (k + 1) = t) (hH : w.heap.size ≤ H) (hD : D < H) (hp : gp < H) (hk : KTab w g) :
    OfInv w p (some ⟨gp, 0, none⟩) H D g (k + 1) (puts H 0 (stL t) wr) := by
  have e := puts_below (G := H) (B := w.heap.size) hH (stL t) 0 wr T.oe
  refine ⟨?_, puts_far (by omega) _ _ _ T.od, ⟨T.op.1, fun hp0 => ?_⟩, e, hk.below e⟩
  · have h0 := T.oh
    generalize Sm.blocks p k = s0 at h0
    have h1 : Has (puts H 0 (stL t) wr) H 29 (st8 t) := puts_has (stL t) 0 wr (stL s0) h0 rfl
    exact (congrArg (fun q => Has (puts H 0 (stL t) wr) H 29 (st8 q)) ht).mpr h1
  · obtain ⟨b, off, e1, hc⟩ := T.op.2 hp0
    have e2 : gp = b := by injection e1 with e1; injection e1
    exact ⟨b, off, e1, fun j hj => (puts_cell (by show b ≠ H; omega) _ _ _).trans (hc j hj)⟩

set_option maxRecDepth 100000 in
set_option maxHeartbeats 400000 in
theorem rof_any (l : List Nat) (A : Option Addr) (cap : Nat) (w : World) (hl : l.length ≤ 1099511627776) (hA : A = none → cap = 0) (hb : IsBytes w A l) (hKT : KTab w 1) :
    Calls Tryd.prog 13 #[.slice A l.length cap] w fun e w' => e = .returned (.agg (by8 (Sm.dig (Sm.blocks (Sm.pad l) ((Sm.pad l).length / 64)) 32)).toArray) ∧ Below w.heap.size w w' := by
  have HA := Lib.hid hA
  have HB := Lib.hid hb
  clear hA hb
  have Z0 := Has.new w 22 (by8 (List.replicate 32 0)).toArray
  have b0 : Below w.heap.size w (w.alloc (.cells (by8 (List.replicate 32 0)).toArray 22)) := (Below.refl _ _).alloc (Nat.le_refl _) _
  have PB := Lib.hid (Sm.pad_byte (mem_of_getD HB.out.1))
  obtain ⟨m, hm⟩ := Sm.pad_len l
  have HM := Lib.hid hm
  have hm1 : 1 ≤ m := by unfold Sm.pad at hm; simp at hm; omega
  have hm2 : 64 * m ≤ 1099511627776 + 128 := by have := Sm.pad_le l; omega
  have H64 : Hid ((Sm.pad l).length / 64 = m) := by show _ = _; rw [hm]; omega
  clear hm
  rw [H64.out]
  generalize hD : w.heap.size = D at Z0
  have HDD := Lib.hid hD
  clear hD
  go_enter Tryd.func13, Tryd.ntmps13
  go_wp2_with fail
  change Calls _ _ _ (w.alloc (.cells (by8 (List.replicate 32 0)).toArray 22)) _
  generalize w.alloc (.cells (by8 (List.replicate 32 0)).toArray 22) = w0 at Z0 b0 ⊢
  refine (rpad_any l A cap w0 hl HA.out (isBytes_below HB.out b0)).mono ?_
  rintro e w1 ⟨v1, rfl, o1, b1⟩
  rw [HM.out] at o1
  obtain ⟨gp, cp, rfl, hcp, hgp, _⟩ := own_head o1 (by omega)
  have I1 := own_is o1 PB.out
  replace Z0 := Z0.below b1 Z0.lt
  replace b1 := b0.trans (b1.mono b0.size)
  clear o1 b0
  go_wp2_with fail
  refine (rfirst_any _).mono ?_
  rintro e w2 ⟨rfl, b2⟩
  have hgH : gp < w2.heap.size := Nat.lt_of_lt_of_le hgp b2.size
  replace I1 := isBytes_below I1 b2
  replace Z0 := Z0.below b2 Z0.lt
  replace b2 := b1.trans (b2.mono b1.size)
  clear b1 hgp
  have hHD : D < w2.heap.size := Z0.lt
  have S : OfInv w (Sm.pad l) (some ⟨gp, 0, none⟩) w2.heap.size D 1 0 (w2.alloc (.cells (st8 Sm.first) 29)) :=
    ⟨Has.new _ _ _, Z0.alloc _, isBytes_below I1 ((Below.refl _ _).alloc (Nat.le_refl _) _), b2.alloc b2.size _, hKT.below (b2.alloc b2.size _)⟩
  have hH : w.heap.size ≤ w2.heap.size := b2.size
  clear I1 Z0 b2
  unfold st8
  go_wp2
  generalize w2.heap.size = H at S hH hHD hgH ⊢
  go_loopw [5] (fun i wr => ∃ k : Nat, k ≤ m ∧ i = .int .i64 ((64 * k : Nat) : Int) ∧ OfInv w (Sm.pad l) (some ⟨gp, 0, none⟩) H D 1 k wr) (fun i _ => 64 * m - (intOf i).toNat)
  case atStart => exact ⟨0, by omega, rfl, S⟩
  case round =>
    obtain ⟨k, hk, rfl, T⟩ := hrel
    clear S
    by_cases hkm : k < m
    · have ha0 : 64 * k + 64 ≤ 64 * m := by omega
      have hlen : (64 * k : Nat) + 64 ≤ 64 * m := ha0
      generalize hak : 64 * k = a at *
      have HAK := Lib.hid hak
      generalize hMm : 64 * m = M at *
      have HMM := Lib.hid hMm
      clear hak hMm ha0
      have n0 : (a : Int) + 64 ≤ (M : Int) := by omega
      have Zg := Has.new wr 30 (by8 (List.replicate 64 0)).toArray
      have T' := T.alloc (.cells (by8 (List.replicate 64 0)).toArray 30)
      have hHG : H < wr.heap.size := T.oh.lt
      have hDG : D < wr.heap.size := T.od.lt
      have hpG : gp < wr.heap.size := by
        obtain ⟨b, off, e, hc⟩ := T.op.2 (by rw [HM.out]; omega)
        injection e with e; injection e with e1 _
        subst e1
        exact World.block_lt_of_cell? _ _ (hc 0 (by rw [HM.out]; omega))
      go_wp2_with fail
      change Code.wp _ _ _ _ (wr.alloc (.cells (by8 (List.replicate 64 0)).toArray 30))
      have hG := T.oe.size
      clear T
      generalize wr.alloc (.cells (by8 (List.replicate 64 0)).toArray 30) = wg at Zg T' ⊢
      generalize wr.heap.size = G at *
      have m0 : IntKind.i64.wrap ((a : Int) + 64) = (a : Int) + 64 := IntWalk.i64_in _ (by omega)
      have t0 : ((a : Int) + 64).toNat = a + 64 := by omega
      have l0 : (0 : Int) ≤ (a : Int) + 64 := by omega
      have l1 : (a : Int) + 64 ≤ (cp : Int) := by omega
      have l2 : (a : Int) ≤ (a : Int) + 64 := by omega
      have hca : ¬ cp = a := by omega
      have hbl : (((Sm.pad l).drop a).take 64).length = 64 := by rw [List.length_take, List.length_drop, HM.out]; omega
      have cells := blk_cells T'.op (a := a) (n := 64) (by rw [HM.out]; omega)
      have bby := take_byte PB.out a 64
      have HX : Hid (Sm.blocks (Sm.pad l) (k + 1) = Sm.round (Sm.blocks (Sm.pad l) k) (((Sm.pad l).drop a).take 64)) := by rw [← HAK.out]; exact rfl
      generalize ((Sm.pad l).drop a).take 64 = blk at hbl cells bby HX
      have HBL := Lib.hid hbl
      have HC := Lib.hid cells
      clear hbl cells
      go_still_tail 6, (by kernel_rfl)
      change wpList _ _ _ _ _ wg.drew
      refine wpList_copy_splice rfl _ _ 24 24 rfl 5 Tryd.underlying24 (by kernel_rfl) (some ⟨G, 0, none⟩) (some ⟨gp, a, none⟩) 64 64 64 (cp - a) rfl rfl G 0 (by8 (List.replicate 64 0)) 30 Zg (by8 blk) (by rw [by8, List.length_map, HBL.out]; rfl) (fun _ => ⟨rfl, _, rfl, HC.out⟩) (by rw [by8, List.length_map, HBL.out]; simp [by8]) (by8_one blk) G wg ((Below.refl _ _).drew) (Nat.le_refl _) ?_
      intro w3 z3 b3
      have Z3 : Has w3 G 30 (by8 blk).toArray := by
        have := z3.out
        rw [splice_all (by simp [by8, HBL.out])] at this
        exact this
      clear z3
      have T3 := T'.keep2 b3 hHG hDG hpG hG hKT
      clear T' Zg b3
      generalize hst : Sm.blocks (Sm.pad l) k = t at HX
      have T3h : Has w3 H 29 (st8 t) := by rw [← hst]; exact T3.oh
      clear hst
      have L8 : w3.heap[H]? = some (.cells (st8 t) 29 (0, 0)) := T3h
      have L64 : w3.heap[G]? = some (.cells (by8 blk).toArray 30 (0, 0)) := Z3
      go_wp2_with (first | (refine wpList_load_row rfl 29 (.tmp 4) rfl H rfl 29 _ (0, 0) _ L8 Tryd.underlying29 rfl (by rw [Tryd.size8]; rfl) ?_) | (refine wpList_load_row rfl 30 (.tmp 6) rfl G rfl 30 _ (0, 0) _ L64 Tryd.underlying30 rfl (by rw [Tryd.size64]; simp [by8, HBL.out]) ?_))
      refine (rround_any t blk HBL.out (Vm.getD_lt bby) _ T3.ok).mono ?_
      rintro e w4 ⟨rfl, b4⟩
      have T4 := T3.keep b4 hKT
      have T4h := T3h.below b4 T3h.lt
      clear T3 T3h Z3 b4 L8 L64
      have c0 : w4.cell? ⟨H, 0, none⟩ = some (.int .u32 (wi t.a)) := by rw [T4h.cell]; rfl
      have c1 : w4.cell? ⟨H, 1, none⟩ = some (.int .u32 (wi t.b)) := by rw [T4h.cell]; rfl
      have c2 : w4.cell? ⟨H, 2, none⟩ = some (.int .u32 (wi t.c)) := by rw [T4h.cell]; rfl
      have c3 : w4.cell? ⟨H, 3, none⟩ = some (.int .u32 (wi t.d)) := by rw [T4h.cell]; rfl
      have c4 : w4.cell? ⟨H, 4, none⟩ = some (.int .u32 (wi t.e)) := by rw [T4h.cell]; rfl
      have c5 : w4.cell? ⟨H, 5, none⟩ = some (.int .u32 (wi t.f)) := by rw [T4h.cell]; rfl
      have c6 : w4.cell? ⟨H, 6, none⟩ = some (.int .u32 (wi t.g)) := by rw [T4h.cell]; rfl
      have c7 : w4.cell? ⟨H, 7, none⟩ = some (.int .u32 (wi t.h)) := by rw [T4h.cell]; rfl
      have q0 := T4h.frozen 0
      have q1 := T4h.frozen 1
      have q2 := T4h.frozen 2
      have q3 := T4h.frozen 3
      have q4 := T4h.frozen 4
      have q5 := T4h.frozen 5
      have q6 := T4h.frozen 6
      have q7 := T4h.frozen 7
      have R := T4.step (t := Sm.round t blk) HX.out hH hHD hgH hKT
      unfold st8
      go_wp2
      go_roundw
      case rel => exact ⟨k + 1, by omega, by rw [← HAK.out]; go_num, R⟩
      case measure => simp [intOf]; omega
    · obtain rfl : k = m := by omega
      generalize hst : Sm.blocks (Sm.pad l) k = t at *
      have X := Dig.start T HDD.out hst
      have HST := Lib.hid hst
      have hEH : H < wr.heap.size := T.oh.lt
      have hED : D < wr.heap.size := T.od.lt
      have hEw := T.oe.size
      clear T hst
      go_wp2
      generalize wr.heap.size = E at X hEH hED hEw ⊢
      go_loopw [8] (fun i wr => ∃ j : Nat, j ≤ 32 ∧ i = .int .i64 (j : Int) ∧ Dig w t H D E j wr) (fun i _ => 32 - (intOf i).toNat)
      case atStart => exact ⟨0, by omega, rfl, X⟩
      case round =>
        obtain ⟨j, hj, rfl, Y⟩ := hrel
        clear X
        by_cases h32 : j < 32
        · have cx := Y.word (q := j / 4) (by omega)
          have HB3 : Hid (Sm.dbyte t j = ((Sm.wl t).getD (j / 4) 0).toNat / 2 ^ (24 - 8 * (j % 4)) % 256) := rfl
          have e1 : ((j : Int) / 4) = ((j / 4 : Nat) : Int) := rfl
          have e2 : ((j : Int) % 4) = ((j % 4 : Nat) : Int) := rfl
          have hq : j / 4 < 8 := by omega
          have hr : j % 4 < 4 := by omega
          generalize (Sm.wl t).getD (j / 4) 0 = x at cx HB3
          generalize j / 4 = q at cx e1 hq HB3
          generalize j % 4 = r at e2 hr HB3
          obtain ⟨u, d4⟩ := Y.there h32
          have d5 := Y.dx.frozen j
          have R := Y.step h32 (by omega) (by omega) hEw
          rw [HB3.out] at R
          go_wp2
          go_roundw
          case rel => exact ⟨j + 1, by omega, by go_num, R⟩
          case measure => simp [intOf]; omega
        · obtain rfl : j = 32 := by omega
          have L32 : wr.heap[E]? = some (.cells (dcells t 32) 22 (0, 0)) := Y.dx
          have hdl : (dcells t 32).size = 32 := by simp [dcells, by8, Sm.dig_len]
          have thr : wr.there D 0 (dcells t 32).size := by
            rw [hdl]
            intro i hi
            refine ⟨?_, Y.dd.frozen _⟩
            rw [Y.dd.cell, List.getElem?_toArray, List.getElem?_eq_getElem (by simp [by8]; omega)]
            rfl
          have h1c : (dcells t 32).all (·.oneCell') = true := all_oneCell_toArray (by8_one _)
          have hsz : (Tryd.prog.info? 22).map (·.size) = some (dcells t 32).size := by rw [hdl, Tryd.size32]
          have E0 := HDD.out
          have Z : Has (wr.setCells D 0 (dcells t 32).toList) D 22 (dcells t 32) := by
            have := puts_has (dcells t 32).toList 0 wr (by8 (List.replicate 32 0)) Y.dd (by simp [hdl, by8])
            rw [puts_eq] at this
            simpa using this
          have Bz : Below w.heap.size w (wr.setCells D 0 (dcells t 32).toList) := by
            have := puts_below (G := D) (B := w.heap.size) (by omega) (dcells t 32).toList 0 wr Y.de
            rw [puts_eq] at this
            exact this
          subst E0
          have THR := Lib.hid thr
          have H1C := Lib.hid h1c
          have HSZ := Lib.hid hsz
          have HL32 := Lib.hid L32
          have HZ := Lib.hid Z
          have HE := Lib.hid (show by8 (Sm.dig t 32 ++ List.replicate (32 - 32) 0) = by8 (Sm.dig t 32) by simp)
          clear thr h1c hsz L32 Z hdl Y
          generalize hdc : dcells t 32 = dc at *
          have HDC := Lib.hid hdc
          clear hdc
          go_wp2_with (first | (refine wpList_load_row rfl 22 (.tmp 7) rfl E rfl 22 _ (0, 0) _ HL32.out Tryd.underlying22 rfl HSZ.out ?_) | (refine wpList_store_mid rfl 22 (.tmp 2) (.tmp 46) rfl w.heap.size 0 _ rfl rfl THR.out HSZ.out H1C.out ?_))
          refine bodyPost_ret (results_cell_row rfl _ _ w.heap.size 22 dc (0, 0) _ rfl HZ.out Tryd.underlying22 rfl HSZ.out) rfl ⟨?_, Bz⟩
          rw [← HDC.out, dcells, HE.out, HST.out]
end Go.Proofs.YtolokcmlpecpdaaDoor
