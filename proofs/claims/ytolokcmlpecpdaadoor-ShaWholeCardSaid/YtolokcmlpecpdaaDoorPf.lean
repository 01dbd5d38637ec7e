/-
  What the program's digest and Of do: for all bytes their digest (Sm.dig of the blocks of the padded bytes), writing nothing that was there. Conditions: at most 2^40 bytes; the table of constants lies in its variable.
-/
import Derived.Test.YtolokcmlpecpdaaDoorPd
import Derived.Test.YtolokcmlpecpdaaDoorPe
namespace Go.Proofs.YtolokcmlpecpdaaDoor
open Go.RowKit

theorem Dig.first (w : World) (t : Sm.St) : Dig w t w.heap.size (w.heap.size + 1) (w.heap.size + 1 + 1) 0 (((w.alloc (.cells (st8 t) 29)).alloc (.cells (by8 (List.replicate 32 0)).toArray 22)).alloc (.cells (by8 (List.replicate 32 0)).toArray 22)) := by
  have h1 : ∀ (w : World) (o : Obj), (w.alloc o).heap.size = w.heap.size + 1 := fun w o => by simp
  refine ⟨((Has.new _ _ _).alloc _).alloc _, ?_, ?_, (((Below.refl _ _).alloc (Nat.le_refl _) _).alloc (by simp) _).alloc (by simp; omega) _⟩
  · have := (Has.new (w.alloc (.cells (st8 t) 29)) 22 (by8 (List.replicate 32 0)).toArray); rw [h1] at this; exact this.alloc _
  · have := (Has.new ((w.alloc (.cells (st8 t) 29)).alloc (.cells (by8 (List.replicate 32 0)).toArray 22)) 22 (by8 (List.replicate 32 0)).toArray); rw [h1, h1] at this; exact this

/-- Bytes of a digest stored over 32 noughts. -/
theorem dig_there {wr : World} {D n : Nat} (h : Has wr D 22 (by8 (List.replicate 32 0)).toArray) (hn : n = 32) : wr.there D 0 n := by
  subst hn
  intro i hi
  refine ⟨?_, h.frozen _⟩
  rw [h.cell, List.getElem?_toArray, List.getElem?_eq_getElem (by simp [by8]; omega)]
  rfl
theorem dig_has {wr : World} {D : Nat} {dc : Array Value} (h : Has wr D 22 (by8 (List.replicate 32 0)).toArray) (hn : dc.size = 32) : Has (wr.setCells D 0 dc.toList) D 22 dc := by
  have := puts_has dc.toList 0 wr (by8 (List.replicate 32 0)) h (by simp [hn, by8])
  rw [puts_eq] at this
  simpa using this
theorem set_below {w wr : World} {B D : Nat} (h : Below B w wr) (hD : B ≤ D) (l : List Value) : Below B w (wr.setCells D 0 l) := by
  have := puts_below (G := D) (B := B) hD l 0 wr h
  rw [puts_eq] at this
  exact this

set_option maxRecDepth 100000 in
set_option maxHeartbeats 400000 in
theorem digest_any (t : Sm.St) (w : World) :
    Calls Tryd.prog 16 #[.agg (st8 t)] w fun e w' => e = .returned (.agg (by8 (Sm.dig t 32)).toArray) ∧ Below w.heap.size w w' := by
  have X := Dig.first w t
  go_enter Tryd.func16, Tryd.ntmps16
  go_wp2
  go_loopw [5] (fun i wr => ∃ j : Nat, j ≤ 32 ∧ i = .int .i64 (j : Int) ∧ Dig w t w.heap.size (w.heap.size + 1) (w.heap.size + 1 + 1) j wr) (fun i _ => 32 - (intOf i).toNat)
  case atStart => exact ⟨0, by omega, rfl, X⟩
  case round =>
    obtain ⟨j, hj, rfl, Y⟩ := hrel
    clear X
    by_cases h32 : j < 32
    · have cx := Y.word (q := j / 4) (by omega)
      have HB3 : Hid (Sm.dbyte t j = ((Sm.wl t).getD (j / 4) 0).toNat / 2 ^ (24 - 8 * (j % 4)) % 256) := by show _ = _; rfl
      have e1 : ((j : Int) / 4) = ((j / 4 : Nat) : Int) := rfl
      have e2 : ((j : Int) % 4) = ((j % 4 : Nat) : Int) := rfl
      have hq : j / 4 < 8 := by omega
      have hr : j % 4 < 4 := by omega
      generalize (Sm.wl t).getD (j / 4) 0 = x at cx HB3
      generalize j / 4 = q at cx e1 hq HB3
      generalize j % 4 = r at e2 hr HB3
      obtain ⟨u, d4⟩ := Y.there h32
      have d5 := Y.dx.frozen j
      have R := Y.step h32 (by omega) (by omega) (by omega)
      rw [HB3.out] at R
      go_wp2
      go_roundw
      case rel => exact ⟨j + 1, by omega, by go_num, R⟩
      case measure => simp [intOf]; omega
    · obtain rfl : j = 32 := by omega
      have hdl : (dcells t 32).size = 32 := by simp [dcells, by8, Sm.dig_len]
      have THR := Lib.hid (dig_there Y.dd hdl)
      have H1C : Hid ((dcells t 32).all (·.oneCell') = true) := all_oneCell_toArray (by8_one _)
      have HSZ : Hid ((Tryd.prog.info? 22).map (·.size) = some (dcells t 32).size) := by show _ = _; rw [hdl, Tryd.size32]
      have HL32 := Lib.hid Y.dx
      have HZ := Lib.hid (dig_has Y.dd hdl)
      have Bz := set_below Y.de (show w.heap.size ≤ w.heap.size + 1 by omega) (dcells t 32).toList
      have HE := Lib.hid (show by8 (Sm.dig t 32 ++ List.replicate (32 - 32) 0) = by8 (Sm.dig t 32) by simp)
      clear hdl Y
      generalize hdc : dcells t 32 = dc at *
      have HDC := Lib.hid hdc
      clear hdc
      go_wp2_with (first | (refine wpList_load_row rfl 22 (.tmp 3) rfl (w.heap.size + 1 + 1) rfl 22 _ (0, 0) _ HL32.out Tryd.underlying22 rfl HSZ.out ?_) | (refine wpList_store_mid rfl 22 (.tmp 2) (.tmp 21) rfl (w.heap.size + 1) 0 _ rfl rfl THR.out HSZ.out H1C.out ?_))
      refine bodyPost_ret (results_cell_row rfl _ _ (w.heap.size + 1) 22 dc (0, 0) _ rfl HZ.out Tryd.underlying22 rfl HSZ.out) rfl ⟨?_, Bz⟩
      rw [← HDC.out, dcells, HE.out]

/-- The state behind k blocks of the padded bytes, which lie at gp. -/
structure OfV (w : World) (p : List Nat) (gp H g k : Nat) (wr : World) : Prop where
  oh : Has wr H 29 (st8 (Sm.blocks p k))
  op : IsBytes wr (some ⟨gp, 0, none⟩) p
  oe : Below w.heap.size w wr
  ok : KTab wr g
theorem OfV.keep {w : World} {p : List Nat} {gp H g k G : Nat} {wr wr' : World} (T : OfV w p gp H g k wr) (hb : Below G wr wr') (hH : H < G) (hp : gp < G) (hG : w.heap.size ≤ G) (hk : KTab w g) : OfV w p gp H g k wr' := by
  have e := T.oe.trans (hb.mono hG)
  refine ⟨T.oh.below hb hH, ⟨T.op.1, fun hp0 => ?_⟩, e, hk.below e⟩
  obtain ⟨b, off, e1, hc⟩ := T.op.2 hp0
  refine ⟨b, off, e1, fun j hj => ?_⟩
  injection e1 with e1; injection e1 with e2 _
  subst e2
  exact (hb.cell (p := ⟨gp, off + j, none⟩) hp).trans (hc j hj)
theorem OfV.alloc {w : World} {p : List Nat} {gp H g k : Nat} {wr : World} (T : OfV w p gp H g k wr) (o : Obj) : OfV w p gp H g k (wr.alloc o) :=
  have b : Below wr.heap.size wr (wr.alloc o) := (Below.refl _ _).alloc (Nat.le_refl _) o
  ⟨T.oh.alloc o, isBytes_below T.op b, T.oe.alloc T.oe.size o, T.ok.below b⟩
theorem OfV.step {w : World} {p : List Nat} {gp H g k : Nat} {t : Sm.St} {wr : World} (T : OfV w p gp H g k wr) (ht : Sm.blocks p (k + 1) = t) (hH : w.heap.size ≤ H) (hp : gp ≠ H) (hk : KTab w g) :
    OfV w p gp H g (k + 1) (puts H 0 (stL t) wr) := by
  have e := puts_below (G := H) (B := w.heap.size) hH (stL t) 0 wr T.oe
  refine ⟨?_, ⟨T.op.1, fun hp0 => ?_⟩, e, hk.below e⟩
  · have h0 := T.oh
    generalize Sm.blocks p k = s0 at h0
    have h1 : Has (puts H 0 (stL t) wr) H 29 (st8 t) := puts_has (stL t) 0 wr (stL s0) h0 rfl
    exact (congrArg (fun q => Has (puts H 0 (stL t) wr) H 29 (st8 q)) ht).mpr h1
  · obtain ⟨b, off, e1, hc⟩ := T.op.2 hp0
    have e2 : gp = b := by injection e1 with e1; injection e1
    exact ⟨b, off, e1, fun j hj => (puts_cell (by show b ≠ H; omega) _ _ _).trans (hc j hj)⟩
theorem OfV.lt {w : World} {p : List Nat} {gp H g k : Nat} {wr : World} (T : OfV w p gp H g k wr) (h : 0 < p.length) : gp < wr.heap.size := by
  obtain ⟨b, off, e, hc⟩ := T.op.2 h
  injection e with e; injection e with e1 _
  subst e1
  exact World.block_lt_of_cell? _ _ (hc 0 h)

set_option maxRecDepth 100000 in
set_option maxHeartbeats 400000 in
theorem of_any (l : List Nat) (A : Option Addr) (cap : Nat) (w : World) (hl : l.length ≤ 1099511627776) (hA : A = none → cap = 0) (hb : IsBytes w A l) (hKT : KTab w 0) :
    Calls Tryd.prog 9 #[.slice A l.length cap] w fun e w' => e = .returned (.agg (by8 (Sm.dig (Sm.blocks (Sm.pad l) ((Sm.pad l).length / 64)) 32)).toArray) ∧ Below w.heap.size w w' := by
  have HA := Lib.hid hA
  have HB := Lib.hid hb
  have HK := Lib.hid hKT
  clear hA hb hKT
  have Z0 := Has.new w 22 (by8 (List.replicate 32 0)).toArray
  have b0 : Below w.heap.size w (w.alloc (.cells (by8 (List.replicate 32 0)).toArray 22)) := (Below.refl _ _).alloc (Nat.le_refl _) _
  have PB := Lib.hid (Sm.pad_byte (mem_of_getD HB.out.1))
  obtain ⟨m, hm⟩ := Sm.pad_len l
  have HM := Lib.hid hm
  have hm1 : 1 ≤ m := by unfold Sm.pad at hm; simp at hm; omega
  have hm2 : 64 * m ≤ 1099511627776 + 128 := by have := Sm.pad_le l; omega
  have H64 : Hid ((Sm.pad l).length / 64 = m) := by show _ = _; rw [hm]; omega
  clear hm
  rw [H64.out]
  generalize hD : w.heap.size = D at Z0
  have HDD := Lib.hid hD
  clear hD
  go_enter Tryd.func9, Tryd.ntmps9
  go_wp2_with fail
  change Calls _ _ _ (w.alloc (.cells (by8 (List.replicate 32 0)).toArray 22)) _
  generalize w.alloc (.cells (by8 (List.replicate 32 0)).toArray 22) = w0 at Z0 b0 ⊢
  refine (first_any _).mono ?_
  rintro e w1 ⟨rfl, b1⟩
  replace Z0 := Z0.below b1 Z0.lt
  replace b1 := b0.trans (b1.mono b0.size)
  clear b0
  have F1 : Has (w1.alloc (.cells (st8 Sm.first) 29)) w1.heap.size 29 (st8 Sm.first) := Has.new _ _ _
  have hHD : D < w1.heap.size := Z0.lt
  have hHw := b1.size
  replace Z0 := Z0.alloc (.cells (st8 Sm.first) 29)
  replace b1 := b1.alloc b1.size (.cells (st8 Sm.first) 29)
  unfold st8
  go_wp2_with fail
  change Calls _ _ _ (w1.alloc (.cells (st8 Sm.first) 29)) _
  generalize w1.alloc (.cells (st8 Sm.first) 29) = w2 at Z0 b1 F1 ⊢
  refine (pad_any l A cap w2 hl HA.out (isBytes_below HB.out b1)).mono ?_
  rintro e w3 ⟨v3, rfl, o3, b3⟩
  rw [HM.out] at o3
  have hge : ∀ g, v3.ownBlock = some g → w2.heap.size ≤ g := own_ge o3
  obtain ⟨gp, cp, rfl, hcp, hgp, _⟩ := own_head o3 (by omega)
  have hgH : gp ≠ w1.heap.size := by
    have h1 := hge gp rfl
    have h2 := F1.lt
    omega
  have I3 := own_is o3 PB.out
  replace Z0 := Z0.below b3 Z0.lt
  replace F1 := F1.below b3 F1.lt
  replace b3 := b1.trans (b3.mono b1.size)
  have S : OfV w (Sm.pad l) gp w1.heap.size 0 0 w3 := ⟨F1, I3, b3, HK.out.below b3⟩
  clear o3 b1 hge hgp I3 F1 b3
  go_wp2
  generalize w1.heap.size = H at S hHD hHw hgH ⊢
  go_loopw [5] (fun i wr => ∃ k : Nat, k ≤ m ∧ i = .int .i64 ((64 * k : Nat) : Int) ∧ OfV w (Sm.pad l) gp H 0 k wr ∧ Has wr D 22 (by8 (List.replicate 32 0)).toArray) (fun i _ => 64 * m - (intOf i).toNat)
  case atStart => exact ⟨0, by omega, rfl, S, Z0⟩
  case round =>
    obtain ⟨k, hk, rfl, T, Z⟩ := hrel
    clear S Z0
    by_cases hkm : k < m
    · have hlen : (64 * k : Nat) + 64 ≤ 64 * m := by omega
      generalize hak : 64 * k = a at *
      have HAK := Lib.hid hak
      generalize hMm : 64 * m = M at *
      have HMM := Lib.hid hMm
      clear hak hMm
      have n0 : (a : Int) + 64 ≤ (M : Int) := by omega
      have Zg := Has.new wr 30 (by8 (List.replicate 64 0)).toArray
      have T' := T.alloc (.cells (by8 (List.replicate 64 0)).toArray 30)
      have Z' := Z.alloc (.cells (by8 (List.replicate 64 0)).toArray 30)
      have hHG : H < wr.heap.size := T.oh.lt
      have hDG : D < wr.heap.size := Z.lt
      have hpG : gp < wr.heap.size := T.lt (by rw [HM.out]; omega)
      go_wp2_with fail
      change Code.wp _ _ _ _ (wr.alloc (.cells (by8 (List.replicate 64 0)).toArray 30))
      have hG := T.oe.size
      clear T Z
      generalize wr.alloc (.cells (by8 (List.replicate 64 0)).toArray 30) = wg at Zg T' Z' ⊢
      generalize wr.heap.size = G at *
      have l0 : (0 : Int) ≤ (a : Int) := by omega
      have l1 : (a : Int) ≤ (cp : Int) := by omega
      have l2 : (a : Int) ≤ (M : Int) := by omega
      have hca : ¬ cp = a := by omega
      have hbl : (((Sm.pad l).drop a).take 64).length = 64 := by rw [List.length_take, List.length_drop, HM.out]; omega
      have cells := blk_cells T'.op (a := a) (n := 64) (by rw [HM.out]; omega)
      have bby := take_byte PB.out a 64
      have HX : Hid (Sm.blocks (Sm.pad l) (k + 1) = Sm.round (Sm.blocks (Sm.pad l) k) (((Sm.pad l).drop a).take 64)) := by show _ = _; rw [← HAK.out]; exact rfl
      generalize ((Sm.pad l).drop a).take 64 = blk at hbl cells bby HX
      have HBL := Lib.hid hbl
      have HC := Lib.hid cells
      clear hbl cells
      go_still_tail 4, (by kernel_rfl)
      change wpList _ _ _ _ _ wg.drew
      refine wpList_copy_splice rfl _ _ 24 24 rfl 5 Tryd.underlying24 (by kernel_rfl) (some ⟨G, 0, none⟩) (some ⟨gp, a, none⟩) 64 64 (M - a) (cp - a) rfl rfl G 0 (by8 (List.replicate 64 0)) 30 Zg (by8 blk) (by rw [by8, List.length_map, HBL.out]; exact (Nat.min_eq_right (by omega)).symm) (fun _ => ⟨rfl, _, rfl, HC.out⟩) (by rw [by8, List.length_map, HBL.out]; simp [by8]) (by8_one blk) G wg ((Below.refl _ _).drew) (Nat.le_refl _) ?_
      intro w4 z4 b4
      have Z4 : Has w4 G 30 (by8 blk).toArray := by
        have := z4.out
        rw [splice_all (by simp [by8, HBL.out])] at this
        exact this
      clear z4
      have T3 := T'.keep b4 hHG hpG hG HK.out
      have Z3 := Z'.below b4 hDG
      clear T' Zg b4 Z'
      generalize hst : Sm.blocks (Sm.pad l) k = t at HX
      have T3h : Has w4 H 29 (st8 t) := by rw [← hst]; exact T3.oh
      clear hst
      have L8 : w4.heap[H]? = some (.cells (st8 t) 29 (0, 0)) := T3h
      have L64 : w4.heap[G]? = some (.cells (by8 blk).toArray 30 (0, 0)) := Z4
      go_wp2_with (first | (refine wpList_load_row rfl 29 (.tmp 3) rfl H rfl 29 _ (0, 0) _ L8 Tryd.underlying29 rfl (by rw [Tryd.size8]; rfl) ?_) | (refine wpList_load_row rfl 30 (.tmp 6) rfl G rfl 30 _ (0, 0) _ L64 Tryd.underlying30 rfl (by rw [Tryd.size64]; simp [by8, HBL.out]) ?_))
      refine (round_any t blk HBL.out (Vm.getD_lt bby) _ T3.ok).mono ?_
      rintro e w5 ⟨rfl, b5⟩
      have T4 := T3.keep b5 T3.oh.lt (T3.lt (by rw [HM.out]; omega)) T3.oe.size HK.out
      have Z5 := Z3.below b5 Z3.lt
      have T4h := T3h.below b5 T3h.lt
      clear T3 T3h Z3 b5 L8 L64 Z4
      have c0 : w5.cell? ⟨H, 0, none⟩ = some (.int .u32 (wi t.a)) := by rw [T4h.cell]; rfl
      have c1 : w5.cell? ⟨H, 1, none⟩ = some (.int .u32 (wi t.b)) := by rw [T4h.cell]; rfl
      have c2 : w5.cell? ⟨H, 2, none⟩ = some (.int .u32 (wi t.c)) := by rw [T4h.cell]; rfl
      have c3 : w5.cell? ⟨H, 3, none⟩ = some (.int .u32 (wi t.d)) := by rw [T4h.cell]; rfl
      have c4 : w5.cell? ⟨H, 4, none⟩ = some (.int .u32 (wi t.e)) := by rw [T4h.cell]; rfl
      have c5 : w5.cell? ⟨H, 5, none⟩ = some (.int .u32 (wi t.f)) := by rw [T4h.cell]; rfl
      have c6 : w5.cell? ⟨H, 6, none⟩ = some (.int .u32 (wi t.g)) := by rw [T4h.cell]; rfl
      have c7 : w5.cell? ⟨H, 7, none⟩ = some (.int .u32 (wi t.h)) := by rw [T4h.cell]; rfl
      have q0 := T4h.frozen 0
      have q1 := T4h.frozen 1
      have q2 := T4h.frozen 2
      have q3 := T4h.frozen 3
      have q4 := T4h.frozen 4
      have q5 := T4h.frozen 5
      have q6 := T4h.frozen 6
      have q7 := T4h.frozen 7
      have R := T4.step (t := Sm.round t blk) HX.out hHw hgH HK.out
      have RZ := puts_far (G := H) (B := D) (by omega) (stL (Sm.round t blk)) 0 w5 Z5
      unfold st8
      go_wp2
      go_roundw
      case rel => exact ⟨k + 1, by omega, by rw [← HAK.out]; go_num, R, RZ⟩
      case measure => simp [intOf]; omega
    · obtain rfl : k = m := by omega
      generalize hst : Sm.blocks (Sm.pad l) k = t at *
      have T3h : Has wr H 29 (st8 t) := by rw [← hst]; exact T.oh
      have L8 : wr.heap[H]? = some (.cells (st8 t) 29 (0, 0)) := T3h
      have E := T.oe
      have HST := Lib.hid hst
      clear T hst
      go_wp2_with (refine wpList_load_row rfl 29 (.tmp 3) rfl H rfl 29 _ (0, 0) _ L8 Tryd.underlying29 rfl (by rw [Tryd.size8]; rfl) ?_)
      refine (digest_any t _).mono ?_
      rintro e w5 ⟨rfl, b5⟩
      have Z5 := Z.below b5 Z.lt
      have E5 := E.trans (b5.mono E.size)
      clear Z E b5 T3h L8
      have hdl : (by8 (Sm.dig t 32)).toArray.size = 32 := by simp [by8, Sm.dig_len]
      have H1C : Hid ((by8 (Sm.dig t 32)).toArray.all (·.oneCell') = true) := all_oneCell_toArray (by8_one _)
      generalize hdc : (by8 (Sm.dig t 32)).toArray = dc at *
      have HDC := Lib.hid hdc
      clear hdc
      have THR := Lib.hid (dig_there Z5 hdl)
      have HSZ : Hid ((Tryd.prog.info? 22).map (·.size) = some dc.size) := by show _ = _; rw [hdl, Tryd.size32]
      have HZ := Lib.hid (dig_has Z5 hdl)
      have E0 := HDD.out
      have Bz := set_below E5 (show w.heap.size ≤ D by omega) dc.toList
      subst E0
      clear hdl Z5 E5
      go_wp2_with (refine wpList_store_mid rfl 22 (.tmp 2) (.tmp 25) rfl w.heap.size 0 _ rfl rfl THR.out HSZ.out H1C.out ?_)
      exact bodyPost_ret (results_cell_row rfl _ _ w.heap.size 22 dc (0, 0) _ rfl HZ.out Tryd.underlying22 rfl HSZ.out) rfl ⟨by rw [HST.out, HDC.out], Bz⟩
end Go.Proofs.YtolokcmlpecpdaaDoor
