/-
  What the law ShaWhole does, for all bytes: it returns true. Condition: the table of constants lies in its variable.
-/
import Derived.Test.YtolokcmlpecpdaaDoorPi
namespace Go.Proofs.YtolokcmlpecpdaaDoor
open Go.RowKit

theorem Sm.dig_at (t : Sm.St) : ∀ (n j : Nat), j < n → (Sm.dig t n)[j]? = some (Sm.dbyte t j)
  | n + 1, j, h => by
    rw [Sm.dig]
    by_cases hj : j < n
    · rw [List.getElem?_append_left (by rw [Sm.dig_len]; exact hj)]; exact Sm.dig_at t n j hj
    · obtain rfl : j = n := by omega
      rw [List.getElem?_append_right (by rw [Sm.dig_len]; exact Nat.le_refl _), Sm.dig_len, Nat.sub_self]; rfl

/-- The last state and the digest, side by side. -/
structure Whl (w : World) (t : Sm.St) (dc : Array Value) (H D : Nat) (wr : World) : Prop where
  wh : Has wr H 29 (st8 t)
  wx : Has wr D 22 dc
  we : Below w.heap.size w wr
theorem Whl.drewN {w : World} {t : Sm.St} {dc : Array Value} {H D : Nat} {wr : World} (T : Whl w t dc H D wr) (n : Nat) : Whl w t dc H D (wr.drewN n) := ⟨T.wh, T.wx, ⟨T.we.os, T.we.tape, T.we.output, T.we.size, T.we.block⟩⟩
theorem Whl.word {w : World} {t : Sm.St} {dc : Array Value} {H D : Nat} {wr : World} (Y : Whl w t dc H D wr) {q : Nat} (hq : q < 8) : wr.cell? ⟨H, q, none⟩ = some (.int .u32 (wi ((Sm.wl t).getD q 0))) := by
  have e : st8 t = (w32 (Sm.wl t)).toArray := rfl
  rw [Y.wh.cell, e, List.getElem?_toArray]
  exact w32_get _ _ _ (by simp [List.getElem?_eq_getElem (show q < (Sm.wl t).length from hq)])

set_option maxRecDepth 100000 in
set_option maxHeartbeats 1000000 in
theorem whole_any (l : List Nat) (A : Option Addr) (cap : Nat) (w : World) (hl : l.length ≤ maxLen) (hA : A = none → cap = 0) (hb : IsBytes w A l) (hK : KTab w 0) :
    Calls Tryd.prog 8 #[.slice A l.length cap] w fun e w' => e = .returned (.bool true) ∧ Below w.heap.size w w' := by
  have HA := Lib.hid hA
  have HB := Lib.hid hb
  have HK := Lib.hid hK
  clear hA hb hK
  by_cases h : 300 < l.length
  · have HL := Lib.hid hl
    clear hl
    go_enter Tryd.func8, Tryd.ntmps8
    go_wp2_with fail
    refine (runs_any _ HK.out).mono ?_
    rintro e w3 ⟨rfl, hb3⟩
    go_wp2
    go_ret
    exact ⟨rfl, hb3⟩
  · clear hl
    have PB := Lib.hid (Sm.pad_byte (mem_of_getD HB.out.1))
    have PA := pad_any l A cap w (by omega) HA.out HB.out
    have OF : Hid (∀ W, Below w.heap.size w W → Calls Tryd.prog 9 #[.slice A l.length cap] W fun e w' => e = .returned (.agg (by8 (Sm.dig (Sm.blocks (Sm.pad l) ((Sm.pad l).length / 64)) 32)).toArray) ∧ Below W.heap.size W w') :=
      fun W hW => of_any l A cap W (by omega) HA.out (isBytes_below HB.out hW) (HK.out.below hW)
    obtain ⟨m, hm⟩ := Sm.pad_len l
    have hm1 : 1 ≤ m := by unfold Sm.pad at hm; simp at hm; omega
    have hle := Sm.pad_le l
    have H64 : Hid ((Sm.pad l).length / 64 = m) := by show _ = _; rw [hm]; omega
    have HM := Lib.hid hm
    rw [hm] at hle
    clear hm
    rw [H64.out] at OF
    generalize Sm.pad l = p at *
    generalize hL : l.length = L at *
    clear hL
    have hm2 : 64 * m ≤ 372 := by omega
    go_enter Tryd.func8, Tryd.ntmps8
    go_wp2_with fail
    refine PA.mono ?_
    rintro e w1 ⟨v1, rfl, o1, b1⟩
    clear PA
    rw [HM.out] at o1
    obtain ⟨gp, cp, rfl, hcp, hgp, _⟩ := own_head o1 (by omega)
    have I1 := own_is o1 PB.out
    clear o1
    have r0 : ((64 * m : Nat) : Int).tmod 64 = 0 := by rw [Int.tmod_eq_emod_of_nonneg (by omega)]; omega
    have r1 : ¬ ((L : Int) + 80 < ((64 * m : Nat) : Int)) := by omega
    generalize hM : 64 * m = M at *
    go_wp2_with fail
    refine (rfirst_any _).mono ?_
    rintro e w2 ⟨rfl, b2⟩
    have F2 : Has (w2.alloc (.cells (st8 Sm.first) 29)) w2.heap.size 29 (st8 Sm.first) := Has.new _ _ _
    have hgH : gp ≠ w2.heap.size := by have := b2.size; omega
    replace I1 := isBytes_below I1 b2
    replace b2 := b1.trans (b2.mono b1.size)
    have hHw := b2.size
    have b3 := b2.alloc b2.size (.cells (st8 Sm.first) 29)
    have I3 := isBytes_below I1 ((Below.refl _ _).alloc (Nat.le_refl _) (.cells (st8 Sm.first) 29))
    have S : OfV w p gp w2.heap.size 0 0 (w2.alloc (.cells (st8 Sm.first) 29)) := ⟨F2, I3, b3, HK.out.below b3⟩
    clear F2 I1 I3 b1 b2 b3 hgp
    unfold st8
    go_wp2
    generalize w2.heap.size = H at S hHw hgH ⊢
    go_loopw [5] (fun i wr => ∃ k : Nat, k ≤ m ∧ i = .int .i64 ((64 * k : Nat) : Int) ∧ OfV w p gp H 0 k wr) (fun i _ => M - (intOf i).toNat)
    case atStart => exact ⟨0, by omega, rfl, S⟩
    case round =>
      obtain ⟨k, hk, rfl, T⟩ := hrel
      clear S
      by_cases hkm : k < m
      · have hlen : (64 * k : Nat) + 64 ≤ M := by omega
        generalize hak : 64 * k = a at *
        have HAK := Lib.hid hak
        clear hak
        have n0 : (a : Int) + 64 ≤ (M : Int) := by omega
        have Zg := Has.new wr 30 (by8 (List.replicate 64 0)).toArray
        have T' := T.alloc (.cells (by8 (List.replicate 64 0)).toArray 30)
        have hHG : H < wr.heap.size := T.oh.lt
        have hpG : gp < wr.heap.size := T.lt (by rw [HM.out]; omega)
        go_wp2_with fail
        change Code.wp _ _ _ _ (wr.alloc (.cells (by8 (List.replicate 64 0)).toArray 30))
        have hG := T.oe.size
        clear T
        generalize wr.alloc (.cells (by8 (List.replicate 64 0)).toArray 30) = wg at Zg T' ⊢
        generalize wr.heap.size = G at *
        have m0 : IntKind.i64.wrap ((a : Int) + 64) = (a : Int) + 64 := IntWalk.i64_in _ (by omega)
        have t0 : ((a : Int) + 64).toNat = a + 64 := by omega
        have l0 : (0 : Int) ≤ (a : Int) + 64 := by omega
        have l1 : (a : Int) + 64 ≤ (cp : Int) := by omega
        have l2 : (a : Int) ≤ (a : Int) + 64 := by omega
        have hca : ¬ cp = a := by omega
        have hbl : ((p.drop a).take 64).length = 64 := by rw [List.length_take, List.length_drop, HM.out]; omega
        have cells := blk_cells T'.op (a := a) (n := 64) (by rw [HM.out]; omega)
        have bby := take_byte PB.out a 64
        have HX : Hid (Sm.blocks p (k + 1) = Sm.round (Sm.blocks p k) ((p.drop a).take 64)) := by show _ = _; rw [← HAK.out]; exact rfl
        generalize (p.drop a).take 64 = blk at hbl cells bby HX
        have HBL := Lib.hid hbl
        have HC := Lib.hid cells
        clear hbl cells
        go_still_tail 6, (by kernel_rfl)
        change wpList _ _ _ _ _ wg.drew
        refine wpList_copy_splice rfl _ _ 24 24 rfl 5 Tryd.underlying24 (by kernel_rfl) (some ⟨G, 0, none⟩) (some ⟨gp, a, none⟩) 64 64 64 (cp - a) rfl rfl G 0 (by8 (List.replicate 64 0)) 30 Zg (by8 blk) (by rw [by8, List.length_map, HBL.out]; rfl) (fun _ => ⟨rfl, _, rfl, HC.out⟩) (by rw [by8, List.length_map, HBL.out]; simp [by8]) (by8_one blk) G wg ((Below.refl _ _).drew) (Nat.le_refl _) ?_
        intro w4 z4 b4
        have Z4 : Has w4 G 30 (by8 blk).toArray := by
          have := z4.out
          rw [splice_all (by simp [by8, HBL.out])] at this
          exact this
        clear z4
        have T3 := T'.keep b4 hHG hpG hG HK.out
        clear T' Zg b4
        generalize hst : Sm.blocks p k = t at HX
        have T3h : Has w4 H 29 (st8 t) := by rw [← hst]; exact T3.oh
        clear hst
        have L8 : w4.heap[H]? = some (.cells (st8 t) 29 (0, 0)) := T3h
        have L64 : w4.heap[G]? = some (.cells (by8 blk).toArray 30 (0, 0)) := Z4
        go_wp2_with (first | (refine wpList_load_row rfl 29 (.tmp 4) rfl H rfl 29 _ (0, 0) _ L8 Tryd.underlying29 rfl (by rw [Tryd.size8]; rfl) ?_) | (refine wpList_load_row rfl 30 (.tmp 6) rfl G rfl 30 _ (0, 0) _ L64 Tryd.underlying30 rfl (by rw [Tryd.size64]; simp [by8, HBL.out]) ?_))
        refine (round_any t blk HBL.out (Vm.getD_lt bby) _ T3.ok).mono ?_
        rintro e w5 ⟨rfl, b5⟩
        have T4 := T3.keep b5 T3.oh.lt (T3.lt (by rw [HM.out]; omega)) T3.oe.size HK.out
        have T4h := T3h.below b5 T3h.lt
        clear T3 T3h b5 L8 L64 Z4
        have c0 : w5.cell? ⟨H, 0, none⟩ = some (.int .u32 (wi t.a)) := by rw [T4h.cell]; rfl
        have c1 : w5.cell? ⟨H, 1, none⟩ = some (.int .u32 (wi t.b)) := by rw [T4h.cell]; rfl
        have c2 : w5.cell? ⟨H, 2, none⟩ = some (.int .u32 (wi t.c)) := by rw [T4h.cell]; rfl
        have c3 : w5.cell? ⟨H, 3, none⟩ = some (.int .u32 (wi t.d)) := by rw [T4h.cell]; rfl
        have c4 : w5.cell? ⟨H, 4, none⟩ = some (.int .u32 (wi t.e)) := by rw [T4h.cell]; rfl
        have c5 : w5.cell? ⟨H, 5, none⟩ = some (.int .u32 (wi t.f)) := by rw [T4h.cell]; rfl
        have c6 : w5.cell? ⟨H, 6, none⟩ = some (.int .u32 (wi t.g)) := by rw [T4h.cell]; rfl
        have c7 : w5.cell? ⟨H, 7, none⟩ = some (.int .u32 (wi t.h)) := by rw [T4h.cell]; rfl
        have q0 := T4h.frozen 0
        have q1 := T4h.frozen 1
        have q2 := T4h.frozen 2
        have q3 := T4h.frozen 3
        have q4 := T4h.frozen 4
        have q5 := T4h.frozen 5
        have q6 := T4h.frozen 6
        have q7 := T4h.frozen 7
        have R := T4.step (t := Sm.round t blk) HX.out hHw hgH HK.out
        unfold st8
        go_wp2
        go_roundw
        case rel => exact ⟨k + 1, by omega, by rw [← HAK.out]; go_num, R⟩
        case measure => simp [intOf]; omega
      · obtain rfl : k = m := by omega
        generalize hst : Sm.blocks p k = t at *
        have T3h : Has wr H 29 (st8 t) := by rw [← hst]; exact T.oh
        have E := T.oe
        clear T hst
        go_wp2_with fail
        refine (OF.out wr E).mono ?_
        rintro e w5 ⟨rfl, b5⟩
        replace T3h := T3h.below b5 T3h.lt
        replace E := E.trans (b5.mono E.size)
        clear b5
        have hdl : (by8 (Sm.dig t 32)).toArray.size = 32 := by simp [by8, Sm.dig_len]
        have H1C : Hid ((by8 (Sm.dig t 32)).toArray.all (·.oneCell') = true) := all_oneCell_toArray (by8_one _)
        have HDI : Hid (∀ j, j < 32 → (by8 (Sm.dig t 32)).toArray[j]? = some (.int .u8 ((Sm.dbyte t j : Nat) : Int))) := fun j hj => by
          rw [List.getElem?_toArray, by8, List.getElem?_map, Sm.dig_at t 32 j hj]; rfl
        generalize (by8 (Sm.dig t 32)).toArray = dc at *
        have HSZ : Hid ((Tryd.prog.info? 22).map (·.size) = some dc.size) := by show _ = _; rw [hdl, Tryd.size32]
        have HDL := Lib.hid hdl
        clear hdl
        go_wp2_with (refine wpList_store_mid rfl 22 (.tmp 7) (.tmp 46) rfl w5.heap.size 0 _ rfl rfl (new_there w5 22 (by8 (List.replicate 32 0)) dc.size (by rw [HDL.out]; simp [by8])) HSZ.out H1C.out ?_)
        change Code.wp _ _ _ _ ((w5.alloc (.cells (by8 (List.replicate 32 0)).toArray 22)).setCells w5.heap.size 0 dc.toList)
        have b6 := new_below w5 (.cells (by8 (List.replicate 32 0)).toArray 22) dc.toList
        have Y0 : Whl w t dc H w5.heap.size ((w5.alloc (.cells (by8 (List.replicate 32 0)).toArray 22)).setCells w5.heap.size 0 dc.toList) :=
          ⟨T3h.below b6 T3h.lt, new_has w5 22 (by8 (List.replicate 32 0)) dc (by rw [HDL.out]; simp [by8]), E.trans (b6.mono E.size)⟩
        clear b6 E T3h
        generalize (w5.alloc (.cells (by8 (List.replicate 32 0)).toArray 22)).setCells w5.heap.size 0 dc.toList = w6 at Y0 ⊢
        generalize w5.heap.size = D at Y0 ⊢
        go_loopw [8] (fun i wr => ∃ j : Nat, j ≤ 32 ∧ i = .int .i64 (j : Int) ∧ Whl w t dc H D wr) (fun i _ => 32 - (intOf i).toNat)
        case atStart => exact ⟨0, by omega, rfl, Y0⟩
        case round =>
          obtain ⟨j, hj, rfl, Y⟩ := hrel
          clear Y0
          by_cases h32 : j < 32
          · have cx := Y.word (q := j / 4) (by omega)
            have cd : wr.cell? ⟨D, j, none⟩ = some (.int .u8 ((Sm.dbyte t j : Nat) : Int)) := by rw [Y.wx.cell]; exact HDI.out j h32
            have HB3 : Hid (Sm.dbyte t j = ((Sm.wl t).getD (j / 4) 0).toNat / 2 ^ (24 - 8 * (j % 4)) % 256) := by show _ = _; rfl
            have e1 : ((j : Int) / 4) = ((j / 4 : Nat) : Int) := rfl
            have e2 : ((j : Int) % 4) = ((j % 4 : Nat) : Int) := rfl
            have hq : j / 4 < 8 := by omega
            have hr : j % 4 < 4 := by omega
            generalize (Sm.wl t).getD (j / 4) 0 = x at cx HB3
            generalize j / 4 = q at cx e1 hq HB3
            generalize j % 4 = r at e2 hr HB3
            generalize Sm.dbyte t j = y at cd HB3
            go_wp2
            have hyy : wi x / 2 ^ (24 - 8 * r) % 256 = (y : Int) := by rw [HB3.out, wi]; simp
            go_quiet (fail)
            replace Y := Y.drewN nq
            generalize wr.drewN nq = wq at Y ⊢
            go_wp2
            go_roundw
            case rel => exact ⟨j + 1, by omega, by go_num, Y⟩
            case measure => simp [intOf]; omega
          · obtain rfl : j = 32 := by omega
            go_wp2_with fail
            refine (runs_any _ (HK.out.below Y.we)).mono ?_
            rintro e w7 ⟨rfl, b7⟩
            have b8 := Y.we.trans (b7.mono Y.we.size)
            clear b7 Y
            go_wp2
            go_ret
            exact ⟨rfl, b8⟩
end Go.Proofs.YtolokcmlpecpdaaDoor
