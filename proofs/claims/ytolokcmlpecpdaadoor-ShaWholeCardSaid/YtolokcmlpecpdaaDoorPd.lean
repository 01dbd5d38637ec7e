/-
  What the program's Round does, for every state and every block: it returns what one block makes of the state (Sm.round), and writes nothing that was there. Conditions: the block has 64 bytes; the table of constants lies in its variable.
-/
import Derived.Test.YtolokcmlpecpdaaDoorPc
namespace Go.Proofs.YtolokcmlpecpdaaDoor
open Go.RowKit

theorem new_there (w : World) (t : TypeId) (z : List Value) (n : Nat) (h : n = z.length) : (w.alloc (.cells z.toArray t)).there w.heap.size 0 n := by
  subst h
  have F := Has.new w t z.toArray
  intro i hi
  refine ⟨?_, F.frozen _⟩
  rw [F.cell, List.getElem?_toArray, List.getElem?_eq_getElem (by omega)]
  rfl
theorem new_has (w : World) (t : TypeId) (z : List Value) (cs : Array Value) (h : cs.size = z.length) : Has ((w.alloc (.cells z.toArray t)).setCells w.heap.size 0 cs.toList) w.heap.size t cs := by
  have := puts_has cs.toList 0 _ z (Has.new w t z.toArray) (by simp [h])
  rw [puts_eq] at this
  simpa using this
theorem new_below (w : World) (o : Obj) (l : List Value) : Below w.heap.size w ((w.alloc o).setCells w.heap.size 0 l) := by
  have := puts_below (G := w.heap.size) (B := w.heap.size) (Nat.le_refl _) l 0 _ ((Below.refl w.heap.size w).alloc (Nat.le_refl _) o)
  rw [puts_eq] at this
  exact this

theorem run_index_w (w : World) (ws : Array Value) (k : Nat) (hk : k < 64) (v : Value) (h : ws[k]? = some v) : (Instr.index 38 (.agg ws) (.int .i64 (k : Int))).run Tryd.prog w = .ok v w := by
  simp [Instr.index, run_underlying Tryd.underlying38, asIntOf, hk, go_sem]
  rw [h]
  rfl

structure Rr (w : World) (hs bs : Array Value) (g : Nat) (wr : World) : Prop where
  rh : Has wr w.heap.size 29 hs
  rb : Has wr (w.heap.size + 1) 30 bs
  rr : Has wr (w.heap.size + 1 + 1) 29 (w32 (List.replicate 8 0)).toArray
  re : Below w.heap.size w wr
  rk : KTab wr g
theorem Rr.start {w : World} {g : Nat} (hk : KTab w g) (hs bs : Array Value) : Rr w hs bs g (((w.alloc (.cells hs 29)).alloc (.cells bs 30)).alloc (.cells (w32 (List.replicate 8 0)).toArray 29)) := by
  have h1 : ∀ (w : World) (o : Obj), (w.alloc o).heap.size = w.heap.size + 1 := fun w o => by simp
  have e : Below w.heap.size w (((w.alloc (.cells hs 29)).alloc (.cells bs 30)).alloc (.cells (w32 (List.replicate 8 0)).toArray 29)) := (((Below.refl _ _).alloc (Nat.le_refl _) _).alloc (by simp) _).alloc (by simp; omega) _
  refine ⟨((Has.new _ _ _).alloc _).alloc _, ?_, ?_, e, hk.below e⟩
  · have := (Has.new (w.alloc (.cells hs 29)) 30 bs); rw [h1] at this; exact this.alloc _
  · have := (Has.new ((w.alloc (.cells hs 29)).alloc (.cells bs 30)) 29 (w32 (List.replicate 8 0)).toArray); rw [h1, h1] at this; exact this
theorem Rr.keep {w : World} {hs bs : Array Value} {g : Nat} {wr wr' : World} (F : Rr w hs bs g wr) (hk : KTab w g) (hb : Below wr.heap.size wr wr') : Rr w hs bs g wr' :=
  have e := F.re.trans (hb.mono F.re.size)
  ⟨F.rh.below hb F.rh.lt, F.rb.below hb F.rb.lt, F.rr.below hb F.rr.lt, e, hk.below e⟩

structure Ri (w : World) (hs : Array Value) (G g : Nat) (t : Sm.St) (wr : World) : Prop where
  ih : Has wr w.heap.size 29 hs
  ir : Has wr (w.heap.size + 1 + 1) 29 (w32 (List.replicate 8 0)).toArray
  ix : Has wr G 29 (st8 t)
  ie : Below w.heap.size w wr
  ik : KTab wr g
theorem Ri.keep {w : World} {hs : Array Value} {G g : Nat} {t : Sm.St} {wr wr' : World} (F : Ri w hs G g t wr) (hk : KTab w g) (hb : Below wr.heap.size wr wr') : Ri w hs G g t wr' :=
  have e := F.ie.trans (hb.mono F.ie.size)
  ⟨F.ih.below hb F.ih.lt, F.ir.below hb F.ir.lt, F.ix.below hb F.ix.lt, e, hk.below e⟩
theorem Ri.drew {w : World} {hs : Array Value} {G g : Nat} {t : Sm.St} {wr : World} (F : Ri w hs G g t wr) : Ri w hs G g t wr.drew := ⟨F.ih, F.ir, F.ix, F.ie.drew, F.ik⟩
theorem Ri.step {w : World} {hs : Array Value} {G g : Nat} {t t' : Sm.St} {wr : World} (F : Ri w hs G g t wr) (hk : KTab w g) (hG : w.heap.size + 1 + 1 + 1 < G) : Ri w hs G g t' (puts G 0 (stL t') wr) := by
  have be := puts_below (G := G) (B := w.heap.size) (by omega) (stL t') 0 wr F.ie
  exact ⟨puts_far (by omega) _ _ _ F.ih, puts_far (by omega) _ _ _ F.ir, puts_has (stL t') 0 wr (stL t) F.ix rfl, be, hk.below be⟩
theorem Ri.sum {w : World} {hs : Array Value} {G g : Nat} {s t : Sm.St} {wr : World} (T : Ri w hs G g t wr) (hs8 : st8 s = hs) : Sum3 w s t G 0 wr := by
  subst hs8
  exact ⟨T.ih, T.ir, T.ix, T.ie⟩

section
attribute [local go_sem] wi_add
set_option maxRecDepth 100000 in
set_option maxHeartbeats 1000000 in
theorem round_any (s : Sm.St) (b : List Nat) (hb : b.length = 64) (hb8 : ∀ j, b.getD j 0 < 256) (w : World) (hKT : KTab w 0) :
    Calls Tryd.prog 11 #[.agg (st8 s), .agg (by8 b).toArray] w fun e w' => e = .returned (.agg (st8 (Sm.round s b))) ∧ Below w.heap.size w w' := by
  have HB := Lib.hid hb8
  have H2 := Lib.hid hb
  clear hb8 hb
  have H1C8 : Hid ((st8 s).all (·.oneCell') = true) := all_oneCell_toArray (w32_one (Sm.wl s))
  generalize hhs : st8 s = hs at *
  generalize hbs : (by8 b).toArray = bs
  have HHS := Lib.hid hhs
  have HBS := Lib.hid hbs
  clear hhs hbs
  have HSZ : Hid ((Tryd.prog.info? 30).map (·.size) = some bs.size) := by show _ = _; rw [Tryd.size64, ← HBS.out]; simp [by8, H2.out]
  have H8 : Hid ((Tryd.prog.info? 29).map (·.size) = some hs.size) := by show _ = _; rw [Tryd.size8, ← HHS.out]; rfl
  have HH8 : Hid (hs.size = 8) := by show _ = _; rw [← HHS.out]; rfl
  have S0 := Rr.start hKT hs bs
  have HK := Lib.hid hKT
  clear hKT
  go_enter Tryd.func11, Tryd.ntmps11
  have L64 := Lib.hid (show (((w.alloc (.cells hs 29)).alloc (.cells bs 30)).alloc (.cells (w32 (List.replicate 8 0)).toArray 29)).heap[w.heap.size + 1]? = some (.cells bs 30 (0, 0)) from S0.rb)
  go_wp2_with (refine wpList_load_row rfl 30 (.tmp 3) rfl (w.heap.size + 1) rfl 30 _ (0, 0) _ L64.out Tryd.underlying30 rfl HSZ.out ?_)
  clear L64
  change Calls _ _ _ (((w.alloc (.cells hs 29)).alloc (.cells bs 30)).alloc (.cells (w32 (List.replicate 8 0)).toArray 29)) _
  generalize ((w.alloc (.cells hs 29)).alloc (.cells bs 30)).alloc (.cells (w32 (List.replicate 8 0)).toArray 29) = w0 at S0 ⊢
  have SC := sched_any b H2.out HB.out w0
  rw [HBS.out] at SC
  refine SC.mono ?_
  clear SC
  rintro e w1 ⟨rfl, b1⟩
  replace S0 := S0.keep HK.out b1
  clear b1
  have HWL : Hid ((w32 (Sm.wd b 64)).toArray.size = 64) := by show _ = _; simp [w32, Sm.wd_len]
  have HWA : Hid ((w32 (Sm.wd b 64)).toArray.all (·.oneCell') = true) := all_oneCell_toArray (w32_one _)
  have HWI : Hid (∀ k, k < 64 → (w32 (Sm.wd b 64)).toArray[k]? = some (.int .u32 (wi ((Sm.wd b 64).getD k 0)))) := fun k hk => by
    rw [List.getElem?_toArray]; exact w32_get _ _ _ (by simp [List.getElem?_eq_getElem (show k < (Sm.wd b 64).length by rw [Sm.wd_len]; exact hk)])
  generalize (w32 (Sm.wd b 64)).toArray = ws at HWL HWA HWI ⊢
  have HWS : Hid ((Tryd.prog.info? 38).map (·.size) = some ws.size) := by show _ = _; rw [Tryd.sizeW, HWL.out]
  go_wp2_with (first
    | (refine wpList_store_mid rfl 38 (.tmp 5) (.tmp 11) rfl w1.heap.size 0 _ rfl rfl (new_there w1 38 (w32 (List.replicate 64 0)) ws.size (by rw [HWL.out]; simp [w32])) HWS.out HWA.out ?_
       change wpList _ _ _ _ _ ((w1.alloc (.cells (w32 (List.replicate 64 0)).toArray 38)).setCells w1.heap.size 0 ws.toList)
       have S2 := S0.keep HK.out (new_below w1 (.cells (w32 (List.replicate 64 0)).toArray 38) ws.toList)
       have H38 := new_has w1 38 (w32 (List.replicate 64 0)) ws (by rw [HWL.out]; simp [w32])
       have hG3 : w.heap.size + 1 + 1 < w1.heap.size := S0.rr.lt
       generalize (w1.alloc (.cells (w32 (List.replicate 64 0)).toArray 38)).setCells w1.heap.size 0 ws.toList = w2 at S2 H38 ⊢
       have hG4 : w1.heap.size < w2.heap.size := H38.lt
       clear S0
       have HL8 := Lib.hid (show w2.heap[w.heap.size]? = some (.cells hs 29 (0, 0)) from S2.rh))
    | (refine wpList_load_row rfl 29 (.tmp 2) rfl w.heap.size rfl 29 _ (0, 0) _ HL8.out Tryd.underlying29 rfl H8.out ?_)
    | (refine wpList_store_mid rfl 29 (.tmp 6) (.tmp 12) rfl w2.heap.size 0 _ rfl rfl (new_there w2 29 (w32 (List.replicate 8 0)) hs.size (by rw [HH8.out]; simp [w32])) H8.out H1C8.out ?_
       change wpList _ _ _ _ _ ((w2.alloc (.cells (w32 (List.replicate 8 0)).toArray 29)).setCells w2.heap.size 0 hs.toList)
       have b3 := new_below w2 (.cells (w32 (List.replicate 8 0)).toArray 29) hs.toList
       have S3 := S2.keep HK.out b3
       have H29 := new_has w2 29 (w32 (List.replicate 8 0)) hs (by rw [HH8.out]; simp [w32])
       have HL38 := Lib.hid (H38.below b3 H38.lt)
       generalize (w2.alloc (.cells (w32 (List.replicate 8 0)).toArray 29)).setCells w2.heap.size 0 hs.toList = w3 at S3 H29 HL38 ⊢
       clear S2 H38 HL8 b3)
    | (refine wpList_load_row rfl 38 (.tmp 5) rfl w1.heap.size rfl 38 _ (0, 0) _ HL38.out Tryd.underlying38 rfl HWS.out ?_))
  have R0 : Ri w hs w2.heap.size 0 s w3 := ⟨S3.rh, S3.rr, by rw [HHS.out]; exact H29, S3.re, S3.rk⟩
  have hG : w.heap.size + 1 + 1 + 1 < w2.heap.size := by omega
  clear S3 H29 HL38 HWS HWA hG3 hG4
  generalize w2.heap.size = G at R0 hG ⊢
  generalize w1.heap.size = G3
  go_loopw [14] (fun i wr => ∃ k : Nat, k ≤ 64 ∧ i = .int .i64 (k : Int) ∧ Ri w hs G 0 (Sm.steps s b k) wr) (fun i _ => 64 - (intOf i).toNat)
  case atStart => exact ⟨0, by omega, rfl, R0⟩
  case round =>
    obtain ⟨k, hk, rfl, T⟩ := hrel
    clear R0
    by_cases h64 : k < 64
    · have c0 : wr.cell? ⟨0, k, none⟩ = some (.int .u32 (wi (Sm.ks.getD k 0))) := T.ik.2 k h64
      have c1 := HWI.out k h64
      have HT : Hid (Sm.steps s b (k + 1) = Sm.step (Sm.steps s b k) (Sm.ks.getD k 0) ((Sm.wd b 64).getD k 0)) := by show _ = _; rfl
      generalize (Sm.wd b 64).getD k 0 = y at c1 HT
      generalize Sm.ks.getD k 0 = z at c0 HT
      generalize Sm.steps s b k = t at T HT
      have x0 : wr.cell? ⟨G, 0, none⟩ = some (.int .u32 (wi t.a)) := by rw [T.ix.cell]; rfl
      have x1 : wr.cell? ⟨G, 1, none⟩ = some (.int .u32 (wi t.b)) := by rw [T.ix.cell]; rfl
      have x2 : wr.cell? ⟨G, 2, none⟩ = some (.int .u32 (wi t.c)) := by rw [T.ix.cell]; rfl
      have x3 : wr.cell? ⟨G, 3, none⟩ = some (.int .u32 (wi t.d)) := by rw [T.ix.cell]; rfl
      have x4 : wr.cell? ⟨G, 4, none⟩ = some (.int .u32 (wi t.e)) := by rw [T.ix.cell]; rfl
      have x5 : wr.cell? ⟨G, 5, none⟩ = some (.int .u32 (wi t.f)) := by rw [T.ix.cell]; rfl
      have x6 : wr.cell? ⟨G, 6, none⟩ = some (.int .u32 (wi t.g)) := by rw [T.ix.cell]; rfl
      have x7 : wr.cell? ⟨G, 7, none⟩ = some (.int .u32 (wi t.h)) := by rw [T.ix.cell]; rfl
      have ci := run_index_w wr ws k h64 _ c1
      go_wp2
      clear c1 ci
      go_still_tail 6, (by kernel_rfl)
      change wpList _ _ _ _ _ wr.drew
      clear x0 x1 x2 x3 x4 x5 x6 x7 c0
      replace T := T.drew
      generalize wr.drew = wd at T ⊢
      go_wp2_with fail
      refine (step_any t z y wd).mono ?_
      rintro e w4 ⟨rfl, b4⟩
      replace T := T.keep HK.out b4
      have x0 : w4.cell? ⟨G, 0, none⟩ = some (.int .u32 (wi t.a)) := by rw [T.ix.cell]; rfl
      have x1 : w4.cell? ⟨G, 1, none⟩ = some (.int .u32 (wi t.b)) := by rw [T.ix.cell]; rfl
      have x2 : w4.cell? ⟨G, 2, none⟩ = some (.int .u32 (wi t.c)) := by rw [T.ix.cell]; rfl
      have x3 : w4.cell? ⟨G, 3, none⟩ = some (.int .u32 (wi t.d)) := by rw [T.ix.cell]; rfl
      have x4 : w4.cell? ⟨G, 4, none⟩ = some (.int .u32 (wi t.e)) := by rw [T.ix.cell]; rfl
      have x5 : w4.cell? ⟨G, 5, none⟩ = some (.int .u32 (wi t.f)) := by rw [T.ix.cell]; rfl
      have x6 : w4.cell? ⟨G, 6, none⟩ = some (.int .u32 (wi t.g)) := by rw [T.ix.cell]; rfl
      have x7 : w4.cell? ⟨G, 7, none⟩ = some (.int .u32 (wi t.h)) := by rw [T.ix.cell]; rfl
      have q0 := T.ix.frozen 0
      have q1 := T.ix.frozen 1
      have q2 := T.ix.frozen 2
      have q3 := T.ix.frozen 3
      have q4 := T.ix.frozen 4
      have q5 := T.ix.frozen 5
      have q6 := T.ix.frozen 6
      have q7 := T.ix.frozen 7
      have R := T.step (t' := Sm.step t z y) HK.out hG
      rw [← HT.out] at R
      rw [← HT.out]
      generalize hst : Sm.steps s b (k + 1) = t' at R ⊢
      have HST := Lib.hid hst
      clear hst
      unfold st8
      go_wp2
      go_roundw
      case rel => exact ⟨k + 1, by omega, by go_num, by rw [HST.out]; exact R⟩
      case measure => simp [intOf]; omega
    · obtain rfl : k = 64 := by omega
      have e64 : ((64 : Nat) : Int) = (64 : Int) := rfl
      simp only [e64]
      have U := T.sum HHS.out
      have HR : Hid (Sm.round s b = Sm.add (Sm.steps s b 64) s) := rfl
      generalize Sm.steps s b 64 = t at U HR
      clear T
      go_wp2
      go_loopw [26] (fun i w3 => ∃ k : Nat, k ≤ 8 ∧ i = .int .i64 (k : Int) ∧ Sum3 w s t G k w3) (fun i _ => 8 - (intOf i).toNat)
      case atStart => exact ⟨0, by omega, rfl, U⟩
      case round =>
        obtain ⟨k, hk8, rfl, T⟩ := hrel
        clear U
        by_cases h8 : k < 8
        · obtain ⟨d0, d1⟩ := T.cells h8
          have R := (T.step h8 hG).drew
          generalize (Sm.wl t).getD k 0 = x0 at d0 R
          generalize (Sm.wl s).getD k 0 = x1 at d1 R
          have d2 := T.sx.frozen k
          go_wp2
          go_still_tail 8, (by kernel_rfl)
          change wpList _ _ _ _ _ wr.drew
          go_wp2
          go_roundw
          case rel => exact ⟨k + 1, by omega, by go_num, R⟩
          case measure => simp [intOf]; omega
        · obtain rfl : k = 8 := by omega
          have d0 : wr.cell? ⟨G, 0, none⟩ = some (.int .u32 (wi (t.a + s.a))) := by rw [T.sx.cell]; rfl
          have d1 : wr.cell? ⟨G, 1, none⟩ = some (.int .u32 (wi (t.b + s.b))) := by rw [T.sx.cell]; rfl
          have d2 : wr.cell? ⟨G, 2, none⟩ = some (.int .u32 (wi (t.c + s.c))) := by rw [T.sx.cell]; rfl
          have d3 : wr.cell? ⟨G, 3, none⟩ = some (.int .u32 (wi (t.d + s.d))) := by rw [T.sx.cell]; rfl
          have d4 : wr.cell? ⟨G, 4, none⟩ = some (.int .u32 (wi (t.e + s.e))) := by rw [T.sx.cell]; rfl
          have d5 : wr.cell? ⟨G, 5, none⟩ = some (.int .u32 (wi (t.f + s.f))) := by rw [T.sx.cell]; rfl
          have d6 : wr.cell? ⟨G, 6, none⟩ = some (.int .u32 (wi (t.g + s.g))) := by rw [T.sx.cell]; rfl
          have d7 : wr.cell? ⟨G, 7, none⟩ = some (.int .u32 (wi (t.h + s.h))) := by rw [T.sx.cell]; rfl
          have r0 : wr.cell? ⟨w.heap.size + 1 + 1, 0, none⟩ = some (.int .u32 (wi 0)) := by rw [T.sr.cell]; rfl
          have r1 : wr.cell? ⟨w.heap.size + 1 + 1, 1, none⟩ = some (.int .u32 (wi 0)) := by rw [T.sr.cell]; rfl
          have r2 : wr.cell? ⟨w.heap.size + 1 + 1, 2, none⟩ = some (.int .u32 (wi 0)) := by rw [T.sr.cell]; rfl
          have r3 : wr.cell? ⟨w.heap.size + 1 + 1, 3, none⟩ = some (.int .u32 (wi 0)) := by rw [T.sr.cell]; rfl
          have r4 : wr.cell? ⟨w.heap.size + 1 + 1, 4, none⟩ = some (.int .u32 (wi 0)) := by rw [T.sr.cell]; rfl
          have r5 : wr.cell? ⟨w.heap.size + 1 + 1, 5, none⟩ = some (.int .u32 (wi 0)) := by rw [T.sr.cell]; rfl
          have r6 : wr.cell? ⟨w.heap.size + 1 + 1, 6, none⟩ = some (.int .u32 (wi 0)) := by rw [T.sr.cell]; rfl
          have r7 : wr.cell? ⟨w.heap.size + 1 + 1, 7, none⟩ = some (.int .u32 (wi 0)) := by rw [T.sr.cell]; rfl
          have q0 := T.sr.frozen 0
          have q1 := T.sr.frozen 1
          have q2 := T.sr.frozen 2
          have q3 := T.sr.frozen 3
          have q4 := T.sr.frozen 4
          have q5 := T.sr.frozen 5
          have q6 := T.sr.frozen 6
          have q7 := T.sr.frozen 7
          have Z := puts_has (stL (Sm.add t s)) 0 wr (w32 (List.replicate 8 0)) T.sr rfl
          have E := puts_below (G := w.heap.size + 1 + 1) (B := w.heap.size) (by omega) (stL (Sm.add t s)) 0 wr T.se
          go_wp2
          change bodyPost _ _ _ _ _ (puts (w.heap.size + 1 + 1) 0 (stL (Sm.add t s)) wr)
          clear d0 d1 d2 d3 d4 d5 d6 d7 r0 r1 r2 r3 r4 r5 r6 r7 q0 q1 q2 q3 q4 q5 q6 q7 T
          generalize puts (w.heap.size + 1 + 1) 0 (stL (Sm.add t s)) wr = wz at Z E ⊢
          have c0 : wz.cell? ⟨w.heap.size + 1 + 1, 0, none⟩ = some (.int .u32 (wi (t.a + s.a))) := by rw [Z.cell]; rfl
          have c1 : wz.cell? ⟨w.heap.size + 1 + 1, 1, none⟩ = some (.int .u32 (wi (t.b + s.b))) := by rw [Z.cell]; rfl
          have c2 : wz.cell? ⟨w.heap.size + 1 + 1, 2, none⟩ = some (.int .u32 (wi (t.c + s.c))) := by rw [Z.cell]; rfl
          have c3 : wz.cell? ⟨w.heap.size + 1 + 1, 3, none⟩ = some (.int .u32 (wi (t.d + s.d))) := by rw [Z.cell]; rfl
          have c4 : wz.cell? ⟨w.heap.size + 1 + 1, 4, none⟩ = some (.int .u32 (wi (t.e + s.e))) := by rw [Z.cell]; rfl
          have c5 : wz.cell? ⟨w.heap.size + 1 + 1, 5, none⟩ = some (.int .u32 (wi (t.f + s.f))) := by rw [Z.cell]; rfl
          have c6 : wz.cell? ⟨w.heap.size + 1 + 1, 6, none⟩ = some (.int .u32 (wi (t.g + s.g))) := by rw [Z.cell]; rfl
          have c7 : wz.cell? ⟨w.heap.size + 1 + 1, 7, none⟩ = some (.int .u32 (wi (t.h + s.h))) := by rw [Z.cell]; rfl
          exact bodyPost_ret (v := .agg (st8 (Sm.add t s))) (by simp [results, Tryd.results11, go_sem, c0, c1, c2, c3, c4, c5, c6, c7, st8, Sm.add]) rfl ⟨by rw [HR.out], E⟩
end
end Go.Proofs.YtolokcmlpecpdaaDoor
