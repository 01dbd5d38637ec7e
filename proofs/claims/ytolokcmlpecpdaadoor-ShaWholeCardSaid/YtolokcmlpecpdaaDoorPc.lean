/-
  What the program's schedule does: the 64 words of a block (Sm.wd b 64), writing nothing that was there. Condition: the block has 64 bytes.
-/
import Derived.Test.YtolokcmlpecpdaaDoorPb
namespace Go.Proofs.YtolokcmlpecpdaaDoor
open Go.RowKit

theorem Tryd.sizeW : (Tryd.prog.info? 38).map (·.size) = some 64 := by kernel_rfl
theorem w32_one (l : List (BitVec 32)) : ∀ u ∈ w32 l, u.oneCell' = true := by
  intro u hu
  simp only [w32, List.mem_map] at hu
  obtain ⟨_, _, rfl⟩ := hu
  rfl
theorem wcells_len (b : List Nat) (k : Nat) (hk : k ≤ 64) : (wcells b k).size = 64 := by simp [wcells, w32, Sm.wd_len]; omega
theorem wcells_end (b : List Nat) : wcells b 64 = (w32 (Sm.wd b 64)).toArray := by simp [wcells]
structure Sch (w : World) (bs : Array Value) (b : List Nat) (k : Nat) (wr : World) : Prop where
  fb : Has wr w.heap.size 30 bs
  fr : Has wr (w.heap.size + 1) 38 (w32 (List.replicate 64 0)).toArray
  fs : Has wr (w.heap.size + 1 + 1) 38 (wcells b k)
  fe : Below w.heap.size w wr
theorem Sch.start (w : World) (bs : Array Value) (b : List Nat) : Sch w bs b 0 (((w.alloc (.cells bs 30)).alloc (.cells (w32 (List.replicate 64 0)).toArray 38)).alloc (.cells (wcells b 0) 38)) := by
  have h1 : ∀ (w : World) (o : Obj), (w.alloc o).heap.size = w.heap.size + 1 := fun w o => by simp
  refine ⟨((Has.new _ _ _).alloc _).alloc _, ?_, ?_, ?_⟩
  · have := (Has.new (w.alloc (.cells bs 30)) 38 (w32 (List.replicate 64 0)).toArray); rw [h1] at this; exact this.alloc _
  · have := (Has.new ((w.alloc (.cells bs 30)).alloc (.cells (w32 (List.replicate 64 0)).toArray 38)) 38 (wcells b 0)); rw [h1, h1] at this; exact this
  · exact (((Below.refl _ _).alloc (Nat.le_refl _) _).alloc (by simp) _).alloc (by simp; omega) _
theorem Sch.keep {w : World} {bs : Array Value} {b : List Nat} {k : Nat} {wr wr' : World} (F : Sch w bs b k wr) (hb : Below wr.heap.size wr wr') : Sch w bs b k wr' :=
  ⟨F.fb.below hb F.fb.lt, F.fr.below hb F.fr.lt, F.fs.below hb F.fs.lt, F.fe.trans (hb.mono F.fe.size)⟩
theorem Sch.step {w : World} {bs : Array Value} {b : List Nat} {k : Nat} {wr : World} (F : Sch w bs b k wr) {x : BitVec 32} (hk : k < 64) (hx : x = if k < 16 then Sm.word4 b k else Sm.nextW (Sm.wd b k)) :
    Sch w bs b (k + 1) (wr.setCell ⟨w.heap.size + 1 + 1, k, none⟩ (.int .u32 (wi x))) := by
  refine ⟨F.fb.far (by show w.heap.size ≠ w.heap.size + 1 + 1; omega) _, F.fr.far (by show w.heap.size + 1 ≠ w.heap.size + 1 + 1; omega) _, ?_, F.fe.setCell (by show w.heap.size ≤ w.heap.size + 1 + 1; omega) _⟩
  have := F.fs.stored k (.int .u32 (wi x))
  rw [w_set hk hx] at this
  exact this
theorem Sch.drew {w : World} {bs : Array Value} {b : List Nat} {k : Nat} {wr : World} (F : Sch w bs b k wr) : Sch w bs b k wr.drew := ⟨F.fb, F.fr, F.fs, F.fe.drew⟩
theorem Sch.drewN {w : World} {bs : Array Value} {b : List Nat} {k : Nat} {wr : World} (F : Sch w bs b k wr) (n : Nat) : Sch w bs b k (wr.drewN n) := ⟨F.fb, F.fr, F.fs, ⟨F.fe.os, F.fe.tape, F.fe.output, F.fe.size, F.fe.block⟩⟩

section
attribute [local go_sem] wi_add
set_option maxRecDepth 100000 in
set_option maxHeartbeats 1000000 in
theorem sched_any (b : List Nat) (hb : b.length = 64) (hb8 : ∀ j, b.getD j 0 < 256) (w : World) :
    Calls Tryd.prog 18 #[.agg (by8 b).toArray] w fun e w' => e = .returned (.agg (w32 (Sm.wd b 64)).toArray) ∧ Below w.heap.size w w' := by
  have HB := Lib.hid hb8
  have H2 := Lib.hid hb
  clear hb8 hb
  generalize hbs : (by8 b).toArray = bs
  have HBS := Lib.hid hbs
  clear hbs
  have HSZ : Hid ((Tryd.prog.info? 30).map (·.size) = some bs.size) := by show _ = _; rw [Tryd.size64, ← HBS.out]; simp [by8, H2.out]
  have ST := Sch.start w bs b
  have HEAR : Hid (∀ k ≤ 64, (wcells b k).size = 64) := fun k hk => wcells_len b k hk
  go_enter Tryd.func18, Tryd.ntmps18
  go_wp2
  go_loopw [6] (fun i wr => ∃ k : Nat, k ≤ 16 ∧ i = .int .i64 (k : Int) ∧ Sch w bs b k wr) (fun i _ => 16 - (intOf i).toNat)
  case atStart => exact ⟨0, by omega, rfl, ST⟩
  case round =>
    obtain ⟨k, hk, rfl, F⟩ := hrel
    clear ST
    by_cases h16 : k < 16
    · have L64 : wr.heap[w.heap.size]? = some (.cells bs 30 (0, 0)) := F.fb
      have HL64 := Lib.hid L64
      clear L64
      go_wp2_with (refine wpList_load_row rfl 30 (.tmp 1) rfl w.heap.size rfl 30 _ (0, 0) _ HL64.out Tryd.underlying30 rfl HSZ.out ?_)
      rw [← HBS.out]
      refine (word_any b k h16 H2.out HB.out _).mono ?_
      rintro e w1 ⟨rfl, b1⟩
      have F1 := F.keep b1
      have R := F1.step (x := Sm.word4 b k) (by omega) (by rw [if_pos h16])
      generalize Sm.word4 b k = x at R ⊢
      obtain ⟨u, d4⟩ := w_cell F1.fs (by omega)
      have d5 := F1.fs.frozen k
      rw [HBS.out]
      clear F F1 HL64
      go_wp2
      go_roundw
      case rel => exact ⟨k + 1, by omega, by go_num, R⟩
      case measure => simp [intOf]; omega
    · obtain rfl : k = 16 := by omega
      have e16 : ((16 : Nat) : Int) = (16 : Int) := rfl
      simp only [e16]
      go_wp2
      go_loopw [5] (fun i wr => ∃ k : Nat, 16 ≤ k ∧ k ≤ 64 ∧ i = .int .i64 (k : Int) ∧ Sch w bs b k wr) (fun i _ => 64 - (intOf i).toNat)
      case atStart => exact ⟨16, by omega, by omega, rfl, F⟩
      case round =>
        obtain ⟨k, hk1, hk, rfl, F⟩ := hrel
        by_cases h64 : k < 64
        · have d0 := s_cell F.fs (k - 16) (by omega)
          have d1 := s_cell F.fs (k - 15) (by omega)
          have d2 := s_cell F.fs (k - 7) (by omega)
          have d3 := s_cell F.fs (k - 2) (by omega)
          have HX : Hid (Sm.nextW (Sm.wd b k) = (((Sm.wd b k).getD (k - 16) 0 + Sm.sig0 ((Sm.wd b k).getD (k - 15) 0)) + (Sm.wd b k).getD (k - 7) 0) + Sm.sig1 ((Sm.wd b k).getD (k - 2) 0)) := by
            rw [Sm.nextW, Sm.wd_len]; exact rfl
          generalize (Sm.wd b k).getD (k - 16) 0 = x0 at d0 HX
          generalize (Sm.wd b k).getD (k - 15) 0 = x1 at d1 HX
          generalize (Sm.wd b k).getD (k - 7) 0 = x2 at d2 HX
          generalize (Sm.wd b k).getD (k - 2) 0 = x3 at d3 HX
          obtain ⟨u, d4⟩ := w_cell F.fs h64
          have d5 := F.fs.frozen k
          have m0 : IntKind.i64.wrap ((k : Int) - 16) = (k : Int) - 16 := IntWalk.i64_in _ (by omega)
          have m1 : IntKind.i64.wrap ((k : Int) - 15) = (k : Int) - 15 := IntWalk.i64_in _ (by omega)
          have m2 : IntKind.i64.wrap ((k : Int) - 7) = (k : Int) - 7 := IntWalk.i64_in _ (by omega)
          have m3 : IntKind.i64.wrap ((k : Int) - 2) = (k : Int) - 2 := IntWalk.i64_in _ (by omega)
          have t0 : ((k : Int) - 16).toNat = k - 16 := by omega
          have t1 : ((k : Int) - 15).toNat = k - 15 := by omega
          have t2 : ((k : Int) - 7).toNat = k - 7 := by omega
          have t3 : ((k : Int) - 2).toNat = k - 2 := by omega
          have n0 : (0 : Int) ≤ (k : Int) - 16 := by omega
          have n1 : (0 : Int) ≤ (k : Int) - 15 := by omega
          have n2 : (0 : Int) ≤ (k : Int) - 7 := by omega
          have n3 : (0 : Int) ≤ (k : Int) - 2 := by omega
          have p0 : (16 : Int) ≤ (k : Int) := by omega
          have p1 : (15 : Int) ≤ (k : Int) := by omega
          have p2 : (7 : Int) ≤ (k : Int) := by omega
          have p3 : (2 : Int) ≤ (k : Int) := by omega
          have l0 : (k : Int) - 16 < 64 := by omega
          have l1 : (k : Int) - 15 < 64 := by omega
          have l2 : (k : Int) - 7 < 64 := by omega
          have l3 : (k : Int) - 2 < 64 := by omega
          go_wp2
          go_still_tail 22, (by kernel_rfl)
          still_call (ssig0_any _ _)
          repeat still_step
          still_call (ssig1_any _ _)
          repeat still_step
          refine wpStill_nil ?_
          change wpList _ _ _ _ _ wr.drew
          have R := F.drew.step h64 (x := ((x0 + Sm.sig0 x1) + x2) + Sm.sig1 x3) (by rw [if_neg (by omega), HX.out])
          go_wp2
          go_roundw
          case rel => exact ⟨k + 1, by omega, by omega, by go_num, R⟩
          case measure => simp [intOf]; omega
        · obtain rfl : k = 64 := by omega
          have L38 : wr.heap[w.heap.size + 1 + 1]? = some (.cells (wcells b 64) 38 (0, 0)) := F.fs
          have hdl : (wcells b 64).size = 64 := HEAR.out 64 (by omega)
          have thr : wr.there (w.heap.size + 1) 0 (wcells b 64).size := by
            rw [hdl]
            intro i hi
            refine ⟨?_, F.fr.frozen _⟩
            rw [F.fr.cell, List.getElem?_toArray, List.getElem?_eq_getElem (by simp [w32]; omega)]
            rfl
          have h1c : (wcells b 64).all (·.oneCell') = true := all_oneCell_toArray (w32_one _)
          have hsz : (Tryd.prog.info? 38).map (·.size) = some (wcells b 64).size := by rw [hdl, Tryd.sizeW]
          have Z : Has (wr.setCells (w.heap.size + 1) 0 (wcells b 64).toList) (w.heap.size + 1) 38 (wcells b 64) := by
            have := puts_has (wcells b 64).toList 0 wr (w32 (List.replicate 64 0)) F.fr (by simp [hdl, w32])
            rw [puts_eq] at this
            simpa using this
          have Bz : Below w.heap.size w (wr.setCells (w.heap.size + 1) 0 (wcells b 64).toList) := by
            have := puts_below (G := w.heap.size + 1) (B := w.heap.size) (by omega) (wcells b 64).toList 0 wr F.fe
            rw [puts_eq] at this
            exact this
          have THR := Lib.hid thr
          have H1C := Lib.hid h1c
          have HSZ2 := Lib.hid hsz
          have HL38 := Lib.hid L38
          have HZ := Lib.hid Z
          have HEN := Lib.hid (wcells_end b)
          clear thr h1c hsz L38 Z hdl F
          generalize hdc : wcells b 64 = dc at *
          have HDC := Lib.hid hdc
          clear hdc
          go_wp2_with (first | (refine wpList_load_row rfl 38 (.tmp 3) rfl (w.heap.size + 1 + 1) rfl 38 _ (0, 0) _ HL38.out Tryd.underlying38 rfl HSZ2.out ?_) | (refine wpList_store_mid rfl 38 (.tmp 2) (.tmp 43) rfl (w.heap.size + 1) 0 _ rfl rfl THR.out HSZ2.out H1C.out ?_))
          refine bodyPost_ret (results_cell_row rfl _ _ (w.heap.size + 1) 38 dc (0, 0) _ rfl HZ.out Tryd.underlying38 rfl HSZ2.out) rfl ⟨?_, Bz⟩
          rw [HEN.out]
end
end Go.Proofs.YtolokcmlpecpdaaDoor
