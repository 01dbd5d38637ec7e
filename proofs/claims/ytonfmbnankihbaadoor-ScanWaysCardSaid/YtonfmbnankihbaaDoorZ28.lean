/-
  What the program's newPart makes of a tree: parts in new blocks, ahead of any byte. Conditions: at most 1000 nodes.
-/
import Derived.Test.YtonfmbnankihbaaDoorProg
import Derived.Test.YtonfmbnankihbaaDoorZ04
import Derived.Test.YtonfmbnankihbaaDoorZ01
import Derived.Test.YtonfmbnankihbaaDoorZ03
import Derived.Test.YtonfmbnankihbaaDoorZ02
import Derived.Test.YtonfmbnankihbaaDoorZ07
import Derived.Test.YtonfmbnankihbaaDoorZ23
import Derived.Test.YtonfmbnankihbaaDoorZ27
import Derived.Test.YtonfmbnankihbaaDoorZ13
import Derived.Deep.QuietTactic
import Derived.BigQuiet
import Derived.Laws.MakeOwn
import Derived.Laws.OwnMore
import Derived.OwnWalk
import Derived.WalkKit
import Derived.WalkSpells
import Derived.WalkLawsBesides
import Derived.Lib.Hide
import Derived.Below
import Derived.Lib.QuietBelow
import Derived.Laws.StructEq
import Derived.KernelRfl
import Derived.Laws.AppendOwn
import Derived.Deep.RegionHeld3
import Derived.Laws.CopyOwn
import Derived.StillTailTactics
import Derived.Deep.MidRow
import Derived.Deep.Upon
namespace Go.Proofs.YtonfmbnankihbaaDoor
open Go.RowKit Go.Sort
open Pt

theorem Tryd.sizeP : (Tryd.prog.info? 58).map (·.size) = some 9 := by kernel_rfl
theorem one9 : ∀ t : Pt, (cells9 t).toArray.all (·.oneCell') = true
  | .mk _ _ _ _ _ _ _ _ _ _ => by simp [cells9, Pt.cell, Value.oneCell']
theorem there9 {W : World} {g : Nat} {cs : Array Value} {ty : TypeId} (h : W.heap[g]? = some (.cells cs ty (0, 0))) (hs : cs.size = 9 := by rfl) : W.there g 0 9 := fun j hj => by
  refine ⟨?_, ?_⟩
  · rw [cell_of_row _ _ _ _ _ _ h]; simp; omega
  · rw [World.frozen?, h]; simp
/-- Ahead of the first kid. -/
theorem ninv_start {V : Nat → Value} {ks : List Rx} (w2 W : World) (gp gk N : Nat) (P9 : List Value) (h9 : P9.length = 9) (hV : ∀ i (hi : i < 9), P9[i] = V i) (hk : W.heap[gk]? = some (.cells (madeCells zero9 (N * 9)) 58 (0, 0))) (hp : W.heap[gp]? = some (.cells zero9 58 (0, 0)))
    (hb : Below w2.heap.size w2 W) (hs : W.heap.size = w2.heap.size + 2) (hne : gp ≠ gk) (h1 : w2.heap.size ≤ gp) (h2 : w2.heap.size ≤ gk) : NInv w2 gp gk N (w2.heap.size + 2) V ks [] 0 (W.setCells gp 0 P9) := by
  have M := setCells_meta gp P9 0 W
  have sz : (W.setCells gp 0 P9).heap.size = W.heap.size := size_setCells9 _ _ _ _
  have fz : ∀ x, (W.setCells gp 0 P9).frozen? x = W.frozen? x := fun x => World.frozen?_setCells gp _ _ _ x
  have oth : ∀ b, b < W.heap.size → b ≠ gp → (W.setCells gp 0 P9).heap[b]? = W.heap[b]? := fun b hb hne => World.heap_setCells_other W gp _ _ hb hne
  have gpl : gp < W.heap.size := (Array.getElem?_eq_some_iff.1 hp).1
  have gkl : gk < W.heap.size := (Array.getElem?_eq_some_iff.1 hk).1
  have T9 := there9 hp
  have cin : ∀ i, i < 9 → (W.setCells gp 0 P9).cell? ⟨gp, i, none⟩ = some (V i) := fun i hi => by
    have := World.cell?_setCells_in gp P9 0 W (fun j hj => (T9 j (by omega)).1) i (by omega)
    rw [Nat.zero_add] at this
    rw [this, hV i hi]
  have hbel : Below w2.heap.size w2 (W.setCells gp 0 P9) := ⟨M.1.trans hb.os, M.2.1.trans hb.tape, M.2.2.trans hb.output, by rw [sz]; exact hb.size, fun b hb' => (oth b (by omega) (by omega)).trans (hb.block b hb')⟩
  have fk : ∀ i, W.frozen? ⟨gk, i, none⟩ = false := fun i => by rw [World.frozen?, hk]; simp
  have fp : ∀ i, W.frozen? ⟨gp, i, none⟩ = false := fun i => by rw [World.frozen?, hp]; simp
  have kc : ∀ i, i < N * 9 → ((W.setCells gp 0 P9).cell? ⟨gk, i, none⟩).isSome = true := fun i hi => World.isSome_setCells gp _ _ _ _ (by rw [cell_of_row _ _ _ _ _ _ hk]; simp [size_madeCells]; exact hi)
  have nb : blL [] = [] := by rw [blL]
  generalize W.setCells gp 0 P9 = w4 at *
  exact ⟨rfl, hbel, by omega, hne, by omega, by omega, h1, h2, cin, fun i => (fz _).trans (fp i), kc, fun i => (fz _).trans (fk i), fun j hj => absurd hj (Nat.not_lt_zero j), fun j hj => absurd hj (Nat.not_lt_zero j), fun j hj => absurd hj (Nat.not_lt_zero j), fun j hj => absurd hj (Nat.not_lt_zero j), by rw [nb]; exact List.nodup_nil, fun b hb => by rw [nb] at hb; simp at hb, fun b hb => by rw [nb] at hb; simp at hb⟩

theorem shL_ext : ∀ {ts : List Pt} {ks : List Rx}, ts.length = ks.length → (∀ j, j < ks.length → sh (nth ts j) = Rx.nth ks j) → shL ts = ks
  | [], [], _, _ => by rw [shL]
  | t :: ts, k :: ks, h, hj => by
    rw [shL]
    have h0 : sh t = k := hj 0 (by simp)
    rw [h0, shL_ext (ts := ts) (ks := ks) (by simpa using h) (fun j hj' => hj (j + 1) (by simpa using hj'))]
  | [], _ :: _, h, _ => by simp at h
  | _ :: _, [], h, _ => by simp at h
theorem deadL_ext : ∀ {ts : List Pt}, (∀ j, j < ts.length → dead (nth ts j)) → deadL ts
  | [], _ => by rw [deadL]; trivial
  | t :: ts, h => by
    rw [deadL]
    exact ⟨h 0 (by simp), deadL_ext (ts := ts) (fun j hj => h (j + 1) (by simpa using hj))⟩
theorem emOkL_ext : ∀ {ts : List Pt}, (∀ j, j < ts.length → emOk (nth ts j)) → emOkL ts
  | [], _ => by rw [emOkL]; trivial
  | t :: ts, h => by
    rw [emOkL]
    exact ⟨h 0 (by simp), emOkL_ext (ts := ts) (fun j hj => h (j + 1) (by simpa using hj))⟩
theorem NInv.finish {w2 wr w8 : World} {gp gk N base s : Nat} {V : Nat → Value} {ks : List Rx} {ts : List Pt} {op : Int} {a b c d : Nat} (I : NInv w2 gp gk N base V ks ts N wr) (hz : w2.heap.size = s + 2)
    (h8 : ∀ bb, bb ≠ gp → bb ≠ s + 1 → bb < wr.heap.size → w8.heap[bb]? = wr.heap[bb]?) (hs : wr.heap.size ≤ w8.heap.size) (hks : ks.length = N) : New s (.mk op a b c d ks) (.mk op a b c d gk (emOf op ts) false false ts) w8 := by
  have hlen := I.len
  have g1 := I.gpk
  have g2 := I.gkb
  have g3 := I.gpb
  have g4 := I.gpo
  have g5 := I.gko
  have g6 := I.size
  have hk : w8.heap[gk]? = wr.heap[gk]? := h8 gk (Ne.symm g1) (by omega) (by omega)
  refine ⟨?_, ?_, ?_, ?_, ?_, by show gk < _; omega, fun i => (World.frozen?_of_block (w := wr) hk).trans (I.kfree i), fun j hj => ?_⟩
  · rw [Pt.sh, shL_ext (by omega) (fun j hj => I.shp j (by omega))]
  · rw [Pt.dead]; exact ⟨rfl, rfl, deadL_ext (fun j hj => I.dead j (by omega))⟩
  · rw [Pt.emOk]; exact ⟨rfl, emOkL_ext (fun j hj => I.em j (by omega))⟩
  · rw [Pt.bl, List.nodup_cons]
    exact ⟨fun hm => by have := I.low gk hm; omega, I.nodup⟩
  · intro bb hb
    rw [Pt.bl, List.mem_cons] at hb
    rcases hb with rfl | hb
    · omega
    · have := I.low bb hb; omega
  · have hj' : j < ts.length := hj
    refine (I.kids j (by omega)).frame hs (fun _ _ => World.cell?_of_block (w := wr) hk) (fun _ => World.frozen?_of_block (w := wr) hk) (fun bb hm => ?_)
    have hm2 : bb ∈ blL ts := nth_blL hj' hm
    have := I.low bb hm2
    have := I.top bb hm2
    exact h8 bb (by omega) (by omega) (by omega)

set_option maxRecDepth 100000 in
set_option maxHeartbeats 4000000 in
theorem newPart_any : ∀ (n : Nat) (x : Rx) (v : Value) (w : World), n ≤ 1000 → Rx.count x ≤ n → IsRx w v x → Calls Tryd.prog 35 #[v] w fun e w' => ∃ t, e = .returned (val9 t) ∧ New w.heap.size x t w' ∧ Below w.heap.size w w' := by
  intro n
  induction n with
  | zero => intro x v w _ hs; have := Rx.count_pos x; omega
  | succ n ih =>
    intro x v w hn hs h
    cases h with
    | node op a b c d ks A cap blk off V hcap hA hp hc hk =>
      rw [Rx.count] at hs
      have hsmall := Rx.len_count ks
      have IH : Hid (∀ j, j < ks.length → ∀ W, Below w.heap.size w W → Calls Tryd.prog 35 #[val6 (V j)] W fun e w' => ∃ t, e = .returned (val9 t) ∧ New W.heap.size (Rx.nth ks j) t w' ∧ Below W.heap.size W w') := fun j hj W hW => ih _ _ W (by omega) (by have := Rx.nth_count hj; omega) ((hk j hj).grown hW)
      have HC : Hid (∀ W, Below w.heap.size w W → ∀ j i, j < ks.length → i < 6 → W.cell? ⟨blk, off + j * 6 + i, none⟩ = some (V j i)) := fun W hW j i hj hi => (hW.cell (World.block_lt_of_cell? w _ (hc j i hj hi))).trans (hc j i hj hi)
      have HP := Lib.hid hp
      have FM := Lib.hid (fun j hj => (hk j hj).form)
      clear hp hc hk ih hA
      obtain ⟨N, hN⟩ : ∃ N, ks.length = N := ⟨_, rfl⟩
      rw [hN] at FM hcap IH HC HP hsmall ⊢
      have hN1 : N ≤ 1000 := by omega
      clear hs hsmall hcap
      go_enter Tryd.func35, Tryd.ntmps35
      go_wp2_with fail
      obtain ⟨w2, hw2⟩ : ∃ w2, (w.alloc (.cells #[.int .i64 op, .int .u64 (a : Int), .int .u64 (b : Int), .int .u64 (c : Int), .int .u64 (d : Int), .slice A N cap] 34)).alloc (.cells #[.int .i64 0, .int .u64 0, .int .u64 0, .int .u64 0, .int .u64 0, .slice none 0 0, .bool false, .bool false, .bool false] 58) = w2 := ⟨_, rfl⟩
      have z2 : w2.heap.size = w.heap.size + 2 := by rw [← hw2]; simp
      have B2 : Below (w.heap.size + 1) (w.alloc (.cells #[.int .i64 op, .int .u64 (a : Int), .int .u64 (b : Int), .int .u64 (c : Int), .int .u64 (d : Int), .slice A N cap] 34)) w2 := by rw [← hw2]; exact (Below.refl _ _).alloc (by simp) _
      have R2 : w2.heap[w.heap.size + 1]? = some (.cells #[.int .i64 0, .int .u64 0, .int .u64 0, .int .u64 0, .int .u64 0, .slice none 0 0, .bool false, .bool false, .bool false] 58 (0, 0)) := by
        rw [← hw2]
        have e := heap_alloc_new (w.alloc (.cells #[.int .i64 op, .int .u64 (a : Int), .int .u64 (b : Int), .int .u64 (c : Int), .int .u64 (d : Int), .slice A N cap] 34)) (.cells #[.int .i64 0, .int .u64 0, .int .u64 0, .int .u64 0, .int .u64 0, .slice none 0 0, .bool false, .bool false, .bool false] 58)
        simpa using e
      obtain ⟨⟨q0, q1, q2, q3, q4, q5⟩, BW2⟩ := box6 B2
      have MK := fun W => make_parts N hN1 W
      rw [hw2]
      clear hw2 B2
      have Z2 := Lib.hid z2
      have Q5 := Lib.hid q5
      have R2H := Lib.hid R2
      have BW2 := Lib.hid BW2
      refine wp_region_held_drew (S := fun W => Below w2.heap.size w2 W) (by kernel_rfl) ((Below.refl _ _).drew) (fun hHeld => ?_)
      refine held_take 0 6 (v := (.pointer (some ⟨w.heap.size, 0, none⟩))) rfl rfl (by kernel_rfl) (by kernel_rfl) (by kernel_rfl) (by rfl) (fun _ _ _ h => h) (by assumption) ?_ ?_
      · intro W hW
        go_simp
      simp only [List.setIfInBounds_toArray, List.set_cons_zero, List.set_cons_succ]
      refine held_take 1 7 (v := (.int .i64 op)) rfl rfl (by kernel_rfl) (by kernel_rfl) (by kernel_rfl) (by rfl) (fun _ _ _ h => h) (by assumption) ?_ ?_
      · intro W hW
        have e0 := (hW.cell (p := ⟨w.heap.size, 0, none⟩) (by show w.heap.size < _; omega)).trans q0
        go_simp
      simp only [List.setIfInBounds_toArray, List.set_cons_zero, List.set_cons_succ]
      refine held_take 2 8 (v := (.pointer (some ⟨w.heap.size, 1, none⟩))) rfl rfl (by kernel_rfl) (by kernel_rfl) (by kernel_rfl) (by rfl) (fun _ _ _ h => h) (by assumption) ?_ ?_
      · intro W hW
        go_simp
      simp only [List.setIfInBounds_toArray, List.set_cons_zero, List.set_cons_succ]
      refine held_take 3 9 (v := (.agg #[.int .u64 (a : Int), .int .u64 (b : Int), .int .u64 (c : Int), .int .u64 (d : Int)])) rfl rfl (by kernel_rfl) (by kernel_rfl) (by kernel_rfl) (by rfl) (fun _ _ _ h => h) (by assumption) ?_ ?_
      · intro W hW
        have e1 := (hW.cell (p := ⟨w.heap.size, 1, none⟩) (by show w.heap.size < _; omega)).trans q1
        have e2 := (hW.cell (p := ⟨w.heap.size, 2, none⟩) (by show w.heap.size < _; omega)).trans q2
        have e3 := (hW.cell (p := ⟨w.heap.size, 3, none⟩) (by show w.heap.size < _; omega)).trans q3
        have e4 := (hW.cell (p := ⟨w.heap.size, 4, none⟩) (by show w.heap.size < _; omega)).trans q4
        go_simp
      simp only [List.setIfInBounds_toArray, List.set_cons_zero, List.set_cons_succ]
      refine held_take 4 10 (v := (.pointer (some ⟨w.heap.size, 5, none⟩))) rfl rfl (by kernel_rfl) (by kernel_rfl) (by kernel_rfl) (by rfl) (fun _ _ _ h => h) (by assumption) ?_ ?_
      · intro W hW
        go_simp
      simp only [List.setIfInBounds_toArray, List.set_cons_zero, List.set_cons_succ]
      refine held_take 5 11 (v := (.slice A N cap)) rfl rfl (by kernel_rfl) (by kernel_rfl) (by kernel_rfl) (by rfl) (fun _ _ _ h => h) (by assumption) ?_ ?_
      · intro W hW
        have e5 := (hW.cell (p := ⟨w.heap.size, 5, none⟩) (by show w.heap.size < _; omega)).trans q5
        go_simp
      simp only [List.setIfInBounds_toArray, List.set_cons_zero, List.set_cons_succ]
      refine held_take 6 12 (v := (.int .i64 (N : Int))) rfl rfl (by kernel_rfl) (by kernel_rfl) (by kernel_rfl) (by rfl) (fun _ _ _ h => h) (by assumption) ?_ ?_
      · intro W hW
        go_simp
      simp only [List.setIfInBounds_toArray, List.set_cons_zero, List.set_cons_succ]
      refine held_two 7 9 rfl rfl (by kernel_rfl) (by rfl) (by rfl) ?_ ?_
      · have M := MK w2.drew
        have d1 : Below w2.heap.size w2 (w2.drew.alloc (.cells (madeCells zero9 (N * 9)) 58)) := ((Below.refl _ _).drew).alloc (Nat.le_refl _) _
        refine wp_run (v := .slice (some ⟨w2.heap.size, 0, none⟩) N N) (w' := w2.drew.alloc (.cells (madeCells zero9 (N * 9)) 58)) rfl (by go_simp) ⟨d1, ?_⟩
        simp only [List.setIfInBounds_toArray, List.set_cons_zero, List.set_cons_succ]
        clear M
        refine held_take 8 14 (v := (.agg #[.int .i64 op, .int .u64 (a : Int), .int .u64 (b : Int), .int .u64 (c : Int), .int .u64 (d : Int), .slice (some ⟨w2.heap.size, 0, none⟩) N N, .bool false, .bool false, .bool false])) rfl rfl (by kernel_rfl) (by kernel_rfl) (by kernel_rfl) (by rfl) (fun _ _ _ h => h) (by assumption) ?_ ?_
        · intro W hW
          go_simp
        simp only [List.setIfInBounds_toArray, List.set_cons_zero, List.set_cons_succ]
        have d2 : Below w2.heap.size w2 ((w2.drew.alloc (.cells (madeCells zero9 (N * 9)) 58)).alloc (.cells #[.int .i64 0, .int .u64 0, .int .u64 0, .int .u64 0, .int .u64 0, .slice none 0 0, .bool false, .bool false, .bool false] 58)) := d1.alloc d1.size _
        refine held_op 9 rfl (by kernel_rfl) (by rfl) ?_
        refine wp_run (v := .pointer (some ⟨w2.heap.size + 1, 0, none⟩)) (w' := (w2.drew.alloc (.cells (madeCells zero9 (N * 9)) 58)).alloc (.cells #[.int .i64 0, .int .u64 0, .int .u64 0, .int .u64 0, .int .u64 0, .slice none 0 0, .bool false, .bool false, .bool false] 58)) rfl (by go_simp) ⟨d2, ?_⟩
        simp only [List.setIfInBounds_toArray, List.set_cons_zero, List.set_cons_succ]
        have hk9 : ((w2.drew.alloc (.cells (madeCells zero9 (N * 9)) 58)).alloc (.cells #[.int .i64 0, .int .u64 0, .int .u64 0, .int .u64 0, .int .u64 0, .slice none 0 0, .bool false, .bool false, .bool false] 58)).heap[w2.heap.size]? = some (.cells (madeCells zero9 (N * 9)) 58 (0, 0)) := by
          rw [Below.heap_alloc _ _ _ (by simp)]; exact heap_alloc_new w2.drew _
        have hp9 : ((w2.drew.alloc (.cells (madeCells zero9 (N * 9)) 58)).alloc (.cells #[.int .i64 0, .int .u64 0, .int .u64 0, .int .u64 0, .int .u64 0, .slice none 0 0, .bool false, .bool false, .bool false] 58)).heap[w2.heap.size + 1]? = some (.cells zero9 58 (0, 0)) := by
          have e := heap_alloc_new (w2.drew.alloc (.cells (madeCells zero9 (N * 9)) 58)) (.cells #[.int .i64 0, .int .u64 0, .int .u64 0, .int .u64 0, .int .u64 0, .slice none 0 0, .bool false, .bool false, .bool false] 58)
          rw [show (w2.drew.alloc (.cells (madeCells zero9 (N * 9)) 58)).heap.size = w2.heap.size + 1 by simp] at e
          exact e
        have hthere : ((w2.drew.alloc (.cells (madeCells zero9 (N * 9)) 58)).alloc (.cells #[.int .i64 0, .int .u64 0, .int .u64 0, .int .u64 0, .int .u64 0, .slice none 0 0, .bool false, .bool false, .bool false] 58)).there (w2.heap.size + 1) 0 9 := there9 hp9
        have I0 := ninv_start (V := fun i => match i with | 0 => .int .i64 op | 1 => .int .u64 (a : Int) | 2 => .int .u64 (b : Int) | 3 => .int .u64 (c : Int) | 4 => .int .u64 (d : Int) | 5 => .slice (some ⟨w2.heap.size, 0, none⟩) N N | _ => .bool false) (ks := ks) w2 ((w2.drew.alloc (.cells (madeCells zero9 (N * 9)) 58)).alloc (.cells #[.int .i64 0, .int .u64 0, .int .u64 0, .int .u64 0, .int .u64 0, .slice none 0 0, .bool false, .bool false, .bool false] 58)) (w2.heap.size + 1) w2.heap.size N [.int .i64 op, .int .u64 (a : Int), .int .u64 (b : Int), .int .u64 (c : Int), .int .u64 (d : Int), .slice (some ⟨w2.heap.size, 0, none⟩) N N, .bool false, .bool false, .bool false] rfl (fun i hi => match i, hi with | 0, _ => rfl | 1, _ => rfl | 2, _ => rfl | 3, _ => rfl | 4, _ => rfl | 5, _ => rfl | 6, _ => rfl | 7, _ => rfl | 8, _ => rfl) hk9 hp9 d2 (by simp) (by omega) (by omega) (by omega)
        have d3 : Below w2.heap.size w2 (((w2.drew.alloc (.cells (madeCells zero9 (N * 9)) 58)).alloc (.cells #[.int .i64 0, .int .u64 0, .int .u64 0, .int .u64 0, .int .u64 0, .slice none 0 0, .bool false, .bool false, .bool false] 58)).setCells (w2.heap.size + 1) 0 [.int .i64 op, .int .u64 (a : Int), .int .u64 (b : Int), .int .u64 (c : Int), .int .u64 (d : Int), .slice (some ⟨w2.heap.size, 0, none⟩) N N, .bool false, .bool false, .bool false]) := I0.below
        refine held_op 10 rfl (by kernel_rfl) (by rfl) ?_
        refine wp_store_mid 58 (.tmp 3) (.tmp 14) rfl ((w2.heap.size + 1)) 0 #[.int .i64 op, .int .u64 (a : Int), .int .u64 (b : Int), .int .u64 (c : Int), .int .u64 (d : Int), .slice (some ⟨w2.heap.size, 0, none⟩) N N, .bool false, .bool false, .bool false] rfl rfl hthere Tryd.sizeP (by simp [Value.oneCell']) ⟨d3, ?_⟩
        refine wpAnyH_done (by kernel_rfl) ?_ _
        have I0 := Lib.hid I0
        clear d1 d2 d3 hthere hk9 hp9 hHeld MK z2 q0 q1 q2 q3 q4 q5 R2
        generalize ((w2.drew.alloc (.cells (madeCells zero9 (N * 9)) 58)).alloc (.cells #[.int .i64 0, .int .u64 0, .int .u64 0, .int .u64 0, .int .u64 0, .slice none 0 0, .bool false, .bool false, .bool false] 58)).setCells (w2.heap.size + 1) 0 [.int .i64 op, .int .u64 (a : Int), .int .u64 (b : Int), .int .u64 (c : Int), .int .u64 (d : Int), .slice (some ⟨w2.heap.size, 0, none⟩) N N, .bool false, .bool false, .bool false] = w4 at *
        obtain ⟨base, hbase⟩ : ∃ base, w2.heap.size + 2 = base := ⟨_, rfl⟩
        rw [hbase] at I0
        generalize hg1 : w2.heap.size + 1 = gp at I0 ⊢
        generalize hg0 : w2.heap.size = gk at I0 ⊢
        clear hg1 hg0 hbase
        have HV : Hid (∀ ts : List Pt, ts.length = N → ∀ i, i < 9 → (match i with | 0 => .int .i64 op | 1 => .int .u64 (a : Int) | 2 => .int .u64 (b : Int) | 3 => .int .u64 (c : Int) | 4 => .int .u64 (d : Int) | 5 => .slice (some ⟨gk, 0, none⟩) N N | _ => .bool false) = (Pt.mk op a b c d gk false false false ts).cell i) := by
          intro ts hts i hi
          subst hts
          match i, hi with
          | 0, _ => rfl | 1, _ => rfl | 2, _ => rfl | 3, _ => rfl | 4, _ => rfl | 5, _ => rfl | 6, _ => rfl | 7, _ => rfl | 8, _ => rfl
        have V5 : Hid ((fun i => match i with | 0 => .int .i64 op | 1 => .int .u64 (a : Int) | 2 => .int .u64 (b : Int) | 3 => .int .u64 (c : Int) | 4 => .int .u64 (d : Int) | 5 => .slice (some ⟨gk, 0, none⟩) N N | _ => .bool false : Nat → Value) 5 = .slice (some ⟨gk, 0, none⟩) N N) := rfl
        have HV : Hid (∀ ts : List Pt, ts.length = N → ∀ i, i < 9 → (fun i => match i with | 0 => .int .i64 op | 1 => .int .u64 (a : Int) | 2 => .int .u64 (b : Int) | 3 => .int .u64 (c : Int) | 4 => .int .u64 (d : Int) | 5 => .slice (some ⟨gk, 0, none⟩) N N | _ => .bool false : Nat → Value) i = (Pt.mk op a b c d gk false false false ts).cell i) := HV
        generalize (fun i => match i with | 0 => .int .i64 op | 1 => .int .u64 (a : Int) | 2 => .int .u64 (b : Int) | 3 => .int .u64 (c : Int) | 4 => .int .u64 (d : Int) | 5 => .slice (some ⟨gk, 0, none⟩) N N | _ => .bool false : Nat → Value) = V9 at I0 V5 HV
        have c5 := (I0.out.below.cell (p := ⟨w.heap.size, 5, none⟩) (by show w.heap.size < _; rw [Z2.out]; omega)).trans Q5.out
        go_wp2
        clear c5
        go_loopw [18] (fun i wr => ∃ k : Nat, k ≤ N ∧ i = .int .i64 (k : Int) ∧ ∃ ts, Hid (NInv w2 gp gk N base V9 ks ts k wr)) (fun i _ => N - (intOf i).toNat)
        case atStart => exact ⟨0, by omega, rfl, [], I0⟩
        case round =>
          clear I0
          obtain ⟨k, hk, rfl, ts, HI⟩ := hrel
          by_cases hkn : k < N
          · have hkz : (k : Int) < (N : Int) := by omega
            have hAe := HP.out (by omega)
            subst hAe
            have BWR := Lib.hid (BW2.out.trans (HI.out.below.mono (by rw [Z2.out]; omega)))
            have c0 := HC.out wr BWR.out k 0 hkn (by omega)
            have c1 := HC.out wr BWR.out k 1 hkn (by omega)
            have c2 := HC.out wr BWR.out k 2 hkn (by omega)
            have c3 := HC.out wr BWR.out k 3 hkn (by omega)
            have c4 := HC.out wr BWR.out k 4 hkn (by omega)
            have c5 := HC.out wr BWR.out k 5 hkn (by omega)
            simp only [Nat.add_zero] at c0
            obtain ⟨op', a', b', c', d', A', n', cap', x0, x1, x2, x3, x4, x5⟩ := FM.out k hkn
            have CK := Lib.hid (fun W hW => IH.out k hkn W hW)
            unfold val6 at CK
            rw [x0, x1, x2, x3, x4, x5] at CK
            rw [x0] at c0
            rw [x1] at c1
            rw [x2] at c2
            rw [x3] at c3
            rw [x4] at c4
            rw [x5] at c5
            clear x0 x1 x2 x3 x4 x5
            have B6 : Below wr.heap.size wr (wr.alloc (.cells #[.int .i64 op', .int .u64 (a' : Int), .int .u64 (b' : Int), .int .u64 (c' : Int), .int .u64 (d' : Int), .slice A' n' cap'] 34)) := (Below.refl _ _).alloc (Nat.le_refl _) _
            have p5 := (HI.out.grown B6).pcell 5 (by omega)
            rw [V5.out] at p5
            have B6 := Lib.hid B6
            go_wp2_with fail
            clear c0 c1 c2 c3 c4 c5
            have G6 := heap_alloc_new wr (.cells #[.int .i64 op', .int .u64 (a' : Int), .int .u64 (b' : Int), .int .u64 (c' : Int), .int .u64 (d' : Int), .slice A' n' cap'] 34)
            have z5 : wr.heap.size < (wr.alloc (.cells #[.int .i64 op', .int .u64 (a' : Int), .int .u64 (b' : Int), .int .u64 (c' : Int), .int .u64 (d' : Int), .slice A' n' cap'] 34)).heap.size := by simp
            have gpl : gp < (wr.alloc (.cells #[.int .i64 op', .int .u64 (a' : Int), .int .u64 (b' : Int), .int .u64 (c' : Int), .int .u64 (d' : Int), .slice A' n' cap'] 34)).heap.size := by have := HI.out.gpb; have := HI.out.size; simp; omega
            generalize (wr.alloc (.cells #[.int .i64 op', .int .u64 (a' : Int), .int .u64 (b' : Int), .int .u64 (c' : Int), .int .u64 (d' : Int), .slice A' n' cap'] 34)) = w5 at *
            have g0 : w5.cell? ⟨wr.heap.size, 0, none⟩ = some (.int .i64 op') := by rw [cell_of_row _ _ _ _ _ _ G6]; rfl
            have g1 : w5.cell? ⟨wr.heap.size, 1, none⟩ = some (.int .u64 (a' : Int)) := by rw [cell_of_row _ _ _ _ _ _ G6]; rfl
            have g2 : w5.cell? ⟨wr.heap.size, 2, none⟩ = some (.int .u64 (b' : Int)) := by rw [cell_of_row _ _ _ _ _ _ G6]; rfl
            have g3 : w5.cell? ⟨wr.heap.size, 3, none⟩ = some (.int .u64 (c' : Int)) := by rw [cell_of_row _ _ _ _ _ _ G6]; rfl
            have g4 : w5.cell? ⟨wr.heap.size, 4, none⟩ = some (.int .u64 (d' : Int)) := by rw [cell_of_row _ _ _ _ _ _ G6]; rfl
            have g5 : w5.cell? ⟨wr.heap.size, 5, none⟩ = some (.slice A' n' cap') := by rw [cell_of_row _ _ _ _ _ _ G6]; rfl
            clear G6
            refine wp_region_held_drew (S := (fun W => W.cell? ⟨gp, 5, none⟩ = some (.slice (some ⟨gk, 0, none⟩) N N) ∧ W.cell? ⟨wr.heap.size, 0, none⟩ = some (.int .i64 op') ∧ W.cell? ⟨wr.heap.size, 1, none⟩ = some (.int .u64 (a' : Int)) ∧ W.cell? ⟨wr.heap.size, 2, none⟩ = some (.int .u64 (b' : Int)) ∧ W.cell? ⟨wr.heap.size, 3, none⟩ = some (.int .u64 (c' : Int)) ∧ W.cell? ⟨wr.heap.size, 4, none⟩ = some (.int .u64 (d' : Int)) ∧ W.cell? ⟨wr.heap.size, 5, none⟩ = some (.slice A' n' cap'))) (by kernel_rfl) ⟨p5, g0, g1, g2, g3, g4, g5⟩ (fun hHeld => ?_)
            refine held_take 0 23 (v := (.pointer (some ⟨gp, 5, none⟩))) rfl rfl (by kernel_rfl) (by kernel_rfl) (by kernel_rfl) (by rfl) (fun _ _ _ h => h) (by assumption) ?_ ?_
            · intro W hW
              go_simp
            simp only [List.setIfInBounds_toArray, List.set_cons_zero, List.set_cons_succ]
            refine held_take 1 24 (v := (.slice (some ⟨gk, 0, none⟩) N N)) rfl rfl (by kernel_rfl) (by kernel_rfl) (by kernel_rfl) (by rfl) (fun _ _ _ h => h) (by assumption) ?_ ?_
            · intro W hW
              have e5 := hW.1
              go_simp
            simp only [List.setIfInBounds_toArray, List.set_cons_zero, List.set_cons_succ]
            refine held_take 2 25 (v := (.int .i64 (k : Int))) rfl rfl (by kernel_rfl) (by kernel_rfl) (by kernel_rfl) (by rfl) (fun _ _ _ h => h) (by assumption) ?_ ?_
            · intro W hW
              go_simp
            simp only [List.setIfInBounds_toArray, List.set_cons_zero, List.set_cons_succ]
            refine held_take 3 26 (v := (.agg #[.int .i64 op', .int .u64 (a' : Int), .int .u64 (b' : Int), .int .u64 (c' : Int), .int .u64 (d' : Int), .slice A' n' cap'])) rfl rfl (by kernel_rfl) (by kernel_rfl) (by kernel_rfl) (by rfl) (fun _ _ _ h => h) (by assumption) ?_ ?_
            · intro W hW
              obtain ⟨_, e0, e1, e2, e3, e4, e5⟩ := hW
              go_simp
            simp only [List.setIfInBounds_toArray, List.set_cons_zero, List.set_cons_succ]
            refine held_call 4 27 (f := 35) (args := #[.agg #[.int .i64 op', .int .u64 (a' : Int), .int .u64 (b' : Int), .int .u64 (c' : Int), .int .u64 (d' : Int), .slice A' n' cap']]) rfl rfl (by kernel_rfl) (by rfl) (by go_simp) ?_
            have hb5 : Below w.heap.size w w5.drew := (BWR.out.trans (B6.out.mono BWR.out.size)).drew
            refine (CK.out _ hb5).mono ?_
            rintro e w6 ⟨t, rfl, nw, b6⟩
            have b6' : Below w5.heap.size w5 w6 := ((Below.refl _ _).drew).trans b6
            have s6 : (w6.cell? ⟨gp, 5, none⟩ = some (.slice (some ⟨gk, 0, none⟩) N N) ∧ w6.cell? ⟨wr.heap.size, 0, none⟩ = some (.int .i64 op') ∧ w6.cell? ⟨wr.heap.size, 1, none⟩ = some (.int .u64 (a' : Int)) ∧ w6.cell? ⟨wr.heap.size, 2, none⟩ = some (.int .u64 (b' : Int)) ∧ w6.cell? ⟨wr.heap.size, 3, none⟩ = some (.int .u64 (c' : Int)) ∧ w6.cell? ⟨wr.heap.size, 4, none⟩ = some (.int .u64 (d' : Int)) ∧ w6.cell? ⟨wr.heap.size, 5, none⟩ = some (.slice A' n' cap')) := ⟨(b6'.cell (p := ⟨gp, 5, none⟩) gpl).trans p5, (b6'.cell (p := ⟨wr.heap.size, 0, none⟩) z5).trans g0, (b6'.cell (p := ⟨wr.heap.size, 1, none⟩) z5).trans g1, (b6'.cell (p := ⟨wr.heap.size, 2, none⟩) z5).trans g2, (b6'.cell (p := ⟨wr.heap.size, 3, none⟩) z5).trans g3, (b6'.cell (p := ⟨wr.heap.size, 4, none⟩) z5).trans g4, (b6'.cell (p := ⟨wr.heap.size, 5, none⟩) z5).trans g5⟩
            refine ⟨_, rfl, s6, ?_⟩
            simp only [List.setIfInBounds_toArray, List.set_cons_zero, List.set_cons_succ]
            have J6 := HI.out.next hkn (Nat.le_of_lt z5) (B6.out.trans (b6'.mono B6.out.size)) nw
            have KT := (HI.out.grown (B6.out.trans (b6'.mono B6.out.size)))
            have hth : w6.there gk (k * 9) 9 := fun j hj => ⟨KT.kcell _ (by omega), KT.kfree _⟩
            refine held_take 5 28 (v := (.pointer (some ⟨gk, k * 9, none⟩))) rfl rfl (by kernel_rfl) (by kernel_rfl) (by kernel_rfl) (by rfl) (fun _ _ _ h => h) (by assumption) ?_ ?_
            · intro W hW
              go_simp
            simp only [List.setIfInBounds_toArray, List.set_cons_zero, List.set_cons_succ]
            refine held_op 6 rfl (by kernel_rfl) (by rfl) ?_
            refine wp_store_mid 58 (.tmp 28) (.tmp 27) rfl gk (k * 9) (cells9 t).toArray rfl rfl hth Tryd.sizeP (one9 t) ⟨?_, ?_⟩
            · have hnb : wr.heap.size ≠ gk := by have := HI.out.gkb; have := HI.out.size; omega
              have ob : ∀ (bb i : Nat), bb ≠ gk → (w6.setCells gk (k * 9) (cells9 t)).cell? ⟨bb, i, none⟩ = w6.cell? ⟨bb, i, none⟩ := fun bb i h => World.cell?_setCells_out gk _ _ _ _ (fun h2 _ => absurd h2 h)
              exact ⟨(ob gp 5 HI.out.gpk).trans s6.1, (ob _ 0 hnb).trans s6.2.1, (ob _ 1 hnb).trans s6.2.2.1, (ob _ 2 hnb).trans s6.2.2.2.1, (ob _ 3 hnb).trans s6.2.2.2.2.1, (ob _ 4 hnb).trans s6.2.2.2.2.2.1, (ob _ 5 hnb).trans s6.2.2.2.2.2.2⟩
            refine wpAnyH_done (by kernel_rfl) ?_ _
            have J6 := Lib.hid J6
            clear hHeld b6 b6' nw KT hth g0 g1 g2 g3 g4 g5 p5 z5 gpl hb5 CK B6 s6
            rw [show (cells9 t).toArray.toList = cells9 t from rfl]
            generalize w6.setCells gk (k * 9) (cells9 t) = w7 at *
            clear HC IH FM BWR
            go_wp2
            go_roundw
            case rel => exact ⟨k + 1, by omega, by go_num, _, J6⟩
            case measure => simp [intOf]; omega
          · obtain rfl : k = N := by omega
            have hkz : ¬ (k : Int) < (k : Int) := by omega
            have L8 := NInv.lay (op := op) (a := a) (b := b) (c := c) (d := d) (HV.out ts HI.out.len) HI.out
            have ELN := Lib.hid HI.out.len
            have CM := Lib.hid (mayBeEmpty_any _ gp 0 wr (by show ts.length ≤ 1000; rw [ELN.out]; exact hN1) L8)
            clear HC IH FM
            go_wp2_with fail
            refine CM.out.mono ?_
            rintro e w6 ⟨rfl, q, rfl⟩
            have hgn : gp ∉ bl (Pt.mk op a b c d gk false false false ts) := by
              rw [bl, List.mem_cons, not_or]
              exact ⟨HI.out.gpk, fun hm => by have := HI.out.low gp hm; have := HI.out.gpb; omega⟩
            have L9 := L8.drew q
            have f6 := L9.free 6
            have c6 := L9.cells 6 (by omega)
            simp only [Pt.cell, Nat.zero_add] at c6
            obtain ⟨L10, T10⟩ := L9.put (t' := .mk op a b c d gk (emOf op ts) false false ts) 6 (by omega) (.bool (emOf op ts)) hgn rfl (fun j hj hne => match j, hj, hne with | 0, _, _ => rfl | 1, _, _ => rfl | 2, _, _ => rfl | 3, _, _ => rfl | 4, _, _ => rfl | 5, _, _ => rfl | 7, _, _ => rfl | 8, _, _ => rfl) rfl rfl
            simp only [Nat.zero_add] at L10 T10
            have s7 : ((wr.drewN q).setCell ⟨gp, 6, none⟩ (.bool (emOf op ts))).heap.size = wr.heap.size := by simp
            have o7 : ∀ bb, bb ≠ gp → ((wr.drewN q).setCell ⟨gp, 6, none⟩ (.bool (emOf op ts))).heap[bb]? = wr.heap[bb]? := fun bb h => Below.heap_setCell _ _ _ bb h
            have x0 := L10.cells 0 (by omega)
            have x1 := L10.cells 1 (by omega)
            have x2 := L10.cells 2 (by omega)
            have x3 := L10.cells 3 (by omega)
            have x4 := L10.cells 4 (by omega)
            have x5 := L10.cells 5 (by omega)
            have x6 := L10.cells 6 (by omega)
            have x7 := L10.cells 7 (by omega)
            have x8 := L10.cells 8 (by omega)
            simp only [Pt.cell, Nat.zero_add, Nat.add_zero, ELN.out] at x0 x1 x2 x3 x4 x5 x6 x7 x8
            have R7 : Hid (((wr.drewN q).setCell ⟨gp, 6, none⟩ (.bool (emOf op ts))).heap[w.heap.size + 1]? = some (.cells #[.int .i64 0, .int .u64 0, .int .u64 0, .int .u64 0, .int .u64 0, .slice none 0 0, .bool false, .bool false, .bool false] 58 (0, 0))) := by
              show _ = _
              rw [o7 _ (by have := HI.out.gpo; have := Z2.out; omega), HI.out.below.block _ (by rw [Z2.out]; omega)]
              exact R2H.out
            have BF : Hid (∀ cs, Below w.heap.size w (((wr.drewN q).setCell ⟨gp, 6, none⟩ (.bool (emOf op ts))).setRow (w.heap.size + 1) cs) ∧ New w.heap.size (.mk op a b c d ks) (.mk op a b c d gk (emOf op ts) false false ts) (((wr.drewN q).setCell ⟨gp, 6, none⟩ (.bool (emOf op ts))).setRow (w.heap.size + 1) cs)) := by
              intro cs
              have b1 : Below w.heap.size w wr := BW2.out.trans (HI.out.below.mono (by rw [Z2.out]; omega))
              have o8 : ∀ bb, bb ≠ gp → bb ≠ w.heap.size + 1 → (((wr.drewN q).setCell ⟨gp, 6, none⟩ (.bool (emOf op ts))).setRow (w.heap.size + 1) cs).heap[bb]? = wr.heap[bb]? := fun bb h1 h2 => (setRow_other _ _ _ _ h2).trans (o7 bb h1)
              refine ⟨⟨b1.os, b1.tape, b1.output, by rw [setRow_size, s7]; exact b1.size, fun bb hb => (o8 bb (by have := HI.out.gpo; have := Z2.out; omega) (by omega)).trans (b1.block bb hb)⟩, ?_⟩
              exact HI.out.finish Z2.out (fun bb h1 h2 _ => o8 bb h1 h2) (by rw [setRow_size, s7]; omega) hN
            have EV : Hid (Value.agg #[.int .i64 op, .int .u64 (a : Int), .int .u64 (b : Int), .int .u64 (c : Int), .int .u64 (d : Int), .slice (some ⟨gk, 0, none⟩) k k, .bool (emOf op ts), .bool false, .bool false] = val9 (.mk op a b c d gk (emOf op ts) false false ts)) := by
              show _ = _
              unfold val9
              simp only [Pt.cell, ELN.out]
            clear L8 L9 L10 T10 CM hgn HI
            simp only [Pt.op, Pt.kids]
            generalize hem : emOf op ts = r at *
            go_wp2_with (refine wpList_store_row rfl 58 (.tmp 2) (.tmp 32) rfl (w.heap.size + 1) #[.int .i64 op, .int .u64 (a : Int), .int .u64 (b : Int), .int .u64 (c : Int), .int .u64 (d : Int), .slice (some ⟨gk, 0, none⟩) k k, .bool (r), .bool false, .bool false] rfl rfl 58 _ R7.out Tryd.sizeP rfl (by simp [Value.oneCell']) ?_)
            have HZ := Lib.hid (setRow_heap _ _ _ #[.int .i64 op, .int .u64 (a : Int), .int .u64 (b : Int), .int .u64 (c : Int), .int .u64 (d : Int), .slice (some ⟨gk, 0, none⟩) k k, .bool (r), .bool false, .bool false] _ _ R7.out)
            obtain ⟨b8, n8⟩ := BF.out #[.int .i64 op, .int .u64 (a : Int), .int .u64 (b : Int), .int .u64 (c : Int), .int .u64 (d : Int), .slice (some ⟨gk, 0, none⟩) k k, .bool (r), .bool false, .bool false]
            generalize ((wr.drewN q).setCell ⟨gp, 6, none⟩ (.bool r)).setRow (w.heap.size + 1) #[.int .i64 op, .int .u64 (a : Int), .int .u64 (b : Int), .int .u64 (c : Int), .int .u64 (d : Int), .slice (some ⟨gk, 0, none⟩) k k, .bool (r), .bool false, .bool false] = w8 at *
            refine bodyPost_ret (results_cell_row rfl _ _ (w.heap.size + 1) 58 _ (0, 0) _ rfl HZ.out Tryd.underlying58 rfl Tryd.sizeP) rfl ⟨_, by rw [← EV.out], n8, b8⟩
      · have M := MK (w2.drew.alloc (.cells #[.int .i64 0, .int .u64 0, .int .u64 0, .int .u64 0, .int .u64 0, .slice none 0 0, .bool false, .bool false, .bool false] 58))
        have d1 : Below w2.heap.size w2 (w2.drew.alloc (.cells #[.int .i64 0, .int .u64 0, .int .u64 0, .int .u64 0, .int .u64 0, .slice none 0 0, .bool false, .bool false, .bool false] 58)) := ((Below.refl _ _).drew).alloc (Nat.le_refl _) _
        refine wp_run (v := .pointer (some ⟨w2.heap.size, 0, none⟩)) (w' := w2.drew.alloc (.cells #[.int .i64 0, .int .u64 0, .int .u64 0, .int .u64 0, .int .u64 0, .slice none 0 0, .bool false, .bool false, .bool false] 58)) rfl (by go_simp) ⟨d1, ?_⟩
        simp only [List.setIfInBounds_toArray, List.set_cons_zero, List.set_cons_succ]
        have d2 : Below w2.heap.size w2 ((w2.drew.alloc (.cells #[.int .i64 0, .int .u64 0, .int .u64 0, .int .u64 0, .int .u64 0, .slice none 0 0, .bool false, .bool false, .bool false] 58)).alloc (.cells (madeCells zero9 (N * 9)) 58)) := d1.alloc d1.size _
        refine held_op 7 rfl (by kernel_rfl) (by rfl) ?_
        refine wp_run (v := .slice (some ⟨w2.heap.size + 1, 0, none⟩) N N) (w' := (w2.drew.alloc (.cells #[.int .i64 0, .int .u64 0, .int .u64 0, .int .u64 0, .int .u64 0, .slice none 0 0, .bool false, .bool false, .bool false] 58)).alloc (.cells (madeCells zero9 (N * 9)) 58)) rfl (by simp at M; go_simp) ⟨d2, ?_⟩
        simp only [List.setIfInBounds_toArray, List.set_cons_zero, List.set_cons_succ]
        clear M
        refine held_take 8 14 (v := (.agg #[.int .i64 op, .int .u64 (a : Int), .int .u64 (b : Int), .int .u64 (c : Int), .int .u64 (d : Int), .slice (some ⟨w2.heap.size + 1, 0, none⟩) N N, .bool false, .bool false, .bool false])) rfl rfl (by kernel_rfl) (by kernel_rfl) (by kernel_rfl) (by rfl) (fun _ _ _ h => h) (by assumption) ?_ ?_
        · intro W hW
          go_simp
        simp only [List.setIfInBounds_toArray, List.set_cons_zero, List.set_cons_succ]
        have hp9 : ((w2.drew.alloc (.cells #[.int .i64 0, .int .u64 0, .int .u64 0, .int .u64 0, .int .u64 0, .slice none 0 0, .bool false, .bool false, .bool false] 58)).alloc (.cells (madeCells zero9 (N * 9)) 58)).heap[w2.heap.size]? = some (.cells zero9 58 (0, 0)) := by
          rw [Below.heap_alloc _ _ _ (by simp)]; exact heap_alloc_new w2.drew _
        have hk9 : ((w2.drew.alloc (.cells #[.int .i64 0, .int .u64 0, .int .u64 0, .int .u64 0, .int .u64 0, .slice none 0 0, .bool false, .bool false, .bool false] 58)).alloc (.cells (madeCells zero9 (N * 9)) 58)).heap[w2.heap.size + 1]? = some (.cells (madeCells zero9 (N * 9)) 58 (0, 0)) := by
          have e := heap_alloc_new (w2.drew.alloc (.cells #[.int .i64 0, .int .u64 0, .int .u64 0, .int .u64 0, .int .u64 0, .slice none 0 0, .bool false, .bool false, .bool false] 58)) (.cells (madeCells zero9 (N * 9)) 58)
          rw [show (w2.drew.alloc (.cells #[.int .i64 0, .int .u64 0, .int .u64 0, .int .u64 0, .int .u64 0, .slice none 0 0, .bool false, .bool false, .bool false] 58)).heap.size = w2.heap.size + 1 by simp] at e
          exact e
        have hthere : ((w2.drew.alloc (.cells #[.int .i64 0, .int .u64 0, .int .u64 0, .int .u64 0, .int .u64 0, .slice none 0 0, .bool false, .bool false, .bool false] 58)).alloc (.cells (madeCells zero9 (N * 9)) 58)).there w2.heap.size 0 9 := there9 hp9
        have I0 := ninv_start (V := fun i => match i with | 0 => .int .i64 op | 1 => .int .u64 (a : Int) | 2 => .int .u64 (b : Int) | 3 => .int .u64 (c : Int) | 4 => .int .u64 (d : Int) | 5 => .slice (some ⟨(w2.heap.size + 1), 0, none⟩) N N | _ => .bool false) (ks := ks) w2 ((w2.drew.alloc (.cells #[.int .i64 0, .int .u64 0, .int .u64 0, .int .u64 0, .int .u64 0, .slice none 0 0, .bool false, .bool false, .bool false] 58)).alloc (.cells (madeCells zero9 (N * 9)) 58)) w2.heap.size (w2.heap.size + 1) N [.int .i64 op, .int .u64 (a : Int), .int .u64 (b : Int), .int .u64 (c : Int), .int .u64 (d : Int), .slice (some ⟨(w2.heap.size + 1), 0, none⟩) N N, .bool false, .bool false, .bool false] rfl (fun i hi => match i, hi with | 0, _ => rfl | 1, _ => rfl | 2, _ => rfl | 3, _ => rfl | 4, _ => rfl | 5, _ => rfl | 6, _ => rfl | 7, _ => rfl | 8, _ => rfl) hk9 hp9 d2 (by simp) (by omega) (by omega) (by omega)
        have d3 : Below w2.heap.size w2 (((w2.drew.alloc (.cells #[.int .i64 0, .int .u64 0, .int .u64 0, .int .u64 0, .int .u64 0, .slice none 0 0, .bool false, .bool false, .bool false] 58)).alloc (.cells (madeCells zero9 (N * 9)) 58)).setCells w2.heap.size 0 [.int .i64 op, .int .u64 (a : Int), .int .u64 (b : Int), .int .u64 (c : Int), .int .u64 (d : Int), .slice (some ⟨(w2.heap.size + 1), 0, none⟩) N N, .bool false, .bool false, .bool false]) := I0.below
        refine held_op 10 rfl (by kernel_rfl) (by rfl) ?_
        refine wp_store_mid 58 (.tmp 3) (.tmp 14) rfl (w2.heap.size) 0 #[.int .i64 op, .int .u64 (a : Int), .int .u64 (b : Int), .int .u64 (c : Int), .int .u64 (d : Int), .slice (some ⟨(w2.heap.size + 1), 0, none⟩) N N, .bool false, .bool false, .bool false] rfl rfl hthere Tryd.sizeP (by simp [Value.oneCell']) ⟨d3, ?_⟩
        refine wpAnyH_done (by kernel_rfl) ?_ _
        have I0 := Lib.hid I0
        clear d1 d2 d3 hthere hk9 hp9 hHeld MK z2 q0 q1 q2 q3 q4 q5 R2
        generalize ((w2.drew.alloc (.cells #[.int .i64 0, .int .u64 0, .int .u64 0, .int .u64 0, .int .u64 0, .slice none 0 0, .bool false, .bool false, .bool false] 58)).alloc (.cells (madeCells zero9 (N * 9)) 58)).setCells w2.heap.size 0 [.int .i64 op, .int .u64 (a : Int), .int .u64 (b : Int), .int .u64 (c : Int), .int .u64 (d : Int), .slice (some ⟨(w2.heap.size + 1), 0, none⟩) N N, .bool false, .bool false, .bool false] = w4 at *
        obtain ⟨base, hbase⟩ : ∃ base, w2.heap.size + 2 = base := ⟨_, rfl⟩
        rw [hbase] at I0
        generalize hg1 : w2.heap.size + 1 = gk at I0 ⊢
        generalize hg0 : w2.heap.size = gp at I0 ⊢
        clear hg1 hg0 hbase
        have HV : Hid (∀ ts : List Pt, ts.length = N → ∀ i, i < 9 → (match i with | 0 => .int .i64 op | 1 => .int .u64 (a : Int) | 2 => .int .u64 (b : Int) | 3 => .int .u64 (c : Int) | 4 => .int .u64 (d : Int) | 5 => .slice (some ⟨gk, 0, none⟩) N N | _ => .bool false) = (Pt.mk op a b c d gk false false false ts).cell i) := by
          intro ts hts i hi
          subst hts
          match i, hi with
          | 0, _ => rfl | 1, _ => rfl | 2, _ => rfl | 3, _ => rfl | 4, _ => rfl | 5, _ => rfl | 6, _ => rfl | 7, _ => rfl | 8, _ => rfl
        have V5 : Hid ((fun i => match i with | 0 => .int .i64 op | 1 => .int .u64 (a : Int) | 2 => .int .u64 (b : Int) | 3 => .int .u64 (c : Int) | 4 => .int .u64 (d : Int) | 5 => .slice (some ⟨gk, 0, none⟩) N N | _ => .bool false : Nat → Value) 5 = .slice (some ⟨gk, 0, none⟩) N N) := rfl
        have HV : Hid (∀ ts : List Pt, ts.length = N → ∀ i, i < 9 → (fun i => match i with | 0 => .int .i64 op | 1 => .int .u64 (a : Int) | 2 => .int .u64 (b : Int) | 3 => .int .u64 (c : Int) | 4 => .int .u64 (d : Int) | 5 => .slice (some ⟨gk, 0, none⟩) N N | _ => .bool false : Nat → Value) i = (Pt.mk op a b c d gk false false false ts).cell i) := HV
        generalize (fun i => match i with | 0 => .int .i64 op | 1 => .int .u64 (a : Int) | 2 => .int .u64 (b : Int) | 3 => .int .u64 (c : Int) | 4 => .int .u64 (d : Int) | 5 => .slice (some ⟨gk, 0, none⟩) N N | _ => .bool false : Nat → Value) = V9 at I0 V5 HV
        have c5 := (I0.out.below.cell (p := ⟨w.heap.size, 5, none⟩) (by show w.heap.size < _; rw [Z2.out]; omega)).trans Q5.out
        go_wp2
        clear c5
        go_loopw [18] (fun i wr => ∃ k : Nat, k ≤ N ∧ i = .int .i64 (k : Int) ∧ ∃ ts, Hid (NInv w2 gp gk N base V9 ks ts k wr)) (fun i _ => N - (intOf i).toNat)
        case atStart => exact ⟨0, by omega, rfl, [], I0⟩
        case round =>
          clear I0
          obtain ⟨k, hk, rfl, ts, HI⟩ := hrel
          by_cases hkn : k < N
          · have hkz : (k : Int) < (N : Int) := by omega
            have hAe := HP.out (by omega)
            subst hAe
            have BWR := Lib.hid (BW2.out.trans (HI.out.below.mono (by rw [Z2.out]; omega)))
            have c0 := HC.out wr BWR.out k 0 hkn (by omega)
            have c1 := HC.out wr BWR.out k 1 hkn (by omega)
            have c2 := HC.out wr BWR.out k 2 hkn (by omega)
            have c3 := HC.out wr BWR.out k 3 hkn (by omega)
            have c4 := HC.out wr BWR.out k 4 hkn (by omega)
            have c5 := HC.out wr BWR.out k 5 hkn (by omega)
            simp only [Nat.add_zero] at c0
            obtain ⟨op', a', b', c', d', A', n', cap', x0, x1, x2, x3, x4, x5⟩ := FM.out k hkn
            have CK := Lib.hid (fun W hW => IH.out k hkn W hW)
            unfold val6 at CK
            rw [x0, x1, x2, x3, x4, x5] at CK
            rw [x0] at c0
            rw [x1] at c1
            rw [x2] at c2
            rw [x3] at c3
            rw [x4] at c4
            rw [x5] at c5
            clear x0 x1 x2 x3 x4 x5
            have B6 : Below wr.heap.size wr (wr.alloc (.cells #[.int .i64 op', .int .u64 (a' : Int), .int .u64 (b' : Int), .int .u64 (c' : Int), .int .u64 (d' : Int), .slice A' n' cap'] 34)) := (Below.refl _ _).alloc (Nat.le_refl _) _
            have p5 := (HI.out.grown B6).pcell 5 (by omega)
            rw [V5.out] at p5
            have B6 := Lib.hid B6
            go_wp2_with fail
            clear c0 c1 c2 c3 c4 c5
            have G6 := heap_alloc_new wr (.cells #[.int .i64 op', .int .u64 (a' : Int), .int .u64 (b' : Int), .int .u64 (c' : Int), .int .u64 (d' : Int), .slice A' n' cap'] 34)
            have z5 : wr.heap.size < (wr.alloc (.cells #[.int .i64 op', .int .u64 (a' : Int), .int .u64 (b' : Int), .int .u64 (c' : Int), .int .u64 (d' : Int), .slice A' n' cap'] 34)).heap.size := by simp
            have gpl : gp < (wr.alloc (.cells #[.int .i64 op', .int .u64 (a' : Int), .int .u64 (b' : Int), .int .u64 (c' : Int), .int .u64 (d' : Int), .slice A' n' cap'] 34)).heap.size := by have := HI.out.gpb; have := HI.out.size; simp; omega
            generalize (wr.alloc (.cells #[.int .i64 op', .int .u64 (a' : Int), .int .u64 (b' : Int), .int .u64 (c' : Int), .int .u64 (d' : Int), .slice A' n' cap'] 34)) = w5 at *
            have g0 : w5.cell? ⟨wr.heap.size, 0, none⟩ = some (.int .i64 op') := by rw [cell_of_row _ _ _ _ _ _ G6]; rfl
            have g1 : w5.cell? ⟨wr.heap.size, 1, none⟩ = some (.int .u64 (a' : Int)) := by rw [cell_of_row _ _ _ _ _ _ G6]; rfl
            have g2 : w5.cell? ⟨wr.heap.size, 2, none⟩ = some (.int .u64 (b' : Int)) := by rw [cell_of_row _ _ _ _ _ _ G6]; rfl
            have g3 : w5.cell? ⟨wr.heap.size, 3, none⟩ = some (.int .u64 (c' : Int)) := by rw [cell_of_row _ _ _ _ _ _ G6]; rfl
            have g4 : w5.cell? ⟨wr.heap.size, 4, none⟩ = some (.int .u64 (d' : Int)) := by rw [cell_of_row _ _ _ _ _ _ G6]; rfl
            have g5 : w5.cell? ⟨wr.heap.size, 5, none⟩ = some (.slice A' n' cap') := by rw [cell_of_row _ _ _ _ _ _ G6]; rfl
            clear G6
            refine wp_region_held_drew (S := (fun W => W.cell? ⟨gp, 5, none⟩ = some (.slice (some ⟨gk, 0, none⟩) N N) ∧ W.cell? ⟨wr.heap.size, 0, none⟩ = some (.int .i64 op') ∧ W.cell? ⟨wr.heap.size, 1, none⟩ = some (.int .u64 (a' : Int)) ∧ W.cell? ⟨wr.heap.size, 2, none⟩ = some (.int .u64 (b' : Int)) ∧ W.cell? ⟨wr.heap.size, 3, none⟩ = some (.int .u64 (c' : Int)) ∧ W.cell? ⟨wr.heap.size, 4, none⟩ = some (.int .u64 (d' : Int)) ∧ W.cell? ⟨wr.heap.size, 5, none⟩ = some (.slice A' n' cap'))) (by kernel_rfl) ⟨p5, g0, g1, g2, g3, g4, g5⟩ (fun hHeld => ?_)
            refine held_take 0 23 (v := (.pointer (some ⟨gp, 5, none⟩))) rfl rfl (by kernel_rfl) (by kernel_rfl) (by kernel_rfl) (by rfl) (fun _ _ _ h => h) (by assumption) ?_ ?_
            · intro W hW
              go_simp
            simp only [List.setIfInBounds_toArray, List.set_cons_zero, List.set_cons_succ]
            refine held_take 1 24 (v := (.slice (some ⟨gk, 0, none⟩) N N)) rfl rfl (by kernel_rfl) (by kernel_rfl) (by kernel_rfl) (by rfl) (fun _ _ _ h => h) (by assumption) ?_ ?_
            · intro W hW
              have e5 := hW.1
              go_simp
            simp only [List.setIfInBounds_toArray, List.set_cons_zero, List.set_cons_succ]
            refine held_take 2 25 (v := (.int .i64 (k : Int))) rfl rfl (by kernel_rfl) (by kernel_rfl) (by kernel_rfl) (by rfl) (fun _ _ _ h => h) (by assumption) ?_ ?_
            · intro W hW
              go_simp
            simp only [List.setIfInBounds_toArray, List.set_cons_zero, List.set_cons_succ]
            refine held_take 3 26 (v := (.agg #[.int .i64 op', .int .u64 (a' : Int), .int .u64 (b' : Int), .int .u64 (c' : Int), .int .u64 (d' : Int), .slice A' n' cap'])) rfl rfl (by kernel_rfl) (by kernel_rfl) (by kernel_rfl) (by rfl) (fun _ _ _ h => h) (by assumption) ?_ ?_
            · intro W hW
              obtain ⟨_, e0, e1, e2, e3, e4, e5⟩ := hW
              go_simp
            simp only [List.setIfInBounds_toArray, List.set_cons_zero, List.set_cons_succ]
            refine held_call 4 27 (f := 35) (args := #[.agg #[.int .i64 op', .int .u64 (a' : Int), .int .u64 (b' : Int), .int .u64 (c' : Int), .int .u64 (d' : Int), .slice A' n' cap']]) rfl rfl (by kernel_rfl) (by rfl) (by go_simp) ?_
            have hb5 : Below w.heap.size w w5.drew := (BWR.out.trans (B6.out.mono BWR.out.size)).drew
            refine (CK.out _ hb5).mono ?_
            rintro e w6 ⟨t, rfl, nw, b6⟩
            have b6' : Below w5.heap.size w5 w6 := ((Below.refl _ _).drew).trans b6
            have s6 : (w6.cell? ⟨gp, 5, none⟩ = some (.slice (some ⟨gk, 0, none⟩) N N) ∧ w6.cell? ⟨wr.heap.size, 0, none⟩ = some (.int .i64 op') ∧ w6.cell? ⟨wr.heap.size, 1, none⟩ = some (.int .u64 (a' : Int)) ∧ w6.cell? ⟨wr.heap.size, 2, none⟩ = some (.int .u64 (b' : Int)) ∧ w6.cell? ⟨wr.heap.size, 3, none⟩ = some (.int .u64 (c' : Int)) ∧ w6.cell? ⟨wr.heap.size, 4, none⟩ = some (.int .u64 (d' : Int)) ∧ w6.cell? ⟨wr.heap.size, 5, none⟩ = some (.slice A' n' cap')) := ⟨(b6'.cell (p := ⟨gp, 5, none⟩) gpl).trans p5, (b6'.cell (p := ⟨wr.heap.size, 0, none⟩) z5).trans g0, (b6'.cell (p := ⟨wr.heap.size, 1, none⟩) z5).trans g1, (b6'.cell (p := ⟨wr.heap.size, 2, none⟩) z5).trans g2, (b6'.cell (p := ⟨wr.heap.size, 3, none⟩) z5).trans g3, (b6'.cell (p := ⟨wr.heap.size, 4, none⟩) z5).trans g4, (b6'.cell (p := ⟨wr.heap.size, 5, none⟩) z5).trans g5⟩
            refine ⟨_, rfl, s6, ?_⟩
            simp only [List.setIfInBounds_toArray, List.set_cons_zero, List.set_cons_succ]
            have J6 := HI.out.next hkn (Nat.le_of_lt z5) (B6.out.trans (b6'.mono B6.out.size)) nw
            have KT := (HI.out.grown (B6.out.trans (b6'.mono B6.out.size)))
            have hth : w6.there gk (k * 9) 9 := fun j hj => ⟨KT.kcell _ (by omega), KT.kfree _⟩
            refine held_take 5 28 (v := (.pointer (some ⟨gk, k * 9, none⟩))) rfl rfl (by kernel_rfl) (by kernel_rfl) (by kernel_rfl) (by rfl) (fun _ _ _ h => h) (by assumption) ?_ ?_
            · intro W hW
              go_simp
            simp only [List.setIfInBounds_toArray, List.set_cons_zero, List.set_cons_succ]
            refine held_op 6 rfl (by kernel_rfl) (by rfl) ?_
            refine wp_store_mid 58 (.tmp 28) (.tmp 27) rfl gk (k * 9) (cells9 t).toArray rfl rfl hth Tryd.sizeP (one9 t) ⟨?_, ?_⟩
            · have hnb : wr.heap.size ≠ gk := by have := HI.out.gkb; have := HI.out.size; omega
              have ob : ∀ (bb i : Nat), bb ≠ gk → (w6.setCells gk (k * 9) (cells9 t)).cell? ⟨bb, i, none⟩ = w6.cell? ⟨bb, i, none⟩ := fun bb i h => World.cell?_setCells_out gk _ _ _ _ (fun h2 _ => absurd h2 h)
              exact ⟨(ob gp 5 HI.out.gpk).trans s6.1, (ob _ 0 hnb).trans s6.2.1, (ob _ 1 hnb).trans s6.2.2.1, (ob _ 2 hnb).trans s6.2.2.2.1, (ob _ 3 hnb).trans s6.2.2.2.2.1, (ob _ 4 hnb).trans s6.2.2.2.2.2.1, (ob _ 5 hnb).trans s6.2.2.2.2.2.2⟩
            refine wpAnyH_done (by kernel_rfl) ?_ _
            have J6 := Lib.hid J6
            clear hHeld b6 b6' nw KT hth g0 g1 g2 g3 g4 g5 p5 z5 gpl hb5 CK B6 s6
            rw [show (cells9 t).toArray.toList = cells9 t from rfl]
            generalize w6.setCells gk (k * 9) (cells9 t) = w7 at *
            clear HC IH FM BWR
            go_wp2
            go_roundw
            case rel => exact ⟨k + 1, by omega, by go_num, _, J6⟩
            case measure => simp [intOf]; omega
          · obtain rfl : k = N := by omega
            have hkz : ¬ (k : Int) < (k : Int) := by omega
            have L8 := NInv.lay (op := op) (a := a) (b := b) (c := c) (d := d) (HV.out ts HI.out.len) HI.out
            have ELN := Lib.hid HI.out.len
            have CM := Lib.hid (mayBeEmpty_any _ gp 0 wr (by show ts.length ≤ 1000; rw [ELN.out]; exact hN1) L8)
            clear HC IH FM
            go_wp2_with fail
            refine CM.out.mono ?_
            rintro e w6 ⟨rfl, q, rfl⟩
            have hgn : gp ∉ bl (Pt.mk op a b c d gk false false false ts) := by
              rw [bl, List.mem_cons, not_or]
              exact ⟨HI.out.gpk, fun hm => by have := HI.out.low gp hm; have := HI.out.gpb; omega⟩
            have L9 := L8.drew q
            have f6 := L9.free 6
            have c6 := L9.cells 6 (by omega)
            simp only [Pt.cell, Nat.zero_add] at c6
            obtain ⟨L10, T10⟩ := L9.put (t' := .mk op a b c d gk (emOf op ts) false false ts) 6 (by omega) (.bool (emOf op ts)) hgn rfl (fun j hj hne => match j, hj, hne with | 0, _, _ => rfl | 1, _, _ => rfl | 2, _, _ => rfl | 3, _, _ => rfl | 4, _, _ => rfl | 5, _, _ => rfl | 7, _, _ => rfl | 8, _, _ => rfl) rfl rfl
            simp only [Nat.zero_add] at L10 T10
            have s7 : ((wr.drewN q).setCell ⟨gp, 6, none⟩ (.bool (emOf op ts))).heap.size = wr.heap.size := by simp
            have o7 : ∀ bb, bb ≠ gp → ((wr.drewN q).setCell ⟨gp, 6, none⟩ (.bool (emOf op ts))).heap[bb]? = wr.heap[bb]? := fun bb h => Below.heap_setCell _ _ _ bb h
            have x0 := L10.cells 0 (by omega)
            have x1 := L10.cells 1 (by omega)
            have x2 := L10.cells 2 (by omega)
            have x3 := L10.cells 3 (by omega)
            have x4 := L10.cells 4 (by omega)
            have x5 := L10.cells 5 (by omega)
            have x6 := L10.cells 6 (by omega)
            have x7 := L10.cells 7 (by omega)
            have x8 := L10.cells 8 (by omega)
            simp only [Pt.cell, Nat.zero_add, Nat.add_zero, ELN.out] at x0 x1 x2 x3 x4 x5 x6 x7 x8
            have R7 : Hid (((wr.drewN q).setCell ⟨gp, 6, none⟩ (.bool (emOf op ts))).heap[w.heap.size + 1]? = some (.cells #[.int .i64 0, .int .u64 0, .int .u64 0, .int .u64 0, .int .u64 0, .slice none 0 0, .bool false, .bool false, .bool false] 58 (0, 0))) := by
              show _ = _
              rw [o7 _ (by have := HI.out.gpo; have := Z2.out; omega), HI.out.below.block _ (by rw [Z2.out]; omega)]
              exact R2H.out
            have BF : Hid (∀ cs, Below w.heap.size w (((wr.drewN q).setCell ⟨gp, 6, none⟩ (.bool (emOf op ts))).setRow (w.heap.size + 1) cs) ∧ New w.heap.size (.mk op a b c d ks) (.mk op a b c d gk (emOf op ts) false false ts) (((wr.drewN q).setCell ⟨gp, 6, none⟩ (.bool (emOf op ts))).setRow (w.heap.size + 1) cs)) := by
              intro cs
              have b1 : Below w.heap.size w wr := BW2.out.trans (HI.out.below.mono (by rw [Z2.out]; omega))
              have o8 : ∀ bb, bb ≠ gp → bb ≠ w.heap.size + 1 → (((wr.drewN q).setCell ⟨gp, 6, none⟩ (.bool (emOf op ts))).setRow (w.heap.size + 1) cs).heap[bb]? = wr.heap[bb]? := fun bb h1 h2 => (setRow_other _ _ _ _ h2).trans (o7 bb h1)
              refine ⟨⟨b1.os, b1.tape, b1.output, by rw [setRow_size, s7]; exact b1.size, fun bb hb => (o8 bb (by have := HI.out.gpo; have := Z2.out; omega) (by omega)).trans (b1.block bb hb)⟩, ?_⟩
              exact HI.out.finish Z2.out (fun bb h1 h2 _ => o8 bb h1 h2) (by rw [setRow_size, s7]; omega) hN
            have EV : Hid (Value.agg #[.int .i64 op, .int .u64 (a : Int), .int .u64 (b : Int), .int .u64 (c : Int), .int .u64 (d : Int), .slice (some ⟨gk, 0, none⟩) k k, .bool (emOf op ts), .bool false, .bool false] = val9 (.mk op a b c d gk (emOf op ts) false false ts)) := by
              show _ = _
              unfold val9
              simp only [Pt.cell, ELN.out]
            clear L8 L9 L10 T10 CM hgn HI
            simp only [Pt.op, Pt.kids]
            generalize hem : emOf op ts = r at *
            go_wp2_with (refine wpList_store_row rfl 58 (.tmp 2) (.tmp 32) rfl (w.heap.size + 1) #[.int .i64 op, .int .u64 (a : Int), .int .u64 (b : Int), .int .u64 (c : Int), .int .u64 (d : Int), .slice (some ⟨gk, 0, none⟩) k k, .bool (r), .bool false, .bool false] rfl rfl 58 _ R7.out Tryd.sizeP rfl (by simp [Value.oneCell']) ?_)
            have HZ := Lib.hid (setRow_heap _ _ _ #[.int .i64 op, .int .u64 (a : Int), .int .u64 (b : Int), .int .u64 (c : Int), .int .u64 (d : Int), .slice (some ⟨gk, 0, none⟩) k k, .bool (r), .bool false, .bool false] _ _ R7.out)
            obtain ⟨b8, n8⟩ := BF.out #[.int .i64 op, .int .u64 (a : Int), .int .u64 (b : Int), .int .u64 (c : Int), .int .u64 (d : Int), .slice (some ⟨gk, 0, none⟩) k k, .bool (r), .bool false, .bool false]
            generalize ((wr.drewN q).setCell ⟨gp, 6, none⟩ (.bool r)).setRow (w.heap.size + 1) #[.int .i64 op, .int .u64 (a : Int), .int .u64 (b : Int), .int .u64 (c : Int), .int .u64 (d : Int), .slice (some ⟨gk, 0, none⟩) k k, .bool (r), .bool false, .bool false] = w8 at *
            refine bodyPost_ret (results_cell_row rfl _ _ (w.heap.size + 1) 58 _ (0, 0) _ rfl HZ.out Tryd.underlying58 rfl Tryd.sizeP) rfl ⟨_, by rw [← EV.out], n8, b8⟩

end Go.Proofs.YtonfmbnankihbaaDoor
