/-
  The program's queue and the reference's side by side; what step does. Conditions: lengths fit.
-/
import Derived.Test.YtlbhiiciajfphaaBq
namespace Go.Proofs.Ytlbhiiciajfphaa
open Go.RowKit Go.Sort

/-- Both queues. -/
structure Tw (w0 w : World) (b : Nat) (l : List Rw) (v : Value) (b2 : Nat) (l2 : List Rw) (A : Option Addr) (c : Nat) : Prop where
  q : Qs w0 w b l v
  r : RqAt w b2 l2 A c
  hb2 : w0.heap.size ≤ b2
  ne : ¬ Qb b v b2
  sep : ∀ a, A = some a → ¬ Qb b v a.block
section
variable {w0 w w' : World} {b b2 : Nat} {l l2 : List Rw} {v : Value} {A : Option Addr} {c : Nat}
theorem Tw.below (h : Tw w0 w b l v b2 l2 A c) (t : Below w.heap.size w w') : Tw w0 w' b l v b2 l2 A c := ⟨h.q.below t, h.r.below t, h.hb2, h.ne, h.sep⟩
theorem Tw.prog (h : Tw w0 w b l v b2 l2 A c) {v' : Value} {l' : List Rw} (q : Qs w0 w' b l' v') (t : Only (Qb b v) w w') (n : Near w v v') : Tw w0 w' b l' v' b2 l2 A c := by
  have key : ∀ k, k < w.heap.size → ¬ Qb b v k → ¬ Qb b v' k := fun k hk hn hq => by
    rcases hq with hq | hq
    · exact hn (.inl hq)
    · rcases n k hq with h1 | h1
      · exact hn (.inr h1)
      · omega
  exact ⟨q, h.r.only t h.ne h.sep, h.hb2, key _ h.r.lt h.ne, fun a e => key _ (h.r.bl a e) (h.sep a e)⟩
theorem Tw.ref (h : Tw w0 w b l v b2 l2 A c) {A' : Option Addr} {c' : Nat} {l2' : List Rw} (r : RqAt w' b2 l2' A' c') (t : Only (fun k => k = b2) w w') (n : RNear w A A') : Tw w0 w' b l v b2 l2' A' c' := by
  refine ⟨⟨h.q.at_.only t fun k hk hs => h.ne ((show k = b2 from hs) ▸ hk), h.q.bel.trans (t.below (fun k hk => (show k = b2 from hk) ▸ h.hb2) h.q.bel.size), h.q.hb⟩, r, h.hb2, h.ne, fun a e hq => ?_⟩
  rcases n a e with ⟨a0, h0, h1⟩ | h1
  · exact h.sep a0 h0 (h1 ▸ hq)
  · have := (h.q.at_.blocks _ hq).2; omega
end
/-- A step, as maths. -/
def stp (k id due : Int) (l : List Rw) : List Rw := if k.tmod 3 = 0 then Qu.put id due l else if k.tmod 3 = 1 then Qu.cut id l else Qu.late due l
theorem stp_le (k id due : Int) (l : List Rw) : (stp k id due l).length ≤ l.length + 1 := by
  unfold stp
  split
  · exact Qu.put_le _ _ _
  · split
    · have := Qu.cut_le id l; omega
    · have := Qu.late_len due l; omega
/-- What step leaves. -/
def StepTo (w0 : World) (b b2 : Nat) (l' : List Rw) (w' : World) : Prop := ∃ v' A' c', Tw w0 w' b l' v' b2 l' A' c'
set_option maxRecDepth 100000 in
set_option maxHeartbeats 4000000 in
theorem step13_any {w0 w : World} {b b2 : Nat} {l : List Rw} {v : Value} {A : Option Addr} {c : Nat} (h : Tw w0 w b l v b2 l A c) (k id due : Int) (hs : l.length + 1 ≤ 1048576) :
    Calls Try.prog 13 #[.pointer (some ⟨b, 0, none⟩), .pointer (some ⟨b2, 0, none⟩), .agg #[.int .u8 k, .int .i64 id, .int .u64 due]] w fun e w' => e = .returned (.bool true) ∧ StepTo w0 b b2 (stp k id due l) w' := by
  have hh : (w.alloc (.cells #[.int .u8 k, .int .i64 id, .int .u64 due] 40)).heap[w.heap.size]? = some (.cells #[.int .u8 k, .int .i64 id, .int .u64 due] 40 (0, 0)) := Array.getElem?_push_size
  have BX : Below w.heap.size w (w.alloc (.cells #[.int .u8 k, .int .i64 id, .int .u64 due] 40)) := (Below.refl _ _).alloc (Nat.le_refl _) _
  have x0 : (w.alloc (.cells #[.int .u8 k, .int .i64 id, .int .u64 due] 40)).cell? ⟨w.heap.size, 0, none⟩ = some (.int .u8 k) := by rw [cell_of_row _ _ _ _ _ _ hh]; rfl
  have x1 : (w.alloc (.cells #[.int .u8 k, .int .i64 id, .int .u64 due] 40)).cell? ⟨w.heap.size, 1, none⟩ = some (.int .i64 id) := by rw [cell_of_row _ _ _ _ _ _ hh]; rfl
  have x2 : (w.alloc (.cells #[.int .u8 k, .int .i64 id, .int .u64 due] 40)).cell? ⟨w.heap.size, 2, none⟩ = some (.int .u64 due) := by rw [cell_of_row _ _ _ _ _ _ hh]; rfl
  have NB : Hid (¬ Qb b v w.heap.size ∧ w.heap.size ≠ b2) := ⟨fun e => by have := (h.q.at_.blocks _ e).2; omega, fun e => by have := h.r.lt; omega⟩
  have LX : Hid (w.heap.size < (w.alloc (.cells #[.int .u8 k, .int .i64 id, .int .u64 due] 40)).heap.size) := (Array.getElem?_eq_some_iff.1 hh).1
  have HT := Lib.hid (h.below BX)
  clear h hh BX
  obtain ⟨l', hl'⟩ : ∃ l', stp k id due l = l' := ⟨_, rfl⟩
  have HL := Lib.hid hl'
  rw [hl']
  clear hl'
  have HS := Lib.hid hs
  clear hs
  go_enter Try.func13, Try.ntmps13
  go_upto_region 1 with fail
  generalize (w.alloc (.cells #[.int .u8 k, .int .i64 id, .int .u64 due] 40)) = W at *
  generalize w.heap.size = bx at *
  by_cases hm : k.tmod 3 = 0
  · have E : Hid (l' = Qu.put id due l) := by show _ = _; rw [← HL.out]; unfold stp; rw [if_pos hm]
    have C1 := Lib.hid (qput_any HT.out.q id due HS.out)
    go_wp2_with fail
    refine C1.out.mono ?_
    rintro e w1 ⟨rfl, v1, q1, t1, n1⟩
    have h1 := HT.out.prog q1 t1 n1
    have y1 := t1.cell (a := ⟨bx, 1, none⟩) NB.out.1 x1
    have y2 := t1.cell (a := ⟨bx, 2, none⟩) NB.out.1 x2
    have C2 := Lib.hid (rput_any h1.r HT.out.q.at_.srt id due HS.out)
    have H1 := Lib.hid h1
    clear C1 h1 q1 t1 n1 x0 x1 x2 HT
    go_wp2_with fail
    refine C2.out.mono ?_
    rintro e w2 ⟨rfl, A2, c2, r2, t2, n2⟩
    have R : Hid (StepTo w0 b b2 l' w2) := by rw [E.out]; exact ⟨v1, A2, c2, H1.out.ref r2 t2 n2⟩
    clear C2 H1 r2 t2 n2
    go_wp2
    go_ret
    exact ⟨rfl, R.out⟩
  by_cases hn : k.tmod 3 = 1
  · have E : Hid (l' = Qu.cut id l) := by show _ = _; rw [← HL.out]; unfold stp; rw [if_neg hm, if_pos hn]
    go_wp2_with fail
    have HT2 := Lib.hid (HT.out.below ((Below.refl _ _).drew))
    refine wp_region_held_drew (S := fun W => W.cell? ⟨bx, 1, none⟩ = some (.int .i64 id) ∧ W.cell? ⟨bx, 2, none⟩ = some (.int .u64 due)) (by kernel_rfl) ⟨x1, x2⟩ (fun hHeld => ?_)
    refine held_take 0 35 (v := (.pointer (some ⟨b, 0, none⟩))) rfl rfl (by kernel_rfl) (by kernel_rfl) (by kernel_rfl) (by rfl) (fun _ _ _ h => h) (by assumption) ?_ ?_
    · intro W hW
      go_simp
    simp only [List.setIfInBounds_toArray, List.set_cons_zero, List.set_cons_succ]
    refine held_take 1 36 (v := (.pointer (some ⟨bx, 1, none⟩))) rfl rfl (by kernel_rfl) (by kernel_rfl) (by kernel_rfl) (by rfl) (fun _ _ _ h => h) (by assumption) ?_ ?_
    · intro W hW
      go_simp
    simp only [List.setIfInBounds_toArray, List.set_cons_zero, List.set_cons_succ]
    refine held_take 2 37 (v := (.int .i64 id)) rfl rfl (by kernel_rfl) (by kernel_rfl) (by kernel_rfl) (by rfl) (fun _ _ _ h => h) (by assumption) ?_ ?_
    · intro W hW
      obtain ⟨k1, k2⟩ := hW
      go_simp
    simp only [List.setIfInBounds_toArray, List.set_cons_zero, List.set_cons_succ]
    refine held_take 4 39 (v := (.pointer (some ⟨b2, 0, none⟩))) rfl rfl (by kernel_rfl) (by kernel_rfl) (by kernel_rfl) (by rfl) (fun _ _ _ h => h) (by assumption) ?_ ?_
    · intro W hW
      go_simp
    simp only [List.setIfInBounds_toArray, List.set_cons_zero, List.set_cons_succ]
    refine held_take 5 40 (v := (.pointer (some ⟨bx, 1, none⟩))) rfl rfl (by kernel_rfl) (by kernel_rfl) (by kernel_rfl) (by rfl) (fun _ _ _ h => h) (by assumption) ?_ ?_
    · intro W hW
      go_simp
    simp only [List.setIfInBounds_toArray, List.set_cons_zero, List.set_cons_succ]
    refine held_take 6 41 (v := (.int .i64 id)) rfl rfl (by kernel_rfl) (by kernel_rfl) (by kernel_rfl) (by rfl) (fun _ _ _ h => h) (by assumption) ?_ ?_
    · intro W hW
      obtain ⟨k1, k2⟩ := hW
      go_simp
    simp only [List.setIfInBounds_toArray, List.set_cons_zero, List.set_cons_succ]
    refine held_call 3 38 (f := 18) (args := #[.pointer (some ⟨b, 0, none⟩), .int .i64 id]) rfl rfl (by kernel_rfl) (by rfl) (by go_simp) ?_
    refine (qdrop_any HT2.out.q id).mono ?_
    rintro e w1 ⟨rfl, v1, q1, t1, n1⟩
    have h1 := HT2.out.prog q1 t1 n1
    have y1 := t1.cell (a := ⟨bx, 1, none⟩) NB.out.1 x1
    have y2 := t1.cell (a := ⟨bx, 2, none⟩) NB.out.1 x2
    refine ⟨_, rfl, ⟨y1, y2⟩, ?_⟩
    simp only [List.setIfInBounds_toArray, List.set_cons_zero, List.set_cons_succ]
    refine held_call 7 42 (f := 24) (args := #[.pointer (some ⟨b2, 0, none⟩), .int .i64 id]) rfl rfl (by kernel_rfl) (by rfl) (by go_simp) ?_
    refine (rdrop_any h1.r id).mono ?_
    rintro e w2 ⟨rfl, A2, c2, r2, t2, n2⟩
    have z1 := t2.cell (a := ⟨bx, 1, none⟩) NB.out.2 y1
    have z2 := t2.cell (a := ⟨bx, 2, none⟩) NB.out.2 y2
    have R : Hid (StepTo w0 b b2 l' w2) := by rw [E.out]; exact ⟨v1, A2, c2, h1.ref r2 t2 n2⟩
    have ss := And.intro z1 z2
    refine ⟨_, rfl, ⟨z1, z2⟩, ?_⟩
    simp only [List.setIfInBounds_toArray, List.set_cons_zero, List.set_cons_succ]
    refine held_take 8 43 (v := (.bool true)) rfl rfl (by kernel_rfl) (by kernel_rfl) (by kernel_rfl) (by rfl) (fun _ _ _ h => h) (by assumption) ?_ ?_
    · intro W hW
      go_simp
    simp only [List.setIfInBounds_toArray, List.set_cons_zero, List.set_cons_succ]
    refine held_take 9 6 (v := (.bool true)) rfl rfl (by kernel_rfl) (by kernel_rfl) (by kernel_rfl) (by rfl) (fun _ _ _ h => h) (by assumption) ?_ ?_
    · intro W hW
      go_simp
    simp only [List.setIfInBounds_toArray, List.set_cons_zero, List.set_cons_succ]
    refine wpAnyH_done (by kernel_rfl) ?_ _
    clear HT HT2 hHeld
    go_wp2
    go_ret
    exact ⟨rfl, R.out⟩
  · have E : Hid (l' = Qu.late due l) := by show _ = _; rw [← HL.out]; unfold stp; rw [if_neg hm, if_neg hn]
    go_wp2_with fail
    have HT2 := Lib.hid (HT.out.below ((Below.refl _ _).drew))
    refine wp_region_held_drew (S := fun W => W.cell? ⟨bx, 1, none⟩ = some (.int .i64 id) ∧ W.cell? ⟨bx, 2, none⟩ = some (.int .u64 due)) (by kernel_rfl) ⟨x1, x2⟩ (fun hHeld => ?_)
    refine held_take 0 10 (v := (.pointer (some ⟨b, 0, none⟩))) rfl rfl (by kernel_rfl) (by kernel_rfl) (by kernel_rfl) (by rfl) (fun _ _ _ h => h) (by assumption) ?_ ?_
    · intro W hW
      go_simp
    simp only [List.setIfInBounds_toArray, List.set_cons_zero, List.set_cons_succ]
    refine held_take 1 11 (v := (.pointer (some ⟨bx, 2, none⟩))) rfl rfl (by kernel_rfl) (by kernel_rfl) (by kernel_rfl) (by rfl) (fun _ _ _ h => h) (by assumption) ?_ ?_
    · intro W hW
      go_simp
    simp only [List.setIfInBounds_toArray, List.set_cons_zero, List.set_cons_succ]
    refine held_take 2 12 (v := (.int .u64 due)) rfl rfl (by kernel_rfl) (by kernel_rfl) (by kernel_rfl) (by rfl) (fun _ _ _ h => h) (by assumption) ?_ ?_
    · intro W hW
      obtain ⟨k1, k2⟩ := hW
      go_simp
    simp only [List.setIfInBounds_toArray, List.set_cons_zero, List.set_cons_succ]
    refine held_take 4 14 (v := (.pointer (some ⟨b2, 0, none⟩))) rfl rfl (by kernel_rfl) (by kernel_rfl) (by kernel_rfl) (by rfl) (fun _ _ _ h => h) (by assumption) ?_ ?_
    · intro W hW
      go_simp
    simp only [List.setIfInBounds_toArray, List.set_cons_zero, List.set_cons_succ]
    refine held_take 5 15 (v := (.pointer (some ⟨bx, 2, none⟩))) rfl rfl (by kernel_rfl) (by kernel_rfl) (by kernel_rfl) (by rfl) (fun _ _ _ h => h) (by assumption) ?_ ?_
    · intro W hW
      go_simp
    simp only [List.setIfInBounds_toArray, List.set_cons_zero, List.set_cons_succ]
    refine held_take 6 16 (v := (.int .u64 due)) rfl rfl (by kernel_rfl) (by kernel_rfl) (by kernel_rfl) (by rfl) (fun _ _ _ h => h) (by assumption) ?_ ?_
    · intro W hW
      obtain ⟨k1, k2⟩ := hW
      go_simp
    simp only [List.setIfInBounds_toArray, List.set_cons_zero, List.set_cons_succ]
    refine held_call 3 13 (f := 12) (args := #[.pointer (some ⟨b, 0, none⟩), .int .u64 due]) rfl rfl (by kernel_rfl) (by rfl) (by go_simp) ?_
    refine (qdue_any HT2.out.q due).mono ?_
    rintro e w1 ⟨u1, rfl, o1, v1, q1, t1, n1, -⟩
    have h1 := HT2.out.prog q1 t1 n1
    have y1 := t1.cell (a := ⟨bx, 1, none⟩) NB.out.1 x1
    have y2 := t1.cell (a := ⟨bx, 2, none⟩) NB.out.1 x2
    refine ⟨_, rfl, ⟨y1, y2⟩, ?_⟩
    simp only [List.setIfInBounds_toArray, List.set_cons_zero, List.set_cons_succ]
    refine held_call 7 17 (f := 25) (args := #[.pointer (some ⟨b2, 0, none⟩), .int .u64 due]) rfl rfl (by kernel_rfl) (by rfl) (by go_simp) ?_
    refine (rripe_any h1.r due).mono ?_
    rintro e w2 ⟨u2, rfl, o2, A2, c2, r2, t2, n2⟩
    have z1 := t2.cell (a := ⟨bx, 1, none⟩) NB.out.2 y1
    have z2 := t2.cell (a := ⟨bx, 2, none⟩) NB.out.2 y2
    have h2 := h1.ref r2 t2 n2
    have o1' := own_only o1 t2 fun g hg hs => by have := (o1.lt g hg).1; have hs : g = b2 := hs; have := HT2.out.r.lt; omega
    refine ⟨_, rfl, ⟨z1, z2⟩, ?_⟩
    obtain ⟨B1, d1, rfl, -, -, i1, l1⟩ := own_z o1'
    obtain ⟨B2, d2, rfl, -, -, i2, l2⟩ := own_z o2
    have hrl : (Qu.ripe due l).length ≤ 1099511627776 := by have := (Qu.ripe_sub due l).length_le; have := HS.out; omega
    simp only [List.setIfInBounds_toArray, List.set_cons_zero, List.set_cons_succ]
    refine held_call 8 18 (f := 11) (args := #[.slice B1 (Qu.ripe due l).length d1, .slice B2 (Qu.ripe due l).length d2]) rfl rfl (by kernel_rfl) (by rfl) (by go_simp) ?_
    refine (same_s (Qu.ids (Qu.ripe due l)) (Qu.ids (Qu.ripe due l)) B1 B2 _ _ d1 d2 w2 l1 l2 hrl hrl i1 i2 (d := true) (by simp)).mono ?_
    rintro e w3 ⟨rfl, b3⟩
    have g1 := (b3.cell (p := ⟨bx, 1, none⟩) (World.block_lt_of_cell? w2 _ z1)).trans z1
    have g2 := (b3.cell (p := ⟨bx, 2, none⟩) (World.block_lt_of_cell? w2 _ z2)).trans z2
    have R : Hid (StepTo w0 b b2 l' w3) := by rw [E.out]; exact ⟨v1, A2, c2, h2.below b3⟩
    have ss := And.intro g1 g2
    refine ⟨_, rfl, ⟨g1, g2⟩, ?_⟩
    simp only [List.setIfInBounds_toArray, List.set_cons_zero, List.set_cons_succ]
    refine held_take 9 6 (v := (.bool true)) rfl rfl (by kernel_rfl) (by kernel_rfl) (by kernel_rfl) (by rfl) (fun _ _ _ h => h) (by assumption) ?_ ?_
    · intro W hW
      go_simp
    simp only [List.setIfInBounds_toArray, List.set_cons_zero, List.set_cons_succ]
    refine wpAnyH_done (by kernel_rfl) ?_ _
    clear HT HT2 hHeld
    go_wp2
    go_ret
    exact ⟨rfl, R.out⟩
end Go.Proofs.Ytlbhiiciajfphaa
