/-
  What a queue's Put does. Conditions: lengths fit.
-/
import Derived.Test.YtlbhiiciajfphaaBh
namespace Go.Proofs.Ytlbhiiciajfphaa
open Go.RowKit Go.Sort

theorem Only.after {S S' : Nat → Prop} {a b c : World} (t1 : Only S a b) (t2 : Only S' b c) (h : ∀ k, k < a.heap.size → S' k → S k) : Only S a c :=
  ⟨t2.os.trans t1.os, t2.tape.trans t1.tape, t2.output.trans t1.output, Nat.le_trans t1.size t2.size, fun k hk hn => (t2.block k (Nat.lt_of_lt_of_le hk t1.size) fun h' => hn (h k hk h')).trans (t1.block k hk hn)⟩
theorem QsTo.after {w0 w w1 w2 : World} {b : Nat} {v v1 : Value} {l2 : List Rw} (t1 : Only (Qb b v) w w1) (n1 : Near w v v1) (h : QsTo w0 w1 b v1 l2 w2) : QsTo w0 w b v l2 w2 := by
  obtain ⟨v2, h2, t2, n2⟩ := h
  refine ⟨v2, h2, t1.after t2 fun k hk hq => ?_, fun k hk => ?_⟩
  · rcases hq with h | h
    · exact .inl h
    · rcases n1 k h with h | h
      · exact .inr h
      · omega
  · rcases n2 k hk with h | h
    · exact n1 k h
    · exact .inr (Nat.le_trans t1.size h)
section
variable {P : Program} {md : Region.Mode} {ops : Array Oper} {Q : Exit → Act → World → Prop} {S : World → Prop} {st : Nat}
theorem last_call (i d : Nat) {oi : Oper} {f : FuncId} {args : Array Value} {fuel : Nat} {listed : Array Bool} {ts : Array Value} {ds : List Deferred} {w : World} (hi : ops[i]? = some oi) (hd : oi.dst = some d)
    (hr : Region.ready md ops listed = [i]) (hw : Region.wanted oi (yielded ops ts) = true)
    (hx : (execOp (Act.mk ts ds).eval oi).run P w = .ok (.enter f args) w)
    (hc : Calls P f args w fun e w' => ∃ v, e = .returned v ∧ S w' ∧ wpAnyL P md ops Q S st fuel (listed.setIfInBounds i true) ⟨ts.setIfInBounds d v, ds⟩ w') : wpAnyL P md ops Q S st (fuel + 1) listed ⟨ts, ds⟩ w := by
  refine last_op i hi hr hw ?_
  unfold Oper.wp
  rw [hx]
  refine Calls.mono hc fun e w' he => ?_
  obtain ⟨v, rfl, hS, hh⟩ := he
  refine ⟨fun _ => hS, ?_⟩
  rw [hd]; exact hh
end
set_option maxRecDepth 100000 in
set_option maxHeartbeats 2000000 in
theorem qput_any {w0 w : World} {b : Nat} {l : List Rw} {v : Value} (h : Qs w0 w b l v) (id due : Int) (hs : l.length + 1 ≤ 1048576) :
    Calls Try.prog 8 #[.pointer (some ⟨b, 0, none⟩), .int .i64 id, .int .u64 due] w fun e w' => e = .returned (.tuple #[]) ∧ QsTo w0 w b v (Qu.put id due l) w' := by
  have K := Lib.hid (qdrop_any h id)
  have HS : Hid ((Qu.cut id l).length + 1 ≤ 1048576) := by have := Qu.cut_le id l; show _ ≤ _; omega
  have HN : Hid (∀ x ∈ Qu.cut id l, x.2 ≠ ((due, id) : Rw).2) := fun x hx => (h.at_.srt.mem_cut.1 hx).2
  have HP : Hid (Qu.put id due l = Qu.ins (Qu.cut id l) (due, id)) := rfl
  clear h hs
  generalize Qu.put id due l = l2 at *
  generalize Qu.cut id l = l1 at *
  go_enter Try.func8, Try.ntmps8
  go_wp2_with fail
  refine K.out.mono ?_
  rintro e w1 ⟨rfl, v1, h1, t1, n1⟩
  have H1 := Lib.hid h1
  have T1 := Lib.hid t1
  have N1 := Lib.hid n1
  clear K h1 t1 n1
  go_wp2_with fail
  obtain ⟨A1, cc, rfl, ha⟩ := H1.out.at_.row
  have bA : Below w1.heap.size w1 (w1.alloc (.cells #[.int .u64 due, .int .i64 id] 56)) := (Below.refl _ _).alloc (Nat.le_refl _) _
  have hv : (w1.alloc (.cells #[.int .u64 due, .int .i64 id] 56)).heap[w1.heap.size]? = some (.cells #[.int .u64 due, .int .i64 id] 56 (0, 0)) := Array.getElem?_push_size
  have LV : Hid (w1.heap.size < (w1.alloc (.cells #[.int .u64 due, .int .i64 id] 56)).heap.size) := (Array.getElem?_eq_some_iff.1 hv).1
  have H2 := Lib.hid (H1.out.below bA)
  have BA := Lib.hid bA
  have HV := Lib.hid hv
  clear bA hv ha
  revert LV HV
  obtain ⟨vb, hvb⟩ : ∃ vb, w1.heap.size = vb := ⟨_, rfl⟩
  have VB := Lib.hid hvb
  rw [hvb]
  intro LV HV
  generalize (w1.alloc (.cells #[.int .u64 due, .int .i64 id] 56)) = w2 at *
  have C := Lib.hid (fun W (hW : Below w2.heap.size w2 W) => search_any l1 (due, id) A1 l1.length cc W rfl (by have := HS.out; omega) (by obtain ⟨_, _, e, ha⟩ := (H2.out.at_.below hW).row; injection e with e1 _ e3; subst e1; exact ha) H2.out.at_.srt)
  have R0 : Hid (∀ W, Below w2.heap.size w2 W → W.cell? ⟨b, 0, none⟩ = some (.slice A1 l1.length cc) ∧ W.cell? ⟨vb, 0, none⟩ = some (.int .u64 due) ∧ W.cell? ⟨vb, 1, none⟩ = some (.int .i64 id)) := fun W hW =>
    ⟨(hW.cell (p := ⟨b, 0, none⟩) H2.out.at_.lt).trans H2.out.at_.c0, (hW.cell (p := ⟨vb, 0, none⟩) LV.out).trans (by rw [cell_of_row _ _ _ _ _ _ HV.out]; rfl), (hW.cell (p := ⟨vb, 1, none⟩) LV.out).trans (by rw [cell_of_row _ _ _ _ _ _ HV.out]; rfl)⟩
  generalize hn : l1.length = n at *
  have EN := Lib.hid hn
  clear hn
  refine wp_region_held_drew (S := fun W => Below w2.heap.size w2 W) (by kernel_rfl) ((Below.refl _ _).drew) (fun hHeld => ?_)
  refine held_take 0 16 (v := (.pointer (some ⟨b, 0, none⟩))) rfl rfl (by kernel_rfl) (by kernel_rfl) (by kernel_rfl) (by rfl) (fun _ _ _ h => h) (by assumption) ?_ ?_
  · intro W hW
    go_simp
  simp only [List.setIfInBounds_toArray, List.set_cons_zero, List.set_cons_succ]
  refine held_take 1 17 (v := (.pointer (some ⟨b, 0, none⟩))) rfl rfl (by kernel_rfl) (by kernel_rfl) (by kernel_rfl) (by rfl) (fun _ _ _ h => h) (by assumption) ?_ ?_
  · intro W hW
    go_simp
  simp only [List.setIfInBounds_toArray, List.set_cons_zero, List.set_cons_succ]
  refine held_take 2 18 (v := (.pointer (some ⟨b, 0, none⟩))) rfl rfl (by kernel_rfl) (by kernel_rfl) (by kernel_rfl) (by rfl) (fun _ _ _ h => h) (by assumption) ?_ ?_
  · intro W hW
    go_simp
  simp only [List.setIfInBounds_toArray, List.set_cons_zero, List.set_cons_succ]
  refine held_take 3 19 (v := (.slice A1 n cc)) rfl rfl (by kernel_rfl) (by kernel_rfl) (by kernel_rfl) (by rfl) (fun _ _ _ h => h) (by assumption) ?_ ?_
  · intro W hW
    obtain ⟨k0, k1, k2⟩ := R0.out W hW
    go_simp
  simp only [List.setIfInBounds_toArray, List.set_cons_zero, List.set_cons_succ]
  refine held_take 4 20 (v := (.agg #[.int .u64 due, .int .i64 id])) rfl rfl (by kernel_rfl) (by kernel_rfl) (by kernel_rfl) (by rfl) (fun _ _ _ h => h) (by assumption) ?_ ?_
  · intro W hW
    obtain ⟨k0, k1, k2⟩ := R0.out W hW
    go_simp
  simp only [List.setIfInBounds_toArray, List.set_cons_zero, List.set_cons_succ]
  refine held_call 5 21 (f := 19) (args := #[.slice A1 n cc, pv (due, id), .func (.func 20) #[] #[]]) rfl rfl (by kernel_rfl) (by rfl) (by go_simp; rfl) ?_
  refine (C.out w2.drew ((Below.refl _ _).drew)).mono ?_
  rintro e u1 ⟨u, rfl, d1⟩
  have r1 : Below w2.heap.size w2 u1 := (Below.refl _ _).drew.trans d1
  refine ⟨_, rfl, r1, ?_⟩
  have hh1 := Below.refl u1.heap.size u1
  refine held_more (S' := fun W => Below u1.heap.size u1 W) (fun W h => r1.trans (h.mono r1.size)) _ _ _ _ ?_
  simp only [List.setIfInBounds_toArray, List.set_cons_zero, List.set_cons_succ]
  refine held_take 6 15 (v := (.tuple #[.int .i64 (Qu.kk l1 (due, id)), u])) rfl rfl (by kernel_rfl) (by kernel_rfl) (by kernel_rfl) (by rfl) (fun _ _ _ h => h) (by assumption) ?_ ?_
  · intro W hW
    go_simp
  simp only [List.setIfInBounds_toArray, List.set_cons_zero, List.set_cons_succ]
  refine held_take 7 22 (v := (.int .i64 (Qu.kk l1 (due, id)))) rfl rfl (by kernel_rfl) (by kernel_rfl) (by kernel_rfl) (by rfl) (fun _ _ _ h => h) (by assumption) ?_ ?_
  · intro W hW
    go_simp
  simp only [List.setIfInBounds_toArray, List.set_cons_zero, List.set_cons_succ]
  refine held_take 8 23 (v := u) rfl rfl (by kernel_rfl) (by kernel_rfl) (by kernel_rfl) (by rfl) (fun _ _ _ h => h) (by assumption) ?_ ?_
  · intro W hW
    go_simp
  simp only [List.setIfInBounds_toArray, List.set_cons_zero, List.set_cons_succ]
  refine held_take 9 7 (v := (.int .i64 (Qu.kk l1 (due, id)))) rfl rfl (by kernel_rfl) (by kernel_rfl) (by kernel_rfl) (by rfl) (fun _ _ _ h => h) (by assumption) ?_ ?_
  · intro W hW
    go_simp
  simp only [List.setIfInBounds_toArray, List.set_cons_zero, List.set_cons_succ]
  refine held_take 10 8 (v := u) rfl rfl (by kernel_rfl) (by kernel_rfl) (by kernel_rfl) (by rfl) (fun _ _ _ h => h) (by assumption) ?_ ?_
  · intro W hW
    go_simp
  simp only [List.setIfInBounds_toArray, List.set_cons_zero, List.set_cons_succ]
  refine wpAnyH_done (by kernel_rfl) ?_ _
  have H3 := Lib.hid (H2.out.below r1)
  have RR := Lib.hid r1
  have R3 := Lib.hid (R0.out u1 r1)
  have V3 : Hid (u1.heap[vb]? = some (.cells #[.int .u64 due, .int .i64 id] 56 (0, 0))) := (r1.block vb LV.out).trans HV.out
  clear C R0 H2 HV r1 d1 hh1 hHeld LV
  go_wp2_with fail
  have OB : Hid (∀ k, (Value.slice A1 n cc).ownBlock = some k → b < k ∧ k < vb) := fun k hk => by have := H1.out.at_.own.lt k hk; rw [VB.out] at this; omega
  have LB : Hid (b < vb) := by have := H1.out.at_.lt; rw [VB.out] at this; exact this
  have LV : Hid (vb < u1.heap.size) := (Array.getElem?_eq_some_iff.1 V3.out).1
  have ST : Hid (∀ W, Below u1.heap.size u1 W → W.cell? ⟨b, 0, none⟩ = some (.slice A1 n cc) ∧ W.cell? ⟨vb, 0, none⟩ = some (.int .u64 due) ∧ W.cell? ⟨vb, 1, none⟩ = some (.int .i64 id)) := fun W hW =>
    ⟨(hW.cell (p := ⟨b, 0, none⟩) H3.out.at_.lt).trans R3.out.1, (hW.cell (p := ⟨vb, 0, none⟩) LV.out).trans R3.out.2.1, (hW.cell (p := ⟨vb, 1, none⟩) LV.out).trans R3.out.2.2⟩
  refine wp_region_last (fun W => W.cell? ⟨b, 0, none⟩ = some (.slice A1 n cc) ∧ W.cell? ⟨vb, 0, none⟩ = some (.int .u64 due) ∧ W.cell? ⟨vb, 1, none⟩ = some (.int .i64 id)) 11 (by kernel_rfl) (ST.out _ ((Below.refl _ _).drew)) (fun hHeld => ?_)
  refine last_take 0 24 (v := (.pointer (some ⟨b, 0, none⟩))) rfl rfl (by kernel_rfl) (by kernel_rfl) (by kernel_rfl) (by kernel_rfl) (by rfl) (fun _ _ _ h => h) (by assumption) ?_ ?_
  · intro W hW
    go_simp
  simp only [List.setIfInBounds_toArray, List.set_cons_zero, List.set_cons_succ]
  refine last_take 1 25 (v := (.pointer (some ⟨b, 0, none⟩))) rfl rfl (by kernel_rfl) (by kernel_rfl) (by kernel_rfl) (by kernel_rfl) (by rfl) (fun _ _ _ h => h) (by assumption) ?_ ?_
  · intro W hW
    go_simp
  simp only [List.setIfInBounds_toArray, List.set_cons_zero, List.set_cons_succ]
  refine last_take 2 26 (v := (.pointer (some ⟨b, 0, none⟩))) rfl rfl (by kernel_rfl) (by kernel_rfl) (by kernel_rfl) (by kernel_rfl) (by rfl) (fun _ _ _ h => h) (by assumption) ?_ ?_
  · intro W hW
    go_simp
  simp only [List.setIfInBounds_toArray, List.set_cons_zero, List.set_cons_succ]
  refine last_take 3 27 (v := (.pointer (some ⟨b, 0, none⟩))) rfl rfl (by kernel_rfl) (by kernel_rfl) (by kernel_rfl) (by kernel_rfl) (by rfl) (fun _ _ _ h => h) (by assumption) ?_ ?_
  · intro W hW
    go_simp
  simp only [List.setIfInBounds_toArray, List.set_cons_zero, List.set_cons_succ]
  refine last_take 4 28 (v := (.slice A1 n cc)) rfl rfl (by kernel_rfl) (by kernel_rfl) (by kernel_rfl) (by kernel_rfl) (by rfl) (fun _ _ _ h => h) (by assumption) ?_ ?_
  · intro W hW
    obtain ⟨k0, k1, k2⟩ := hW
    go_simp
  simp only [List.setIfInBounds_toArray, List.set_cons_zero, List.set_cons_succ]
  refine last_take 5 29 (v := (.int .i64 (Qu.kk l1 (due, id)))) rfl rfl (by kernel_rfl) (by kernel_rfl) (by kernel_rfl) (by kernel_rfl) (by rfl) (fun _ _ _ h => h) (by assumption) ?_ ?_
  · intro W hW
    go_simp
  simp only [List.setIfInBounds_toArray, List.set_cons_zero, List.set_cons_succ]
  refine last_take 6 30 (v := (.agg #[.int .u64 due, .int .i64 id])) rfl rfl (by kernel_rfl) (by kernel_rfl) (by kernel_rfl) (by kernel_rfl) (by rfl) (fun _ _ _ h => h) (by assumption) ?_ ?_
  · intro W hW
    obtain ⟨k0, k1, k2⟩ := hW
    go_simp
  simp only [List.setIfInBounds_toArray, List.set_cons_zero, List.set_cons_succ]
  have bN : Below u1.drew.heap.size u1.drew (u1.drew.alloc (.cells #[.int .u64 due, .int .i64 id] 56)) := (Below.refl _ _).alloc (Nat.le_refl _) _
  have bM : Below u1.heap.size u1 (u1.drew.alloc (.cells #[.int .u64 due, .int .i64 id] 56)) := (Below.refl _ _).drew.trans bN
  have H4 := Lib.hid (H3.out.below bM)
  have V4 : Hid ((u1.drew.alloc (.cells #[.int .u64 due, .int .i64 id] 56)).heap[u1.heap.size]? = some (.cells (pc (due, id)).toArray 56 (0, 0))) := Array.getElem?_push_size
  have S4 := ST.out _ bM
  refine last_op 7 rfl (by kernel_rfl) (by rfl) ?_
  refine wp_run (v := .slice (some ⟨u1.heap.size, 0, none⟩) 1 1) (w' := u1.drew.alloc (.cells #[.int .u64 due, .int .i64 id] 56)) rfl (by go_simp) ⟨fun _ => S4, ?_⟩
  simp only [List.setIfInBounds_toArray, List.set_cons_zero, List.set_cons_succ]
  refine last_call 8 32 (f := 21) (args := #[.slice A1 n cc, .int .i64 (Qu.kk l1 (due, id)), .slice (some ⟨u1.heap.size, 0, none⟩) 1 1]) rfl rfl (by kernel_rfl) (by rfl) (by go_simp) ?_
  refine (insert_any (b + 1) (.slice A1 n cc) n l1 (Qu.kk l1 (due, id)) (due, id) u1.heap.size _ (by have := H4.out.at_.own; rwa [EN.out] at this) (by have := Qu.kk_le l1 (due, id); rwa [EN.out] at this) (by have := HS.out; omega) (by have := H4.out.at_.lt; omega) V4.out (fun k hk e => by have := OB.out k hk; have := LV.out; omega)).mono ?_
  rintro e u3 ⟨v', rfl, o3, t3, n3⟩
  have nb : ¬ (Value.slice A1 n cc).ownBlock = some b := fun e => by have := (OB.out b e).1; omega
  have nv : ¬ (Value.slice A1 n cc).ownBlock = some vb := fun e => by have := (OB.out vb e).2; omega
  have S5 : u3.cell? ⟨b, 0, none⟩ = some (.slice A1 n cc) ∧ u3.cell? ⟨vb, 0, none⟩ = some (.int .u64 due) ∧ u3.cell? ⟨vb, 1, none⟩ = some (.int .i64 id) := ⟨t3.cell (a := ⟨b, 0, none⟩) nb S4.1, t3.cell (a := ⟨vb, 0, none⟩) nv S4.2.1, t3.cell (a := ⟨vb, 1, none⟩) nv S4.2.2⟩
  refine ⟨v', rfl, S5, ?_⟩
  have F5 : u3.frozen? ⟨b, 0, none⟩ = false := (World.frozen?_of_block (a := ⟨b, 0, none⟩) (t3.block b H4.out.at_.lt nb)).trans (H4.out.at_.fr 0)
  have ho : u3.ownsRow (b + 1) 56 2 v' (Qu.ins l1 (due, id)).length (fl pc (Qu.ins l1 (due, id))) := by rw [Qu.ins_len, EN.out]; exact o3
  have hp := H4.out.at_.put (l' := Qu.ins l1 (due, id)) t3 ho (H1.out.at_.srt.ins HN.out) (by rw [Qu.ins_len, EN.out]; exact HS.out)
  have R : Hid (QsTo w0 w b v l2 (u3.setCell ⟨b, 0, none⟩ v')) := by
    refine QsTo.after T1.out N1.out ?_
    rw [HP.out]
    have B5 : Below w1.heap.size w1 (u1.drew.alloc (.cells #[.int .u64 due, .int .i64 id] 56)) := (BA.out.trans (RR.out.mono BA.out.size)).trans (bM.mono (Nat.le_trans BA.out.size RR.out.size))
    exact H1.out.to hp (((Only.ofBelow B5).trans (t3.mono fun k _ hk => .inr hk)).trans (Only.ofSet (.inl rfl) _)) (fun k hk => (n3 k hk).imp (fun h => h) fun h => Nat.le_trans B5.size h)
  obtain ⟨A2, c2, rfl⟩ := own_slice o3
  have d5 := S5.1
  simp only [List.setIfInBounds_toArray, List.set_cons_zero, List.set_cons_succ]
  refine last_op 9 rfl (by kernel_rfl) (by rfl) ?_
  refine wp_run (v := .pointer (some ⟨b, 0, none⟩)) (w' := u3) rfl (by go_simp) ⟨fun _ => S5, ?_⟩
  simp only [List.setIfInBounds_toArray, List.set_cons_zero, List.set_cons_succ]
  refine last_op 10 rfl (by kernel_rfl) (by rfl) ?_
  refine wp_run (v := .pointer (some ⟨b, 0, none⟩)) (w' := u3) rfl (by go_simp) ⟨fun _ => S5, ?_⟩
  simp only [List.setIfInBounds_toArray, List.set_cons_zero, List.set_cons_succ]
  refine last_op 11 rfl (by kernel_rfl) (by rfl) ?_
  refine wp_skip (w' := u3.setCell ⟨b, 0, none⟩ (.slice A2 (n + 1) c2)) rfl (by go_simp) ⟨fun h => absurd rfl h, ?_⟩
  refine last_done (by kernel_rfl) ?_ _
  clear hp ho o3 t3 n3 S5 S4 F5 d5 bM bN H4 V4 H3 R3 V3 ST H1 T1 N1
  generalize (u3.setCell ⟨b, 0, none⟩ (.slice A2 (n + 1) c2)) = u4 at *
  go_wp2
  go_end0
  exact ⟨rfl, R.out⟩
end Go.Proofs.Ytlbhiiciajfphaa
