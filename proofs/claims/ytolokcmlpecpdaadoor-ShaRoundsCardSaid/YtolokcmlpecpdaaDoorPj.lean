/-
  What the law ShaRounds does, for every state and every block: it returns true. Conditions: the block has 64 bytes; the tables of constants lie in their variables.
-/
import Derived.Test.YtolokcmlpecpdaaDoorPi
import Derived.Test.YtolokcmlpecpdaaDoorRg
namespace Go.Proofs.YtolokcmlpecpdaaDoor
open Go.RowKit

theorem run_load_row {P : Program} {o : Oper} {a : Act} {w : World} (ty : TypeId) (x : Operand) (ho : o.op = .load ty x)
    (g : Nat) (hx : a.eval x = .pointer (some ⟨g, 0, none⟩)) (t : TypeId) (cs : Array Value) (fr : Nat × Nat) (d : TypeDesc) (hg : w.heap[g]? = some (.cells cs t fr))
    (hu : P.underlying ty = some d) (hd : (match d with | .struct _ | .array _ _ => true | _ => false) = true) (hi : (P.info? ty).map (·.size) = some cs.size) :
    (execOp a.eval o).run P w = .ok (.value (.agg cs)) w := by
  unfold execOp
  simp only [ho, hx, Instr.loadAt, Instr.sureAddr, Sem.run_bind, Sem.run_pure, Result.andThen_ok, run_loadVar_row w g t ty cs fr d hg hu hd hi]

theorem run_eql_agg {P : Program} {o : Oper} {a : Act} {w : World} (t : TypeId) (x y : Operand) (ho : o.op = .binOp .eql t x y t) (rs : Array Value) (hx : a.eval x = .agg rs) (hy : a.eval y = .agg rs)
    (hm : P.eqGuardType P.depth t = false) (hq : (Op.equalIn 10000 t (.agg rs) (.agg rs)).run P w = .ok true w) : (execOp a.eval o).run P w = .ok (.value (.bool true)) w := by
  unfold execOp
  simp only [ho, hx, hy, Sem.run_bind, run_eqGuard_agg w .eql t x y rs rs hm, Result.andThen_ok, run_eql_struct, hq, Sem.run_pure]

theorem eq_words (s : Sm.St) (w : World) : (Op.equalIn 10000 29 (.agg (st8 s)) (.agg (st8 s))).run Tryd.prog w = .ok true w := by
  have hi : ∃ i, Tryd.prog.info? 28 = some i := by
    have h : (Tryd.prog.info? 28).isSome = true := by kernel_rfl
    exact Option.isSome_iff_exists.1 h
  obtain ⟨i, hi⟩ := hi
  refine run_equal_self Tryd.underlying29 Tryd.underlying28 hi Tryd.oneW _ (fun j hj => ⟨wi ((Sm.wl s).getD j 0), ?_⟩) w
  have e : st8 s = (w32 (Sm.wl s)).toArray := rfl
  rw [e, List.getElem?_toArray]
  exact w32_get _ _ _ (by simp [List.getElem?_eq_getElem (show j < (Sm.wl s).length from hj)])

set_option maxRecDepth 100000 in
set_option maxHeartbeats 1000000 in
theorem rounds_any (s : Sm.St) (b : List Nat) (w : World) (hb : b.length = 64) (hb8 : ∀ j, b.getD j 0 < 256) (hK : KTab w 0 ∧ KTab w 1) :
    Calls Tryd.prog 6 #[.agg (st8 s), .agg (by8 b).toArray] w fun e w' => e = .returned (.bool true) ∧ Below w.heap.size w w' := by
  have HK := Lib.hid hK
  clear hK
  have RP : Hid (∀ W, KTab W 0 → Calls Tryd.prog 11 #[.agg (st8 s), .agg (by8 b).toArray] W fun e w' => e = .returned (.agg (st8 (Sm.round s b))) ∧ Below W.heap.size W w') := fun W h => round_any s b hb hb8 W h
  have RR : Hid (∀ W, KTab W 1 → Calls Tryd.prog 12 #[.agg (st8 s), .agg (by8 b).toArray] W fun e w' => e = .returned (.agg (st8 (Sm.round s b))) ∧ Below W.heap.size W w') := fun W h => rround_any s b hb hb8 W h
  have HQ := Lib.hid (eq_words (Sm.round s b))
  have HSZ : Hid ((Tryd.prog.info? 30).map (·.size) = some (by8 b).toArray.size) := by show _ = _; rw [Tryd.size64]; simp [by8, hb]
  have H8 : Hid ((Tryd.prog.info? 29).map (·.size) = some (st8 s).size) := by show _ = _; rw [Tryd.size8]; rfl
  clear hb hb8
  generalize st8 (Sm.round s b) = rs at RP RR HQ
  generalize st8 s = hs at *
  generalize (by8 b).toArray = bs at *
  have F29 := Lib.hid ((Has.new w 29 hs).alloc (.cells bs 30))
  have F30 : Hid (Has ((w.alloc (.cells hs 29)).alloc (.cells bs 30)) (w.heap.size + 1) 30 bs) := by
    have := Has.new (w.alloc (.cells hs 29)) 30 bs
    have e : (w.alloc (.cells hs 29)).heap.size = w.heap.size + 1 := by simp
    rw [e] at this; exact this
  have b0 := below_two w (.cells hs 29) (.cells bs 30)
  go_enter Tryd.func6, Tryd.ntmps6
  go_wp2_with fail
  generalize (w.alloc (.cells hs 29)).alloc (.cells bs 30) = w0 at F29 F30 b0 ⊢
  refine wp_region_held_drew (S := fun W => Below w0.heap.size w0 W) (by kernel_rfl) ((Below.refl _ _).drew) (fun hHeld => ?_)
  refine held_take 0 5 (v := .agg hs) rfl rfl (by kernel_rfl) (by kernel_rfl) (by kernel_rfl) (by rfl) (fun _ _ _ h => h) (by assumption) ?_ ?_
  · intro W hW
    exact run_load_row 29 (.tmp 2) (by rfl) w.heap.size (by rfl) 29 hs (0, 0) _ (F29.out.below hW F29.out.lt) Tryd.underlying29 rfl H8.out
  simp only [List.setIfInBounds_toArray, List.set_cons_zero, List.set_cons_succ]
  refine held_take 1 6 (v := .agg bs) rfl rfl (by kernel_rfl) (by kernel_rfl) (by kernel_rfl) (by rfl) (fun _ _ _ h => h) (by assumption) ?_ ?_
  · intro W hW
    exact run_load_row 30 (.tmp 3) (by rfl) (w.heap.size + 1) (by rfl) 30 bs (0, 0) _ (F30.out.below hW F30.out.lt) Tryd.underlying30 rfl HSZ.out
  simp only [List.setIfInBounds_toArray, List.set_cons_zero, List.set_cons_succ]
  refine held_take 3 8 (v := .agg hs) rfl rfl (by kernel_rfl) (by kernel_rfl) (by kernel_rfl) (by rfl) (fun _ _ _ h => h) (by assumption) ?_ ?_
  · intro W hW
    exact run_load_row 29 (.tmp 2) (by rfl) w.heap.size (by rfl) 29 hs (0, 0) _ (F29.out.below hW F29.out.lt) Tryd.underlying29 rfl H8.out
  simp only [List.setIfInBounds_toArray, List.set_cons_zero, List.set_cons_succ]
  refine held_take 4 9 (v := .agg bs) rfl rfl (by kernel_rfl) (by kernel_rfl) (by kernel_rfl) (by rfl) (fun _ _ _ h => h) (by assumption) ?_ ?_
  · intro W hW
    exact run_load_row 30 (.tmp 3) (by rfl) (w.heap.size + 1) (by rfl) 30 bs (0, 0) _ (F30.out.below hW F30.out.lt) Tryd.underlying30 rfl HSZ.out
  simp only [List.setIfInBounds_toArray, List.set_cons_zero, List.set_cons_succ]
  refine held_call 2 7 (f := 11) (args := #[.agg hs, .agg bs]) rfl rfl (by kernel_rfl) (by rfl) (by go_simp) ?_
  refine (RP.out _ (HK.out.1.below (b0.drew))).mono ?_
  rintro e w1 ⟨rfl, b1⟩
  have hw1 := (Below.refl w0.heap.size w0).drew.trans b1
  refine ⟨_, rfl, hw1, ?_⟩
  have hHeld1 := Below.refl w1.heap.size w1
  refine held_more (S' := fun W => Below w1.heap.size w1 W) (fun W h => hw1.trans (h.mono hw1.size)) _ _ _ _ ?_
  have c1 := b0.trans (hw1.mono b0.size)
  simp only [List.setIfInBounds_toArray, List.set_cons_zero, List.set_cons_succ]
  refine held_call 5 10 (f := 12) (args := #[.agg hs, .agg bs]) rfl rfl (by kernel_rfl) (by rfl) (by go_simp) ?_
  refine (RR.out _ (HK.out.2.below c1)).mono ?_
  rintro e w2 ⟨rfl, b2⟩
  refine ⟨_, rfl, b2, ?_⟩
  have hHeld2 := Below.refl w2.heap.size w2
  refine held_more (S' := fun W => Below w2.heap.size w2 W) (fun W h => b2.trans (h.mono b2.size)) _ _ _ _ ?_
  have c2 := c1.trans (b2.mono c1.size)
  simp only [List.setIfInBounds_toArray, List.set_cons_zero, List.set_cons_succ]
  refine held_take 6 11 (v := .bool true) rfl rfl (by kernel_rfl) (by kernel_rfl) (by kernel_rfl) (by rfl) (fun _ _ _ h => h) (by assumption) ?_ ?_
  · intro W hW
    exact run_eql_agg 29 (.tmp 7) (.tmp 10) (by rfl) rs (by rfl) (by rfl) (by kernel_rfl) (HQ.out W)
  simp only [List.setIfInBounds_toArray, List.set_cons_zero, List.set_cons_succ]
  refine held_take 7 12 (v := ?_) rfl rfl (by kernel_rfl) (by kernel_rfl) (by kernel_rfl) (by rfl) (fun _ _ _ h => h) (by assumption) ?_ ?_
  rotate_left
  · intro W hW
    go_simp
    try with_reducible rfl
  simp only [List.setIfInBounds_toArray, List.set_cons_zero, List.set_cons_succ]
  refine held_call 8 13 (f := 3) (args := #[]) rfl rfl (by kernel_rfl) (by rfl) (by go_simp) ?_
  refine (runs_any _ (HK.out.1.below c2)).mono ?_
  rintro e w3 ⟨rfl, b3⟩
  refine ⟨_, rfl, b3, ?_⟩
  simp only [List.setIfInBounds_toArray, List.set_cons_zero, List.set_cons_succ]
  refine held_take 9 14 (v := ?_) rfl rfl (by kernel_rfl) (by kernel_rfl) (by kernel_rfl) (by rfl) (fun _ _ _ h => h) (by assumption) ?_ ?_
  rotate_left
  · intro W hW
    go_simp
    try with_reducible rfl
  simp only [List.setIfInBounds_toArray, List.set_cons_zero, List.set_cons_succ]
  refine held_take 10 4 (v := ?_) rfl rfl (by kernel_rfl) (by kernel_rfl) (by kernel_rfl) (by rfl) (fun _ _ _ h => h) (by assumption) ?_ ?_
  rotate_left
  · intro W hW
    go_simp
    try with_reducible rfl
  simp only [List.setIfInBounds_toArray, List.set_cons_zero, List.set_cons_succ]
  refine wpAnyH_done (by kernel_rfl) ?_ _
  have hfin := c2.trans (b3.mono c2.size)
  clear RP RR HQ HSZ H8 F29 F30 b0 b1 b2 b3 c1 c2 hw1
  go_wp2
  go_ret
  exact ⟨rfl, hfin⟩
end Go.Proofs.YtolokcmlpecpdaaDoor
