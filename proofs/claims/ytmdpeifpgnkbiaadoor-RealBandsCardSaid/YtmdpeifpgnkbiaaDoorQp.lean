/-
  The condition on the listed variable, opened: the names of values lie in their variable; the heap that the program's own text leaves meets the condition; and all contracts of package real together. No conditions.
-/
import Derived.Test.YtmdpeifpgnkbiaaDoorRows
import Derived.Test.YtmdpeifpgnkbiaaDoorQk
import Derived.Test.YtmdpeifpgnkbiaaDoorQe
import Derived.Test.YtmdpeifpgnkbiaaDoorLr
import Derived.ProofKit
import Derived.LaidMore
import Derived.OpenShut
import Derived.ChangeSame
import Derived.Stop.Joined
namespace Go.Proofs.YtmdpeifpgnkbiaaDoor
open Go.ChangeShapes Go.WideShapes Go.ChangeAt Go.WideMaps Go.WideElems Go.RowKit

def laid1 : List (String × DataW Unit) := [("sordine/real.names", Rows.laid_sordine_real_names)]
theorem Tryd.own : ownKnob Tryd.prog.godebug = none := by kernel_rfl
theorem Tryd.laidOut : laidOutB Tryd.prog = true := by kernel_rfl
theorem gOwn : Tryd.prog.globalNamed "sordine/real.names" = some 1 := by kernel_rfl
theorem tOwn : (Tryd.prog.globals[1]?).map (·.type) = some 56 := by kernel_rfl
theorem nm_one {enc : TypeId × Value → Unit} {W : World} {f B : Nat} {sp : Nat → Bool} {hd : Bool} {cs : List Value} {a : Int} {s : List UInt8} {ps : List MemPlace}
    (h : DataW.trod enc Tryd.prog W B sp hd f 55 cs = some (.agg [.lit (.int .u64 a), .lit (.string s)], ps)) : cs[0]? = some (.int .u64 a) ∧ cs[1]? = some (.string ⟨s.toArray⟩) := by
  have hu : ∃ f0 f1 : Field, Tryd.prog.underlying 55 = some (.struct #[f0, f1]) ∧ f0.type = 35 ∧ f1.type = 9 ∧ f0.offset = 0 ∧ f1.offset = 1 := ⟨_, _, Tryd.underlying55, rfl, rfl, rfl, rfl⟩
  obtain ⟨f0, f1, hu, t0, t1, e0, e1⟩ := hu
  have cu : Tryd.prog.cellsOf 35 = 1 := by kernel_rfl
  have cs1 : Tryd.prog.cellsOf 9 = 1 := by kernel_rfl
  obtain ⟨y0, y1, n, hx, hl, h0, h1⟩ := trod_struct2 hu h
  rw [t0, e0, cu] at h0
  rw [t1, e1, cs1] at h1
  obtain ⟨k, q0, r0, _⟩ := DataW.trod_int Tryd.underlying35 h0
  obtain ⟨z, q1, r1, _⟩ := DataW.trod_string Tryd.underlying9 h1
  rw [r0, r1] at hx
  simp only [Prod.mk.injEq, DataW.agg.injEq, List.cons.injEq, DataW.lit.injEq, Lit.int.injEq, Lit.string.injEq, and_true, true_and] at hx
  obtain ⟨⟨rfl, hz⟩, _⟩ := hx
  have a0 := congrArg (fun l : List Value => l[0]?) q0
  have a1 := congrArg (fun l : List Value => l[0]?) q1
  refine ⟨by simpa using a0, ?_⟩
  have : cs[1]? = some (.string z) := by simpa using a1
  rw [this, hz]
theorem of_laid1 {W : World} (h : laidMetH Tryd.prog laid1 W) : NTab W := by
  rw [MakeChecks.laidMetH_plain _ _ _ (by kernel_rfl)] at h
  obtain ⟨ps, ⟨g0, t0, cs0, f0, p0, q0, hg0, ht0, hv0, hd0, _⟩, _⟩ := h
  obtain rfl := Option.some.inj (gOwn.symm.trans hg0)
  obtain rfl := Option.some.inj (tOwn.symm.trans ht0)
  obtain ⟨xs, m1, _, hx1, hlen, hn, hel⟩ := DataW.trod_array Tryd.underlying56 hd0
  have c2 : Tryd.prog.cellsOf 55 = 2 := by kernel_rfl
  rw [c2] at hel
  match xs, hn with
  | [x0, x1, x2, x3, x4], _ =>
    simp only [Rows.laid_sordine_real_names, Prod.mk.injEq, DataW.agg.injEq, List.map_cons, List.map_nil, List.cons.injEq, and_true] at hx1
    obtain ⟨⟨y0, y1, y2, y3, y4⟩, _⟩ := hx1
    obtain ⟨a0, b0⟩ := nm_one (show _ = some (_, x0.2) from (hel 0 (by omega)).trans (by rw [y0]; rfl))
    obtain ⟨a1, b1⟩ := nm_one (show _ = some (_, x1.2) from (hel 1 (by omega)).trans (by rw [y1]; rfl))
    obtain ⟨a2, b2⟩ := nm_one (show _ = some (_, x2.2) from (hel 2 (by omega)).trans (by rw [y2]; rfl))
    obtain ⟨a3, b3⟩ := nm_one (show _ = some (_, x3.2) from (hel 3 (by omega)).trans (by rw [y3]; rfl))
    obtain ⟨a4, b4⟩ := nm_one (show _ = some (_, x4.2) from (hel 4 (by omega)).trans (by rw [y4]; rfl))
    simp only [List.getElem?_take, List.getElem?_drop] at a0 b0 a1 b1 a2 b2 a3 b3 a4 b4
    have hk : ∀ j, j < 10 → W.cell? ⟨1, j, none⟩ = nmA[j]? := by
      intro j hj
      rw [World.var?_cell hg0 hv0 j, ← Array.getElem?_toList]
      match j, hj with
      | 0, _ => simp at a0; simpa [nmA] using a0
      | 1, _ => simp at b0; simpa [nmA] using b0
      | 2, _ => simp at a1; simpa [nmA] using a1
      | 3, _ => simp at b1; simpa [nmA] using b1
      | 4, _ => simp at a2; simpa [nmA] using a2
      | 5, _ => simp at b2; simpa [nmA] using b2
      | 6, _ => simp at a3; simpa [nmA] using a3
      | 7, _ => simp at b3; simpa [nmA] using b3
      | 8, _ => simp at a4; simpa [nmA] using a4
      | 9, _ => simp at b4; simpa [nmA] using b4
    exact ⟨World.block_lt_of_cell? W ⟨1, 0, none⟩ (hk 0 (by decide)), hk⟩
/-- The door's own heap meets the condition. -/
theorem door_met1 (os : Os) (args : Array Value) : laidMetH Tryd.prog laid1 ((World.doorLaid Tryd.prog 400 os).forCall (fun _ _ => 0) ⟨#[], args, []⟩).memory :=
  laidMetH_of_parts3 (fuel := 8) (laidMet_of_run' 8 (by kernel_rfl) (by kernel_rfl)) (by kernel_rfl) (by kernel_rfl)
theorem gives_same {f : FuncId} {args : Array Value} {w : World} {v : Value} (h : Calls Tryd.prog f args w fun e w' => e = .returned v ∧ w' = w) : Gives f args w v := h.mono fun _ _ ⟨h1, h2⟩ => ⟨h1, h2 ▸ Below.refl _ _⟩
/-- All contracts of package real. -/
theorem theC : RealC 60 NTab where
  keep w w' h b := h.below b
  bits f w _ _ := gives_same (bits_any f w)
  of u w _ _ := gives_same (of_any u w)
  key f w _ hf := gives_same (key_any f hf w)
  less a b w _ ha hb := gives_same (less_any a b ha hb w)
  may any lo hi w _ _ _ := may_any any lo hi w
  inb any lo hi f w _ _ _ _ := in_any any lo hi f w
  min l A cap w _ hl hw _ _ ha := min_any l A cap w hl hw ha
  max l A cap w _ hl hw _ _ ha := max_any l A cap w hl hw ha
  rank l A cap w _ hl hw _ _ ha := rank_any l A cap w hl hw ha
  text f w hT hf := text_any f hf w hT
  read s w hT _ := read_any s w hT
  runs w hT := runs_law (G := NTab) (fun w w' h b => h.below b) (fun a b w _ ha hb => gives_same (less_any a b ha hb w)) (fun any lo hi f w _ _ _ _ => in_any any lo hi f w) (fun l A cap w _ hl hw _ _ ha => rank_any l A cap w (by omega) hw ha) (fun f w hT hf => text_any f hf w hT) w hT
end Go.Proofs.YtmdpeifpgnkbiaaDoor
