/-
  Arguments of stage 8 opened: a matcher, a slice of matchers, what is drawn for a matcher, a slice of that. No conditions.
  What slices.Clone and Make do: the set of any labels, or that there is none (La.IsMk). Conditions: lengths fit.
-/
import Derived.Test.YtlfcjjlgkcfkdaaGreatDoorProg
import Derived.Test.YtlfcjjlgkcfkdaaGreatDoorZ01
import Derived.Test.YtlfcjjlgkcfkdaaGreatDoorZ02
import Derived.Test.YtlfcjjlgkcfkdaaGreatDoorZ03
import Derived.Test.YtlfcjjlgkcfkdaaGreatDoorZ05
import Derived.Test.YtlfcjjlgkcfkdaaGreatDoorZ07
import Derived.Test.YtlfcjjlgkcfkdaaGreatDoorZ08
import Derived.Test.YtlfcjjlgkcfkdaaGreatDoorZ09
import Derived.Test.YtlfcjjlgkcfkdaaGreatDoorZ10
import Derived.Test.YtlfcjjlgkcfkdaaGreatDoorZ11
import Derived.Test.YtlfcjjlgkcfkdaaGreatDoorZ13
import Derived.Test.YtlfcjjlgkcfkdaaGreatDoorZ14
import Derived.Test.YtlfcjjlgkcfkdaaGreatDoorZ15
import Derived.Test.YtlfcjjlgkcfkdaaGreatDoorZ16
import Derived.Test.YtlfcjjlgkcfkdaaGreatDoorZ19
import Derived.Test.YtlfcjjlgkcfkdaaGreatDoorZ24
import Derived.Test.YtlfcjjlgkcfkdaaGreatDoorZ26
import Derived.Test.YtlfcjjlgkcfkdaaGreatDoorZ27
import Derived.Test.YtlfcjjlgkcfkdaaGreatDoorZ20
import Derived.Test.YtlfcjjlgkcfkdaaGreatDoorZ21
import Derived.ProofKit
import Derived.LaidMore
import Derived.OpenShut
import Derived.ChangeSame
import Derived.Stop.Joined
import Derived.Below
import Derived.WalkKit
import Derived.WalkSpells
import Derived.WalkLawsBesides
import Derived.Lib.Hide
import Derived.Lib.AppendStr
import Derived.Laws.BytesArg
import Derived.Laws.AppendOwnNone
import Derived.KernelRfl
import Derived.Lib.Bytealg
import Derived.Deep.RegionHeld3
import Derived.BigQuiet
import Derived.Lib.QuietBelow
import Derived.Laws.StructEq
import Derived.Laws.MakeOwn
import Derived.Laws.OwnMore
import Derived.OwnWalk
import Derived.Laws.CopyOwn
import Derived.Laws.AppendOwn
import Derived.Deep.QuietTactic
import Derived.Laws.Externs
import Derived.Maps.AppendAt
import Derived.StillTailTactics
import Derived.Laws.ResultCell
import Derived.Deep.LoopGhost
import Derived.Deep.MidRow
import Derived.Deep.Upon
import Derived.Deep.Cut
import Derived.Lib.TrailingZeros
import Derived.Laws.Bits64b
import Derived.Deep.CutRange
import Derived.Lib.LazyBuf
import Derived.Deep.Slices
import Derived.Deep.SlicePairs
namespace Go.Proofs.YtlfcjjlgkcfkdaaGreatDoor
open Go.ChangeShapes Go.WideShapes Go.ChangeAt Go.WideMaps Go.WideElems Go.RowKit

section
variable {H : Type} {enc : TypeId × Value → H} {W : World}
set_option maxRecDepth 100000 in
theorem int_of8 {fuel : Nat} {v : Value} {x : DataW H × List MemPlace} (h : DataW.trod enc Tryz.prog W 0 (fun _ => true) true fuel 3 [v] = some x) : ∃ z : Int, v = .int .i64 z := by
  obtain ⟨z, e, _⟩ := DataW.trod_int Tryz.underlying3 h
  simp only [List.cons.injEq, and_true] at e
  exact ⟨z, e⟩
set_option maxRecDepth 100000 in
theorem string_of8 {fuel : Nat} {v : Value} {x : DataW H × List MemPlace} (h : DataW.trod enc Tryz.prog W 0 (fun _ => true) true fuel 9 [v] = some x) : ∃ s : ByteArray, v = .string s := by
  obtain ⟨s, e, _⟩ := DataW.trod_string Tryz.underlying9 h
  simp only [List.cons.injEq, and_true] at e
  exact ⟨s, e⟩
set_option maxRecDepth 100000 in
theorem mat_of_trod (fuel : Nat) (cs : List Value) (x : DataW H × List MemPlace) (h : DataW.trod enc Tryz.prog W 0 (fun _ => true) true fuel 32 cs = some x) : ∃ m : Mat, cs = [.int .i64 m.k, .string m.n, .string m.v] := by
  obtain ⟨xs, n, hn, _, hlen, hxl, hf⟩ := DataW.trod_struct Tryz.underlying32 h
  have hlen3 : cs.length = 3 := hlen.trans (by kernel_rfl)
  match cs, hlen3 with
  | [v0, v1, v2], _ =>
    have c3 : Tryz.prog.cellsOf 3 = 1 := by kernel_rfl
    have c9 : Tryz.prog.cellsOf 9 = 1 := by kernel_rfl
    have g0 := hf 0 _ rfl
    have g1 := hf 1 _ rfl
    have g2 := hf 2 _ rfl
    have hx3 : xs.length = 3 := hxl
    match xs, hx3 with
    | [y0, y1, y2], _ =>
      simp [c3] at g0
      simp [c9] at g1
      simp [c9] at g2
      obtain ⟨k, rfl⟩ := int_of8 (show DataW.trod enc Tryz.prog W 0 (fun _ => true) true n 3 [v0] = some y0 from g0)
      obtain ⟨a, rfl⟩ := string_of8 (show DataW.trod enc Tryz.prog W 0 (fun _ => true) true n 9 [v1] = some y1 from g1)
      obtain ⟨b, rfl⟩ := string_of8 (show DataW.trod enc Tryz.prog W 0 (fun _ => true) true n 9 [v2] = some y2 from g2)
      exact ⟨⟨k, a, b⟩, rfl⟩
set_option maxRecDepth 100000 in
theorem open_mat {base : Nat} {v : Value} {d : DataW H} {p : List MemPlace} (hv : Value.okWide Tryz.prog W .any base 32 v) (h : DataW.Trod enc Tryz.prog W 0 (fun _ => true) true 32 v d p) : ∃ m : Mat, v = .agg #[.int .i64 m.k, .string m.n, .string m.v] := by
  obtain ⟨fuel, hf⟩ := h
  unfold Value.okWide at hv
  rw [Tryz.underlying32] at hv
  obtain ⟨cs, rfl, _, _⟩ := hv
  obtain ⟨m, e⟩ := mat_of_trod fuel _ _ hf
  refine ⟨m, ?_⟩
  have : cs.toList = [.int .i64 m.k, .string m.n, .string m.v] := by simpa [Value.cells] using e
  obtain ⟨l⟩ := cs
  simp only at this
  subst this
  rfl
end

end Go.Proofs.YtlfcjjlgkcfkdaaGreatDoor
namespace Go.Proofs.YtlfcjjlgkcfkdaaGreatDoor
open Go.RowKit La Go.Sort

theorem own_new (w : World) : (w.alloc (.cells #[] 26)).ownsRow w.heap.size 26 2 (.slice (some ⟨w.heap.size, 0, none⟩) 0 0) 0 (lc []) :=
  ⟨rfl, .inr ⟨w.heap.size, 0, #[], rfl, Nat.le_refl _, heap_alloc_new w _, Nat.le_refl _, by unfold maxLen; omega, rfl, rfl⟩⟩

theorem wpList_appN {ops : Array Oper} {rest : List Oper} {o : Oper} {a : Act} {w : World} {Q : Exit → Act → World → Prop} (hgd : o.guard = none) (s x : Operand) (ho : o.op = .call { callee := .builtin .append, args := #[s, x], argTypes := #[27, 27] })
    (base : Nat) (v : Value) (n : Nat) (xs : List Lab) (hs : a.eval s = v) (hown : w.ownsRow base 26 2 v n (lc xs)) (ad : Addr) (L c : Nat) (l : List Lab) (hx : a.eval x = .slice (some ad) L c) (hL : l.length = L) (hr : IsLabs w (some ad) l)
    (hlen : n + L ≤ 1099511627776) (hbase : base ≤ w.heap.size) (hv : v ≠ .slice none 0 0)
    (h : ∀ v' w', w'.ownsRow base 26 2 v' (n + L) (lc (xs ++ l)) → w.grownBy w' v.ownBlock → v' ≠ .slice none 0 0 → wpList Tryz.prog ops Q rest (a.put o.dst v') w') : wpList Tryz.prog ops Q (o :: rest) a w := by
  obtain ⟨i0, hi, hz0, hz1, hz2⟩ := info_parts Tryz.infoL
  subst hL
  refine wpList_plain hgd fun _ hK => wp_append_own w s x 27 ho base 26 i0 (.agg #[.string ⟨#[]⟩, .string ⟨#[]⟩]) 2 32 Tryz.underlying27 hi hz0 hz1 hz2 rfl (by decide) v n _ hs hown ad l.length c (lc l) hx (lc_len l) (labs_cells hr) (lc_one l) (by unfold maxLen; omega) (by omega) hbase ?_
  intro v' w' h1 h2 h3
  exact hK _ _ (h v' w' (by rw [lc_app]; exact h1) h2 (fun e => hv (h3.1 e).1))

set_option maxRecDepth 100000 in
set_option maxHeartbeats 1000000 in
theorem clone_any (ls : List Lab) (ad : Addr) (cap : Nat) (w : World) (hl : ls.length ≤ 1048576) (ha : IsLabs w (some ad) ls) :
    Calls Tryz.prog 31 #[.slice (some ad) ls.length cap] w fun e w' => (∃ B c, e = .returned (.slice (some ⟨B, 0, none⟩) ls.length c) ∧ w'.ownsRow w.heap.size 26 2 (.slice (some ⟨B, 0, none⟩) ls.length c) ls.length (lc ls)) ∧ Below w.heap.size w w' := by
  have HA := Lib.hid ha
  have b1 : Below w.heap.size w (w.alloc (.cells #[] 26)) := (Below.refl _ _).alloc (Nat.le_refl _) _
  clear ha
  obtain ⟨N, hN⟩ : ∃ N, ls.length = N := ⟨_, rfl⟩
  rw [hN] at hl ⊢
  have HN := Lib.hid hN
  clear hN
  have he := fun W => run_eql_slice_nil (P := Tryz.prog) W 27 26 (some ad) N cap Tryz.underlying27
  simp only [Option.isNone_some] at he
  go_enter Tryz.func31, Tryz.ntmps31
  go_wp2_with (at_builtin; refine wpList_appN rfl _ _ rfl w.heap.size (.slice (some ⟨w.heap.size, 0, none⟩) 0 0) 0 [] rfl (own_new w) ad N cap ls rfl HN.out (HA.out.below b1) (by omega) b1.size (by simp) ?_)
  intro v' w' o g hv
  have b2 : Hid (Below w.heap.size w w') := b1.grown g b1.size (fun q hq => own_geL (own_new w) q hq)
  have O : Hid (∃ B c, v' = .slice (some ⟨B, 0, none⟩) N c ∧ w'.ownsRow w.heap.size 26 2 (.slice (some ⟨B, 0, none⟩) N c) N (lc ls)) := by
    have o2 : w'.ownsRow w.heap.size 26 2 v' N (lc ls) := by simpa using o
    rcases o2.2 with ⟨e, _⟩ | ⟨B, c, cur, e, _⟩
    · exact absurd e hv
    · exact ⟨B, c, e, by rw [← e]; exact o2⟩
  clear hv
  clear o g b1
  go_wp2
  go_ret
  obtain ⟨B, c, rfl, h2⟩ := O.out
  exact ⟨⟨B, c, rfl, h2⟩, b2.out⟩

end Go.Proofs.YtlfcjjlgkcfkdaaGreatDoor

