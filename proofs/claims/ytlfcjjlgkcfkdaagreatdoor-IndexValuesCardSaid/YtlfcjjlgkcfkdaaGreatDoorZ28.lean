/-
  Arguments of stage 8 opened: a matcher, a slice of matchers, what is drawn for a matcher, a slice of that. No conditions.
  What slices.Clone and Make do: the set of any labels, or that there is none (La.IsMk). Conditions: lengths fit.
-/
import Derived.Test.YtlfcjjlgkcfkdaaGreatDoorProg
import Derived.Test.YtlfcjjlgkcfkdaaGreatDoorZ01
import Derived.Test.YtlfcjjlgkcfkdaaGreatDoorZ02
import Derived.Test.YtlfcjjlgkcfkdaaGreatDoorZ03
import Derived.Test.YtlfcjjlgkcfkdaaGreatDoorZ05
import Derived.Test.YtlfcjjlgkcfkdaaGreatDoorZ07
import Derived.Test.YtlfcjjlgkcfkdaaGreatDoorZ08
import Derived.Test.YtlfcjjlgkcfkdaaGreatDoorZ09
import Derived.Test.YtlfcjjlgkcfkdaaGreatDoorZ10
import Derived.Test.YtlfcjjlgkcfkdaaGreatDoorZ11
import Derived.Test.YtlfcjjlgkcfkdaaGreatDoorZ13
import Derived.Test.YtlfcjjlgkcfkdaaGreatDoorZ14
import Derived.Test.YtlfcjjlgkcfkdaaGreatDoorZ15
import Derived.Test.YtlfcjjlgkcfkdaaGreatDoorZ16
import Derived.Test.YtlfcjjlgkcfkdaaGreatDoorZ19
import Derived.Test.YtlfcjjlgkcfkdaaGreatDoorZ24
import Derived.Test.YtlfcjjlgkcfkdaaGreatDoorZ26
import Derived.Test.YtlfcjjlgkcfkdaaGreatDoorZ27
import Derived.Test.YtlfcjjlgkcfkdaaGreatDoorZ20
import Derived.Test.YtlfcjjlgkcfkdaaGreatDoorZ21
import Derived.ProofKit
import Derived.LaidMore
import Derived.OpenShut
import Derived.ChangeSame
import Derived.Stop.Joined
import Derived.Below
import Derived.WalkKit
import Derived.WalkSpells
import Derived.WalkLawsBesides
import Derived.Lib.Hide
import Derived.Lib.AppendStr
import Derived.Laws.BytesArg
import Derived.Laws.AppendOwnNone
import Derived.KernelRfl
import Derived.Lib.Bytealg
import Derived.Deep.RegionHeld3
import Derived.BigQuiet
import Derived.Lib.QuietBelow
import Derived.Laws.StructEq
import Derived.Laws.MakeOwn
import Derived.Laws.OwnMore
import Derived.OwnWalk
import Derived.Laws.CopyOwn
import Derived.Laws.AppendOwn
import Derived.Deep.QuietTactic
import Derived.Laws.Externs
import Derived.Maps.AppendAt
import Derived.StillTailTactics
import Derived.Laws.ResultCell
import Derived.Deep.LoopGhost
import Derived.Deep.MidRow
import Derived.Deep.Upon
import Derived.Deep.Cut
import Derived.Lib.TrailingZeros
import Derived.Laws.Bits64b
import Derived.Deep.CutRange
import Derived.Lib.LazyBuf
import Derived.Deep.Slices
import Derived.Deep.SlicePairs
namespace Go.Proofs.YtlfcjjlgkcfkdaaGreatDoor
open Go.ChangeShapes Go.WideShapes Go.ChangeAt Go.WideMaps Go.WideElems Go.RowKit

section
variable {H : Type} {enc : TypeId × Value → H} {W : World}
set_option maxRecDepth 100000 in
theorem int_of8 {fuel : Nat} {v : Value} {x : DataW H × List MemPlace} (h : DataW.trod enc Tryz.prog W 0 (fun _ => true) true fuel 3 [v] = some x) : ∃ z : Int, v = .int .i64 z := by
  obtain ⟨z, e, _⟩ := DataW.trod_int Tryz.underlying3 h
  simp only [List.cons.injEq, and_true] at e
  exact ⟨z, e⟩
set_option maxRecDepth 100000 in
theorem draw_of_trod (fuel : Nat) (cs : List Value) (x : DataW H × List MemPlace) (h : DataW.trod enc Tryz.prog W 0 (fun _ => true) true fuel 83 cs = some x) : ∃ m : Int × Int × Int, cs = [.int .i64 m.1, .int .i64 m.2.1, .int .i64 m.2.2] := by
  obtain ⟨xs, n, hn, _, hlen, hxl, hf⟩ := DataW.trod_struct Tryz.underlying83 h
  have hlen3 : cs.length = 3 := hlen.trans (by kernel_rfl)
  match cs, hlen3 with
  | [v0, v1, v2], _ =>
    have c3 : Tryz.prog.cellsOf 3 = 1 := by kernel_rfl
    have g0 := hf 0 _ rfl
    have g1 := hf 1 _ rfl
    have g2 := hf 2 _ rfl
    have hx3 : xs.length = 3 := hxl
    match xs, hx3 with
    | [y0, y1, y2], _ =>
      simp [c3] at g0
      simp [c3] at g1
      simp [c3] at g2
      obtain ⟨k, rfl⟩ := int_of8 (show DataW.trod enc Tryz.prog W 0 (fun _ => true) true n 3 [v0] = some y0 from g0)
      obtain ⟨a, rfl⟩ := int_of8 (show DataW.trod enc Tryz.prog W 0 (fun _ => true) true n 3 [v1] = some y1 from g1)
      obtain ⟨b, rfl⟩ := int_of8 (show DataW.trod enc Tryz.prog W 0 (fun _ => true) true n 3 [v2] = some y2 from g2)
      exact ⟨⟨k, a, b⟩, rfl⟩
theorem choose8 {α : Type} [Inhabited α] {n : Nat} {p : Nat → α → Prop} (h : ∀ i, i < n → ∃ t, p i t) : ∃ f : Nat → α, ∀ i, i < n → p i (f i) :=
  ⟨fun i => if hi : i < n then Classical.choose (h i hi) else default, fun i hi => by show p i (dite _ _ _); rw [dif_pos hi]; exact Classical.choose_spec (h i hi)⟩
theorem dnth_range {n : Nat} (f : Nat → Int × Int × Int) {j : Nat} (h : j < n) : dnth ((List.range n).map f) j = f j := by simp [dnth, List.getD, h]
set_option maxRecDepth 100000 in
theorem open_draws {base : Nat} {v : Value} {d : DataW H} {p : List MemPlace} (hv : Value.okWide Tryz.prog W .any base 53 v) (h : DataW.Trod enc Tryz.prog W 0 (fun _ => true) true 53 v d p) :
    ∃ (a : Option Addr) (cap : Nat) (l : List (Int × Int × Int)), v = .slice a l.length cap ∧ l.length ≤ maxLen ∧ (a = none → cap = 0) ∧ IsDraws W a l := by
  obtain ⟨a, len, cap, rfl⟩ := okWide_slice Tryz.underlying53 hv
  obtain ⟨fuel, hf⟩ := h
  have c7 : Tryz.prog.cellsOf 83 = 3 := by kernel_rfl
  rcases DataW.trod_slice Tryz.underlying53 hf with ⟨hcs, _⟩ | ⟨ad, len', cap', elems, rest, k, hk, hcs, _, _, hle, hmx, hel, hE, _⟩
  · simp [Value.cells] at hcs
    obtain ⟨rfl, rfl, rfl⟩ := hcs
    exact ⟨none, 0, [], rfl, Nat.zero_le _, fun _ => rfl, fun h => absurd h (by simp)⟩
  · simp [Value.cells] at hcs
    obtain ⟨rfl, rfl, rfl⟩ := hcs
    simp only [c7] at hE
    have each : ∀ i, i < len → ∃ m : Int × Int × Int, W.cells? 0 (ad.add (i * 3)) 3 = some [.int .i64 m.1, .int .i64 m.2.1, .int .i64 m.2.2] := fun i hi => by
      have := hE i hi
      rw [List.getElem?_eq_getElem (by omega)] at this
      obtain ⟨cs', h1, h2⟩ := Option.bind_eq_some_iff.1 this
      obtain ⟨s, e⟩ := draw_of_trod k cs' _ h2
      exact ⟨s, by rw [← e]; exact h1⟩
    obtain ⟨S, hS⟩ := choose8 each
    have hlen : ((List.range len).map S).length = len := by simp
    refine ⟨some ad, cap, (List.range len).map S, by rw [hlen], by rw [hlen]; exact Nat.le_trans hle hmx, (fun e => by cases e), fun hp => ?_⟩
    rw [hlen] at hp
    have spot : ∃ blk off, ad = ⟨blk, off, none⟩ := by
      have h1 := (World.cells?_some (hS 0 hp)).2.2 0 (by omega)
      obtain ⟨blk, off, sp⟩ := ad
      have hspot : sp = none := by
        have h2 : W.cell? (((⟨blk, off, sp⟩ : Addr).add (0 * 3)).add 0) = some (.int .i64 (S 0).1) := h1
        simpa [Addr.add] using World.cell?_spot h2
      subst hspot
      exact ⟨blk, off, rfl⟩
    obtain ⟨blk, off, rfl⟩ := spot
    refine ⟨blk, off, rfl, fun i hi => ?_⟩
    rw [hlen] at hi
    have hc := (World.cells?_some (hS i hi)).2.2
    have h0 := hc 0 (by omega)
    have h1 := hc 1 (by omega)
    have h2 := hc 2 (by omega)
    rw [addr_addN, addr_addN] at h0 h1 h2
    rw [dnth_range S hi]
    exact ⟨by simpa using h0, by simpa using h1, by simpa using h2⟩
end

end Go.Proofs.YtlfcjjlgkcfkdaaGreatDoor
namespace Go.Proofs.YtlfcjjlgkcfkdaaGreatDoor
open Go.RowKit La Go.Sort

theorem own_new (w : World) : (w.alloc (.cells #[] 26)).ownsRow w.heap.size 26 2 (.slice (some ⟨w.heap.size, 0, none⟩) 0 0) 0 (lc []) :=
  ⟨rfl, .inr ⟨w.heap.size, 0, #[], rfl, Nat.le_refl _, heap_alloc_new w _, Nat.le_refl _, by unfold maxLen; omega, rfl, rfl⟩⟩

theorem wpList_appN {ops : Array Oper} {rest : List Oper} {o : Oper} {a : Act} {w : World} {Q : Exit → Act → World → Prop} (hgd : o.guard = none) (s x : Operand) (ho : o.op = .call { callee := .builtin .append, args := #[s, x], argTypes := #[27, 27] })
    (base : Nat) (v : Value) (n : Nat) (xs : List Lab) (hs : a.eval s = v) (hown : w.ownsRow base 26 2 v n (lc xs)) (ad : Addr) (L c : Nat) (l : List Lab) (hx : a.eval x = .slice (some ad) L c) (hL : l.length = L) (hr : IsLabs w (some ad) l)
    (hlen : n + L ≤ 1099511627776) (hbase : base ≤ w.heap.size) (hv : v ≠ .slice none 0 0)
    (h : ∀ v' w', w'.ownsRow base 26 2 v' (n + L) (lc (xs ++ l)) → w.grownBy w' v.ownBlock → v' ≠ .slice none 0 0 → wpList Tryz.prog ops Q rest (a.put o.dst v') w') : wpList Tryz.prog ops Q (o :: rest) a w := by
  obtain ⟨i0, hi, hz0, hz1, hz2⟩ := info_parts Tryz.infoL
  subst hL
  refine wpList_plain hgd fun _ hK => wp_append_own w s x 27 ho base 26 i0 (.agg #[.string ⟨#[]⟩, .string ⟨#[]⟩]) 2 32 Tryz.underlying27 hi hz0 hz1 hz2 rfl (by decide) v n _ hs hown ad l.length c (lc l) hx (lc_len l) (labs_cells hr) (lc_one l) (by unfold maxLen; omega) (by omega) hbase ?_
  intro v' w' h1 h2 h3
  exact hK _ _ (h v' w' (by rw [lc_app]; exact h1) h2 (fun e => hv (h3.1 e).1))

set_option maxRecDepth 100000 in
set_option maxHeartbeats 1000000 in
theorem clone_any (ls : List Lab) (ad : Addr) (cap : Nat) (w : World) (hl : ls.length ≤ 1048576) (ha : IsLabs w (some ad) ls) :
    Calls Tryz.prog 31 #[.slice (some ad) ls.length cap] w fun e w' => (∃ B c, e = .returned (.slice (some ⟨B, 0, none⟩) ls.length c) ∧ w'.ownsRow w.heap.size 26 2 (.slice (some ⟨B, 0, none⟩) ls.length c) ls.length (lc ls)) ∧ Below w.heap.size w w' := by
  have HA := Lib.hid ha
  have b1 : Below w.heap.size w (w.alloc (.cells #[] 26)) := (Below.refl _ _).alloc (Nat.le_refl _) _
  clear ha
  obtain ⟨N, hN⟩ : ∃ N, ls.length = N := ⟨_, rfl⟩
  rw [hN] at hl ⊢
  have HN := Lib.hid hN
  clear hN
  have he := fun W => run_eql_slice_nil (P := Tryz.prog) W 27 26 (some ad) N cap Tryz.underlying27
  simp only [Option.isNone_some] at he
  go_enter Tryz.func31, Tryz.ntmps31
  go_wp2_with (at_builtin; refine wpList_appN rfl _ _ rfl w.heap.size (.slice (some ⟨w.heap.size, 0, none⟩) 0 0) 0 [] rfl (own_new w) ad N cap ls rfl HN.out (HA.out.below b1) (by omega) b1.size (by simp) ?_)
  intro v' w' o g hv
  have b2 : Hid (Below w.heap.size w w') := b1.grown g b1.size (fun q hq => own_geL (own_new w) q hq)
  have O : Hid (∃ B c, v' = .slice (some ⟨B, 0, none⟩) N c ∧ w'.ownsRow w.heap.size 26 2 (.slice (some ⟨B, 0, none⟩) N c) N (lc ls)) := by
    have o2 : w'.ownsRow w.heap.size 26 2 v' N (lc ls) := by simpa using o
    rcases o2.2 with ⟨e, _⟩ | ⟨B, c, cur, e, _⟩
    · exact absurd e hv
    · exact ⟨B, c, e, by rw [← e]; exact o2⟩
  clear hv
  clear o g b1
  go_wp2
  go_ret
  obtain ⟨B, c, rfl, h2⟩ := O.out
  exact ⟨⟨B, c, rfl, h2⟩, b2.out⟩

end Go.Proofs.YtlfcjjlgkcfkdaaGreatDoor

