/-
  MatchRuns, MatchAsk and MatchLists as contracts: chapter 8's runs; of any matcher and any labels whether it may be, is too large, holds; of any matchers whether they are a list, one is too large, all hold. Conditions: the library's table lies in its variable (DTab).
  Slices of labels appended to and cut. Conditions: lengths fit.
  What strings.Compare, Make's comparison and math/bits.Len (of a small number) do. Conditions: the number is below 7.
  What compare, before and ahead tell of two matchers; what cmp.Or and cmp.Compare do. No conditions beside a row's length.
-/
import Derived.Test.YtlfcjjlgkcfkdaaGreatDoorProg
import Derived.Test.YtlfcjjlgkcfkdaaGreatDoorZ01
import Derived.Test.YtlfcjjlgkcfkdaaGreatDoorZ02
import Derived.Test.YtlfcjjlgkcfkdaaGreatDoorZ05
import Derived.Test.YtlfcjjlgkcfkdaaGreatDoorZ08
import Derived.Test.YtlfcjjlgkcfkdaaGreatDoorZ09
import Derived.Test.YtlfcjjlgkcfkdaaGreatDoorZ10
import Derived.Test.YtlfcjjlgkcfkdaaGreatDoorZ11
import Derived.Test.YtlfcjjlgkcfkdaaGreatDoorZ12
import Derived.Test.YtlfcjjlgkcfkdaaGreatDoorZ14
import Derived.Test.YtlfcjjlgkcfkdaaGreatDoorZ15
import Derived.Test.YtlfcjjlgkcfkdaaGreatDoorZ16
import Derived.Test.YtlfcjjlgkcfkdaaGreatDoorZ19
import Derived.Test.YtlfcjjlgkcfkdaaGreatDoorZ07
import Derived.Test.YtlfcjjlgkcfkdaaGreatDoorZ06
import Derived.Test.YtlfcjjlgkcfkdaaGreatDoorZ13
import Derived.Below
import Derived.WalkKit
import Derived.WalkSpells
import Derived.WalkLawsBesides
import Derived.Lib.Hide
import Derived.Lib.AppendStr
import Derived.Laws.BytesArg
import Derived.Laws.AppendOwnNone
import Derived.KernelRfl
import Derived.Lib.Bytealg
import Derived.Deep.RegionHeld3
import Derived.BigQuiet
import Derived.Lib.QuietBelow
import Derived.Laws.StructEq
import Derived.Laws.MakeOwn
import Derived.Laws.OwnMore
import Derived.OwnWalk
import Derived.Laws.CopyOwn
import Derived.Laws.AppendOwn
import Derived.Deep.QuietTactic
import Derived.Laws.Externs
import Derived.Maps.AppendAt
import Derived.StillTailTactics
import Derived.Laws.ResultCell
import Derived.Deep.LoopGhost
import Derived.Deep.MidRow
import Derived.Deep.Upon
import Derived.Deep.Cut
import Derived.Lib.TrailingZeros
import Derived.Laws.Bits64b
import Derived.Deep.CutRange
namespace Go.Proofs.YtlfcjjlgkcfkdaaGreatDoor
open Go.RowKit Go.Sort

/-- Few matchers with short texts. -/
def FewM (l : List Mat) : Prop := l.length ≤ 300 ∧ ∀ x ∈ l, x.n.size ≤ 300 ∧ x.v.size ≤ 300
theorem FewM.small {l : List Mat} (h : FewM l) : SmallM l := fun x hx => by have := h.2 x hx; omega

def sA : ByteArray := ⟨#[97]⟩
def s1c : ByteArray := ⟨#[49]⟩
def sE : ByteArray := ⟨#[]⟩
def sP : ByteArray := ⟨#[40]⟩
theorem run1 : Mat.holds ⟨2, sA, sE⟩ [(sA, s1c)] = true := by decide +kernel
theorem run2 : Mat.holds ⟨2, sA, sE⟩ [] = false := by decide +kernel
theorem run6 : Mat.ok ⟨3, sA, sP⟩ = false := by decide +kernel
theorem isLabs_nil (w : World) (a : Option Addr) : IsLabs w a [] := fun h => absurd h (by simp)

end Go.Proofs.YtlfcjjlgkcfkdaaGreatDoor
namespace Go.Proofs.YtlfcjjlgkcfkdaaGreatDoor
open Go.RowKit La

theorem Tryz.infoL : (Tryz.prog.info? 26).map (fun i => (i.zero, i.size, i.bytes)) = some (some (.agg #[.string ⟨#[]⟩, .string ⟨#[]⟩]), 2, 32) := by kernel_rfl
theorem lc_one (l : List Lab) : ∀ u ∈ lc l, u.oneCell' = true := by
  intro u hu
  simp only [lc, List.mem_flatMap] at hu
  obtain ⟨x, _, hx⟩ := hu
  simp at hx
  rcases hx with rfl | rfl <;> rfl
theorem labs_cells {w : World} {ad : Addr} {l : List Lab} (hr : IsLabs w (some ad) l) : ∀ j u, (lc l)[j]? = some u → w.cell? (ad.add j) = some u := by
  intro j u hu
  have hj : j < (lc l).length := by
    rcases Nat.lt_or_ge j (lc l).length with h1 | h1
    · exact h1
    · rw [List.getElem?_eq_none h1] at hu; cases hu
  rw [lc_len] at hj
  obtain ⟨b, off, e, hc⟩ := hr (by omega)
  injection e with e
  subst e
  have e2 : (⟨b, off, none⟩ : Addr).add j = ⟨b, off + j, none⟩ := by unfold Addr.add; split <;> simp_all
  rw [e2]
  obtain ⟨c1, c2⟩ := hc (j / 2) (by omega)
  obtain ⟨g1, g2⟩ := lc_get l (j / 2) (by omega)
  by_cases hp : j % 2 = 0
  · have ej : j / 2 * 2 = j := by omega
    rw [ej] at c1 g1
    rw [c1, ← g1, hu]
  · have ej : j / 2 * 2 + 1 = j := by omega
    rw [ej] at g2
    rw [Nat.add_assoc, ej] at c2
    rw [c2, ← g2, hu]
/-- append(v, l...) of labels: v is one's own, l is read. -/
theorem wp_appL {o : Oper} {a : Act} {w : World} {K : Act → World → Prop} {Q : Exit → Act → World → Prop} (s x : Operand) (ho : o.op = .call { callee := .builtin .append, args := #[s, x], argTypes := #[27, 27] })
    (base : Nat) (v : Value) (n : Nat) (xs : List Lab) (hs : a.eval s = v) (hown : w.ownsRow base 26 2 v n (lc xs)) (A : Option Addr) (L c : Nat) (l : List Lab) (hx : a.eval x = .slice A L c) (hL : l.length = L) (hA : A = none → c = 0) (hr : IsLabs w A l)
    (hlen : n + L ≤ 1099511627776) (hbase : base ≤ w.heap.size)
    (h : ∀ v' w', w'.ownsRow base 26 2 v' (n + L) (lc (xs ++ l)) → w.grownBy w' v.ownBlock → K (a.put o.dst v') w') : o.wp Tryz.prog a w K Q := by
  obtain ⟨i0, hi, hz0, hz1, hz2⟩ := info_parts Tryz.infoL
  subst hL
  rcases A with _ | ad
  · obtain rfl := hA rfl
    have hl0 : l = [] := by
      rcases Nat.eq_zero_or_pos l.length with h0 | h0
      · exact List.eq_nil_of_length_eq_zero h0
      · obtain ⟨_, _, e, _⟩ := hr h0; cases e
    subst hl0
    have hrun := run_append_owned_none (P := Tryz.prog) (w := w) base 27 o.type 26 i0 2 Tryz.underlying27 hi v n _ hown
    have hx' : a.eval x = .slice none 0 0 := hx
    unfold Oper.wp
    simp [execOp, ho, resolve, invoke, builtin, hs, hx', hrun, Result.andThen]
    exact h v w (by simpa using hown) (World.grownBy.refl w _)
  · refine wp_append_own w s x 27 ho base 26 i0 (.agg #[.string ⟨#[]⟩, .string ⟨#[]⟩]) 2 32 Tryz.underlying27 hi hz0 hz1 hz2 rfl (by decide) v n _ hs hown ad l.length c (lc l) hx (lc_len l) (labs_cells hr) (lc_one l) (by unfold maxLen; omega) (by omega) hbase ?_
    intro v' w' h1 h2 _
    exact h v' w' (by rw [lc_app]; exact h1) h2
theorem wpList_appL {ops : Array Oper} {rest : List Oper} {o : Oper} {a : Act} {w : World} {Q : Exit → Act → World → Prop} (hgd : o.guard = none) (s x : Operand) (ho : o.op = .call { callee := .builtin .append, args := #[s, x], argTypes := #[27, 27] })
    (base : Nat) (v : Value) (n : Nat) (xs : List Lab) (hs : a.eval s = v) (hown : w.ownsRow base 26 2 v n (lc xs)) (A : Option Addr) (L c : Nat) (l : List Lab) (hx : a.eval x = .slice A L c) (hL : l.length = L) (hA : A = none → c = 0) (hr : IsLabs w A l)
    (hlen : n + L ≤ 1099511627776) (hbase : base ≤ w.heap.size)
    (h : ∀ v' w', w'.ownsRow base 26 2 v' (n + L) (lc (xs ++ l)) → w.grownBy w' v.ownBlock → wpList Tryz.prog ops Q rest (a.put o.dst v') w') : wpList Tryz.prog ops Q (o :: rest) a w :=
  wpList_plain hgd fun _ hK => wp_appL s x ho base v n xs hs hown A L c l hx hL hA hr hlen hbase fun v' w' h1 h2 => hK _ _ (h v' w' h1 h2)
theorem lcut_lo (W : World) (g k c m : Nat) (hm : m ≤ c) : (Instr.slice 27 (.slice (some ⟨g, 0, none⟩) k c) none (some (.int .i64 (m : Int))) none).run Tryz.prog W = .ok (.slice (some ⟨g, 0, none⟩) m c) W := by
  obtain ⟨i0, hi, hz0, hz1, hz2⟩ := info_parts Tryz.infoL
  simp [Instr.slice, Instr.sliceBounds, Instr.sliceBound, run_underlying Tryz.underlying27, asIntOf, sizeOf, typeInfo, hi, go_sem]
  intro h; omega
theorem lcut_hi (W : World) (g k c m : Nat) (hm : m ≤ k) : (Instr.slice 27 (.slice (some ⟨g, 0, none⟩) k c) (some (.int .i64 (m : Int))) none none).run Tryz.prog W = .ok (.slice (some (if c = m then ⟨g, 0, none⟩ else ⟨g, m * 2, none⟩)) (k - m) (c - m)) W := by
  obtain ⟨i0, hi, hz0, hz1, hz2⟩ := info_parts Tryz.infoL
  simp [Instr.slice, Instr.sliceBounds, Instr.sliceBound, run_underlying Tryz.underlying27, asIntOf, sizeOf, typeInfo, hi, hz1, go_sem]
  by_cases hc : c = m
  · simp [hc]; intro h; omega
  · simp [hc]; intro h; omega
theorem nth_take {l : List Lab} {m j : Nat} (h : j < m) : nth (l.take m) j = nth l j := by simp [nth, List.getD, h]
theorem nth_drop (l : List Lab) (m j : Nat) : nth (l.drop m) j = nth l (m + j) := by simp [nth, List.getD, List.getElem?_drop]
theorem labs_take {w : World} {A : Option Addr} {l : List Lab} (h : IsLabs w A l) (m : Nat) : IsLabs w A (l.take m) := fun hp => by
  obtain ⟨b, off, e, hc⟩ := h (by simp at hp; omega)
  refine ⟨b, off, e, fun j hj => ?_⟩
  have hj' : j < m ∧ j < l.length := by simp at hj; omega
  rw [nth_take hj'.1]
  exact hc j hj'.2
theorem labs_drop {w : World} {g c : Nat} {l : List Lab} (h : IsLabs w (some ⟨g, 0, none⟩) l) (m : Nat) (hc : l.length ≤ c) : IsLabs w (some (if c = m then ⟨g, 0, none⟩ else ⟨g, m * 2, none⟩)) (l.drop m) := fun hp => by
  have hm : m < l.length := by simp at hp; omega
  obtain ⟨b, off, e, hx⟩ := h (by omega)
  injection e with e; injection e with e1 e2
  subst e1 e2
  rw [if_neg (by omega)]
  refine ⟨g, m * 2, rfl, fun j hj => ?_⟩
  have := hx (m + j) (by simp at hj; omega)
  rw [nth_drop]
  have q1 : 0 + (m + j) * 2 = m * 2 + j * 2 := by omega
  rw [q1] at this
  exact this
theorem own_baseL {w : World} {b1 b2 n e s : Nat} {v : Value} {xs : List Value} (h : w.ownsRow b2 e s v n xs) (hb : b1 ≤ b2) : w.ownsRow b1 e s v n xs := by
  refine ⟨h.1, ?_⟩
  rcases h.2 with hn | ⟨g, cap, cur, e, hg, rest⟩
  · exact .inl hn
  · exact .inr ⟨g, cap, cur, e, by omega, rest⟩
theorem own_geL {w : World} {base e s n : Nat} {v : Value} {xs : List Value} (h : w.ownsRow base e s v n xs) : ∀ g, v.ownBlock = some g → base ≤ g := fun g hg => (h.lt g hg).1
theorem own_keepL {w1 w2 : World} {base e s n : Nat} {v : Value} {xs : List Value} (h : w1.ownsRow base e s v n xs) (hb : Below w1.heap.size w1 w2) : w2.ownsRow base e s v n xs := by
  refine ⟨h.1, ?_⟩
  rcases h.2 with hn | ⟨g, cap, cur, rfl, hbg, hg, rest⟩
  · exact .inl hn
  · exact .inr ⟨g, cap, cur, rfl, hbg, (hb.block g (Array.getElem?_eq_some_iff.1 hg).1).trans hg, rest⟩
theorem lit_lab (w : World) (x : Lab) : IsLabs (w.alloc (.cells #[.string x.1, .string x.2] 26)) (some ⟨w.heap.size, 0, none⟩) [x] := fun _ => ⟨w.heap.size, 0, rfl, fun j hj => by
  obtain rfl : j = 0 := by simpa using hj
  rw [cell_of_row _ w.heap.size _ _ 26 (0, 0) (heap_alloc_new w _), cell_of_row _ w.heap.size _ _ 26 (0, 0) (heap_alloc_new w _)]
  simp [nth]⟩
theorem own_formL {w : World} {base n : Nat} {v : Value} {l : List Lab} (h : w.ownsRow base 26 2 v n (lc l)) : ∃ A c, v = .slice A n c ∧ n ≤ c ∧ (A = none → c = 0) ∧ IsLabs w A l ∧ l.length = n := by
  rcases h.2 with ⟨rfl, rfl⟩ | ⟨g, cap, cur, rfl, _, _, hc, _⟩
  · obtain ⟨h1, h2⟩ := own_labs h
    exact ⟨_, _, rfl, Nat.le_refl _, fun _ => rfl, h1, h2⟩
  · obtain ⟨h1, h2⟩ := own_labs h
    exact ⟨_, _, rfl, hc, (fun e => by cases e), h1, h2⟩

end Go.Proofs.YtlfcjjlgkcfkdaaGreatDoor
namespace Go.Proofs.YtlfcjjlgkcfkdaaGreatDoor
open Go.RowKit Go.Sort

theorem box33 {w : World} {u0 u1 u2 v0 v1 v2 : Value} {tu tv : TypeId} :
    (((w.alloc (.cells #[u0, u1, u2] tu)).alloc (.cells #[v0, v1, v2] tv)).cell? ⟨w.heap.size, 0, none⟩ = some u0 ∧ ((w.alloc (.cells #[u0, u1, u2] tu)).alloc (.cells #[v0, v1, v2] tv)).cell? ⟨w.heap.size, 1, none⟩ = some u1 ∧ ((w.alloc (.cells #[u0, u1, u2] tu)).alloc (.cells #[v0, v1, v2] tv)).cell? ⟨w.heap.size, 2, none⟩ = some u2)
    ∧ (((w.alloc (.cells #[u0, u1, u2] tu)).alloc (.cells #[v0, v1, v2] tv)).cell? ⟨w.heap.size + 1, 0, none⟩ = some v0 ∧ ((w.alloc (.cells #[u0, u1, u2] tu)).alloc (.cells #[v0, v1, v2] tv)).cell? ⟨w.heap.size + 1, 1, none⟩ = some v1 ∧ ((w.alloc (.cells #[u0, u1, u2] tu)).alloc (.cells #[v0, v1, v2] tv)).cell? ⟨w.heap.size + 1, 2, none⟩ = some v2) := by
  have b2 : Below (w.alloc (.cells #[u0, u1, u2] tu)).heap.size (w.alloc (.cells #[u0, u1, u2] tu)) ((w.alloc (.cells #[u0, u1, u2] tu)).alloc (.cells #[v0, v1, v2] tv)) := (Below.refl _ _).alloc (Nat.le_refl _) _
  have e1 := (box3 (w := w) (v0 := u0) (v1 := u1) (v2 := u2) (ty := tu) (b2.mono (by simp))).1
  have e2 := (box3 (w := w.alloc (.cells #[u0, u1, u2] tu)) (v0 := v0) (v1 := v1) (v2 := v2) (ty := tv) (Below.refl _ _)).1
  have es : (w.alloc (.cells #[u0, u1, u2] tu)).heap.size = w.heap.size + 1 := by simp
  rw [es] at e2
  exact ⟨e1, e2⟩

set_option maxRecDepth 100000 in
set_option maxHeartbeats 4000000 in
theorem kahead_any (k k' : Int) (n v n' v' : ByteArray) (w : World) :
    Calls Tryz.prog 43 #[.agg #[.int .i64 k, .string n, .string v], .agg #[.int .i64 k', .string n', .string v']] w fun e w' => e = .returned (.bool (Mat.bf ⟨k, n, v⟩ ⟨k', n', v'⟩)) ∧ Below w.heap.size w w' := by
  have R : Hid (Mat.bf ⟨k, n, v⟩ ⟨k', n', v'⟩ = if n.toList == n'.toList then (if k = k' then La.lt v v' else decide (k < k')) else La.lt n n') := rfl
  have B : Hid (Below w.heap.size w ((w.alloc (.cells #[.int .i64 k, .string n, .string v] 32)).alloc (.cells #[.int .i64 k', .string n', .string v'] 32))) := below_two w _ _
  generalize Mat.bf ⟨k, n, v⟩ ⟨k', n', v'⟩ = z at *
  cases hn : (n.toList == n'.toList)
  · have R0 : Hid (z = La.lt n n') := by show _ = _; rw [R.out, hn]; rfl
    clear R
    go_enter Tryz.func43, Tryz.ntmps43
    go_wp2
    go_ret
    exact ⟨by rw [R0.out]; rfl, B.out⟩
  by_cases hk : k = k'
  · subst hk
    have R0 : Hid (z = La.lt v v') := by show _ = _; rw [R.out, hn, if_pos rfl, if_pos rfl]
    clear R
    go_enter Tryz.func43, Tryz.ntmps43
    go_wp2
    go_ret
    exact ⟨by rw [R0.out]; rfl, B.out⟩
  have R0 : Hid (z = decide (k < k')) := by show _ = _; rw [R.out, hn, if_pos rfl, if_neg hk]
  have p0 : (k != k') = true := by simpa using hk
  clear R hk
  go_enter Tryz.func43, Tryz.ntmps43
  go_wp2
  go_ret
  exact ⟨by rw [R0.out]; rfl, B.out⟩

end Go.Proofs.YtlfcjjlgkcfkdaaGreatDoor

