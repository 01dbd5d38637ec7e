/-
  What the reference's Rising does: numbers in order, each once (IsRise). Conditions: lengths fit.
-/
import Derived.Test.YtlbhiiciajfphaaProg
import Derived.Test.YtlbhiiciajfphaaEa
import Derived.Test.YtlbhiiciajfphaaEd
import Derived.Test.YtlbhiiciajfphaaEf
import Derived.Test.YtlbhiiciajfphaaEo
import Derived.Test.YtlbhiiciajfphaaIa
import Derived.Laws.OwnMore
import Derived.IntWalk
import Derived.Deep.RegionHeld3
import Derived.WalkKit
import Derived.WalkSpells
import Derived.WalkLawsBesides
import Derived.Lib.Hide
import Derived.Below
import Derived.BigQuiet
import Derived.Lib.QuietBelow
import Derived.Laws.StructEq
import Derived.KernelRfl
import Derived.Laws.MakeOwn
import Derived.OwnWalk
import Derived.Laws.CopyOwn
import Derived.Laws.AppendOwn
import Derived.Deep.QuietTactic
namespace Go.Proofs.Ytlbhiiciajfphaa
open Go.RowKit

/-- Numbers in order, each once. -/
def IsRise (l out : List Int) : Prop := out.Pairwise (· < ·) ∧ ∀ y, y ∈ out ↔ y ∈ l
def nz (l : List Int) (j : Nat) : Int := l.getD j 0
theorem nz_eq {l : List Int} {j : Nat} (h : j < l.length) : nz l j = l[j] := by simp [nz, List.getD, List.getElem?_eq_getElem h]
theorem rise_step {l out : List Int} {k m : Nat} (hr : IsRise (l.take k) out) (hk : k < l.length) (hm : m ≤ out.length) (h1 : ∀ j, m ≤ j → j < out.length → nz l k < nz out j) (h2 : 0 < m → nz out (m - 1) < nz l k) : IsRise (l.take (k + 1)) (out.take m ++ nz l k :: out.drop m) := by
  obtain ⟨hp, hq⟩ := hr
  have hs := hp
  rw [← List.take_append_drop m out, List.pairwise_append] at hs
  obtain ⟨s1, s2, s3⟩ := hs
  refine ⟨?_, fun y => ?_⟩
  · rw [List.pairwise_append]
    refine ⟨s1, ?_, ?_⟩
    · rw [List.pairwise_cons]
      refine ⟨fun y hy => ?_, s2⟩
      obtain ⟨j, hj, rfl⟩ := List.getElem_of_mem hy
      have hj' : m + j < out.length := by simp at hj; omega
      have := h1 (m + j) (by omega) (by omega)
      rw [nz_eq hj'] at this
      rw [List.getElem_drop]
      exact this
    · intro y hy z hz
      rcases List.mem_cons.1 hz with rfl | hz
      · obtain ⟨j, hj, rfl⟩ := List.getElem_of_mem hy
        have hj' : j < m ∧ j < out.length := by simp at hj; omega
        rw [List.getElem_take]
        have h3 := h2 (by omega)
        have hm1 : m - 1 < out.length := by omega
        rw [nz_eq hm1] at h3
        by_cases ej : j = m - 1
        · subst ej; exact h3
        · have h4 := List.pairwise_iff_getElem.1 hp j (m - 1) hj'.2 hm1 (by omega)
          omega
      · exact s3 y hy z hz
  · have e : l.take (k + 1) = l.take k ++ [nz l k] := by rw [List.take_succ_eq_append_getElem hk, nz_eq hk]
    rw [e, List.mem_append, List.mem_append, List.mem_cons, List.mem_singleton, ← hq y]
    conv => rhs; rw [← List.take_append_drop m out, List.mem_append]
    constructor
    · rintro (h | h | h)
      · exact .inl (.inl h)
      · exact .inr h
      · exact .inl (.inr h)
    · rintro ((h | h) | h)
      · exact .inl h
      · exact .inr (.inr h)
      · exact .inr (.inl h)
theorem rise_same {l out : List Int} {k m : Nat} (hr : IsRise (l.take k) out) (hk : k < l.length) (hm : m < out.length) (h : nz out m = nz l k) : IsRise (l.take (k + 1)) out := by
  refine ⟨hr.1, fun y => ?_⟩
  have e : l.take (k + 1) = l.take k ++ [nz l k] := by rw [List.take_succ_eq_append_getElem hk, nz_eq hk]
  rw [e, List.mem_append, List.mem_singleton, ← hr.2 y]
  constructor
  · exact .inl
  · rintro (h1 | h1)
    · exact h1
    · rw [h1, ← h, nz_eq hm]; exact List.getElem_mem hm
theorem rise_head {x y : Int} {a b : List Int} (h1 : (x :: a).Pairwise (· < ·)) (h2 : (y :: b).Pairwise (· < ·)) (he : ∀ z, z ∈ x :: a ↔ z ∈ y :: b) : x = y := by
  have hx := (he x).1 (by simp)
  have hy := (he y).2 (by simp)
  rcases List.mem_cons.1 hx with h | h
  · exact h
  · rcases List.mem_cons.1 hy with g | g
    · exact g.symm
    · have := (List.pairwise_cons.1 h2).1 x h
      have := (List.pairwise_cons.1 h1).1 y g
      omega
/-- There is one such list. -/
theorem rise_unique : ∀ {a b : List Int}, a.Pairwise (· < ·) → b.Pairwise (· < ·) → (∀ y, y ∈ a ↔ y ∈ b) → a = b
  | [], [], _, _, _ => rfl
  | [], y :: b, _, _, h => by have := (h y).2 (by simp); cases this
  | x :: a, [], _, _, h => by have := (h x).1 (by simp); cases this
  | x :: a, y :: b, h1, h2, h => by
    obtain rfl := rise_head h1 h2 h
    rw [rise_unique (a := a) (b := b) (List.pairwise_cons.1 h1).2 (List.pairwise_cons.1 h2).2 (fun z => ?_)]
    have hz := h z
    have l1 := (List.pairwise_cons.1 h1).1 z
    have l2 := (List.pairwise_cons.1 h2).1 z
    rw [List.mem_cons, List.mem_cons] at hz
    constructor
    · intro q
      rcases hz.1 (.inr q) with e | e
      · have := l1 q; omega
      · exact e
    · intro q
      rcases hz.2 (.inr q) with e | e
      · have := l2 q; omega
      · exact e
set_option maxRecDepth 100000 in
/-- append(v, l...) of ints: v is one's own, l is read. -/
theorem wp_appZ {o : Oper} {a : Act} {w : World} {K : Act → World → Prop} {Q : Exit → Act → World → Prop} (s x : Operand) (ho : o.op = .call { callee := .builtin .append, args := #[s, x], argTypes := #[30, 30] })
    (base : Nat) (v : Value) (n : Nat) (xs : List Int) (hs : a.eval s = v) (hown : w.ownsRow base 3 1 v n (zs xs)) (A : Option Addr) (L c : Nat) (l : List Int) (hx : a.eval x = .slice A L c) (hL : l.length = L) (hA : A = none → c = 0) (hr : IsZ w A l)
    (hlen : n + L ≤ 1099511627776) (hbase : base ≤ w.heap.size)
    (h : ∀ v' w', w'.ownsRow base 3 1 v' (n + L) (zs (xs ++ l)) → w.grownBy w' v.ownBlock → K (a.put o.dst v') w') : o.wp Try.prog a w K Q := by
  obtain ⟨i0, hi, hz0, hz1, hz2⟩ := info_parts Try.infoZ
  subst hL
  rcases A with _ | ad
  · obtain rfl := hA rfl
    have hl0 : l = [] := by
      rcases Nat.eq_zero_or_pos l.length with h0 | h0
      · exact List.eq_nil_of_length_eq_zero h0
      · obtain ⟨_, _, e, _⟩ := hr h0; cases e
    subst hl0
    have hrun := run_append_owned_none (P := Try.prog) (w := w) base 30 o.type 3 i0 1 Try.underlying30 hi v n _ hown
    have hx' : a.eval x = .slice none 0 0 := hx
    unfold Oper.wp
    simp [execOp, ho, resolve, invoke, builtin, hs, hx', hrun, Result.andThen]
    exact h v w (by simpa using hown) (World.grownBy.refl w _)
  · refine wp_append_own w s x 30 ho base 3 i0 (.int .i64 0) 1 8 Try.underlying30 hi hz0 hz1 hz2 rfl (by decide) v n _ hs hown ad l.length c (zs l) hx (by rw [zs_len, Nat.mul_one]) ?_ ?_ (by unfold maxLen; omega) (by omega) hbase ?_
    · intro j u hu
      have hj : j < l.length := by
        rcases Nat.lt_or_ge j l.length with h1 | h1
        · exact h1
        · rw [List.getElem?_eq_none (by rw [zs_len]; exact h1)] at hu; cases hu
      obtain ⟨b, off, e, hc⟩ := hr (by omega)
      injection e with e
      subst e
      have e2 : (⟨b, off, none⟩ : Addr).add j = ⟨b, off + j, none⟩ := by unfold Addr.add; split <;> simp_all
      rw [e2, hc j hj, ← hu]
      simp [zs, List.getD, List.getElem?_eq_getElem hj]
    · intro u hu
      simp only [zs, List.mem_map] at hu
      obtain ⟨_, _, rfl⟩ := hu
      rfl
    · intro v' w' h1 h2 _
      exact h v' w' (by rw [zs_app]; exact h1) h2
theorem wpList_appZ {ops : Array Oper} {rest : List Oper} {o : Oper} {a : Act} {w : World} {Q : Exit → Act → World → Prop} (hgd : o.guard = none) (s x : Operand) (ho : o.op = .call { callee := .builtin .append, args := #[s, x], argTypes := #[30, 30] })
    (base : Nat) (v : Value) (n : Nat) (xs : List Int) (hs : a.eval s = v) (hown : w.ownsRow base 3 1 v n (zs xs)) (A : Option Addr) (L c : Nat) (l : List Int) (hx : a.eval x = .slice A L c) (hL : l.length = L) (hA : A = none → c = 0) (hr : IsZ w A l)
    (hlen : n + L ≤ 1099511627776) (hbase : base ≤ w.heap.size)
    (h : ∀ v' w', w'.ownsRow base 3 1 v' (n + L) (zs (xs ++ l)) → w.grownBy w' v.ownBlock → wpList Try.prog ops Q rest (a.put o.dst v') w') : wpList Try.prog ops Q (o :: rest) a w :=
  wpList_plain hgd fun _ hK => wp_appZ s x ho base v n xs hs hown A L c l hx hL hA hr hlen hbase fun v' w' h1 h2 => hK _ _ (h v' w' h1 h2)
theorem zcut_lo (W : World) (g k c m : Nat) (hm : m ≤ c) : (Instr.slice 30 (.slice (some ⟨g, 0, none⟩) k c) none (some (.int .i64 (m : Int))) none).run Try.prog W = .ok (.slice (some ⟨g, 0, none⟩) m c) W := by
  obtain ⟨i0, hi, hz0, hz1, hz2⟩ := info_parts Try.infoZ
  simp [Instr.slice, Instr.sliceBounds, Instr.sliceBound, run_underlying Try.underlying30, asIntOf, sizeOf, typeInfo, hi, go_sem]
  intro h; omega
theorem zcut_hi (W : World) (g k c m : Nat) (hm : m ≤ k) : (Instr.slice 30 (.slice (some ⟨g, 0, none⟩) k c) (some (.int .i64 (m : Int))) none none).run Try.prog W = .ok (.slice (some (if c = m then ⟨g, 0, none⟩ else ⟨g, m, none⟩)) (k - m) (c - m)) W := by
  obtain ⟨i0, hi, hz0, hz1, hz2⟩ := info_parts Try.infoZ
  simp [Instr.slice, Instr.sliceBounds, Instr.sliceBound, run_underlying Try.underlying30, asIntOf, sizeOf, typeInfo, hi, hz1, go_sem]
  by_cases hc : c = m
  · simp [hc]; intro h; omega
  · simp [hc]; intro h; omega
theorem isZ_at {w : World} {b off : Nat} {l : List Int} (h : IsZ w (some ⟨b, off, none⟩) l) {j : Nat} (hj : j < l.length) : w.cell? ⟨b, off + j, none⟩ = some (.int .i64 (nz l j)) := by
  obtain ⟨b', off', e, hc⟩ := h (by omega)
  injection e with e; injection e with e1 e2
  subst e1 e2
  exact hc j hj
theorem z_take {w : World} {A : Option Addr} {l : List Int} (h : IsZ w A l) (m : Nat) : IsZ w A (l.take m) := fun hp => by
  obtain ⟨b, off, e, hc⟩ := h (by simp at hp; omega)
  refine ⟨b, off, e, fun j hj => ?_⟩
  have hj' : j < m ∧ j < l.length := by simp at hj; omega
  rw [hc j hj'.2]
  simp [List.getD, hj'.1]
theorem z_drop {w : World} {g c : Nat} {l : List Int} (h : IsZ w (some ⟨g, 0, none⟩) l) (m : Nat) (hc : l.length ≤ c) : IsZ w (some (if c = m then ⟨g, 0, none⟩ else ⟨g, m, none⟩)) (l.drop m) := fun hp => by
  have hm : m < l.length := by simp at hp; omega
  obtain ⟨b, off, e, hx⟩ := h (by omega)
  injection e with e; injection e with e1 e2
  subst e1 e2
  rw [if_neg (by omega)]
  refine ⟨g, m, rfl, fun j hj => ?_⟩
  have := hx (m + j) (by simp at hj; omega)
  rw [Nat.zero_add] at this
  rw [this]
  simp [List.getD, List.getElem?_drop]
theorem own_baseZ {w : World} {b1 b2 n e s : Nat} {v : Value} {xs : List Value} (h : w.ownsRow b2 e s v n xs) (hb : b1 ≤ b2) : w.ownsRow b1 e s v n xs := by
  refine ⟨h.1, ?_⟩
  rcases h.2 with hn | ⟨g, cap, cur, e, hg, rest⟩
  · exact .inl hn
  · exact .inr ⟨g, cap, cur, e, by omega, rest⟩
theorem own_geZ {w : World} {base e s n : Nat} {v : Value} {xs : List Value} (h : w.ownsRow base e s v n xs) : ∀ g, v.ownBlock = some g → base ≤ g := fun g hg => (h.lt g hg).1
theorem lit_z (w : World) (z : Int) : IsZ (w.alloc (.cells #[.int .i64 z] 3)) (some ⟨w.heap.size, 0, none⟩) [z] := fun _ => ⟨_, _, rfl, fun j hj => by
  have e := heap_alloc_new w (.cells #[.int .i64 z] 3)
  rw [cell_of_row _ _ _ _ _ _ e]
  obtain rfl : j = 0 := by simpa using hj
  rfl⟩
/-- What the outer loop keeps. -/
structure RzI (w : World) (l : List Int) (k no : Nat) (out : List Int) (v : Value) (wr : World) : Prop where
  ko : wr.ownsRow w.heap.size 3 1 v no (zs out)
  kp : (out.Pairwise (· < ·))
  ks : ∀ y, y ∈ out ↔ y ∈ l.take k
  kb : Below w.heap.size w wr
  kn : no ≤ k
def MadeZ (w : World) (l : List Int) (e : Ending) (w' : World) : Prop := ∃ v, e = .returned v ∧ w'.ownsRow w.heap.size 3 1 v l.length (zs l) ∧ Below w.heap.size w w'

end Go.Proofs.Ytlbhiiciajfphaa
