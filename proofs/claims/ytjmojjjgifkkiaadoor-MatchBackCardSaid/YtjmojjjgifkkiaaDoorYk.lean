/-
  The order of matchers; a matcher put into a list where it belongs; '==' of matchers; slices of matchers cut. No conditions.
-/
import Derived.Test.YtjmojjjgifkkiaaDoorYj
namespace Go.Proofs.YtjmojjjgifkkiaaDoor
open Go.RowKit Go.Sort

theorem Mat.ext {a b : Mat} (h1 : a.k = b.k) (h2 : a.n = b.n) (h3 : a.v = b.v) : a = b := by
  obtain ⟨_, _, _⟩ := a
  obtain ⟨_, _, _⟩ := b
  simp only at h1 h2 h3
  subst h1 h2 h3; rfl
instance : DecidableEq Mat := fun a b =>
  if h : a.k = b.k ∧ a.n = b.n ∧ a.v = b.v then isTrue (Mat.ext h.1 h.2.1 h.2.2) else isFalse fun e => h ⟨by rw [e], by rw [e], by rw [e]⟩
theorem Mat.bf_iff {a b : Mat} : Mat.bf a b = true ↔ (La.lt a.n b.n = true ∨ (a.n = b.n ∧ (a.k < b.k ∨ (a.k = b.k ∧ La.lt a.v b.v = true)))) := by
  unfold Mat.bf
  by_cases h1 : a.n = b.n
  · rw [if_pos (La.beq_iff.2 h1)]
    have hirr : ¬ La.lt a.n b.n = true := by rw [h1, La.lt_irrefl]; simp
    by_cases h2 : a.k = b.k
    · rw [if_pos h2]
      constructor
      · intro h; exact .inr ⟨h1, .inr ⟨h2, h⟩⟩
      · rintro (h | ⟨_, h | ⟨_, h⟩⟩)
        · exact absurd h hirr
        · omega
        · exact h
    · rw [if_neg h2, decide_eq_true_eq]
      constructor
      · intro h; exact .inr ⟨h1, .inl h⟩
      · rintro (h | ⟨_, h | ⟨h, _⟩⟩)
        · exact absurd h hirr
        · exact h
        · exact absurd h h2
  · rw [if_neg (fun h => h1 (La.beq_iff.1 h))]
    constructor
    · intro h; exact .inl h
    · rintro (h | ⟨h, _⟩)
      · exact h
      · exact absurd h h1
theorem Mat.bf_trans {a b c : Mat} (h1 : Mat.bf a b = true) (h2 : Mat.bf b c = true) : Mat.bf a c = true := by
  rw [Mat.bf_iff] at h1 h2 ⊢
  rcases h1 with h1 | ⟨e1, h1⟩
  · rcases h2 with h2 | ⟨e2, _⟩
    · exact .inl (La.lt_trans h1 h2)
    · exact .inl (by rw [← e2]; exact h1)
  · rcases h2 with h2 | ⟨e2, h2⟩
    · exact .inl (by rw [e1]; exact h2)
    · refine .inr ⟨e1.trans e2, ?_⟩
      rcases h1 with h1 | ⟨k1, h1⟩
      · rcases h2 with h2 | ⟨k2, _⟩
        · exact .inl (by omega)
        · exact .inl (by omega)
      · rcases h2 with h2 | ⟨k2, h2⟩
        · exact .inl (by omega)
        · exact .inr ⟨by omega, La.lt_trans h1 h2⟩
theorem Mat.bf_total {a b : Mat} (h1 : Mat.bf a b = false) (h2 : Mat.bf b a = false) : a = b := by
  have n1 : ¬ Mat.bf a b = true := by rw [h1]; simp
  have n2 : ¬ Mat.bf b a = true := by rw [h2]; simp
  rw [Mat.bf_iff] at n1 n2
  have en : a.n = b.n := La.lt_total (by cases h : La.lt a.n b.n <;> simp_all) (by cases h : La.lt b.n a.n <;> simp_all)
  have ek : a.k = b.k := by
    rcases Int.lt_trichotomy a.k b.k with h | h | h
    · exact absurd (.inr ⟨en, .inl h⟩) n1
    · exact h
    · exact absurd (.inr ⟨en.symm, .inl h⟩) n2
  refine Mat.ext ek en (La.lt_total ?_ ?_)
  · cases h : La.lt a.v b.v
    · rfl
    · exact absurd (.inr ⟨en, .inr ⟨ek, h⟩⟩) n1
  · cases h : La.lt b.v a.v
    · rfl
    · exact absurd (.inr ⟨en.symm, .inr ⟨ek.symm, h⟩⟩) n2
/-- Matchers that may stand in one list, in their order. -/
structure GoodM (acc : List Mat) : Prop where
  ok : ∀ m ∈ acc, m.ok = true ∧ (m.k = 1 ∨ m.k = 2 ∨ m.k = 3 ∨ m.k = 4) ∧ m.n.size ≤ 12 ∧ m.v.size ≤ 40
  pw : acc.Pairwise fun a b => Mat.bf a b = true
theorem GoodM.nil : GoodM [] := ⟨fun m hm => by (cases hm), List.Pairwise.nil⟩
theorem GoodM.small {acc : List Mat} (h : GoodM acc) : SmallM acc := fun m hm => by have := h.ok m hm; omega
theorem GoodM.list {acc : List Mat} (h : GoodM acc) (h5 : acc.length ≤ 5) : Mat.isList acc = true := by
  refine Mat.isList_iff.2 ⟨h5, fun k hk => ?_⟩
  unfold Mat.okAt
  rw [(h.ok _ (Mat.nth_mem hk)).1]
  by_cases k0 : k = 0
  · simp [k0]
  · have := List.pairwise_iff_getElem.1 h.pw (k - 1) k (by omega) hk (by omega)
    rw [Mat.nth_eq hk, Mat.nth_eq (by omega : k - 1 < acc.length), this]
    simp
theorem GoodM.put {acc : List Mat} {x : Mat} {m : Nat} (h : GoodM acc) (hx : x.ok = true ∧ (x.k = 1 ∨ x.k = 2 ∨ x.k = 3 ∨ x.k = 4) ∧ x.n.size ≤ 12 ∧ x.v.size ≤ 40) (hm : m ≤ acc.length)
    (h1 : ∀ j, m ≤ j → j < acc.length → Mat.bf x (Mat.nth acc j) = true) (h2 : 0 < m → Mat.bf x (Mat.nth acc (m - 1)) = false ∧ Mat.nth acc (m - 1) ≠ x) : GoodM (acc.take m ++ x :: acc.drop m) := by
  constructor
  · intro y hy
    rcases List.mem_append.1 hy with hy | hy
    · exact h.ok y (List.mem_of_mem_take hy)
    · rcases List.mem_cons.1 hy with rfl | hy
      · exact hx
      · exact h.ok y (List.mem_of_mem_drop hy)
  · have hs' := h.pw
    rw [← List.take_append_drop m acc, List.pairwise_append] at hs'
    obtain ⟨s1, s2, s3⟩ := hs'
    rw [List.pairwise_append]
    refine ⟨s1, ?_, ?_⟩
    · rw [List.pairwise_cons]
      refine ⟨fun y hy => ?_, s2⟩
      obtain ⟨j, hj, rfl⟩ := List.getElem_of_mem hy
      have hj' : m + j < acc.length := by simp at hj; omega
      have := h1 (m + j) (by omega) hj'
      rw [Mat.nth_eq hj'] at this
      rw [List.getElem_drop]
      exact this
    · intro y hy z hz
      rcases List.mem_cons.1 hz with rfl | hz
      · obtain ⟨j, hj, rfl⟩ := List.getElem_of_mem hy
        have hj' : j < m ∧ j < acc.length := by simp at hj; omega
        rw [List.getElem_take]
        obtain ⟨g1, g2⟩ := h2 (by omega)
        have hm1 : m - 1 < acc.length := by omega
        rw [Mat.nth_eq hm1] at g1 g2
        have g3 : Mat.bf (acc[m - 1]) z = true := by
          cases g : Mat.bf (acc[m - 1]) z
          · exact absurd (Mat.bf_total g g1) g2
          · rfl
        by_cases ej : j = m - 1
        · subst ej; exact g3
        · exact Mat.bf_trans (List.pairwise_iff_getElem.1 h.pw j (m - 1) hj'.2 hm1 (by omega)) g3
      · exact s3 y hy z hz
theorem mat_eql (w : World) (a b : Mat) : (binOp .eql 26 (.agg #[.int .i64 a.k, .string a.n, .string a.v]) (.agg #[.int .i64 b.k, .string b.n, .string b.v])).run Tryd.prog w = .ok (.bool (decide (a = b))) w := by
  have hs : Tryd.prog.stoodInHeld 26 = false := by kernel_rfl
  rw [run_eql_struct, run_equalIn_agg _ 9999 _ _ _ (by kernel_rfl) hs]
  simp only [Program.fieldsOf, Tryd.underlying26]
  go_simp
  have i1 : (a.n.toList = b.n.toList) = (a.n = b.n) := propext ⟨La.toL_inj, fun h => by rw [h]⟩
  have i2 : (a.v.toList = b.v.toList) = (a.v = b.v) := propext ⟨La.toL_inj, fun h => by rw [h]⟩
  obtain ⟨ak, an, av⟩ := a
  obtain ⟨bk, bn, bv⟩ := b
  simp only at i1 i2
  simp only [i1, i2]
  by_cases h0 : ak = bk <;> by_cases h1 : an = bn <;> by_cases h2 : av = bv <;> simp [h0, h1, h2]
theorem mat_neq (w : World) (a b : Mat) : (binOp .neq 26 (.agg #[.int .i64 a.k, .string a.n, .string a.v]) (.agg #[.int .i64 b.k, .string b.n, .string b.v])).run Tryd.prog w = .ok (.bool (!decide (a = b))) w := by
  have hs : Tryd.prog.stoodInHeld 26 = false := by kernel_rfl
  rw [run_neq_struct, run_equalIn_agg _ 9999 _ _ _ (by kernel_rfl) hs]
  simp only [Program.fieldsOf, Tryd.underlying26]
  go_simp
  have i1 : (a.n.toList = b.n.toList) = (a.n = b.n) := propext ⟨La.toL_inj, fun h => by rw [h]⟩
  have i2 : (a.v.toList = b.v.toList) = (a.v = b.v) := propext ⟨La.toL_inj, fun h => by rw [h]⟩
  obtain ⟨ak, an, av⟩ := a
  obtain ⟨bk, bn, bv⟩ := b
  simp only at i1 i2
  simp only [i1, i2]
  by_cases h0 : ak = bk <;> by_cases h1 : an = bn <;> by_cases h2 : av = bv <;> simp [h0, h1, h2]
/-- Where a slice of matchers begins that is cut at m. -/
def cutM (A : Option Addr) (c m : Nat) : Option Addr := A.map fun ad => if c = m then ad else ⟨ad.block, m * 3, none⟩
/-- A slice that one owns: none, or a row's beginning. -/
def AtRow (A : Option Addr) (k c : Nat) : Prop := (A = none ∧ k = 0 ∧ c = 0) ∨ ∃ g, A = some ⟨g, 0, none⟩
theorem own_formM2 {w : World} {base n : Nat} {v : Value} {l : List Mat} (h : w.ownsRow base 26 3 v n (mc l)) : ∃ A c, v = .slice A n c ∧ n ≤ c ∧ AtRow A n c ∧ IsMats w A l ∧ l.length = n := by
  rcases h.2 with ⟨rfl, rfl⟩ | ⟨g, cap, cur, rfl, _, _, hc, _⟩
  · obtain ⟨h1, h2⟩ := own_mats h
    exact ⟨_, _, rfl, Nat.le_refl _, .inl ⟨rfl, rfl, rfl⟩, h1, h2⟩
  · obtain ⟨h1, h2⟩ := own_mats h
    exact ⟨_, _, rfl, hc, .inr ⟨g, rfl⟩, h1, h2⟩
theorem AtRow.nil {A : Option Addr} {k c : Nat} (h : AtRow A k c) : A = none → c = 0 := fun e => by
  rcases h with ⟨_, _, h⟩ | ⟨g, h⟩
  · exact h
  · rw [e] at h; cases h
theorem AtRow.lo {A : Option Addr} {k c : Nat} (h : AtRow A k c) (W : World) (m : Nat) (hm : m ≤ k) (hk : k ≤ c) : (Instr.slice 31 (.slice A k c) none (some (.int .i64 (m : Int))) none).run Tryd.prog W = .ok (.slice A m c) W := by
  rcases h with ⟨rfl, rfl, rfl⟩ | ⟨g, rfl⟩
  · obtain rfl : m = 0 := by omega
    obtain ⟨i0, hi, hz0, hz1, hz2⟩ := info_parts Tryd.infoM
    simp [Instr.slice, Instr.sliceBounds, Instr.sliceBound, run_underlying Tryd.underlying31, asIntOf, sizeOf, typeInfo, hi, go_sem]
  · exact mcut_lo W g k c m (by omega)
theorem AtRow.hi {A : Option Addr} {k c : Nat} (h : AtRow A k c) (W : World) (m : Nat) (hm : m ≤ k) : (Instr.slice 31 (.slice A k c) (some (.int .i64 (m : Int))) none none).run Tryd.prog W = .ok (.slice (cutM A c m) (k - m) (c - m)) W := by
  rcases h with ⟨rfl, rfl, rfl⟩ | ⟨g, rfl⟩
  · obtain rfl : m = 0 := by omega
    obtain ⟨i0, hi, hz0, hz1, hz2⟩ := info_parts Tryd.infoM
    simp [cutM, Instr.slice, Instr.sliceBounds, Instr.sliceBound, run_underlying Tryd.underlying31, asIntOf, sizeOf, typeInfo, hi, go_sem]
  · exact mcut_hi W g k c m hm
theorem AtRow.drop {A : Option Addr} {k c : Nat} {w : World} {l : List Mat} (h : AtRow A k c) (hi : IsMats w A l) (m : Nat) (hl : l.length = k) (hc : k ≤ c) : IsMats w (cutM A c m) (l.drop m) := by
  rcases h with ⟨rfl, rfl, rfl⟩ | ⟨g, rfl⟩
  · have : l = [] := List.eq_nil_of_length_eq_zero hl
    subst this; simp only [List.drop_nil]; exact IsMats.nil _ _
  · exact mats_drop hi m (by omega)
theorem AtRow.cutnil {A : Option Addr} {k c m : Nat} (h : AtRow A k c) : cutM A c m = none → c - m = 0 := fun e => by
  rcases h with ⟨_, _, h⟩ | ⟨g, rfl⟩
  · omega
  · cases e
end Go.Proofs.YtjmojjjgifkkiaaDoor
