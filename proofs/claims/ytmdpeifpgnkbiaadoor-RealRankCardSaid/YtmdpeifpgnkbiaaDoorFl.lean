/-
  Lists of values by their words: the rank of a list (each place once, falling, NaNs last, like ones as they stood) and its extremes are unique; how an insertion keeps the rank. Plain mathematics; conditions: words have 64 bits.
-/
import Derived.Test.YtmdpeifpgnkbiaaDoorFn
namespace Go.Proofs.YtmdpeifpgnkbiaaDoor.Fm

/-- Numbers by which a rank falls. -/
def kk (x : Nat) : Nat := if isN x then 0 else key x
def ahead (a b : Nat) : Bool := if isN a || isN b then !isN a && isN b else less b a
theorem key_pos {x : Nat} (h : W x) (n : isN x = false) : 0 < key x := by
  have r := rung_of h
  have g := neg_iff h
  have i : isN x = decide (inf < rung x) := rfl
  have hi : inf = 9218868437227405312 := rfl
  unfold W at h
  unfold key bits
  rw [n] at i
  rw [n]
  simp at i ⊢
  split
  · omega
  · rename_i c
    have : neg x = true := g.2 (by omega)
    rw [if_pos this] at r
    omega
theorem ahead_kk {a b : Nat} (ha : W a) (hb : W b) : ahead a b = decide (kk b < kk a) := by
  unfold ahead kk
  have h1 := less_key hb ha
  have p1 := key_pos ha
  have p2 := key_pos hb
  cases ca : isN a <;> cases cb : isN b <;> simp [ca, cb] at p1 p2 ⊢
  · rw [h1]
  · omega
/-- i stands ahead of j in the rank. -/
def R (l : List Nat) (i j : Nat) : Prop := kk (l.getD j 0) < kk (l.getD i 0) ∨ (kk (l.getD j 0) = kk (l.getD i 0) ∧ i < j)
def IsRank (l : List Nat) (r : List Nat) : Prop := r.Perm (List.range l.length) ∧ r.Pairwise (R l)
theorem rank_unique {l r s : List Nat} (hr : IsRank l r) (hs : IsRank l s) : r = s := by
  refine List.Perm.eq_of_pairwise (le := R l) (fun a b _ _ h1 h2 => ?_) hr.2 hs.2 (hr.1.trans hs.1.symm)
  unfold R at h1 h2
  omega
theorem rank_step {l out : List Nat} {i n : Nat} (hp : out.Perm (List.range i)) (hs : out.Pairwise (R l)) (hn : n ≤ out.length)
    (hd : ∀ m, n ≤ m → m < out.length → kk (l.getD (out.getD m 0) 0) < kk (l.getD i 0)) (ht : 0 < n → kk (l.getD i 0) ≤ kk (l.getD (out.getD (n - 1) 0) 0)) :
    (out.take n ++ i :: out.drop n).Perm (List.range (i + 1)) ∧ (out.take n ++ i :: out.drop n).Pairwise (R l) := by
  have hm : ∀ a ∈ out, a < i := fun a ha => List.mem_range.1 (hp.mem_iff.1 ha)
  constructor
  · refine List.perm_middle.trans ?_
    rw [List.take_append_drop, List.range_succ]
    exact (List.Perm.cons i hp).trans (List.perm_append_comm (l₁ := [i]))
  · rw [← List.take_append_drop n out, List.pairwise_append] at hs
    obtain ⟨h1, h2, h3⟩ := hs
    rw [List.pairwise_append]
    have hlast : ∀ a ∈ out.take n, kk (l.getD i 0) ≤ kk (l.getD a 0) := by
      intro a ha
      obtain ⟨m, hm1, rfl⟩ := List.getElem_of_mem ha
      have hml : m < n := by simp at hm1; omega
      have ht' := ht (by omega)
      have hn1 : n - 1 < (out.take n).length := by simp; omega
      have e1 : out.getD (n - 1) 0 = (out.take n)[n - 1] := by
        simp [List.getD, List.getElem?_eq_getElem (show n - 1 < out.length by omega)]
      rw [e1] at ht'
      by_cases hlt : m < n - 1
      · have := List.pairwise_iff_getElem.1 h1 m (n - 1) hm1 hn1 hlt
        unfold R at this
        omega
      · have : m = n - 1 := by omega
        subst this
        exact ht'
    refine ⟨h1, ?_, ?_⟩
    · rw [List.pairwise_cons]
      refine ⟨fun b hb => ?_, h2⟩
      obtain ⟨m, hm1, rfl⟩ := List.getElem_of_mem hb
      have hml : n + m < out.length := by simp at hm1; omega
      have := hd (n + m) (by omega) hml
      have e : out.getD (n + m) 0 = (out.drop n)[m] := by simp [List.getD, List.getElem?_eq_getElem hml]
      rw [e] at this
      exact .inl this
    · intro a ha b hb
      rcases List.mem_cons.1 hb with rfl | hb
      · have h4 := hlast a ha
        have h5 := hm a (List.mem_of_mem_take ha)
        unfold R
        omega
      · exact h3 a ha b hb
theorem rank_end {l r : List Nat} (h1 : r.Perm (List.range l.length)) (h2 : r.Pairwise (R l)) : IsRank l r := ⟨h1, h2⟩

/-- The least (g = false), the greatest value of a list, NaNs aside. -/
def IsExt (g : Bool) (l : List Nat) (m : Nat) (ok : Bool) : Prop :=
  (l = [] ∧ m = 0 ∧ ok = false) ∨ (l ≠ [] ∧ (∀ x ∈ l, isN x = true) ∧ m = nan ∧ ok = true) ∨
  (m ∈ l ∧ isN m = false ∧ ok = true ∧ ∀ x ∈ l, isN x = false → if g then key x ≤ key m else key m ≤ key x)
theorem ext_unique {g : Bool} {l : List Nat} {m n : Nat} {p q : Bool} (hw : ∀ x ∈ l, W x) (h1 : IsExt g l m p) (h2 : IsExt g l n q) : m = n ∧ p = q := by
  rcases h1 with ⟨rfl, rfl, rfl⟩ | ⟨a1, a2, rfl, rfl⟩ | ⟨a1, a2, rfl, a3⟩
  · rcases h2 with ⟨_, rfl, rfl⟩ | ⟨b1, _⟩ | ⟨b1, _⟩
    · exact ⟨rfl, rfl⟩
    · exact absurd rfl b1
    · cases b1
  · rcases h2 with ⟨b1, _⟩ | ⟨_, _, rfl, rfl⟩ | ⟨b1, b2, _⟩
    · exact absurd b1 a1
    · exact ⟨rfl, rfl⟩
    · rw [a2 n b1] at b2; cases b2
  · rcases h2 with ⟨rfl, _⟩ | ⟨_, b2, _⟩ | ⟨b1, b2, rfl, b3⟩
    · cases a1
    · rw [b2 m a1] at a2; cases a2
    · have c1 := a3 n b1 b2
      have c2 := b3 m a1 a2
      have hk : key m = key n := by cases g <;> simp at c1 c2 <;> omega
      have hb := key_inj (hw m a1) (hw n b1) hk
      unfold bits at hb
      rw [a2, b2] at hb
      exact ⟨by simpa using hb, rfl⟩
end Go.Proofs.YtmdpeifpgnkbiaaDoor.Fm
