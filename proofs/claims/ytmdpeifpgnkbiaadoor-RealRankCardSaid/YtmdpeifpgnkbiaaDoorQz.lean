/-
  What package real's Rank does: any values in their rank (Fm.IsRank). Conditions: words have 64 bits; no more than 60 values.
-/
import Derived.Test.YtmdpeifpgnkbiaaDoorQy
import Derived.Test.YtmdpeifpgnkbiaaDoorLk
import Derived.OwnWalk
import Derived.Maps.AppendAt
namespace Go.Proofs.YtmdpeifpgnkbiaaDoor
open Go.RowKit
/-- The places of the numbers among the first k values, and those of the NaNs. -/
def rkl (l : List Nat) (k : Nat) : List Nat := (List.range k).filter fun i => !Fm.isN (l.getD i 0)
def nnl (l : List Nat) (k : Nat) : List Nat := (List.range k).filter fun i => Fm.isN (l.getD i 0)
theorem rkl_num {l : List Nat} {k : Nat} (h : Fm.isN (l.getD k 0) = false) : rkl l (k + 1) = rkl l k ++ [k] ∧ nnl l (k + 1) = nnl l k := by
  unfold rkl nnl
  rw [List.range_succ, List.filter_append, List.filter_append]
  simp only [List.filter_cons, List.filter_nil, h]
  simp
theorem rkl_nan {l : List Nat} {k : Nat} (h : Fm.isN (l.getD k 0) = true) : rkl l (k + 1) = rkl l k ∧ nnl l (k + 1) = nnl l k ++ [k] := by
  unfold rkl nnl
  rw [List.range_succ, List.filter_append, List.filter_append]
  simp only [List.filter_cons, List.filter_nil, h]
  simp
theorem rkl_len (l : List Nat) (k : Nat) : (rkl l k).length ≤ k ∧ (nnl l k).length ≤ k := by
  unfold rkl nnl
  exact ⟨Nat.le_trans (List.length_filter_le _ _) (by simp), Nat.le_trans (List.length_filter_le _ _) (by simp)⟩
theorem getD_row (l : List Nat) : (List.range l.length).map (fun j => l.getD j 0) = l := by
  refine List.ext_getElem (by simp) fun k h1 h2 => ?_
  simp [List.getD_eq_getElem?_getD, List.getElem?_eq_getElem h2]
theorem rkl_asc (l : List Nat) (k : Nat) : So.Asc (fun j => (rkl l k).getD j 0) 0 (rkl l k).length := by
  intro i j _ h2 h3
  have hp : (rkl l k).Pairwise (· < ·) := List.Pairwise.sublist List.filter_sublist List.pairwise_lt_range
  have := List.pairwise_iff_getElem.1 hp i j (by omega) h3 h2
  simpa [List.getD_eq_getElem?_getD, List.getElem?_eq_getElem h3, List.getElem?_eq_getElem (show i < (rkl l k).length by omega)] using this
theorem rkl_mem {l : List Nat} {k x : Nat} (h : x ∈ rkl l k) : x < k ∧ Fm.isN (l.getD x 0) = false := by
  unfold rkl at h
  rw [List.mem_filter] at h
  simpa using h
theorem nnl_mem {l : List Nat} {k x : Nat} (h : x ∈ nnl l k) : x < k ∧ Fm.isN (l.getD x 0) = true := by
  unfold nnl at h
  rw [List.mem_filter] at h
  simpa using h
theorem rank_made {l : List Nat} {m : Nat} {d : Nat → Nat} (hw : ∀ x ∈ l, Fm.W x) (hm : (rkl l l.length).length = m) (hv : So.Via 0 m (fun j => (rkl l l.length).getD j 0) d) (hs : So.Sorted (RK l) d 0 m) : Fm.IsRank l ((List.range m).map d ++ nnl l l.length) := by
  subst hm
  have P1 : ((List.range (rkl l l.length).length).map d).Perm (rkl l l.length) := by
    have := hv.perm (Nat.le_refl _)
    rwa [getD_row] at this
  have W0 : ∀ x, x < l.length → Fm.W (l.getD x 0) := fun x hx => hw _ (by rw [List.getD_eq_getElem?_getD, List.getElem?_eq_getElem hx]; exact List.getElem_mem _)
  have M : ∀ x ∈ (List.range (rkl l l.length).length).map d, x < l.length ∧ Fm.isN (l.getD x 0) = false := fun x hx => rkl_mem (P1.mem_iff.1 hx)
  refine ⟨?_, ?_⟩
  · refine (P1.append_right _).trans ?_
    have := List.filter_append_perm (fun i => !Fm.isN (l.getD i 0)) (List.range l.length)
    simpa [rkl, nnl] using this
  · rw [List.pairwise_append]
    refine ⟨?_, ?_, ?_⟩
    · have hp : ((List.range (rkl l l.length).length).map d).Pairwise (RK l) := by
        rw [List.pairwise_map]
        refine List.Pairwise.imp_of_mem ?_ List.pairwise_lt_range
        intro i j hi hj hij
        exact hs i j (Nat.zero_le _) hij (by simpa using hj)
      refine List.Pairwise.imp_of_mem ?_ hp
      intro x y hx hy h
      obtain ⟨_, n1⟩ := M x hx
      obtain ⟨_, n2⟩ := M y hy
      unfold RK at h
      unfold Fm.R Fm.kk
      simp only [n1, n2]
      simpa using h
    · have hp : (nnl l l.length).Pairwise (· < ·) := List.Pairwise.sublist List.filter_sublist List.pairwise_lt_range
      refine List.Pairwise.imp_of_mem ?_ hp
      intro x y hx hy h
      obtain ⟨_, n1⟩ := nnl_mem hx
      obtain ⟨_, n2⟩ := nnl_mem hy
      right
      unfold Fm.kk
      simp only [n1, n2]
      exact ⟨rfl, h⟩
    · intro x hx y hy
      obtain ⟨hx1, n1⟩ := M x hx
      obtain ⟨_, n2⟩ := nnl_mem hy
      left
      unfold Fm.kk
      simp only [n1, n2]
      exact Fm.key_pos (W0 x hx1) n1
/-- What the loop of Rank keeps. -/
structure RkI (base : Nat) (w0 : World) (l : List Nat) (k : Nat) (v3 v4 : Value) (wr : World) : Prop where
  o3 : wr.ownsRow base 3 1 v3 (rkl l k).length (in64 (rkl l k))
  o4 : wr.ownsRow base 3 1 v4 (nnl l k).length (in64 (nnl l k))
  ns : v3 ≠ .slice none 0 0
  dis : v4.ownBlock = none ∨ v4.ownBlock ≠ v3.ownBlock
  kb : Below base w0 wr
  sz : base ≤ wr.heap.size
theorem RkI.num {base : Nat} {w0 : World} {l : List Nat} {k : Nat} {v3 v4 v' : Value} {wr w' : World} {o : Obj} (T : RkI base w0 l k v3 v4 wr) (hN : Fm.isN (l.getD k 0) = false)
    (o' : w'.ownsRow base 3 1 v' ((rkl l k).length + 1) (in64 (rkl l k) ++ [.int .i64 (k : Int)])) (g : (wr.alloc o).grownBy w' v3.ownBlock) (hn : ¬ v' = .slice none 0 0) (ha : v'.ownBlock = v3.ownBlock ∨ v'.ownBlock = some (wr.heap.size + 1)) : RkI base w0 l (k + 1) v' v4 w' := by
  obtain ⟨e1, e2⟩ := rkl_num hN
  have hs : (wr.alloc o).heap.size = wr.heap.size + 1 := by simp
  refine ⟨?_, ?_, hn, ?_, ?_, ?_⟩
  · rw [e1, in64_app]; simpa [in64] using o'
  · rw [e2]; exact (T.o4.alloc o).kept g T.dis
  · rcases ha with ha | ha
    · rw [ha]; exact T.dis
    · cases h4 : v4.ownBlock with
      | none => exact .inl rfl
      | some q => right; rw [ha]; have := T.o4.lt q h4; intro e; injection e with e; omega
  · exact (T.kb.alloc T.sz o).grown g (by have := T.sz; omega) (fun q hq => (T.o3.lt q hq).1)
  · have := T.sz; have := g.size; omega
theorem RkI.nan {base : Nat} {w0 : World} {l : List Nat} {k : Nat} {v3 v4 v' : Value} {wr w' : World} {o : Obj} (T : RkI base w0 l k v3 v4 wr) (hN : Fm.isN (l.getD k 0) = true)
    (o' : w'.ownsRow base 3 1 v' ((nnl l k).length + 1) (in64 (nnl l k) ++ [.int .i64 (k : Int)])) (g : (wr.alloc o).grownBy w' v4.ownBlock) (ha : v'.ownBlock = v4.ownBlock ∨ v'.ownBlock = some (wr.heap.size + 1)) : RkI base w0 l (k + 1) v3 v' w' := by
  obtain ⟨e1, e2⟩ := rkl_nan hN
  have hs : (wr.alloc o).heap.size = wr.heap.size + 1 := by simp
  refine ⟨?_, ?_, T.ns, ?_, ?_, ?_⟩
  · rw [e1]
    refine (T.o3.alloc o).kept g ?_
    cases h3 : v3.ownBlock with
    | none => exact .inl rfl
    | some q =>
      right
      rcases T.dis with d | d
      · rw [d]; intro e; cases e
      · rw [← h3]; exact Ne.symm d
  · rw [e2, in64_app]; simpa [in64] using o'
  · rcases ha with ha | ha
    · rw [ha]; exact T.dis
    · right
      rw [ha]
      intro e
      have := T.o3.lt _ e.symm
      omega
  · exact (T.kb.alloc T.sz o).grown g (by have := T.sz; omega) (fun q hq => (T.o4.lt q hq).1)
  · have := T.sz; have := g.size; omega
theorem wpList_appR {ops : Array Oper} {rest : List Oper} {o : Oper} {a : Act} {w : World} {Q : Exit → Act → World → Prop} (hgd : o.guard = none) (s x : Operand) (ho : o.op = .call { callee := .builtin .append, args := #[s, x], argTypes := #[24, 24] })
    (base : Nat) (v : Value) (n : Nat) (xs : List Nat) (hs : a.eval s = v) (hown : w.ownsRow base 3 1 v n (in64 xs)) (A : Option Addr) (L c : Nat) (l : List Nat) (hx : a.eval x = .slice A L c) (hL : l.length = L) (hA : A = none → c = 0) (hr : IsRow1 w A (in64 l))
    (hlen : n + L ≤ 1099511627776) (hbase : base ≤ w.heap.size)
    (h : ∀ v' w', w'.ownsRow base 3 1 v' (n + L) (in64 (xs ++ l)) → w.grownBy w' v.ownBlock → wpList Tryd.prog ops Q rest (a.put o.dst v') w') : wpList Tryd.prog ops Q (o :: rest) a w :=
  wpList_plain hgd fun _ hK => wp_appR s x ho base v n xs hs hown A L c l hx hL hA hr hlen hbase fun v' w' h1 h2 => hK _ _ (h v' w' h1 h2)
theorem own_formI {w : World} {base n : Nat} {v : Value} {l : List Nat} (h : w.ownsRow base 3 1 v n (in64 l)) : ∃ A c, v = .slice A n c ∧ (A = none → c = 0) ∧ IsRow1 w A (in64 l) := by
  obtain ⟨A, c, e, hr⟩ := own_isrow h
  refine ⟨A, c, e, fun hA => ?_, hr⟩
  rcases h.2 with ⟨e', _⟩ | ⟨g, cap, cur, e', _⟩
  · rw [e] at e'; injection e'
  · rw [e, hA] at e'; injection e' with e'; cases e'
end Go.Proofs.YtmdpeifpgnkbiaaDoor
