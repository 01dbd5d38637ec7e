/-
  Rows of ints appended to, with where they lie afterwards; what turns in a world but some blocks (Only); a pool in memory (PoolAt). Conditions: none.
-/
import Derived.Test.YtaklabggojfijaaIc
namespace Go.Proofs.Ytaklabggojfijaa
open Go.RowKit

/-- Nothing that was there has turned but blocks of S. -/
structure Only (S : Nat → Prop) (w w' : World) : Prop where
  os : w'.os = w.os
  tape : w'.tape = w.tape
  output : w'.output = w.output
  size : w.heap.size ≤ w'.heap.size
  block : ∀ k, k < w.heap.size → ¬ S k → w'.heap[k]? = w.heap[k]?
theorem Only.refl (S : Nat → Prop) (w : World) : Only S w w := ⟨rfl, rfl, rfl, Nat.le_refl _, fun _ _ _ => rfl⟩
theorem Only.trans {S : Nat → Prop} {a b c : World} (h : Only S a b) (k : Only S b c) : Only S a c :=
  ⟨k.os.trans h.os, k.tape.trans h.tape, k.output.trans h.output, Nat.le_trans h.size k.size, fun i hi hS => (k.block i (Nat.lt_of_lt_of_le hi h.size) hS).trans (h.block i hi hS)⟩
theorem Only.mono {S S' : Nat → Prop} {w w' : World} (h : Only S w w') (hS : ∀ k, k < w.heap.size → S k → S' k) : Only S' w w' := ⟨h.os, h.tape, h.output, h.size, fun k hk hn => h.block k hk fun hs => hn (hS k hk hs)⟩
theorem Only.ofBelow {S : Nat → Prop} {w w' : World} (h : Below w.heap.size w w') : Only S w w' := ⟨h.os, h.tape, h.output, h.size, fun k hk _ => h.block k hk⟩
theorem Only.ofGrown {S : Nat → Prop} {w w' : World} {row : Option Nat} (h : w.grownBy w' row) (hS : ∀ k, row = some k → S k) : Only S w w' := ⟨h.os, h.tape, h.output, h.size, fun k hk hn => h.block k hk fun e => hn (hS k e.symm)⟩
theorem Only.ofSet {S : Nat → Prop} {w : World} {a : Addr} (hS : S a.block) (v : Value) : Only S w (w.setCell a v) :=
  have h := (Below.refl a.block w).setCell (p := a) (Nat.le_refl _) v
  ⟨h.os, h.tape, h.output, h.size, fun k _ hn => Below.heap_setCell w a v k fun e => hn (e ▸ hS)⟩
theorem Only.below {S : Nat → Prop} {w w' : World} {base : Nat} (h : Only S w w') (hS : ∀ k, S k → base ≤ k) (hb : base ≤ w.heap.size) : Below base w w' :=
  ⟨h.os, h.tape, h.output, h.size, fun k hk => h.block k (by omega) fun hs => by have := hS k hs; omega⟩
theorem Only.cell {S : Nat → Prop} {w w' : World} (h : Only S w w') {a : Addr} {v : Value} (hs : ¬ S a.block) (hc : w.cell? a = some v) : w'.cell? a = some v := by
  rw [← hc]
  exact World.cell?_of_block (h.block _ (World.block_lt_of_cell? w _ hc) hs)
theorem own_only {S : Nat → Prop} {w w' : World} {base e s n : Nat} {v : Value} {xs : List Value} (h : w.ownsRow base e s v n xs) (t : Only S w w') (hf : ∀ k, v.ownBlock = some k → ¬ S k) : w'.ownsRow base e s v n xs := by
  refine ⟨h.1, ?_⟩
  rcases h.2 with hn | ⟨g, cap, cur, rfl, hbg, hg, rest⟩
  · exact .inl hn
  · exact .inr ⟨g, cap, cur, rfl, hbg, (t.block g (Array.getElem?_eq_some_iff.1 hg).1 (hf g rfl)).trans hg, rest⟩

/-- What an appended row lies in: what it lay in, or a new block. -/
def Near (w : World) (v v' : Value) : Prop := ∀ k, v'.ownBlock = some k → v.ownBlock = some k ∨ w.heap.size ≤ k
theorem Near.same (w : World) (v : Value) : Near w v v := fun _ h => .inl h
theorem Near.new {w : World} {v v' : Value} {base e s n : Nat} {w' : World} {xs : List Value} (h : w'.ownsRow base e s v' n xs) (hb : w.heap.size ≤ base) : Near w v v' := fun k hk => .inr (Nat.le_trans hb (h.lt k hk).1)
set_option maxRecDepth 100000 in
/-- append(v, l...) of ints: v is one's own, l is read; where the outcome lies. -/
theorem wp_appO {o : Oper} {a : Act} {w : World} {K : Act → World → Prop} {Q : Exit → Act → World → Prop} (s x : Operand) (ho : o.op = .call { callee := .builtin .append, args := #[s, x], argTypes := #[30, 30] })
    (base : Nat) (v : Value) (n : Nat) (xs : List Int) (hs : a.eval s = v) (hown : w.ownsRow base 3 1 v n (zs xs)) (ad : Addr) (L c : Nat) (l : List Int) (hx : a.eval x = .slice (some ad) L c) (hL : l.length = L) (h0 : 0 < L) (hr : IsZ w (some ad) l)
    (hlen : n + L ≤ 1099511627776) (hbase : base ≤ w.heap.size)
    (h : ∀ v' w', w'.ownsRow base 3 1 v' (n + L) (zs (xs ++ l)) → w.grownBy w' v.ownBlock → Near w v v' → K (a.put o.dst v') w') : o.wp Try.prog a w K Q := by
  obtain ⟨i0, hi, hz0, hz1, hz2⟩ := info_parts Try.infoZ
  subst hL
  have hcell : ∀ j u, (zs l)[j]? = some u → w.cell? (ad.add j) = some u := fun j u hu => by
    have hj : j < l.length := by
      rcases Nat.lt_or_ge j l.length with h1 | h1
      · exact h1
      · rw [List.getElem?_eq_none (by rw [zs_len]; exact h1)] at hu; cases hu
    obtain ⟨b, off, e, hc⟩ := hr (by omega)
    injection e with e
    subst e
    have e2 : (⟨b, off, none⟩ : Addr).add j = ⟨b, off + j, none⟩ := by unfold Addr.add; split <;> simp_all
    rw [e2, hc j hj, ← hu]
    simp [zs, List.getD, List.getElem?_eq_getElem hj]
  have hone : ∀ u ∈ zs l, u.oneCell' = true := fun u hu => by
    simp only [zs, List.mem_map] at hu
    obtain ⟨_, _, rfl⟩ := hu
    rfl
  obtain ⟨v', w', hrun, h2, h3, _⟩ := run_append_own (P := Try.prog) w base 30 o.type 3 i0 (.int .i64 0) 1 8 Try.underlying30 hi hz0 hz1 hz2 rfl (by decide) v n _ hown ad l.length c (zs l) (by rw [zs_len, Nat.mul_one]) hcell hone (by unfold maxLen; omega) (by omega) hbase
  have hnear : Near w v v' := by
    intro k hk
    rcases hown.2 with ⟨rfl, rfl⟩ | ⟨g, cap, cur, rfl, hbg, hg, hnc, hcm, hcs, htake⟩
    · have hx0 : zs xs = [] := List.eq_nil_of_length_eq_zero (by simpa using hown.1)
      have hr2 := run_append_nil (P := Try.prog) w 30 o.type 3 i0 (.int .i64 0) Try.underlying30 hi hz0 ad l.length c (zs l) (by rw [zs_len, hz1, Nat.mul_one]) hcell h0 (by omega) (by rw [hz2]; omega)
      rw [hrun] at hr2
      injection hr2 with e1 e2
      subst e1
      injection hk with hk
      exact .inr (by rw [← hk]; exact Nat.le_refl _)
    · by_cases hroom : n + l.length ≤ cap
      · have hr2 := run_append_room (P := Try.prog) w 30 o.type 3 i0 Try.underlying30 hi g n cap cur hg ad l.length c (zs l) (by rw [zs_len, hz1, Nat.mul_one]) hcell hone hroom (by rw [zs_len, hcs, hz1]; omega)
        rw [hrun] at hr2
        injection hr2 with e1 e2
        subst e1
        exact .inl hk
      · have holds : ∀ j u, (zs xs)[j]? = some u → w.cell? ((⟨g, 0, none⟩ : Addr).add j) = some u := hown.cells (g := g) rfl
        have hr2 := run_append_grow (P := Try.prog) w 30 o.type 3 i0 (.int .i64 0) Try.underlying30 hi hz0 ⟨g, 0, none⟩ n cap (zs xs) (by rw [hown.1, hz1]) holds ad l.length c (zs l) (by rw [zs_len, hz1, Nat.mul_one]) hcell (by omega) (by omega) (growslice_fits (by omega) (by rw [hz2]; omega))
        rw [hrun] at hr2
        injection hr2 with e1 e2
        subst e1
        injection hk with hk
        exact .inr (by rw [← hk]; exact Nat.le_refl _)
  unfold Oper.wp execOp
  simp only [ho, resolve, invoke, builtin, Sem.run_bind, Sem.run_pure, Result.andThen_ok, List.map_toArray, List.map_cons, List.map_nil, hs, hx, hrun]
  exact h v' w' (by rw [zs_app]; exact h2) h3 hnear
theorem wpList_appO {ops : Array Oper} {rest : List Oper} {o : Oper} {a : Act} {w : World} {Q : Exit → Act → World → Prop} (hgd : o.guard = none) (s x : Operand) (ho : o.op = .call { callee := .builtin .append, args := #[s, x], argTypes := #[30, 30] })
    (base : Nat) (v : Value) (n : Nat) (xs : List Int) (hs : a.eval s = v) (hown : w.ownsRow base 3 1 v n (zs xs)) (ad : Addr) (L c : Nat) (l : List Int) (hx : a.eval x = .slice (some ad) L c) (hL : l.length = L) (h0 : 0 < L) (hr : IsZ w (some ad) l)
    (hlen : n + L ≤ 1099511627776) (hbase : base ≤ w.heap.size)
    (h : ∀ v' w', w'.ownsRow base 3 1 v' (n + L) (zs (xs ++ l)) → w.grownBy w' v.ownBlock → Near w v v' → wpList Try.prog ops Q rest (a.put o.dst v') w') : wpList Try.prog ops Q (o :: rest) a w :=
  wpList_plain hgd fun _ hK => wp_appO s x ho base v n xs hs hown ad L c l hx hL h0 hr hlen hbase fun v' w' h1 h2 h3 => hK _ _ (h v' w' h1 h2 h3)

/-- A pool in memory: so many may be out, the greatest number ever, those that are out, in the row v. -/
structure PoolAt (w : World) (b : Nat) (m x : Int) (l : List Int) (v : Value) : Prop where
  c0 : w.cell? ⟨b, 0, none⟩ = some (.int .i64 m)
  c1 : w.cell? ⟨b, 1, none⟩ = some (.int .i64 x)
  c2 : w.cell? ⟨b, 2, none⟩ = some v
  fr : ∀ j, w.frozen? ⟨b, j, none⟩ = false
  own : w.ownsRow (b + 1) 3 1 v l.length (zs l)
  up : l.Pairwise (· < ·)
  top : ∀ y ∈ l, y ≤ x
  ge : 0 ≤ x
  le : x ≤ 2147483647
  sm : l.length ≤ 1048576
/-- The blocks of a pool. -/
def Pb (b : Nat) (v : Value) (k : Nat) : Prop := k = b ∨ v.ownBlock = some k
section
variable {w w' : World} {b : Nat} {m x : Int} {l : List Int} {v : Value}
theorem PoolAt.lt (h : PoolAt w b m x l v) : b < w.heap.size := World.block_lt_of_cell? w _ h.c0
theorem PoolAt.blocks (h : PoolAt w b m x l v) : ∀ k, Pb b v k → b ≤ k ∧ k < w.heap.size := fun k hk => by
  rcases hk with rfl | hk
  · exact ⟨Nat.le_refl _, h.lt⟩
  · have := h.own.lt k hk
    omega
theorem PoolAt.only {S : Nat → Prop} (h : PoolAt w b m x l v) (t : Only S w w') (hS : ∀ k, Pb b v k → ¬ S k) : PoolAt w' b m x l v := by
  have hb := t.block b h.lt (hS b (.inl rfl))
  exact ⟨(World.cell?_of_block (a := ⟨b, 0, none⟩) hb).trans h.c0, (World.cell?_of_block (a := ⟨b, 1, none⟩) hb).trans h.c1, (World.cell?_of_block (a := ⟨b, 2, none⟩) hb).trans h.c2, fun j => (World.frozen?_of_block (a := ⟨b, j, none⟩) hb).trans (h.fr j), own_only h.own t fun k hk => hS k (.inr hk), h.up, h.top, h.ge, h.le, h.sm⟩
theorem PoolAt.below (h : PoolAt w b m x l v) (hb : Below w.heap.size w w') : PoolAt w' b m x l v :=
  h.only (Only.ofBelow (S := fun _ => False) hb) fun _ _ h => h
theorem PoolAt.drewN (h : PoolAt w b m x l v) (q : Nat) : PoolAt (w.drewN q) b m x l v := ⟨h.c0, h.c1, h.c2, h.fr, h.own, h.up, h.top, h.ge, h.le, h.sm⟩
end
end Go.Proofs.Ytaklabggojfijaa
