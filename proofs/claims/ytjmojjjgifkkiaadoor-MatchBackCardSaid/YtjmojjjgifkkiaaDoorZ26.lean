/-
  Slices of labels appended to and cut. Conditions: lengths fit.
  What the reference's MakeSet does: the set of any labels, or that there is none (La.IsMk). Conditions: lengths fit.
-/
import Derived.Test.YtjmojjjgifkkiaaDoorProg
import Derived.Test.YtjmojjjgifkkiaaDoorZ23
import Derived.Test.YtjmojjjgifkkiaaDoorZ02
import Derived.Test.YtjmojjjgifkkiaaDoorZ24
import Derived.Test.YtjmojjjgifkkiaaDoorZ25
import Derived.Laws.OwnMore
import Derived.Below
import Derived.Laws.AppendOwn
import Derived.BigQuiet
import Derived.Laws.StructEq
import Derived.WalkKit
import Derived.WalkSpells
import Derived.WalkLawsBesides
import Derived.Lib.Hide
import Derived.Lib.AppendStr
import Derived.Laws.BytesArg
import Derived.Shelf.Bytes.SlSmallAll
import Derived.Laws.AppendOwnNone
import Derived.KernelRfl
import Derived.Deep.RegionHeld3
import Derived.Lib.Bytealg
namespace Go.Proofs.YtjmojjjgifkkiaaDoor
open Go.RowKit La

theorem Tryd.infoL : (Tryd.prog.info? 23).map (fun i => (i.zero, i.size, i.bytes)) = some (some (.agg #[.string ⟨#[]⟩, .string ⟨#[]⟩]), 2, 32) := by kernel_rfl
theorem lc_one (l : List Lab) : ∀ u ∈ lc l, u.oneCell' = true := by
  intro u hu
  simp only [lc, List.mem_flatMap] at hu
  obtain ⟨x, _, hx⟩ := hu
  simp at hx
  rcases hx with rfl | rfl <;> rfl
theorem labs_cells {w : World} {ad : Addr} {l : List Lab} (hr : IsLabs w (some ad) l) : ∀ j u, (lc l)[j]? = some u → w.cell? (ad.add j) = some u := by
  intro j u hu
  have hj : j < (lc l).length := by
    rcases Nat.lt_or_ge j (lc l).length with h1 | h1
    · exact h1
    · rw [List.getElem?_eq_none h1] at hu; cases hu
  rw [lc_len] at hj
  obtain ⟨b, off, e, hc⟩ := hr (by omega)
  injection e with e
  subst e
  have e2 : (⟨b, off, none⟩ : Addr).add j = ⟨b, off + j, none⟩ := by unfold Addr.add; split <;> simp_all
  rw [e2]
  obtain ⟨c1, c2⟩ := hc (j / 2) (by omega)
  obtain ⟨g1, g2⟩ := lc_get l (j / 2) (by omega)
  by_cases hp : j % 2 = 0
  · have ej : j / 2 * 2 = j := by omega
    rw [ej] at c1 g1
    rw [c1, ← g1, hu]
  · have ej : j / 2 * 2 + 1 = j := by omega
    rw [ej] at g2
    rw [Nat.add_assoc, ej] at c2
    rw [c2, ← g2, hu]
/-- append(v, l...) of labels: v is one's own, l is read. -/
theorem wp_appL {o : Oper} {a : Act} {w : World} {K : Act → World → Prop} {Q : Exit → Act → World → Prop} (s x : Operand) (ho : o.op = .call { callee := .builtin .append, args := #[s, x], argTypes := #[24, 24] })
    (base : Nat) (v : Value) (n : Nat) (xs : List Lab) (hs : a.eval s = v) (hown : w.ownsRow base 23 2 v n (lc xs)) (A : Option Addr) (L c : Nat) (l : List Lab) (hx : a.eval x = .slice A L c) (hL : l.length = L) (hA : A = none → c = 0) (hr : IsLabs w A l)
    (hlen : n + L ≤ 1099511627776) (hbase : base ≤ w.heap.size)
    (h : ∀ v' w', w'.ownsRow base 23 2 v' (n + L) (lc (xs ++ l)) → w.grownBy w' v.ownBlock → K (a.put o.dst v') w') : o.wp Tryd.prog a w K Q := by
  obtain ⟨i0, hi, hz0, hz1, hz2⟩ := info_parts Tryd.infoL
  subst hL
  rcases A with _ | ad
  · obtain rfl := hA rfl
    have hl0 : l = [] := by
      rcases Nat.eq_zero_or_pos l.length with h0 | h0
      · exact List.eq_nil_of_length_eq_zero h0
      · obtain ⟨_, _, e, _⟩ := hr h0; cases e
    subst hl0
    have hrun := run_append_owned_none (P := Tryd.prog) (w := w) base 24 o.type 23 i0 2 Tryd.underlying24 hi v n _ hown
    have hx' : a.eval x = .slice none 0 0 := hx
    unfold Oper.wp
    simp [execOp, ho, resolve, invoke, builtin, hs, hx', hrun, Result.andThen]
    exact h v w (by simpa using hown) (World.grownBy.refl w _)
  · refine wp_append_own w s x 24 ho base 23 i0 (.agg #[.string ⟨#[]⟩, .string ⟨#[]⟩]) 2 32 Tryd.underlying24 hi hz0 hz1 hz2 rfl (by decide) v n _ hs hown ad l.length c (lc l) hx (lc_len l) (labs_cells hr) (lc_one l) (by unfold maxLen; omega) (by omega) hbase ?_
    intro v' w' h1 h2 _
    exact h v' w' (by rw [lc_app]; exact h1) h2
theorem wpList_appL {ops : Array Oper} {rest : List Oper} {o : Oper} {a : Act} {w : World} {Q : Exit → Act → World → Prop} (hgd : o.guard = none) (s x : Operand) (ho : o.op = .call { callee := .builtin .append, args := #[s, x], argTypes := #[24, 24] })
    (base : Nat) (v : Value) (n : Nat) (xs : List Lab) (hs : a.eval s = v) (hown : w.ownsRow base 23 2 v n (lc xs)) (A : Option Addr) (L c : Nat) (l : List Lab) (hx : a.eval x = .slice A L c) (hL : l.length = L) (hA : A = none → c = 0) (hr : IsLabs w A l)
    (hlen : n + L ≤ 1099511627776) (hbase : base ≤ w.heap.size)
    (h : ∀ v' w', w'.ownsRow base 23 2 v' (n + L) (lc (xs ++ l)) → w.grownBy w' v.ownBlock → wpList Tryd.prog ops Q rest (a.put o.dst v') w') : wpList Tryd.prog ops Q (o :: rest) a w :=
  wpList_plain hgd fun _ hK => wp_appL s x ho base v n xs hs hown A L c l hx hL hA hr hlen hbase fun v' w' h1 h2 => hK _ _ (h v' w' h1 h2)
theorem lcut_lo (W : World) (g k c m : Nat) (hm : m ≤ c) : (Instr.slice 24 (.slice (some ⟨g, 0, none⟩) k c) none (some (.int .i64 (m : Int))) none).run Tryd.prog W = .ok (.slice (some ⟨g, 0, none⟩) m c) W := by
  obtain ⟨i0, hi, hz0, hz1, hz2⟩ := info_parts Tryd.infoL
  simp [Instr.slice, Instr.sliceBounds, Instr.sliceBound, run_underlying Tryd.underlying24, asIntOf, sizeOf, typeInfo, hi, go_sem]
  intro h; omega
theorem lcut_hi (W : World) (g k c m : Nat) (hm : m ≤ k) : (Instr.slice 24 (.slice (some ⟨g, 0, none⟩) k c) (some (.int .i64 (m : Int))) none none).run Tryd.prog W = .ok (.slice (some (if c = m then ⟨g, 0, none⟩ else ⟨g, m * 2, none⟩)) (k - m) (c - m)) W := by
  obtain ⟨i0, hi, hz0, hz1, hz2⟩ := info_parts Tryd.infoL
  simp [Instr.slice, Instr.sliceBounds, Instr.sliceBound, run_underlying Tryd.underlying24, asIntOf, sizeOf, typeInfo, hi, hz1, go_sem]
  by_cases hc : c = m
  · simp [hc]; intro h; omega
  · simp [hc]; intro h; omega
theorem nth_take {l : List Lab} {m j : Nat} (h : j < m) : nth (l.take m) j = nth l j := by simp [nth, List.getD, h]
theorem nth_drop (l : List Lab) (m j : Nat) : nth (l.drop m) j = nth l (m + j) := by simp [nth, List.getD, List.getElem?_drop]
theorem labs_take {w : World} {A : Option Addr} {l : List Lab} (h : IsLabs w A l) (m : Nat) : IsLabs w A (l.take m) := fun hp => by
  obtain ⟨b, off, e, hc⟩ := h (by simp at hp; omega)
  refine ⟨b, off, e, fun j hj => ?_⟩
  have hj' : j < m ∧ j < l.length := by simp at hj; omega
  rw [nth_take hj'.1]
  exact hc j hj'.2
theorem labs_drop {w : World} {g c : Nat} {l : List Lab} (h : IsLabs w (some ⟨g, 0, none⟩) l) (m : Nat) (hc : l.length ≤ c) : IsLabs w (some (if c = m then ⟨g, 0, none⟩ else ⟨g, m * 2, none⟩)) (l.drop m) := fun hp => by
  have hm : m < l.length := by simp at hp; omega
  obtain ⟨b, off, e, hx⟩ := h (by omega)
  injection e with e; injection e with e1 e2
  subst e1 e2
  rw [if_neg (by omega)]
  refine ⟨g, m * 2, rfl, fun j hj => ?_⟩
  have := hx (m + j) (by simp at hj; omega)
  rw [nth_drop]
  have q1 : 0 + (m + j) * 2 = m * 2 + j * 2 := by omega
  rw [q1] at this
  exact this
theorem own_baseL {w : World} {b1 b2 n e s : Nat} {v : Value} {xs : List Value} (h : w.ownsRow b2 e s v n xs) (hb : b1 ≤ b2) : w.ownsRow b1 e s v n xs := by
  refine ⟨h.1, ?_⟩
  rcases h.2 with hn | ⟨g, cap, cur, e, hg, rest⟩
  · exact .inl hn
  · exact .inr ⟨g, cap, cur, e, by omega, rest⟩
theorem own_geL {w : World} {base e s n : Nat} {v : Value} {xs : List Value} (h : w.ownsRow base e s v n xs) : ∀ g, v.ownBlock = some g → base ≤ g := fun g hg => (h.lt g hg).1
theorem own_keepL {w1 w2 : World} {base e s n : Nat} {v : Value} {xs : List Value} (h : w1.ownsRow base e s v n xs) (hb : Below w1.heap.size w1 w2) : w2.ownsRow base e s v n xs := by
  refine ⟨h.1, ?_⟩
  rcases h.2 with hn | ⟨g, cap, cur, rfl, hbg, hg, rest⟩
  · exact .inl hn
  · exact .inr ⟨g, cap, cur, rfl, hbg, (hb.block g (Array.getElem?_eq_some_iff.1 hg).1).trans hg, rest⟩
theorem lit_lab (w : World) (x : Lab) : IsLabs (w.alloc (.cells #[.string x.1, .string x.2] 23)) (some ⟨w.heap.size, 0, none⟩) [x] := fun _ => ⟨w.heap.size, 0, rfl, fun j hj => by
  obtain rfl : j = 0 := by simpa using hj
  rw [cell_of_row _ w.heap.size _ _ 23 (0, 0) (heap_alloc_new w _), cell_of_row _ w.heap.size _ _ 23 (0, 0) (heap_alloc_new w _)]
  simp [nth]⟩
/-- A slice of labels that a call has made. -/
def MadeLabs (w : World) (ls : List Lab) (v : Value) (w' : World) : Prop := w'.ownsRow w.heap.size 23 2 v ls.length (lc ls)
theorem own_formL {w : World} {base n : Nat} {v : Value} {l : List Lab} (h : w.ownsRow base 23 2 v n (lc l)) : ∃ A c, v = .slice A n c ∧ n ≤ c ∧ (A = none → c = 0) ∧ IsLabs w A l ∧ l.length = n := by
  rcases h.2 with ⟨rfl, rfl⟩ | ⟨g, cap, cur, rfl, _, _, hc, _⟩
  · obtain ⟨h1, h2⟩ := own_labs h
    exact ⟨_, _, rfl, Nat.le_refl _, fun _ => rfl, h1, h2⟩
  · obtain ⟨h1, h2⟩ := own_labs h
    exact ⟨_, _, rfl, hc, (fun e => by cases e), h1, h2⟩

end Go.Proofs.YtjmojjjgifkkiaaDoor
namespace Go.Proofs.YtjmojjjgifkkiaaDoor
open Go.RowKit La

/-- One label more, put where it belongs. -/
theorem ins_step {ls out : List Lab} {k m : Nat} (hp : out.Perm (ls.take k)) (hs : out.Pairwise fun x y => lt y.1 x.1 = false) (hk : k < ls.length) (hol : out.length = k) (hm : m ≤ k)
    (h1 : ∀ j, m ≤ j → j < k → lt (nth ls k).1 (nth out j).1 = true) (h2 : 0 < m → lt (nth ls k).1 (nth out (m - 1)).1 = false) :
    (out.take m ++ nth ls k :: out.drop m).Perm (ls.take (k + 1)) ∧ (out.take m ++ nth ls k :: out.drop m).Pairwise fun x y => lt y.1 x.1 = false := by
  have hs' := hs
  rw [← List.take_append_drop m out, List.pairwise_append] at hs'
  obtain ⟨s1, s2, s3⟩ := hs'
  constructor
  · have e : ls.take (k + 1) = ls.take k ++ [nth ls k] := by rw [List.take_succ_eq_append_getElem hk, nth_eq hk]
    rw [e]
    refine List.perm_middle.trans ?_
    rw [List.take_append_drop]
    refine (List.Perm.cons _ hp).trans ?_
    exact (List.perm_append_comm (l₁ := [nth ls k]) (l₂ := ls.take k))
  · rw [List.pairwise_append]
    refine ⟨s1, ?_, ?_⟩
    · rw [List.pairwise_cons]
      refine ⟨fun y hy => ?_, s2⟩
      obtain ⟨j, hj, rfl⟩ := List.getElem_of_mem hy
      have hj' : m + j < out.length := by simp at hj; omega
      have := h1 (m + j) (by omega) (by omega)
      rw [nth_eq hj'] at this
      rw [List.getElem_drop]
      exact lt_asymm this
    · intro y hy z hz
      rcases List.mem_cons.1 hz with rfl | hz
      · obtain ⟨j, hj, rfl⟩ := List.getElem_of_mem hy
        have hj' : j < m ∧ j < out.length := by simp at hj; omega
        rw [List.getElem_take]
        have h3 := h2 (by omega)
        have hm1 : m - 1 < out.length := by omega
        rw [nth_eq hm1] at h3
        by_cases ej : j = m - 1
        · subst ej; exact h3
        · have h4 := List.pairwise_iff_getElem.1 hs j (m - 1) hj'.2 hm1 (by omega)
          cases h5 : lt (nth ls k).1 (out[j]).1 with
          | false => rfl
          | true =>
            cases h6 : lt (out[j]).1 (out[m - 1]).1 with
            | true => have := lt_trans h5 h6; rw [h3] at this; cases this
            | false => have := lt_total h6 h4; rw [this, h3] at h5; cases h5
      · exact s3 y hy z hz
/-- What the outer loop keeps. -/
structure MkI (w : World) (ls : List Lab) (k : Nat) (out : List Lab) (v : Value) (wr : World) : Prop where
  ko : wr.ownsRow w.heap.size 23 2 v k (lc out)
  kp : out.Perm (ls.take k)
  ks : out.Pairwise fun x y => lt y.1 x.1 = false
  kb : Below w.heap.size w wr
theorem isLabs_at {w : World} {b off : Nat} {l : List Lab} (h : IsLabs w (some ⟨b, off, none⟩) l) {j : Nat} (hj : j < l.length) : w.cell? ⟨b, off + j * 2, none⟩ = some (.string (nth l j).1) ∧ w.cell? ⟨b, off + j * 2 + 1, none⟩ = some (.string (nth l j).2) := by
  obtain ⟨b', off', e, hc⟩ := h (by omega)
  injection e with e; injection e with e1 e2
  subst e1 e2
  exact hc j hj
/-- What Make gives back. -/
def mkRes : Option (List Lab) → Value → Value → World → World → Prop
  | none, r, _, _, _ => r = .tuple #[.slice none 0 0, .bool false]
  | some l, r, v, w, w' => r = .tuple #[v, .bool true] ∧ w'.ownsRow w.heap.size 23 2 v l.length (lc l)

set_option maxRecDepth 100000 in
set_option maxHeartbeats 4000000 in
theorem makeset_any (ls : List Lab) (A : Option Addr) (cap : Nat) (w : World) (hl : ls.length ≤ 1048576) (hsm : Small ls) (ha : IsLabs w A ls) :
    Calls Tryd.prog 51 #[.slice A ls.length cap] w fun e w' => (∃ (o : Option (List Lab)) (r v : Value), IsMk ls o ∧ e = .returned r ∧ mkRes o r v w w') ∧ Below w.heap.size w w' := by
  have HA := Lib.hid ha
  have HSM := Lib.hid hsm
  clear ha hsm
  generalize hn : ls.length = n at *
  have HN := Lib.hid hn
  clear hn
  go_enter Tryd.func51, Tryd.ntmps51
  go_wp2
  go_loopw [4, 5] (fun v i wr => ∃ (k : Nat) (out : List Lab), k ≤ n ∧ i = .int .i64 (k : Int) ∧ Hid (MkI w ls k out v wr)) (fun _ i _ => n - (intOf i).toNat)
  case atStart => exact ⟨0, [], by omega, rfl, World.ownsRow_nil _ _ _ _, List.Perm.refl _, List.Pairwise.nil, Below.refl _ _⟩
  case round =>
    obtain ⟨k, out, hk, rfl, HT⟩ := hrel
    by_cases hkn : k < n
    · obtain ⟨b, off, rfl, hc⟩ := HA.out (by rw [HN.out]; omega)
      have hkz : (k : Int) < (n : Int) := by omega
      have HC : Hid (∀ W, Below w.heap.size w W → W.cell? ⟨b, off + k * 2, none⟩ = some (.string (nth ls k).1) ∧ W.cell? ⟨b, off + k * 2 + 1, none⟩ = some (.string (nth ls k).2)) := fun W hW => isLabs_at (HA.out.below hW) (by rw [HN.out]; exact hkn)
      clear hc
      obtain ⟨X, hX⟩ : ∃ X, (nth ls k).1 = X := ⟨_, rfl⟩
      obtain ⟨Y, hY⟩ : ∃ Y, (nth ls k).2 = Y := ⟨_, rfl⟩
      have HXY : Hid (nth ls k = (X, Y)) := by show _ = _; rw [← hX, ← hY]
      rw [hX, hY] at HC
      clear hX hY
      rcases HT.out.ko.2 with ⟨rfl, rfl⟩ | ⟨g, c, cur, rfl, hbg, hgh, hkc, _, _, _⟩
      · have HO : Hid (out = []) := List.Perm.eq_nil (by simpa using HT.out.kp)
        have kb := HT.out.kb
        clear HT
        rename World => wo
        have e0 : ((0 : Nat) : Int) = (0 : Int) := rfl
        simp only [e0, Nat.zero_mul, Nat.add_zero] at HC ⊢
        clear e0
        go_wp2_with fail
        go_loopw [6] (fun nn W => nn = .int .i64 0 ∧ ∃ q, W = wo.drewN q) (fun nn _ => (intOf nn).toNat)
        case atStart => exact ⟨rfl, 0, rfl⟩
        case round =>
          obtain ⟨rfl, hq⟩ := hrel
          have HQ := Lib.hid hq
          clear hq
          have HB : Hid (Below w.heap.size w wr) := by obtain ⟨q, rfl⟩ := HQ.out; exact ⟨kb.os, kb.tape, kb.output, kb.size, kb.block⟩
          go_wp2
          go_quiet (fail)
          have b0q : Below w.heap.size w (wr.drewN nq) := ⟨HB.out.os, HB.out.tape, HB.out.output, HB.out.size, HB.out.block⟩
          generalize wr.drewN nq = wq at b0q ⊢
          have HCW : Hid (∀ W, Below wq.heap.size wq W → W.cell? ⟨b, off, none⟩ = some (.string X) ∧ W.cell? ⟨b, off + 1, none⟩ = some (.string Y)) := fun W hW => HC.out W (b0q.trans (hW.mono b0q.size))
          have HST : Hid ((([] : List Lab).take 0 ++ (X, Y) :: ([] : List Lab).drop 0).Perm (ls.take (0 + 1)) ∧ (([] : List Lab).take 0 ++ (X, Y) :: ([] : List Lab).drop 0).Pairwise fun x y => lt y.1 x.1 = false) := by
            have := ins_step (ls := ls) (out := []) (k := 0) (m := 0) (by simp) List.Pairwise.nil (by rw [HN.out]; omega) rfl (by omega) (fun j _ h => by omega) (fun h => by omega)
            rw [HXY.out] at this
            exact this
          have ROWT : Hid (∀ W, Below wq.heap.size wq W → IsLabs W none (([] : List Lab).take 0)) := fun _ _ h => absurd h (by simp)
          have ROWD : Hid (∀ W, Below wq.heap.size wq W → IsLabs W none (([] : List Lab).drop 0)) := fun _ _ h => absurd h (by simp)
          have ol : ([] : List Lab).length = 0 := rfl
          clear HO
          go_wp2_with fail
          refine wp_region_held_drew (S := fun W => Below wq.heap.size wq W) (by kernel_rfl) ((Below.refl _ _).drew) (fun hHeld => ?_)
          refine held_take 0 33 (v := (.slice none 0 0)) rfl rfl (by kernel_rfl) (by kernel_rfl) (by kernel_rfl) (by rfl) (fun _ _ _ h => h) (by assumption) ?_ ?_
          · intro W hW
            go_simp
          simp only [List.setIfInBounds_toArray, List.set_cons_zero, List.set_cons_succ]
          refine held_take 1 34 (v := (.int .i64 (0 : Int))) rfl rfl (by kernel_rfl) (by kernel_rfl) (by kernel_rfl) (by rfl) (fun _ _ _ h => h) (by assumption) ?_ ?_
          · intro W hW
            go_simp
          simp only [List.setIfInBounds_toArray, List.set_cons_zero, List.set_cons_succ]
          refine held_take 2 35 (v := (.slice none 0 0)) rfl rfl (by kernel_rfl) (by kernel_rfl) (by kernel_rfl) (by rfl) (fun _ _ _ h => h) (by assumption) ?_ ?_
          · intro W hW
            go_simp
          simp only [List.setIfInBounds_toArray, List.set_cons_zero, List.set_cons_succ]
          refine held_take 4 37 (v := (.slice (some ⟨b, off, none⟩) n cap)) rfl rfl (by kernel_rfl) (by kernel_rfl) (by kernel_rfl) (by rfl) (fun _ _ _ h => h) (by assumption) ?_ ?_
          · intro W hW
            go_simp
          simp only [List.setIfInBounds_toArray, List.set_cons_zero, List.set_cons_succ]
          refine held_take 5 38 (v := (.int .i64 (0 : Int))) rfl rfl (by kernel_rfl) (by kernel_rfl) (by kernel_rfl) (by rfl) (fun _ _ _ h => h) (by assumption) ?_ ?_
          · intro W hW
            go_simp
          simp only [List.setIfInBounds_toArray, List.set_cons_zero, List.set_cons_succ]
          refine held_take 6 39 (v := (.pointer (some ⟨b, off, none⟩))) rfl rfl (by kernel_rfl) (by kernel_rfl) (by kernel_rfl) (by rfl) (fun _ _ _ h => h) (by assumption) ?_ ?_
          · intro W hW
            go_simp
          simp only [List.setIfInBounds_toArray, List.set_cons_zero, List.set_cons_succ]
          refine held_take 7 40 (v := (.agg #[.string X, .string Y])) rfl rfl (by kernel_rfl) (by kernel_rfl) (by kernel_rfl) (by rfl) (fun _ _ _ h => h) (by assumption) ?_ ?_
          · intro W hW
            obtain ⟨z1, z2⟩ := HCW.out W hW
            go_simp
          simp only [List.setIfInBounds_toArray, List.set_cons_zero, List.set_cons_succ]
          refine held_take 10 43 (v := (.slice none 0 0)) rfl rfl (by kernel_rfl) (by kernel_rfl) (by kernel_rfl) (by rfl) (fun _ _ _ h => h) (by assumption) ?_ ?_
          · intro W hW
            go_simp
          simp only [List.setIfInBounds_toArray, List.set_cons_zero, List.set_cons_succ]
          refine held_take 11 44 (v := (.int .i64 (0 : Int))) rfl rfl (by kernel_rfl) (by kernel_rfl) (by kernel_rfl) (by rfl) (fun _ _ _ h => h) (by assumption) ?_ ?_
          · intro W hW
            go_simp
          simp only [List.setIfInBounds_toArray, List.set_cons_zero, List.set_cons_succ]
          refine held_take 12 45 (v := (.slice none 0 0)) rfl rfl (by kernel_rfl) (by kernel_rfl) (by kernel_rfl) (by rfl) (fun _ _ _ h => h) (by assumption) ?_ ?_
          · intro W hW
            go_simp
          simp only [List.setIfInBounds_toArray, List.set_cons_zero, List.set_cons_succ]
          have dG : ∀ {x y : World} {q : Option Nat}, x.grownBy y q → x.heap.size ≤ y.heap.size := fun h => h.size
          refine held_two 3 8 rfl rfl (by kernel_rfl) (by rfl) (by rfl) ?_ ?_
          · refine wp_appL (.const (.slice none 0 0)) (.tmp 35) rfl wq.heap.size (.slice none 0 0) 0 [] rfl (World.ownsRow_nil _ _ _ _) _ 0 _ (([] : List Lab).take 0) rfl (by rw [List.length_take, ol]; omega) (fun _ => rfl) (ROWT.out wq.drew ((Below.refl _ _).drew)) (by omega) (Nat.le_refl _) ?_
            intro v1 w4 o1 g1
            have o1' : w4.ownsRow wq.heap.size 23 2 v1 0 (lc (([] : List Lab).take 0)) := by simpa using o1
            have d1 : Below wq.heap.size wq w4 := ((Below.refl _ _).drew).grown g1 (Nat.le_refl _) (fun _ h => by cases h)
            refine ⟨d1, ?_⟩
            show wpAnyH _ _ _ _ _ _ _ ⟨Array.setIfInBounds _ 36 v1, _⟩ _
            simp only [List.setIfInBounds_toArray, List.set_cons_zero, List.set_cons_succ]
            have dZ : Below wq.heap.size wq (w4.alloc (.cells #[.string X, .string Y] 23)) := d1.alloc d1.size _
            refine held_op 8 rfl (by kernel_rfl) (by rfl) ?_
            refine wp_run (v := .slice (some ⟨w4.heap.size, 0, none⟩) 1 1) (w' := w4.alloc (.cells #[.string X, .string Y] 23)) rfl (by go_simp) ⟨dZ, ?_⟩
            simp only [List.setIfInBounds_toArray, List.set_cons_zero, List.set_cons_succ]
            have oZ : (w4.alloc (.cells #[.string X, .string Y] 23)).ownsRow wq.heap.size 23 2 v1 0 (lc (([] : List Lab).take 0)) := o1'.alloc _
            have hsZ : wq.heap.size ≤ (w4.alloc (.cells #[.string X, .string Y] 23)).heap.size := dZ.size
            refine held_op 9 rfl (by kernel_rfl) (by rfl) ?_
            refine wp_appL (.tmp 36) (.tmp 41) rfl wq.heap.size v1 0 (([] : List Lab).take 0) rfl oZ (some ⟨w4.heap.size, 0, none⟩) 1 1 [(X, Y)] rfl rfl (fun e => by cases e) (lit_lab w4 (X, Y)) (by omega) hsZ ?_
            clear o1 g1 o1' d1
            intro v2 w5 o2 g2
            have d2 : Below wq.heap.size wq w5 := dZ.grown g2 dZ.size (fun g hg => by have := own_geL oZ g hg; omega)
            refine ⟨d2, ?_⟩
            show wpAnyH _ _ _ _ _ _ _ ⟨Array.setIfInBounds _ 42 v2, _⟩ _
            simp only [List.setIfInBounds_toArray, List.set_cons_zero, List.set_cons_succ]
            have hs5 : wq.heap.size ≤ w5.heap.size := Nat.le_trans hsZ (dG g2)
            refine held_op 13 rfl (by kernel_rfl) (by rfl) ?_
            refine wp_appL (.tmp 42) (.tmp 45) rfl wq.heap.size v2 (0 + 1) (([] : List Lab).take 0 ++ [(X, Y)]) rfl o2 _ (0 - 0) (0 - 0) (([] : List Lab).drop 0) rfl (by rw [List.length_drop, ol]) (fun _ => rfl) (ROWD.out w5 d2) (by omega) hs5 ?_
            intro v3 w6 o3 g3
            have d3 : Below wq.heap.size wq w6 := d2.grown g3 d2.size (fun g hg => by have := own_geL o2 g hg; omega)
            refine ⟨d3, ?_⟩
            show wpAnyH _ _ _ _ _ _ _ ⟨Array.setIfInBounds _ 46 v3, _⟩ _
            simp only [List.setIfInBounds_toArray, List.set_cons_zero, List.set_cons_succ]
            have R : Hid (MkI w ls (0 + 1) (([] : List Lab).take 0 ++ (X, Y) :: ([] : List Lab).drop 0) v3 w6) := by
              have e : 0 + 1 + (0 - 0) = 0 + 1 := by omega
              have e2 : ([] : List Lab).take 0 ++ [(X, Y)] ++ ([] : List Lab).drop 0 = ([] : List Lab).take 0 ++ (X, Y) :: ([] : List Lab).drop 0 := by simp
              rw [e, e2] at o3
              exact ⟨own_baseL o3 (by have := b0q.size; omega), HST.out.1, HST.out.2, b0q.trans (d3.mono b0q.size)⟩
            clear o3 g3 o2 g2
            refine held_take 14 4 (v := v3) rfl rfl (by kernel_rfl) (by kernel_rfl) (by kernel_rfl) (by rfl) (fun _ _ _ h => h) (by assumption) ?_ ?_
            · intro W hW
              go_simp
            simp only [List.setIfInBounds_toArray, List.set_cons_zero, List.set_cons_succ]
            refine wpAnyH_done (by kernel_rfl) ?_ _
            clear d2 d3 dZ oZ hsZ HST
            go_wp2
            go_roundw
            case rel => exact ⟨0 + 1, _, by omega, by go_num, R⟩
            case measure => simp [intOf]; omega
          · have dA : Below wq.heap.size wq (wq.drew.alloc (.cells #[.string X, .string Y] 23)) := ((Below.refl _ _).drew).alloc (Nat.le_refl _) _
            refine wp_run (v := .slice (some ⟨wq.heap.size, 0, none⟩) 1 1) (w' := wq.drew.alloc (.cells #[.string X, .string Y] 23)) rfl (by go_simp) ⟨dA, ?_⟩
            simp only [List.setIfInBounds_toArray, List.set_cons_zero, List.set_cons_succ]
            have hsA : wq.heap.size + 1 ≤ (wq.drew.alloc (.cells #[.string X, .string Y] 23)).heap.size := by simp
            refine held_op 3 rfl (by kernel_rfl) (by rfl) ?_
            refine wp_appL (.const (.slice none 0 0)) (.tmp 35) rfl (wq.heap.size + 1) (.slice none 0 0) 0 [] rfl (World.ownsRow_nil _ _ _ _) _ 0 _ (([] : List Lab).take 0) rfl (by rw [List.length_take, ol]; omega) (fun _ => rfl) (ROWT.out (wq.drew.alloc (.cells #[.string X, .string Y] 23)) dA) (by omega) hsA ?_
            intro v1 w4 o1 g1
            have oZ : w4.ownsRow (wq.heap.size + 1) 23 2 v1 0 (lc (([] : List Lab).take 0)) := by simpa using o1
            have dZ : Below wq.heap.size wq w4 := dA.grown g1 dA.size (fun _ h => by cases h)
            have dB : Below (wq.drew.alloc (.cells #[.string X, .string Y] 23)).heap.size (wq.drew.alloc (.cells #[.string X, .string Y] 23)) w4 := (Below.refl _ _).grown g1 (Nat.le_refl _) (fun _ h => by cases h)
            have lr : IsLabs w4 (some ⟨wq.heap.size, 0, none⟩) [(X, Y)] := (lit_lab wq.drew (X, Y)).below dB
            have hsZ : wq.heap.size + 1 ≤ w4.heap.size := Nat.le_trans hsA dB.size
            refine ⟨dZ, ?_⟩
            show wpAnyH _ _ _ _ _ _ _ ⟨Array.setIfInBounds _ 36 v1, _⟩ _
            simp only [List.setIfInBounds_toArray, List.set_cons_zero, List.set_cons_succ]
            refine held_op 9 rfl (by kernel_rfl) (by rfl) ?_
            refine wp_appL (.tmp 36) (.tmp 41) rfl (wq.heap.size + 1) v1 0 (([] : List Lab).take 0) rfl oZ (some ⟨wq.heap.size, 0, none⟩) 1 1 [(X, Y)] rfl rfl (fun e => by cases e) lr (by omega) hsZ ?_
            clear o1 g1 dA dB lr
            intro v2 w5 o2 g2
            have d2 : Below wq.heap.size wq w5 := dZ.grown g2 dZ.size (fun g hg => by have := own_geL oZ g hg; omega)
            refine ⟨d2, ?_⟩
            show wpAnyH _ _ _ _ _ _ _ ⟨Array.setIfInBounds _ 42 v2, _⟩ _
            simp only [List.setIfInBounds_toArray, List.set_cons_zero, List.set_cons_succ]
            have hs5 : (wq.heap.size + 1) ≤ w5.heap.size := Nat.le_trans hsZ (dG g2)
            refine held_op 13 rfl (by kernel_rfl) (by rfl) ?_
            refine wp_appL (.tmp 42) (.tmp 45) rfl (wq.heap.size + 1) v2 (0 + 1) (([] : List Lab).take 0 ++ [(X, Y)]) rfl o2 _ (0 - 0) (0 - 0) (([] : List Lab).drop 0) rfl (by rw [List.length_drop, ol]) (fun _ => rfl) (ROWD.out w5 d2) (by omega) hs5 ?_
            intro v3 w6 o3 g3
            have d3 : Below wq.heap.size wq w6 := d2.grown g3 d2.size (fun g hg => by have := own_geL o2 g hg; omega)
            refine ⟨d3, ?_⟩
            show wpAnyH _ _ _ _ _ _ _ ⟨Array.setIfInBounds _ 46 v3, _⟩ _
            simp only [List.setIfInBounds_toArray, List.set_cons_zero, List.set_cons_succ]
            have R : Hid (MkI w ls (0 + 1) (([] : List Lab).take 0 ++ (X, Y) :: ([] : List Lab).drop 0) v3 w6) := by
              have e : 0 + 1 + (0 - 0) = 0 + 1 := by omega
              have e2 : ([] : List Lab).take 0 ++ [(X, Y)] ++ ([] : List Lab).drop 0 = ([] : List Lab).take 0 ++ (X, Y) :: ([] : List Lab).drop 0 := by simp
              rw [e, e2] at o3
              exact ⟨own_baseL o3 (by have := b0q.size; omega), HST.out.1, HST.out.2, b0q.trans (d3.mono b0q.size)⟩
            clear o3 g3 o2 g2
            refine held_take 14 4 (v := v3) rfl rfl (by kernel_rfl) (by kernel_rfl) (by kernel_rfl) (by rfl) (fun _ _ _ h => h) (by assumption) ?_ ?_
            · intro W hW
              go_simp
            simp only [List.setIfInBounds_toArray, List.set_cons_zero, List.set_cons_succ]
            refine wpAnyH_done (by kernel_rfl) ?_ _
            clear d2 d3 dZ oZ hsZ HST
            go_wp2
            go_roundw
            case rel => exact ⟨0 + 1, _, by omega, by go_num, R⟩
            case measure => simp [intOf]; omega
      · have ol : out.length = k := (own_labs HT.out.ko).2
        have RO := Lib.hid (own_labs HT.out.ko).1
        have hgl : g < wr.heap.size := (Array.getElem?_eq_some_iff.1 hgh).1
        have kb := HT.out.kb
        clear hgh
        rename World => wo
        go_wp2_with fail
        go_loopw [6] (fun nn W => ∃ m : Nat, m ≤ k ∧ nn = .int .i64 (m : Int) ∧ Hid ((∀ j, m ≤ j → j < k → lt X (nth out j).1 = true) ∧ ∃ q, W = wo.drewN q)) (fun nn _ => (intOf nn).toNat)
        case atStart => exact ⟨k, by omega, rfl, fun j h1 h2 => by omega, 0, rfl⟩
        case round =>
          obtain ⟨m, hmk, rfl, HI⟩ := hrel
          have HALL := Lib.hid HI.out.1
          have HQ := Lib.hid HI.out.2
          clear HI
          have HB : Hid (Below w.heap.size w wr) := by obtain ⟨q, rfl⟩ := HQ.out; exact ⟨kb.os, kb.tape, kb.output, kb.size, kb.block⟩
          have HO : Hid (IsLabs wr (some ⟨g, 0, none⟩) out) := by obtain ⟨q, rfl⟩ := HQ.out; exact RO.out
          have HS : Hid (g < wr.heap.size) := by obtain ⟨q, rfl⟩ := HQ.out; exact hgl
          have hkb : k ≤ 1048576 := by omega
          by_cases m0 : m = 0
          · have g0 : decide ((0 : Int) < (m : Int)) = false := decide_eq_false (by omega)
            go_wp2
            go_quiet (fail)
            have HST : Hid ((out.take m ++ (X, Y) :: out.drop m).Perm (ls.take (k + 1)) ∧ (out.take m ++ (X, Y) :: out.drop m).Pairwise fun x y => lt y.1 x.1 = false) := by
              have := ins_step HT.out.kp HT.out.ks (m := m) (by rw [HN.out]; exact hkn) ol hmk (by rw [HXY.out]; exact HALL.out) (fun h => absurd h (by omega))
              rw [HXY.out] at this
              exact this
            have b0q : Below w.heap.size w (wr.drewN nq) := ⟨HB.out.os, HB.out.tape, HB.out.output, HB.out.size, HB.out.block⟩
            have ROWT : Hid (∀ W, Below wr.heap.size (wr.drewN nq) W → IsLabs W (some ⟨g, 0, none⟩) (out.take m)) := fun W hW => labs_take (IsLabs.below (w := wr.drewN nq) HO.out hW) m
            have ROWD : Hid (∀ W, Below wr.heap.size (wr.drewN nq) W → IsLabs W (some (if c = m then ⟨g, 0, none⟩ else ⟨g, m * 2, none⟩)) (out.drop m)) := fun W hW => labs_drop (IsLabs.below (w := wr.drewN nq) HO.out hW) m (by rw [ol]; exact hkc)
            have esz : (wr.drewN nq).heap.size = wr.heap.size := rfl
            rw [← esz] at ROWT ROWD
            clear esz
            generalize wr.drewN nq = wq at b0q ROWT ROWD ⊢
            have HCW : Hid (∀ W, Below wq.heap.size wq W → W.cell? ⟨b, off + k * 2, none⟩ = some (.string X) ∧ W.cell? ⟨b, off + k * 2 + 1, none⟩ = some (.string Y)) := fun W hW => HC.out W (b0q.trans (hW.mono b0q.size))
            go_wp2_with fail
            refine wp_region_held_drew (S := fun W => Below wq.heap.size wq W) (by kernel_rfl) ((Below.refl _ _).drew) (fun hHeld => ?_)
            refine held_take 0 33 (v := (.slice (some ⟨g, 0, none⟩) k c)) rfl rfl (by kernel_rfl) (by kernel_rfl) (by kernel_rfl) (by rfl) (fun _ _ _ h => h) (by assumption) ?_ ?_
            · intro W hW
              go_simp
            simp only [List.setIfInBounds_toArray, List.set_cons_zero, List.set_cons_succ]
            refine held_take 1 34 (v := (.int .i64 (m : Int))) rfl rfl (by kernel_rfl) (by kernel_rfl) (by kernel_rfl) (by rfl) (fun _ _ _ h => h) (by assumption) ?_ ?_
            · intro W hW
              go_simp
            simp only [List.setIfInBounds_toArray, List.set_cons_zero, List.set_cons_succ]
            refine held_take 2 35 (v := (.slice (some ⟨g, 0, none⟩) m c)) rfl rfl (by kernel_rfl) (by kernel_rfl) (by kernel_rfl) (by rfl) (fun _ _ _ h => h) (by assumption) ?_ ?_
            · intro W hW
              have sl := lcut_lo W g k c m (by omega)
              go_simp
            simp only [List.setIfInBounds_toArray, List.set_cons_zero, List.set_cons_succ]
            refine held_take 4 37 (v := (.slice (some ⟨b, off, none⟩) n cap)) rfl rfl (by kernel_rfl) (by kernel_rfl) (by kernel_rfl) (by rfl) (fun _ _ _ h => h) (by assumption) ?_ ?_
            · intro W hW
              go_simp
            simp only [List.setIfInBounds_toArray, List.set_cons_zero, List.set_cons_succ]
            refine held_take 5 38 (v := (.int .i64 (k : Int))) rfl rfl (by kernel_rfl) (by kernel_rfl) (by kernel_rfl) (by rfl) (fun _ _ _ h => h) (by assumption) ?_ ?_
            · intro W hW
              go_simp
            simp only [List.setIfInBounds_toArray, List.set_cons_zero, List.set_cons_succ]
            refine held_take 6 39 (v := (.pointer (some ⟨b, off + k * 2, none⟩))) rfl rfl (by kernel_rfl) (by kernel_rfl) (by kernel_rfl) (by rfl) (fun _ _ _ h => h) (by assumption) ?_ ?_
            · intro W hW
              go_simp
            simp only [List.setIfInBounds_toArray, List.set_cons_zero, List.set_cons_succ]
            refine held_take 7 40 (v := (.agg #[.string X, .string Y])) rfl rfl (by kernel_rfl) (by kernel_rfl) (by kernel_rfl) (by rfl) (fun _ _ _ h => h) (by assumption) ?_ ?_
            · intro W hW
              obtain ⟨z1, z2⟩ := HCW.out W hW
              go_simp
            simp only [List.setIfInBounds_toArray, List.set_cons_zero, List.set_cons_succ]
            refine held_take 10 43 (v := (.slice (some ⟨g, 0, none⟩) k c)) rfl rfl (by kernel_rfl) (by kernel_rfl) (by kernel_rfl) (by rfl) (fun _ _ _ h => h) (by assumption) ?_ ?_
            · intro W hW
              go_simp
            simp only [List.setIfInBounds_toArray, List.set_cons_zero, List.set_cons_succ]
            refine held_take 11 44 (v := (.int .i64 (m : Int))) rfl rfl (by kernel_rfl) (by kernel_rfl) (by kernel_rfl) (by rfl) (fun _ _ _ h => h) (by assumption) ?_ ?_
            · intro W hW
              go_simp
            simp only [List.setIfInBounds_toArray, List.set_cons_zero, List.set_cons_succ]
            refine held_take 12 45 (v := (.slice (some (if c = m then ⟨g, 0, none⟩ else ⟨g, m * 2, none⟩)) (k - m) (c - m))) rfl rfl (by kernel_rfl) (by kernel_rfl) (by kernel_rfl) (by rfl) (fun _ _ _ h => h) (by assumption) ?_ ?_
            · intro W hW
              have sl := lcut_hi W g k c m (by omega)
              go_simp
            simp only [List.setIfInBounds_toArray, List.set_cons_zero, List.set_cons_succ]
            have dG : ∀ {x y : World} {q : Option Nat}, x.grownBy y q → x.heap.size ≤ y.heap.size := fun h => h.size
            refine held_two 3 8 rfl rfl (by kernel_rfl) (by rfl) (by rfl) ?_ ?_
            · refine wp_appL (.const (.slice none 0 0)) (.tmp 35) rfl wq.heap.size (.slice none 0 0) 0 [] rfl (World.ownsRow_nil _ _ _ _) _ m _ (out.take m) rfl (by rw [List.length_take, ol]; omega) (fun e => by cases e) (ROWT.out wq.drew ((Below.refl _ _).drew)) (by omega) (Nat.le_refl _) ?_
              intro v1 w4 o1 g1
              have o1' : w4.ownsRow wq.heap.size 23 2 v1 m (lc (out.take m)) := by simpa using o1
              have d1 : Below wq.heap.size wq w4 := ((Below.refl _ _).drew).grown g1 (Nat.le_refl _) (fun _ h => by cases h)
              refine ⟨d1, ?_⟩
              show wpAnyH _ _ _ _ _ _ _ ⟨Array.setIfInBounds _ 36 v1, _⟩ _
              simp only [List.setIfInBounds_toArray, List.set_cons_zero, List.set_cons_succ]
              have dZ : Below wq.heap.size wq (w4.alloc (.cells #[.string X, .string Y] 23)) := d1.alloc d1.size _
              refine held_op 8 rfl (by kernel_rfl) (by rfl) ?_
              refine wp_run (v := .slice (some ⟨w4.heap.size, 0, none⟩) 1 1) (w' := w4.alloc (.cells #[.string X, .string Y] 23)) rfl (by go_simp) ⟨dZ, ?_⟩
              simp only [List.setIfInBounds_toArray, List.set_cons_zero, List.set_cons_succ]
              have oZ : (w4.alloc (.cells #[.string X, .string Y] 23)).ownsRow wq.heap.size 23 2 v1 m (lc (out.take m)) := o1'.alloc _
              have hsZ : wq.heap.size ≤ (w4.alloc (.cells #[.string X, .string Y] 23)).heap.size := dZ.size
              refine held_op 9 rfl (by kernel_rfl) (by rfl) ?_
              refine wp_appL (.tmp 36) (.tmp 41) rfl wq.heap.size v1 m (out.take m) rfl oZ (some ⟨w4.heap.size, 0, none⟩) 1 1 [(X, Y)] rfl rfl (fun e => by cases e) (lit_lab w4 (X, Y)) (by omega) hsZ ?_
              clear o1 g1 o1' d1
              intro v2 w5 o2 g2
              have d2 : Below wq.heap.size wq w5 := dZ.grown g2 dZ.size (fun g hg => by have := own_geL oZ g hg; omega)
              refine ⟨d2, ?_⟩
              show wpAnyH _ _ _ _ _ _ _ ⟨Array.setIfInBounds _ 42 v2, _⟩ _
              simp only [List.setIfInBounds_toArray, List.set_cons_zero, List.set_cons_succ]
              have hs5 : wq.heap.size ≤ w5.heap.size := Nat.le_trans hsZ (dG g2)
              refine held_op 13 rfl (by kernel_rfl) (by rfl) ?_
              refine wp_appL (.tmp 42) (.tmp 45) rfl wq.heap.size v2 (m + 1) (out.take m ++ [(X, Y)]) rfl o2 _ (k - m) (c - m) (out.drop m) rfl (by rw [List.length_drop, ol]) (fun e => by cases e) (ROWD.out w5 d2) (by omega) hs5 ?_
              intro v3 w6 o3 g3
              have d3 : Below wq.heap.size wq w6 := d2.grown g3 d2.size (fun g hg => by have := own_geL o2 g hg; omega)
              refine ⟨d3, ?_⟩
              show wpAnyH _ _ _ _ _ _ _ ⟨Array.setIfInBounds _ 46 v3, _⟩ _
              simp only [List.setIfInBounds_toArray, List.set_cons_zero, List.set_cons_succ]
              have R : Hid (MkI w ls (k + 1) (out.take m ++ (X, Y) :: out.drop m) v3 w6) := by
                have e : m + 1 + (k - m) = k + 1 := by omega
                have e2 : out.take m ++ [(X, Y)] ++ out.drop m = out.take m ++ (X, Y) :: out.drop m := by simp
                rw [e, e2] at o3
                exact ⟨own_baseL o3 (by have := b0q.size; omega), HST.out.1, HST.out.2, b0q.trans (d3.mono b0q.size)⟩
              clear o3 g3 o2 g2
              refine held_take 14 4 (v := v3) rfl rfl (by kernel_rfl) (by kernel_rfl) (by kernel_rfl) (by rfl) (fun _ _ _ h => h) (by assumption) ?_ ?_
              · intro W hW
                go_simp
              simp only [List.setIfInBounds_toArray, List.set_cons_zero, List.set_cons_succ]
              refine wpAnyH_done (by kernel_rfl) ?_ _
              clear d2 d3 dZ oZ hsZ HST
              go_wp2
              go_roundw
              case rel => exact ⟨k + 1, _, by omega, by go_num, R⟩
              case measure => simp [intOf]; omega
            · have dA : Below wq.heap.size wq (wq.drew.alloc (.cells #[.string X, .string Y] 23)) := ((Below.refl _ _).drew).alloc (Nat.le_refl _) _
              refine wp_run (v := .slice (some ⟨wq.heap.size, 0, none⟩) 1 1) (w' := wq.drew.alloc (.cells #[.string X, .string Y] 23)) rfl (by go_simp) ⟨dA, ?_⟩
              simp only [List.setIfInBounds_toArray, List.set_cons_zero, List.set_cons_succ]
              have hsA : wq.heap.size + 1 ≤ (wq.drew.alloc (.cells #[.string X, .string Y] 23)).heap.size := by simp
              refine held_op 3 rfl (by kernel_rfl) (by rfl) ?_
              refine wp_appL (.const (.slice none 0 0)) (.tmp 35) rfl (wq.heap.size + 1) (.slice none 0 0) 0 [] rfl (World.ownsRow_nil _ _ _ _) _ m _ (out.take m) rfl (by rw [List.length_take, ol]; omega) (fun e => by cases e) (ROWT.out (wq.drew.alloc (.cells #[.string X, .string Y] 23)) dA) (by omega) hsA ?_
              intro v1 w4 o1 g1
              have oZ : w4.ownsRow (wq.heap.size + 1) 23 2 v1 m (lc (out.take m)) := by simpa using o1
              have dZ : Below wq.heap.size wq w4 := dA.grown g1 dA.size (fun _ h => by cases h)
              have dB : Below (wq.drew.alloc (.cells #[.string X, .string Y] 23)).heap.size (wq.drew.alloc (.cells #[.string X, .string Y] 23)) w4 := (Below.refl _ _).grown g1 (Nat.le_refl _) (fun _ h => by cases h)
              have lr : IsLabs w4 (some ⟨wq.heap.size, 0, none⟩) [(X, Y)] := (lit_lab wq.drew (X, Y)).below dB
              have hsZ : wq.heap.size + 1 ≤ w4.heap.size := Nat.le_trans hsA dB.size
              refine ⟨dZ, ?_⟩
              show wpAnyH _ _ _ _ _ _ _ ⟨Array.setIfInBounds _ 36 v1, _⟩ _
              simp only [List.setIfInBounds_toArray, List.set_cons_zero, List.set_cons_succ]
              refine held_op 9 rfl (by kernel_rfl) (by rfl) ?_
              refine wp_appL (.tmp 36) (.tmp 41) rfl (wq.heap.size + 1) v1 m (out.take m) rfl oZ (some ⟨wq.heap.size, 0, none⟩) 1 1 [(X, Y)] rfl rfl (fun e => by cases e) lr (by omega) hsZ ?_
              clear o1 g1 dA dB lr
              intro v2 w5 o2 g2
              have d2 : Below wq.heap.size wq w5 := dZ.grown g2 dZ.size (fun g hg => by have := own_geL oZ g hg; omega)
              refine ⟨d2, ?_⟩
              show wpAnyH _ _ _ _ _ _ _ ⟨Array.setIfInBounds _ 42 v2, _⟩ _
              simp only [List.setIfInBounds_toArray, List.set_cons_zero, List.set_cons_succ]
              have hs5 : (wq.heap.size + 1) ≤ w5.heap.size := Nat.le_trans hsZ (dG g2)
              refine held_op 13 rfl (by kernel_rfl) (by rfl) ?_
              refine wp_appL (.tmp 42) (.tmp 45) rfl (wq.heap.size + 1) v2 (m + 1) (out.take m ++ [(X, Y)]) rfl o2 _ (k - m) (c - m) (out.drop m) rfl (by rw [List.length_drop, ol]) (fun e => by cases e) (ROWD.out w5 d2) (by omega) hs5 ?_
              intro v3 w6 o3 g3
              have d3 : Below wq.heap.size wq w6 := d2.grown g3 d2.size (fun g hg => by have := own_geL o2 g hg; omega)
              refine ⟨d3, ?_⟩
              show wpAnyH _ _ _ _ _ _ _ ⟨Array.setIfInBounds _ 46 v3, _⟩ _
              simp only [List.setIfInBounds_toArray, List.set_cons_zero, List.set_cons_succ]
              have R : Hid (MkI w ls (k + 1) (out.take m ++ (X, Y) :: out.drop m) v3 w6) := by
                have e : m + 1 + (k - m) = k + 1 := by omega
                have e2 : out.take m ++ [(X, Y)] ++ out.drop m = out.take m ++ (X, Y) :: out.drop m := by simp
                rw [e, e2] at o3
                exact ⟨own_baseL o3 (by have := b0q.size; omega), HST.out.1, HST.out.2, b0q.trans (d3.mono b0q.size)⟩
              clear o3 g3 o2 g2
              refine held_take 14 4 (v := v3) rfl rfl (by kernel_rfl) (by kernel_rfl) (by kernel_rfl) (by rfl) (fun _ _ _ h => h) (by assumption) ?_ ?_
              · intro W hW
                go_simp
              simp only [List.setIfInBounds_toArray, List.set_cons_zero, List.set_cons_succ]
              refine wpAnyH_done (by kernel_rfl) ?_ _
              clear d2 d3 dZ oZ hsZ HST
              go_wp2
              go_roundw
              case rel => exact ⟨k + 1, _, by omega, by go_num, R⟩
              case measure => simp [intOf]; omega
          · obtain ⟨p, hp⟩ : ∃ p, m = p + 1 := ⟨m - 1, by omega⟩
            have g0 : decide ((0 : Int) < (m : Int)) = true := decide_eq_true (by omega)
            obtain ⟨c1, c2⟩ := HC.out wr HB.out
            have c3 : wr.cell? ⟨g, p * 2, none⟩ = some (.string (nth out p).1) := by have := (isLabs_at HO.out (j := p) (by omega)).1; rwa [Nat.zero_add] at this
            have i1 : IntKind.i64.wrap ((m : Int) - 1) = (p : Int) := by rw [IntWalk.i64_in _ (by omega)]; omega
            have i2 : (p : Int) < (k : Int) := by omega
            obtain ⟨Z, hZ⟩ : ∃ Z, (nth out p).1 = Z := ⟨_, rfl⟩
            rw [hZ] at c3
            cases hr : Op.bytesLess X.toList Z.toList
            · have HT2 : Hid (lt X (nth out p).1 = false) := by show _ = _; rw [hZ]; exact hr
              clear hZ
              go_wp2
              go_quiet (fail)
              clear c1 c2 c3 i1 i2 hr
              have HST : Hid ((out.take m ++ (X, Y) :: out.drop m).Perm (ls.take (k + 1)) ∧ (out.take m ++ (X, Y) :: out.drop m).Pairwise fun x y => lt y.1 x.1 = false) := by
                have := ins_step HT.out.kp HT.out.ks (m := m) (by rw [HN.out]; exact hkn) ol hmk (by rw [HXY.out]; exact HALL.out) (fun _ => by rw [HXY.out, hp, Nat.add_sub_cancel]; exact HT2.out)
                rw [HXY.out] at this
                exact this
              clear hp m0 g0 HT2
              have b0q : Below w.heap.size w (wr.drewN nq) := ⟨HB.out.os, HB.out.tape, HB.out.output, HB.out.size, HB.out.block⟩
              have ROWT : Hid (∀ W, Below wr.heap.size (wr.drewN nq) W → IsLabs W (some ⟨g, 0, none⟩) (out.take m)) := fun W hW => labs_take (IsLabs.below (w := wr.drewN nq) HO.out hW) m
              have ROWD : Hid (∀ W, Below wr.heap.size (wr.drewN nq) W → IsLabs W (some (if c = m then ⟨g, 0, none⟩ else ⟨g, m * 2, none⟩)) (out.drop m)) := fun W hW => labs_drop (IsLabs.below (w := wr.drewN nq) HO.out hW) m (by rw [ol]; exact hkc)
              have esz : (wr.drewN nq).heap.size = wr.heap.size := rfl
              rw [← esz] at ROWT ROWD
              clear esz
              generalize wr.drewN nq = wq at b0q ROWT ROWD ⊢
              have HCW : Hid (∀ W, Below wq.heap.size wq W → W.cell? ⟨b, off + k * 2, none⟩ = some (.string X) ∧ W.cell? ⟨b, off + k * 2 + 1, none⟩ = some (.string Y)) := fun W hW => HC.out W (b0q.trans (hW.mono b0q.size))
              go_wp2_with fail
              refine wp_region_held_drew (S := fun W => Below wq.heap.size wq W) (by kernel_rfl) ((Below.refl _ _).drew) (fun hHeld => ?_)
              refine held_take 0 33 (v := (.slice (some ⟨g, 0, none⟩) k c)) rfl rfl (by kernel_rfl) (by kernel_rfl) (by kernel_rfl) (by rfl) (fun _ _ _ h => h) (by assumption) ?_ ?_
              · intro W hW
                go_simp
              simp only [List.setIfInBounds_toArray, List.set_cons_zero, List.set_cons_succ]
              refine held_take 1 34 (v := (.int .i64 (m : Int))) rfl rfl (by kernel_rfl) (by kernel_rfl) (by kernel_rfl) (by rfl) (fun _ _ _ h => h) (by assumption) ?_ ?_
              · intro W hW
                go_simp
              simp only [List.setIfInBounds_toArray, List.set_cons_zero, List.set_cons_succ]
              refine held_take 2 35 (v := (.slice (some ⟨g, 0, none⟩) m c)) rfl rfl (by kernel_rfl) (by kernel_rfl) (by kernel_rfl) (by rfl) (fun _ _ _ h => h) (by assumption) ?_ ?_
              · intro W hW
                have sl := lcut_lo W g k c m (by omega)
                go_simp
              simp only [List.setIfInBounds_toArray, List.set_cons_zero, List.set_cons_succ]
              refine held_take 4 37 (v := (.slice (some ⟨b, off, none⟩) n cap)) rfl rfl (by kernel_rfl) (by kernel_rfl) (by kernel_rfl) (by rfl) (fun _ _ _ h => h) (by assumption) ?_ ?_
              · intro W hW
                go_simp
              simp only [List.setIfInBounds_toArray, List.set_cons_zero, List.set_cons_succ]
              refine held_take 5 38 (v := (.int .i64 (k : Int))) rfl rfl (by kernel_rfl) (by kernel_rfl) (by kernel_rfl) (by rfl) (fun _ _ _ h => h) (by assumption) ?_ ?_
              · intro W hW
                go_simp
              simp only [List.setIfInBounds_toArray, List.set_cons_zero, List.set_cons_succ]
              refine held_take 6 39 (v := (.pointer (some ⟨b, off + k * 2, none⟩))) rfl rfl (by kernel_rfl) (by kernel_rfl) (by kernel_rfl) (by rfl) (fun _ _ _ h => h) (by assumption) ?_ ?_
              · intro W hW
                go_simp
              simp only [List.setIfInBounds_toArray, List.set_cons_zero, List.set_cons_succ]
              refine held_take 7 40 (v := (.agg #[.string X, .string Y])) rfl rfl (by kernel_rfl) (by kernel_rfl) (by kernel_rfl) (by rfl) (fun _ _ _ h => h) (by assumption) ?_ ?_
              · intro W hW
                obtain ⟨z1, z2⟩ := HCW.out W hW
                go_simp
              simp only [List.setIfInBounds_toArray, List.set_cons_zero, List.set_cons_succ]
              refine held_take 10 43 (v := (.slice (some ⟨g, 0, none⟩) k c)) rfl rfl (by kernel_rfl) (by kernel_rfl) (by kernel_rfl) (by rfl) (fun _ _ _ h => h) (by assumption) ?_ ?_
              · intro W hW
                go_simp
              simp only [List.setIfInBounds_toArray, List.set_cons_zero, List.set_cons_succ]
              refine held_take 11 44 (v := (.int .i64 (m : Int))) rfl rfl (by kernel_rfl) (by kernel_rfl) (by kernel_rfl) (by rfl) (fun _ _ _ h => h) (by assumption) ?_ ?_
              · intro W hW
                go_simp
              simp only [List.setIfInBounds_toArray, List.set_cons_zero, List.set_cons_succ]
              refine held_take 12 45 (v := (.slice (some (if c = m then ⟨g, 0, none⟩ else ⟨g, m * 2, none⟩)) (k - m) (c - m))) rfl rfl (by kernel_rfl) (by kernel_rfl) (by kernel_rfl) (by rfl) (fun _ _ _ h => h) (by assumption) ?_ ?_
              · intro W hW
                have sl := lcut_hi W g k c m (by omega)
                go_simp
              simp only [List.setIfInBounds_toArray, List.set_cons_zero, List.set_cons_succ]
              have dG : ∀ {x y : World} {q : Option Nat}, x.grownBy y q → x.heap.size ≤ y.heap.size := fun h => h.size
              refine held_two 3 8 rfl rfl (by kernel_rfl) (by rfl) (by rfl) ?_ ?_
              · refine wp_appL (.const (.slice none 0 0)) (.tmp 35) rfl wq.heap.size (.slice none 0 0) 0 [] rfl (World.ownsRow_nil _ _ _ _) _ m _ (out.take m) rfl (by rw [List.length_take, ol]; omega) (fun e => by cases e) (ROWT.out wq.drew ((Below.refl _ _).drew)) (by omega) (Nat.le_refl _) ?_
                intro v1 w4 o1 g1
                have o1' : w4.ownsRow wq.heap.size 23 2 v1 m (lc (out.take m)) := by simpa using o1
                have d1 : Below wq.heap.size wq w4 := ((Below.refl _ _).drew).grown g1 (Nat.le_refl _) (fun _ h => by cases h)
                refine ⟨d1, ?_⟩
                show wpAnyH _ _ _ _ _ _ _ ⟨Array.setIfInBounds _ 36 v1, _⟩ _
                simp only [List.setIfInBounds_toArray, List.set_cons_zero, List.set_cons_succ]
                have dZ : Below wq.heap.size wq (w4.alloc (.cells #[.string X, .string Y] 23)) := d1.alloc d1.size _
                refine held_op 8 rfl (by kernel_rfl) (by rfl) ?_
                refine wp_run (v := .slice (some ⟨w4.heap.size, 0, none⟩) 1 1) (w' := w4.alloc (.cells #[.string X, .string Y] 23)) rfl (by go_simp) ⟨dZ, ?_⟩
                simp only [List.setIfInBounds_toArray, List.set_cons_zero, List.set_cons_succ]
                have oZ : (w4.alloc (.cells #[.string X, .string Y] 23)).ownsRow wq.heap.size 23 2 v1 m (lc (out.take m)) := o1'.alloc _
                have hsZ : wq.heap.size ≤ (w4.alloc (.cells #[.string X, .string Y] 23)).heap.size := dZ.size
                refine held_op 9 rfl (by kernel_rfl) (by rfl) ?_
                refine wp_appL (.tmp 36) (.tmp 41) rfl wq.heap.size v1 m (out.take m) rfl oZ (some ⟨w4.heap.size, 0, none⟩) 1 1 [(X, Y)] rfl rfl (fun e => by cases e) (lit_lab w4 (X, Y)) (by omega) hsZ ?_
                clear o1 g1 o1' d1
                intro v2 w5 o2 g2
                have d2 : Below wq.heap.size wq w5 := dZ.grown g2 dZ.size (fun g hg => by have := own_geL oZ g hg; omega)
                refine ⟨d2, ?_⟩
                show wpAnyH _ _ _ _ _ _ _ ⟨Array.setIfInBounds _ 42 v2, _⟩ _
                simp only [List.setIfInBounds_toArray, List.set_cons_zero, List.set_cons_succ]
                have hs5 : wq.heap.size ≤ w5.heap.size := Nat.le_trans hsZ (dG g2)
                refine held_op 13 rfl (by kernel_rfl) (by rfl) ?_
                refine wp_appL (.tmp 42) (.tmp 45) rfl wq.heap.size v2 (m + 1) (out.take m ++ [(X, Y)]) rfl o2 _ (k - m) (c - m) (out.drop m) rfl (by rw [List.length_drop, ol]) (fun e => by cases e) (ROWD.out w5 d2) (by omega) hs5 ?_
                intro v3 w6 o3 g3
                have d3 : Below wq.heap.size wq w6 := d2.grown g3 d2.size (fun g hg => by have := own_geL o2 g hg; omega)
                refine ⟨d3, ?_⟩
                show wpAnyH _ _ _ _ _ _ _ ⟨Array.setIfInBounds _ 46 v3, _⟩ _
                simp only [List.setIfInBounds_toArray, List.set_cons_zero, List.set_cons_succ]
                have R : Hid (MkI w ls (k + 1) (out.take m ++ (X, Y) :: out.drop m) v3 w6) := by
                  have e : m + 1 + (k - m) = k + 1 := by omega
                  have e2 : out.take m ++ [(X, Y)] ++ out.drop m = out.take m ++ (X, Y) :: out.drop m := by simp
                  rw [e, e2] at o3
                  exact ⟨own_baseL o3 (by have := b0q.size; omega), HST.out.1, HST.out.2, b0q.trans (d3.mono b0q.size)⟩
                clear o3 g3 o2 g2
                refine held_take 14 4 (v := v3) rfl rfl (by kernel_rfl) (by kernel_rfl) (by kernel_rfl) (by rfl) (fun _ _ _ h => h) (by assumption) ?_ ?_
                · intro W hW
                  go_simp
                simp only [List.setIfInBounds_toArray, List.set_cons_zero, List.set_cons_succ]
                refine wpAnyH_done (by kernel_rfl) ?_ _
                clear d2 d3 dZ oZ hsZ HST
                go_wp2
                go_roundw
                case rel => exact ⟨k + 1, _, by omega, by go_num, R⟩
                case measure => simp [intOf]; omega
              · have dA : Below wq.heap.size wq (wq.drew.alloc (.cells #[.string X, .string Y] 23)) := ((Below.refl _ _).drew).alloc (Nat.le_refl _) _
                refine wp_run (v := .slice (some ⟨wq.heap.size, 0, none⟩) 1 1) (w' := wq.drew.alloc (.cells #[.string X, .string Y] 23)) rfl (by go_simp) ⟨dA, ?_⟩
                simp only [List.setIfInBounds_toArray, List.set_cons_zero, List.set_cons_succ]
                have hsA : wq.heap.size + 1 ≤ (wq.drew.alloc (.cells #[.string X, .string Y] 23)).heap.size := by simp
                refine held_op 3 rfl (by kernel_rfl) (by rfl) ?_
                refine wp_appL (.const (.slice none 0 0)) (.tmp 35) rfl (wq.heap.size + 1) (.slice none 0 0) 0 [] rfl (World.ownsRow_nil _ _ _ _) _ m _ (out.take m) rfl (by rw [List.length_take, ol]; omega) (fun e => by cases e) (ROWT.out (wq.drew.alloc (.cells #[.string X, .string Y] 23)) dA) (by omega) hsA ?_
                intro v1 w4 o1 g1
                have oZ : w4.ownsRow (wq.heap.size + 1) 23 2 v1 m (lc (out.take m)) := by simpa using o1
                have dZ : Below wq.heap.size wq w4 := dA.grown g1 dA.size (fun _ h => by cases h)
                have dB : Below (wq.drew.alloc (.cells #[.string X, .string Y] 23)).heap.size (wq.drew.alloc (.cells #[.string X, .string Y] 23)) w4 := (Below.refl _ _).grown g1 (Nat.le_refl _) (fun _ h => by cases h)
                have lr : IsLabs w4 (some ⟨wq.heap.size, 0, none⟩) [(X, Y)] := (lit_lab wq.drew (X, Y)).below dB
                have hsZ : wq.heap.size + 1 ≤ w4.heap.size := Nat.le_trans hsA dB.size
                refine ⟨dZ, ?_⟩
                show wpAnyH _ _ _ _ _ _ _ ⟨Array.setIfInBounds _ 36 v1, _⟩ _
                simp only [List.setIfInBounds_toArray, List.set_cons_zero, List.set_cons_succ]
                refine held_op 9 rfl (by kernel_rfl) (by rfl) ?_
                refine wp_appL (.tmp 36) (.tmp 41) rfl (wq.heap.size + 1) v1 m (out.take m) rfl oZ (some ⟨wq.heap.size, 0, none⟩) 1 1 [(X, Y)] rfl rfl (fun e => by cases e) lr (by omega) hsZ ?_
                clear o1 g1 dA dB lr
                intro v2 w5 o2 g2
                have d2 : Below wq.heap.size wq w5 := dZ.grown g2 dZ.size (fun g hg => by have := own_geL oZ g hg; omega)
                refine ⟨d2, ?_⟩
                show wpAnyH _ _ _ _ _ _ _ ⟨Array.setIfInBounds _ 42 v2, _⟩ _
                simp only [List.setIfInBounds_toArray, List.set_cons_zero, List.set_cons_succ]
                have hs5 : (wq.heap.size + 1) ≤ w5.heap.size := Nat.le_trans hsZ (dG g2)
                refine held_op 13 rfl (by kernel_rfl) (by rfl) ?_
                refine wp_appL (.tmp 42) (.tmp 45) rfl (wq.heap.size + 1) v2 (m + 1) (out.take m ++ [(X, Y)]) rfl o2 _ (k - m) (c - m) (out.drop m) rfl (by rw [List.length_drop, ol]) (fun e => by cases e) (ROWD.out w5 d2) (by omega) hs5 ?_
                intro v3 w6 o3 g3
                have d3 : Below wq.heap.size wq w6 := d2.grown g3 d2.size (fun g hg => by have := own_geL o2 g hg; omega)
                refine ⟨d3, ?_⟩
                show wpAnyH _ _ _ _ _ _ _ ⟨Array.setIfInBounds _ 46 v3, _⟩ _
                simp only [List.setIfInBounds_toArray, List.set_cons_zero, List.set_cons_succ]
                have R : Hid (MkI w ls (k + 1) (out.take m ++ (X, Y) :: out.drop m) v3 w6) := by
                  have e : m + 1 + (k - m) = k + 1 := by omega
                  have e2 : out.take m ++ [(X, Y)] ++ out.drop m = out.take m ++ (X, Y) :: out.drop m := by simp
                  rw [e, e2] at o3
                  exact ⟨own_baseL o3 (by have := b0q.size; omega), HST.out.1, HST.out.2, b0q.trans (d3.mono b0q.size)⟩
                clear o3 g3 o2 g2
                refine held_take 14 4 (v := v3) rfl rfl (by kernel_rfl) (by kernel_rfl) (by kernel_rfl) (by rfl) (fun _ _ _ h => h) (by assumption) ?_ ?_
                · intro W hW
                  go_simp
                simp only [List.setIfInBounds_toArray, List.set_cons_zero, List.set_cons_succ]
                refine wpAnyH_done (by kernel_rfl) ?_ _
                clear d2 d3 dZ oZ hsZ HST
                go_wp2
                go_roundw
                case rel => exact ⟨k + 1, _, by omega, by go_num, R⟩
                case measure => simp [intOf]; omega
            · have HALL2 : Hid (∀ j, p ≤ j → j < k → lt X (nth out j).1 = true) := fun j h1 h2 => by
                by_cases hj : m ≤ j
                · exact HALL.out j hj h2
                · obtain rfl : j = p := by omega
                  rw [hZ]; exact hr
              clear hZ
              go_wp2
              go_quiet (fail)
              clear c1 c2 c3
              go_wp2
              go_roundw
              case rel => exact ⟨p, by omega, rfl, HALL2.out, by obtain ⟨q, rfl⟩ := HQ.out; exact ⟨_, World.drewN_drewN _ _ _⟩⟩
              case measure => simp [intOf]; omega
    · obtain rfl : k = n := by omega
      obtain ⟨A', c', rfl, _, _, hi, hol⟩ := own_formL HT.out.ko
      have hkz : ¬ (k : Int) < (k : Int) := by omega
      have HP : Hid (out.Perm ls) := by have := HT.out.kp; rwa [List.take_of_length_le (by rw [HN.out]; omega)] at this
      have SO : Hid (Small out) := fun x hx => HSM.out x (HP.out.mem_iff.1 hx)
      have MO := Lib.hid (mk_of HT.out.ks HP.out)
      have KO := Lib.hid HT.out.ko
      have B := Lib.hid HT.out.kb
      have CI := Lib.hid (isset_any out A' c' wr (by omega) SO.out hi)
      rw [hol] at CI
      rw [← hol] at KO
      have HL := Lib.hid hol
      clear HT hi hol SO
      cases hb : isSet out
      · rw [hb] at CI MO
        clear hb
        go_wp2_with fail
        refine CI.out.mono ?_
        rintro e w' ⟨rfl, bw⟩
        have B2 := Lib.hid (B.out.trans (bw.mono B.out.size))
        clear bw CI
        go_wp2
        go_ret2
        exact ⟨⟨none, _, .bool false, MO.out, rfl, rfl⟩, B2.out⟩
      · rw [hb] at CI MO
        clear hb
        go_wp2_with fail
        refine CI.out.mono ?_
        rintro e w' ⟨rfl, bw⟩
        have B2 := Lib.hid (B.out.trans (bw.mono B.out.size))
        have K2 := Lib.hid (own_keepL KO.out bw)
        rw [HL.out] at K2
        clear bw CI KO
        go_wp2
        go_ret2
        exact ⟨⟨some out, _, _, MO.out, rfl, rfl, by rw [HL.out]; exact K2.out⟩, B2.out⟩

end Go.Proofs.YtjmojjjgifkkiaaDoor
