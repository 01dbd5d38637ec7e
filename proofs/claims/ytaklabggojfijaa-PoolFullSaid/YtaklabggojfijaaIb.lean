/-
  What the reference's Rising does: numbers in order, each once (IsRise). Conditions: lengths fit.
-/
import Derived.Test.YtaklabggojfijaaProg
import Derived.Test.YtaklabggojfijaaRg
import Derived.Test.YtaklabggojfijaaEa
import Derived.Test.YtaklabggojfijaaEd
import Derived.Test.YtaklabggojfijaaEe
import Derived.Test.YtaklabggojfijaaEm
import Derived.Test.YtaklabggojfijaaEf
import Derived.Test.YtaklabggojfijaaRh
import Derived.Test.YtaklabggojfijaaEo
import Derived.Test.YtaklabggojfijaaIa
import Derived.Laws.OwnMore
import Derived.IntWalk
import Derived.Deep.RegionHeld3
import Derived.WalkKit
import Derived.WalkSpells
import Derived.WalkLawsBesides
import Derived.Lib.Hide
import Derived.Below
import Derived.BigQuiet
import Derived.Lib.QuietBelow
import Derived.Laws.StructEq
import Derived.KernelRfl
import Derived.Laws.MakeOwn
import Derived.OwnWalk
import Derived.Laws.CopyOwn
import Derived.Laws.AppendOwn
import Derived.Deep.QuietTactic
namespace Go.Proofs.Ytaklabggojfijaa
open Go.RowKit

/-- Numbers in order, each once. -/
def IsRise (l out : List Int) : Prop := out.Pairwise (· < ·) ∧ ∀ y, y ∈ out ↔ y ∈ l
def nz (l : List Int) (j : Nat) : Int := l.getD j 0
theorem nz_eq {l : List Int} {j : Nat} (h : j < l.length) : nz l j = l[j] := by simp [nz, List.getD, List.getElem?_eq_getElem h]
theorem rise_step {l out : List Int} {k m : Nat} (hr : IsRise (l.take k) out) (hk : k < l.length) (hm : m ≤ out.length) (h1 : ∀ j, m ≤ j → j < out.length → nz l k < nz out j) (h2 : 0 < m → nz out (m - 1) < nz l k) : IsRise (l.take (k + 1)) (out.take m ++ nz l k :: out.drop m) := by
  obtain ⟨hp, hq⟩ := hr
  have hs := hp
  rw [← List.take_append_drop m out, List.pairwise_append] at hs
  obtain ⟨s1, s2, s3⟩ := hs
  refine ⟨?_, fun y => ?_⟩
  · rw [List.pairwise_append]
    refine ⟨s1, ?_, ?_⟩
    · rw [List.pairwise_cons]
      refine ⟨fun y hy => ?_, s2⟩
      obtain ⟨j, hj, rfl⟩ := List.getElem_of_mem hy
      have hj' : m + j < out.length := by simp at hj; omega
      have := h1 (m + j) (by omega) (by omega)
      rw [nz_eq hj'] at this
      rw [List.getElem_drop]
      exact this
    · intro y hy z hz
      rcases List.mem_cons.1 hz with rfl | hz
      · obtain ⟨j, hj, rfl⟩ := List.getElem_of_mem hy
        have hj' : j < m ∧ j < out.length := by simp at hj; omega
        rw [List.getElem_take]
        have h3 := h2 (by omega)
        have hm1 : m - 1 < out.length := by omega
        rw [nz_eq hm1] at h3
        by_cases ej : j = m - 1
        · subst ej; exact h3
        · have h4 := List.pairwise_iff_getElem.1 hp j (m - 1) hj'.2 hm1 (by omega)
          omega
      · exact s3 y hy z hz
  · have e : l.take (k + 1) = l.take k ++ [nz l k] := by rw [List.take_succ_eq_append_getElem hk, nz_eq hk]
    rw [e, List.mem_append, List.mem_append, List.mem_cons, List.mem_singleton, ← hq y]
    conv => rhs; rw [← List.take_append_drop m out, List.mem_append]
    constructor
    · rintro (h | h | h)
      · exact .inl (.inl h)
      · exact .inr h
      · exact .inl (.inr h)
    · rintro ((h | h) | h)
      · exact .inl h
      · exact .inr (.inr h)
      · exact .inr (.inl h)
theorem rise_same {l out : List Int} {k m : Nat} (hr : IsRise (l.take k) out) (hk : k < l.length) (hm : m < out.length) (h : nz out m = nz l k) : IsRise (l.take (k + 1)) out := by
  refine ⟨hr.1, fun y => ?_⟩
  have e : l.take (k + 1) = l.take k ++ [nz l k] := by rw [List.take_succ_eq_append_getElem hk, nz_eq hk]
  rw [e, List.mem_append, List.mem_singleton, ← hr.2 y]
  constructor
  · exact .inl
  · rintro (h1 | h1)
    · exact h1
    · rw [h1, ← h, nz_eq hm]; exact List.getElem_mem hm
theorem rise_head {x y : Int} {a b : List Int} (h1 : (x :: a).Pairwise (· < ·)) (h2 : (y :: b).Pairwise (· < ·)) (he : ∀ z, z ∈ x :: a ↔ z ∈ y :: b) : x = y := by
  have hx := (he x).1 (by simp)
  have hy := (he y).2 (by simp)
  rcases List.mem_cons.1 hx with h | h
  · exact h
  · rcases List.mem_cons.1 hy with g | g
    · exact g.symm
    · have := (List.pairwise_cons.1 h2).1 x h
      have := (List.pairwise_cons.1 h1).1 y g
      omega
/-- There is one such list. -/
theorem rise_unique : ∀ {a b : List Int}, a.Pairwise (· < ·) → b.Pairwise (· < ·) → (∀ y, y ∈ a ↔ y ∈ b) → a = b
  | [], [], _, _, _ => rfl
  | [], y :: b, _, _, h => by have := (h y).2 (by simp); cases this
  | x :: a, [], _, _, h => by have := (h x).1 (by simp); cases this
  | x :: a, y :: b, h1, h2, h => by
    obtain rfl := rise_head h1 h2 h
    rw [rise_unique (a := a) (b := b) (List.pairwise_cons.1 h1).2 (List.pairwise_cons.1 h2).2 (fun z => ?_)]
    have hz := h z
    have l1 := (List.pairwise_cons.1 h1).1 z
    have l2 := (List.pairwise_cons.1 h2).1 z
    rw [List.mem_cons, List.mem_cons] at hz
    constructor
    · intro q
      rcases hz.1 (.inr q) with e | e
      · have := l1 q; omega
      · exact e
    · intro q
      rcases hz.2 (.inr q) with e | e
      · have := l2 q; omega
      · exact e
set_option maxRecDepth 100000 in
/-- append(v, l...) of ints: v is one's own, l is read. -/
theorem wp_appZ {o : Oper} {a : Act} {w : World} {K : Act → World → Prop} {Q : Exit → Act → World → Prop} (s x : Operand) (ho : o.op = .call { callee := .builtin .append, args := #[s, x], argTypes := #[30, 30] })
    (base : Nat) (v : Value) (n : Nat) (xs : List Int) (hs : a.eval s = v) (hown : w.ownsRow base 3 1 v n (zs xs)) (A : Option Addr) (L c : Nat) (l : List Int) (hx : a.eval x = .slice A L c) (hL : l.length = L) (hA : A = none → c = 0) (hr : IsZ w A l)
    (hlen : n + L ≤ 1099511627776) (hbase : base ≤ w.heap.size)
    (h : ∀ v' w', w'.ownsRow base 3 1 v' (n + L) (zs (xs ++ l)) → w.grownBy w' v.ownBlock → K (a.put o.dst v') w') : o.wp Try.prog a w K Q := by
  obtain ⟨i0, hi, hz0, hz1, hz2⟩ := info_parts Try.infoZ
  subst hL
  rcases A with _ | ad
  · obtain rfl := hA rfl
    have hl0 : l = [] := by
      rcases Nat.eq_zero_or_pos l.length with h0 | h0
      · exact List.eq_nil_of_length_eq_zero h0
      · obtain ⟨_, _, e, _⟩ := hr h0; cases e
    subst hl0
    have hrun := run_append_owned_none (P := Try.prog) (w := w) base 30 o.type 3 i0 1 Try.underlying30 hi v n _ hown
    have hx' : a.eval x = .slice none 0 0 := hx
    unfold Oper.wp
    simp [execOp, ho, resolve, invoke, builtin, hs, hx', hrun, Result.andThen]
    exact h v w (by simpa using hown) (World.grownBy.refl w _)
  · refine wp_append_own w s x 30 ho base 3 i0 (.int .i64 0) 1 8 Try.underlying30 hi hz0 hz1 hz2 rfl (by decide) v n _ hs hown ad l.length c (zs l) hx (by rw [zs_len, Nat.mul_one]) ?_ ?_ (by unfold maxLen; omega) (by omega) hbase ?_
    · intro j u hu
      have hj : j < l.length := by
        rcases Nat.lt_or_ge j l.length with h1 | h1
        · exact h1
        · rw [List.getElem?_eq_none (by rw [zs_len]; exact h1)] at hu; cases hu
      obtain ⟨b, off, e, hc⟩ := hr (by omega)
      injection e with e
      subst e
      have e2 : (⟨b, off, none⟩ : Addr).add j = ⟨b, off + j, none⟩ := by unfold Addr.add; split <;> simp_all
      rw [e2, hc j hj, ← hu]
      simp [zs, List.getD, List.getElem?_eq_getElem hj]
    · intro u hu
      simp only [zs, List.mem_map] at hu
      obtain ⟨_, _, rfl⟩ := hu
      rfl
    · intro v' w' h1 h2 _
      exact h v' w' (by rw [zs_app]; exact h1) h2
theorem wpList_appZ {ops : Array Oper} {rest : List Oper} {o : Oper} {a : Act} {w : World} {Q : Exit → Act → World → Prop} (hgd : o.guard = none) (s x : Operand) (ho : o.op = .call { callee := .builtin .append, args := #[s, x], argTypes := #[30, 30] })
    (base : Nat) (v : Value) (n : Nat) (xs : List Int) (hs : a.eval s = v) (hown : w.ownsRow base 3 1 v n (zs xs)) (A : Option Addr) (L c : Nat) (l : List Int) (hx : a.eval x = .slice A L c) (hL : l.length = L) (hA : A = none → c = 0) (hr : IsZ w A l)
    (hlen : n + L ≤ 1099511627776) (hbase : base ≤ w.heap.size)
    (h : ∀ v' w', w'.ownsRow base 3 1 v' (n + L) (zs (xs ++ l)) → w.grownBy w' v.ownBlock → wpList Try.prog ops Q rest (a.put o.dst v') w') : wpList Try.prog ops Q (o :: rest) a w :=
  wpList_plain hgd fun _ hK => wp_appZ s x ho base v n xs hs hown A L c l hx hL hA hr hlen hbase fun v' w' h1 h2 => hK _ _ (h v' w' h1 h2)
theorem zcut_lo (W : World) (g k c m : Nat) (hm : m ≤ c) : (Instr.slice 30 (.slice (some ⟨g, 0, none⟩) k c) none (some (.int .i64 (m : Int))) none).run Try.prog W = .ok (.slice (some ⟨g, 0, none⟩) m c) W := by
  obtain ⟨i0, hi, hz0, hz1, hz2⟩ := info_parts Try.infoZ
  simp [Instr.slice, Instr.sliceBounds, Instr.sliceBound, run_underlying Try.underlying30, asIntOf, sizeOf, typeInfo, hi, go_sem]
  intro h; omega
theorem zcut_hi (W : World) (g k c m : Nat) (hm : m ≤ k) : (Instr.slice 30 (.slice (some ⟨g, 0, none⟩) k c) (some (.int .i64 (m : Int))) none none).run Try.prog W = .ok (.slice (some (if c = m then ⟨g, 0, none⟩ else ⟨g, m, none⟩)) (k - m) (c - m)) W := by
  obtain ⟨i0, hi, hz0, hz1, hz2⟩ := info_parts Try.infoZ
  simp [Instr.slice, Instr.sliceBounds, Instr.sliceBound, run_underlying Try.underlying30, asIntOf, sizeOf, typeInfo, hi, hz1, go_sem]
  by_cases hc : c = m
  · simp [hc]; intro h; omega
  · simp [hc]; intro h; omega
theorem isZ_at {w : World} {b off : Nat} {l : List Int} (h : IsZ w (some ⟨b, off, none⟩) l) {j : Nat} (hj : j < l.length) : w.cell? ⟨b, off + j, none⟩ = some (.int .i64 (nz l j)) := by
  obtain ⟨b', off', e, hc⟩ := h (by omega)
  injection e with e; injection e with e1 e2
  subst e1 e2
  exact hc j hj
theorem z_take {w : World} {A : Option Addr} {l : List Int} (h : IsZ w A l) (m : Nat) : IsZ w A (l.take m) := fun hp => by
  obtain ⟨b, off, e, hc⟩ := h (by simp at hp; omega)
  refine ⟨b, off, e, fun j hj => ?_⟩
  have hj' : j < m ∧ j < l.length := by simp at hj; omega
  rw [hc j hj'.2]
  simp [List.getD, hj'.1]
theorem z_drop {w : World} {g c : Nat} {l : List Int} (h : IsZ w (some ⟨g, 0, none⟩) l) (m : Nat) (hc : l.length ≤ c) : IsZ w (some (if c = m then ⟨g, 0, none⟩ else ⟨g, m, none⟩)) (l.drop m) := fun hp => by
  have hm : m < l.length := by simp at hp; omega
  obtain ⟨b, off, e, hx⟩ := h (by omega)
  injection e with e; injection e with e1 e2
  subst e1 e2
  rw [if_neg (by omega)]
  refine ⟨g, m, rfl, fun j hj => ?_⟩
  have := hx (m + j) (by simp at hj; omega)
  rw [Nat.zero_add] at this
  rw [this]
  simp [List.getD, List.getElem?_drop]
theorem own_baseZ {w : World} {b1 b2 n e s : Nat} {v : Value} {xs : List Value} (h : w.ownsRow b2 e s v n xs) (hb : b1 ≤ b2) : w.ownsRow b1 e s v n xs := by
  refine ⟨h.1, ?_⟩
  rcases h.2 with hn | ⟨g, cap, cur, e, hg, rest⟩
  · exact .inl hn
  · exact .inr ⟨g, cap, cur, e, by omega, rest⟩
theorem own_geZ {w : World} {base e s n : Nat} {v : Value} {xs : List Value} (h : w.ownsRow base e s v n xs) : ∀ g, v.ownBlock = some g → base ≤ g := fun g hg => (h.lt g hg).1
theorem lit_z (w : World) (z : Int) : IsZ (w.alloc (.cells #[.int .i64 z] 3)) (some ⟨w.heap.size, 0, none⟩) [z] := fun _ => ⟨_, _, rfl, fun j hj => by
  have e := heap_alloc_new w (.cells #[.int .i64 z] 3)
  rw [cell_of_row _ _ _ _ _ _ e]
  obtain rfl : j = 0 := by simpa using hj
  rfl⟩
/-- What the outer loop keeps. -/
structure RzI (w : World) (l : List Int) (k no : Nat) (out : List Int) (v : Value) (wr : World) : Prop where
  ko : wr.ownsRow w.heap.size 3 1 v no (zs out)
  kp : (out.Pairwise (· < ·))
  ks : ∀ y, y ∈ out ↔ y ∈ l.take k
  kb : Below w.heap.size w wr
  kn : no ≤ k
def MadeZ (w : World) (l : List Int) (e : Ending) (w' : World) : Prop := ∃ v, e = .returned v ∧ w'.ownsRow w.heap.size 3 1 v l.length (zs l) ∧ Below w.heap.size w w'

set_option maxRecDepth 100000 in
set_option maxHeartbeats 4000000 in
theorem rising_any (l : List Int) (A : Option Addr) (n cap : Nat) (w : World) (hn : l.length = n) (hl : n ≤ 1048576) (ha : IsZ w A l) :
    Calls Try.prog 23 #[.slice A n cap] w fun e w' => ∃ out, IsRise l out ∧ MadeZ w out e w' := by
  have HA := Lib.hid ha
  have HN := Lib.hid hn
  clear ha hn
  go_enter Try.func23, Try.ntmps23
  go_wp2
  go_loopw [3, 4] (fun v i wr => ∃ (k no : Nat) (out : List Int), k ≤ n ∧ i = .int .i64 (k : Int) ∧ Hid (RzI w l k no out v wr)) (fun _ i _ => n - (intOf i).toNat)
  case atStart => exact ⟨0, 0, [], by omega, rfl, World.ownsRow_nil _ _ _ _, List.Pairwise.nil, fun y => by simp, Below.refl _ _, Nat.le_refl _⟩
  case round =>
    obtain ⟨k, no, out, hk, rfl, HT⟩ := hrel
    have hnok := HT.out.kn
    by_cases hkn : k < n
    · obtain ⟨b, off, rfl, hc⟩ := HA.out (by rw [HN.out]; omega)
      have hkz : (k : Int) < (n : Int) := by omega
      have HC : Hid (∀ W, Below w.heap.size w W → W.cell? ⟨b, off + k, none⟩ = some (.int .i64 (nz l k))) := fun W hW => isZ_at (HA.out.below hW) (by rw [HN.out]; exact hkn)
      clear hc
      obtain ⟨X, hX⟩ : ∃ X, nz l k = X := ⟨_, rfl⟩
      have HX : Hid (nz l k = X) := hX
      rw [hX] at HC
      clear hX
      rcases HT.out.ko.2 with ⟨rfl, rfl⟩ | ⟨g, c, cur, rfl, hbg, hgh, hkc, _, _, _⟩
      · have HO : Hid (out = []) := by
          have := HT.out.ko.1
          rw [zs_len] at this
          exact List.eq_nil_of_length_eq_zero (by omega)
        have kb := HT.out.kb
        have KS : Hid (∀ y, y ∈ ([] : List Int) ↔ y ∈ l.take k) := by have := HT.out.ks; rw [HO.out] at this; exact this
        clear HT
        rename World => wo
        go_wp2_with fail
        go_loopw [5] (fun nn W => nn = .int .i64 0 ∧ ∃ q, W = wo.drewN q) (fun nn _ => (intOf nn).toNat)
        case atStart => exact ⟨rfl, 0, rfl⟩
        case round =>
          obtain ⟨rfl, hq⟩ := hrel
          have HQ := Lib.hid hq
          clear hq
          have HB : Hid (Below w.heap.size w wr) := by obtain ⟨q, rfl⟩ := HQ.out; exact ⟨kb.os, kb.tape, kb.output, kb.size, kb.block⟩
          go_wp2
          go_quiet (fail)
          have HB2 : Hid (Below w.heap.size w (wr.drewN nq)) := drewN_below HB.out nq
          generalize wr.drewN nq = wx at HB2 ⊢
          go_wp2_with fail
          go_quiet (fail)
          have b0q : Below w.heap.size w (wx.drewN nq) := drewN_below HB2.out nq
          generalize wx.drewN nq = wq at b0q ⊢
          have HCW : Hid (∀ W, Below wq.heap.size wq W → W.cell? ⟨b, off + k, none⟩ = some (.int .i64 X)) := fun W hW => HC.out W (b0q.trans (hW.mono b0q.size))
          have HST : Hid ((([] : List Int).take 0 ++ X :: ([] : List Int).drop 0).Pairwise (· < ·) ∧ ∀ y, y ∈ (([] : List Int).take 0 ++ X :: ([] : List Int).drop 0) ↔ y ∈ l.take (k + 1)) := by
            have := rise_step (l := l) (out := []) (k := k) (m := 0) ⟨List.Pairwise.nil, KS.out⟩ (by rw [HN.out]; exact hkn) (by simp) (fun j _ h => by simp at h) (fun h => by omega)
            rw [HX.out] at this
            exact this
          have ROWT : Hid (∀ W, Below wq.heap.size wq W → IsZ W none (([] : List Int).take 0)) := fun _ _ h => absurd h (by simp)
          have ROWD : Hid (∀ W, Below wq.heap.size wq W → IsZ W none (([] : List Int).drop 0)) := fun _ _ h => absurd h (by simp)
          have ol : ([] : List Int).length = 0 := rfl
          clear HO
          go_wp2_with fail
          refine wp_region_held_drew (S := fun W => Below wq.heap.size wq W) (by kernel_rfl) ((Below.refl _ _).drew) (fun hHeld => ?_)
          refine held_take 0 44 (v := (.slice none 0 0)) rfl rfl (by kernel_rfl) (by kernel_rfl) (by kernel_rfl) (by rfl) (fun _ _ _ h => h) (by assumption) ?_ ?_
          · intro W hW
            go_simp
          simp only [List.setIfInBounds_toArray, List.set_cons_zero, List.set_cons_succ]
          refine held_take 1 45 (v := (.int .i64 (0 : Int))) rfl rfl (by kernel_rfl) (by kernel_rfl) (by kernel_rfl) (by rfl) (fun _ _ _ h => h) (by assumption) ?_ ?_
          · intro W hW
            go_simp
          simp only [List.setIfInBounds_toArray, List.set_cons_zero, List.set_cons_succ]
          refine held_take 2 46 (v := (.slice none 0 0)) rfl rfl (by kernel_rfl) (by kernel_rfl) (by kernel_rfl) (by rfl) (fun _ _ _ h => h) (by assumption) ?_ ?_
          · intro W hW
            go_simp
          simp only [List.setIfInBounds_toArray, List.set_cons_zero, List.set_cons_succ]
          refine held_take 4 48 (v := (.slice (some ⟨b, off, none⟩) n cap)) rfl rfl (by kernel_rfl) (by kernel_rfl) (by kernel_rfl) (by rfl) (fun _ _ _ h => h) (by assumption) ?_ ?_
          · intro W hW
            go_simp
          simp only [List.setIfInBounds_toArray, List.set_cons_zero, List.set_cons_succ]
          refine held_take 5 49 (v := (.int .i64 (k : Int))) rfl rfl (by kernel_rfl) (by kernel_rfl) (by kernel_rfl) (by rfl) (fun _ _ _ h => h) (by assumption) ?_ ?_
          · intro W hW
            go_simp
          simp only [List.setIfInBounds_toArray, List.set_cons_zero, List.set_cons_succ]
          refine held_take 6 50 (v := (.pointer (some ⟨b, off + k, none⟩))) rfl rfl (by kernel_rfl) (by kernel_rfl) (by kernel_rfl) (by rfl) (fun _ _ _ h => h) (by assumption) ?_ ?_
          · intro W hW
            go_simp
          simp only [List.setIfInBounds_toArray, List.set_cons_zero, List.set_cons_succ]
          refine held_take 7 51 (v := (.int .i64 X)) rfl rfl (by kernel_rfl) (by kernel_rfl) (by kernel_rfl) (by rfl) (fun _ _ _ h => h) (by assumption) ?_ ?_
          · intro W hW
            have z1 := HCW.out W hW
            go_simp
          simp only [List.setIfInBounds_toArray, List.set_cons_zero, List.set_cons_succ]
          refine held_take 10 54 (v := (.slice none 0 0)) rfl rfl (by kernel_rfl) (by kernel_rfl) (by kernel_rfl) (by rfl) (fun _ _ _ h => h) (by assumption) ?_ ?_
          · intro W hW
            go_simp
          simp only [List.setIfInBounds_toArray, List.set_cons_zero, List.set_cons_succ]
          refine held_take 11 55 (v := (.int .i64 (0 : Int))) rfl rfl (by kernel_rfl) (by kernel_rfl) (by kernel_rfl) (by rfl) (fun _ _ _ h => h) (by assumption) ?_ ?_
          · intro W hW
            go_simp
          simp only [List.setIfInBounds_toArray, List.set_cons_zero, List.set_cons_succ]
          refine held_take 12 56 (v := (.slice none 0 0)) rfl rfl (by kernel_rfl) (by kernel_rfl) (by kernel_rfl) (by rfl) (fun _ _ _ h => h) (by assumption) ?_ ?_
          · intro W hW
            go_simp
          simp only [List.setIfInBounds_toArray, List.set_cons_zero, List.set_cons_succ]
          have dG : ∀ {x y : World} {q : Option Nat}, x.grownBy y q → x.heap.size ≤ y.heap.size := fun h => h.size
          refine held_two 3 8 rfl rfl (by kernel_rfl) (by rfl) (by rfl) ?_ ?_
          · refine wp_appZ (.const (.slice none 0 0)) (.tmp 46) rfl wq.heap.size (.slice none 0 0) 0 [] rfl (World.ownsRow_nil _ _ _ _) _ 0 _ (([] : List Int).take 0) rfl (by rw [List.length_take, ol]; omega) (fun _ => rfl) (ROWT.out wq.drew ((Below.refl _ _).drew)) (by omega) (Nat.le_refl _) ?_
            intro v1 w4 o1 g1
            have o1' : w4.ownsRow wq.heap.size 3 1 v1 0 (zs (([] : List Int).take 0)) := by simpa using o1
            have d1 : Below wq.heap.size wq w4 := ((Below.refl _ _).drew).grown g1 (Nat.le_refl _) (fun _ h => by cases h)
            refine ⟨d1, ?_⟩
            show wpAnyH _ _ _ _ _ _ _ ⟨Array.setIfInBounds _ 47 v1, _⟩ _
            simp only [List.setIfInBounds_toArray, List.set_cons_zero, List.set_cons_succ]
            have dZ : Below wq.heap.size wq (w4.alloc (.cells #[.int .i64 X] 3)) := d1.alloc d1.size _
            refine held_op 8 rfl (by kernel_rfl) (by rfl) ?_
            refine wp_run (v := .slice (some ⟨w4.heap.size, 0, none⟩) 1 1) (w' := w4.alloc (.cells #[.int .i64 X] 3)) rfl (by go_simp) ⟨dZ, ?_⟩
            simp only [List.setIfInBounds_toArray, List.set_cons_zero, List.set_cons_succ]
            have oZ : (w4.alloc (.cells #[.int .i64 X] 3)).ownsRow wq.heap.size 3 1 v1 0 (zs (([] : List Int).take 0)) := o1'.alloc _
            have hsZ : wq.heap.size ≤ (w4.alloc (.cells #[.int .i64 X] 3)).heap.size := dZ.size
            refine held_op 9 rfl (by kernel_rfl) (by rfl) ?_
            refine wp_appZ (.tmp 47) (.tmp 52) rfl wq.heap.size v1 0 (([] : List Int).take 0) rfl oZ (some ⟨w4.heap.size, 0, none⟩) 1 1 [X] rfl rfl (fun e => by cases e) (lit_z w4 X) (by omega) hsZ ?_
            clear o1 g1 o1' d1
            intro v2 w5 o2 g2
            have d2 : Below wq.heap.size wq w5 := dZ.grown g2 dZ.size (fun g hg => by have := own_geZ oZ g hg; omega)
            refine ⟨d2, ?_⟩
            show wpAnyH _ _ _ _ _ _ _ ⟨Array.setIfInBounds _ 53 v2, _⟩ _
            simp only [List.setIfInBounds_toArray, List.set_cons_zero, List.set_cons_succ]
            have hs5 : wq.heap.size ≤ w5.heap.size := Nat.le_trans hsZ (dG g2)
            refine held_op 13 rfl (by kernel_rfl) (by rfl) ?_
            refine wp_appZ (.tmp 53) (.tmp 56) rfl wq.heap.size v2 (0 + 1) (([] : List Int).take 0 ++ [X]) rfl o2 _ (0 - 0) (0 - 0) (([] : List Int).drop 0) rfl (by rw [List.length_drop, ol]) (fun _ => rfl) (ROWD.out w5 d2) (by omega) hs5 ?_
            intro v3 w6 o3 g3
            have d3 : Below wq.heap.size wq w6 := d2.grown g3 d2.size (fun g hg => by have := own_geZ o2 g hg; omega)
            refine ⟨d3, ?_⟩
            show wpAnyH _ _ _ _ _ _ _ ⟨Array.setIfInBounds _ 57 v3, _⟩ _
            simp only [List.setIfInBounds_toArray, List.set_cons_zero, List.set_cons_succ]
            have R : Hid (RzI w l (k + 1) (0 + 1) (([] : List Int).take 0 ++ X :: ([] : List Int).drop 0) v3 w6) := by
              have e : 0 + 1 + (0 - 0) = 0 + 1 := by omega
              have e2 : ([] : List Int).take 0 ++ [X] ++ ([] : List Int).drop 0 = ([] : List Int).take 0 ++ X :: ([] : List Int).drop 0 := by simp
              rw [e, e2] at o3
              exact ⟨own_baseZ o3 (by have := b0q.size; omega), HST.out.1, HST.out.2, b0q.trans (d3.mono b0q.size), by omega⟩
            clear o3 g3 o2 g2
            refine held_take 14 3 (v := v3) rfl rfl (by kernel_rfl) (by kernel_rfl) (by kernel_rfl) (by rfl) (fun _ _ _ h => h) (by assumption) ?_ ?_
            · intro W hW
              go_simp
            simp only [List.setIfInBounds_toArray, List.set_cons_zero, List.set_cons_succ]
            refine wpAnyH_done (by kernel_rfl) ?_ _
            clear d2 d3 dZ oZ hsZ HST
            go_wp2
            go_roundw
            case rel => exact ⟨k + 1, _, _, by omega, by go_num, R⟩
            case measure => simp [intOf]; omega
          · have dA : Below wq.heap.size wq (wq.drew.alloc (.cells #[.int .i64 X] 3)) := ((Below.refl _ _).drew).alloc (Nat.le_refl _) _
            refine wp_run (v := .slice (some ⟨wq.heap.size, 0, none⟩) 1 1) (w' := wq.drew.alloc (.cells #[.int .i64 X] 3)) rfl (by go_simp) ⟨dA, ?_⟩
            simp only [List.setIfInBounds_toArray, List.set_cons_zero, List.set_cons_succ]
            have hsA : wq.heap.size + 1 ≤ (wq.drew.alloc (.cells #[.int .i64 X] 3)).heap.size := by simp
            refine held_op 3 rfl (by kernel_rfl) (by rfl) ?_
            refine wp_appZ (.const (.slice none 0 0)) (.tmp 46) rfl (wq.heap.size + 1) (.slice none 0 0) 0 [] rfl (World.ownsRow_nil _ _ _ _) _ 0 _ (([] : List Int).take 0) rfl (by rw [List.length_take, ol]; omega) (fun _ => rfl) (ROWT.out (wq.drew.alloc (.cells #[.int .i64 X] 3)) dA) (by omega) hsA ?_
            intro v1 w4 o1 g1
            have oZ : w4.ownsRow (wq.heap.size + 1) 3 1 v1 0 (zs (([] : List Int).take 0)) := by simpa using o1
            have dZ : Below wq.heap.size wq w4 := dA.grown g1 dA.size (fun _ h => by cases h)
            have dB : Below (wq.drew.alloc (.cells #[.int .i64 X] 3)).heap.size (wq.drew.alloc (.cells #[.int .i64 X] 3)) w4 := (Below.refl _ _).grown g1 (Nat.le_refl _) (fun _ h => by cases h)
            have lr : IsZ w4 (some ⟨wq.heap.size, 0, none⟩) [X] := (lit_z wq.drew X).below dB
            have hsZ : wq.heap.size + 1 ≤ w4.heap.size := Nat.le_trans hsA dB.size
            refine ⟨dZ, ?_⟩
            show wpAnyH _ _ _ _ _ _ _ ⟨Array.setIfInBounds _ 47 v1, _⟩ _
            simp only [List.setIfInBounds_toArray, List.set_cons_zero, List.set_cons_succ]
            refine held_op 9 rfl (by kernel_rfl) (by rfl) ?_
            refine wp_appZ (.tmp 47) (.tmp 52) rfl (wq.heap.size + 1) v1 0 (([] : List Int).take 0) rfl oZ (some ⟨wq.heap.size, 0, none⟩) 1 1 [X] rfl rfl (fun e => by cases e) lr (by omega) hsZ ?_
            clear o1 g1 dA dB lr
            intro v2 w5 o2 g2
            have d2 : Below wq.heap.size wq w5 := dZ.grown g2 dZ.size (fun g hg => by have := own_geZ oZ g hg; omega)
            refine ⟨d2, ?_⟩
            show wpAnyH _ _ _ _ _ _ _ ⟨Array.setIfInBounds _ 53 v2, _⟩ _
            simp only [List.setIfInBounds_toArray, List.set_cons_zero, List.set_cons_succ]
            have hs5 : (wq.heap.size + 1) ≤ w5.heap.size := Nat.le_trans hsZ (dG g2)
            refine held_op 13 rfl (by kernel_rfl) (by rfl) ?_
            refine wp_appZ (.tmp 53) (.tmp 56) rfl (wq.heap.size + 1) v2 (0 + 1) (([] : List Int).take 0 ++ [X]) rfl o2 _ (0 - 0) (0 - 0) (([] : List Int).drop 0) rfl (by rw [List.length_drop, ol]) (fun _ => rfl) (ROWD.out w5 d2) (by omega) hs5 ?_
            intro v3 w6 o3 g3
            have d3 : Below wq.heap.size wq w6 := d2.grown g3 d2.size (fun g hg => by have := own_geZ o2 g hg; omega)
            refine ⟨d3, ?_⟩
            show wpAnyH _ _ _ _ _ _ _ ⟨Array.setIfInBounds _ 57 v3, _⟩ _
            simp only [List.setIfInBounds_toArray, List.set_cons_zero, List.set_cons_succ]
            have R : Hid (RzI w l (k + 1) (0 + 1) (([] : List Int).take 0 ++ X :: ([] : List Int).drop 0) v3 w6) := by
              have e : 0 + 1 + (0 - 0) = 0 + 1 := by omega
              have e2 : ([] : List Int).take 0 ++ [X] ++ ([] : List Int).drop 0 = ([] : List Int).take 0 ++ X :: ([] : List Int).drop 0 := by simp
              rw [e, e2] at o3
              exact ⟨own_baseZ o3 (by have := b0q.size; omega), HST.out.1, HST.out.2, b0q.trans (d3.mono b0q.size), by omega⟩
            clear o3 g3 o2 g2
            refine held_take 14 3 (v := v3) rfl rfl (by kernel_rfl) (by kernel_rfl) (by kernel_rfl) (by rfl) (fun _ _ _ h => h) (by assumption) ?_ ?_
            · intro W hW
              go_simp
            simp only [List.setIfInBounds_toArray, List.set_cons_zero, List.set_cons_succ]
            refine wpAnyH_done (by kernel_rfl) ?_ _
            clear d2 d3 dZ oZ hsZ HST
            go_wp2
            go_roundw
            case rel => exact ⟨k + 1, _, _, by omega, by go_num, R⟩
            case measure => simp [intOf]; omega
      · have ol : out.length = no := by have := HT.out.ko.1; rw [zs_len] at this; omega
        have RO : Hid (IsZ wr (some ⟨g, 0, none⟩) out) := by
          obtain ⟨A', c', e, _, _, hi, _⟩ := own_z HT.out.ko
          injection e with e1 e2 e3
          rw [e1]; exact hi
        have hgl : g < wr.heap.size := (Array.getElem?_eq_some_iff.1 hgh).1
        have kb := HT.out.kb
        clear hgh
        rename World => wo
        go_wp2_with fail
        go_loopw [5] (fun nn W => ∃ m : Nat, m ≤ no ∧ nn = .int .i64 (m : Int) ∧ Hid ((∀ j, m ≤ j → j < no → X < nz out j) ∧ ∃ q, W = wo.drewN q)) (fun nn _ => (intOf nn).toNat)
        case atStart => exact ⟨no, by omega, rfl, fun j h1 h2 => by omega, 0, rfl⟩
        case round =>
          obtain ⟨m, hmk, rfl, HI⟩ := hrel
          have HALL := Lib.hid HI.out.1
          have HQ := Lib.hid HI.out.2
          clear HI
          have HB : Hid (Below w.heap.size w wr) := by obtain ⟨q, rfl⟩ := HQ.out; exact ⟨kb.os, kb.tape, kb.output, kb.size, kb.block⟩
          have HO : Hid (IsZ wr (some ⟨g, 0, none⟩) out) := by obtain ⟨q, rfl⟩ := HQ.out; exact RO.out
          have HS : Hid (g < wr.heap.size) := by obtain ⟨q, rfl⟩ := HQ.out; exact hgl
          have hkb : k ≤ 1048576 := by omega
          by_cases m0 : m = 0
          · have g0 : decide ((m : Int) > 0) = false := decide_eq_false (by omega)
            have g0' : decide (0 < m) = false := decide_eq_false (by omega)
            go_wp2
            go_quiet (fail)
            have HST : Hid ((out.take m ++ X :: out.drop m).Pairwise (· < ·) ∧ ∀ y, y ∈ (out.take m ++ X :: out.drop m) ↔ y ∈ l.take (k + 1)) := by
              have := rise_step ⟨HT.out.kp, HT.out.ks⟩ (m := m) (by rw [HN.out]; exact hkn) (by omega) (by rw [HX.out, ol]; exact HALL.out) (fun h => absurd h (by omega))
              rw [HX.out] at this
              exact this
            have HB2 : Hid (Below w.heap.size w (wr.drewN nq)) := drewN_below HB.out nq
            have HO2 : Hid (IsZ (wr.drewN nq) (some ⟨g, 0, none⟩) out) := HO.out
            generalize wr.drewN nq = wx at HB2 HO2 ⊢
            go_wp2_with fail
            go_quiet (fail)
            have b0q : Below w.heap.size w (wx.drewN nq) := drewN_below HB2.out nq
            have ROWT : Hid (∀ W, Below wx.heap.size (wx.drewN nq) W → IsZ W (some ⟨g, 0, none⟩) (out.take m)) := fun W hW => z_take (IsZ.below (w := wx.drewN nq) HO2.out hW) m
            have ROWD : Hid (∀ W, Below wx.heap.size (wx.drewN nq) W → IsZ W (some (if c = m then ⟨g, 0, none⟩ else ⟨g, m, none⟩)) (out.drop m)) := fun W hW => z_drop (IsZ.below (w := wx.drewN nq) HO2.out hW) m (by rw [ol]; exact hkc)
            have esz : (wx.drewN nq).heap.size = wx.heap.size := rfl
            rw [← esz] at ROWT ROWD
            clear esz
            generalize wx.drewN nq = wq at b0q ROWT ROWD ⊢
            have HCW : Hid (∀ W, Below wq.heap.size wq W → W.cell? ⟨b, off + k, none⟩ = some (.int .i64 X)) := fun W hW => HC.out W (b0q.trans (hW.mono b0q.size))
            go_wp2_with fail
            refine wp_region_held_drew (S := fun W => Below wq.heap.size wq W) (by kernel_rfl) ((Below.refl _ _).drew) (fun hHeld => ?_)
            refine held_take 0 44 (v := (.slice (some ⟨g, 0, none⟩) no c)) rfl rfl (by kernel_rfl) (by kernel_rfl) (by kernel_rfl) (by rfl) (fun _ _ _ h => h) (by assumption) ?_ ?_
            · intro W hW
              go_simp
            simp only [List.setIfInBounds_toArray, List.set_cons_zero, List.set_cons_succ]
            refine held_take 1 45 (v := (.int .i64 (m : Int))) rfl rfl (by kernel_rfl) (by kernel_rfl) (by kernel_rfl) (by rfl) (fun _ _ _ h => h) (by assumption) ?_ ?_
            · intro W hW
              go_simp
            simp only [List.setIfInBounds_toArray, List.set_cons_zero, List.set_cons_succ]
            refine held_take 2 46 (v := (.slice (some ⟨g, 0, none⟩) m c)) rfl rfl (by kernel_rfl) (by kernel_rfl) (by kernel_rfl) (by rfl) (fun _ _ _ h => h) (by assumption) ?_ ?_
            · intro W hW
              have sl := zcut_lo W g no c m (by omega)
              go_simp
            simp only [List.setIfInBounds_toArray, List.set_cons_zero, List.set_cons_succ]
            refine held_take 4 48 (v := (.slice (some ⟨b, off, none⟩) n cap)) rfl rfl (by kernel_rfl) (by kernel_rfl) (by kernel_rfl) (by rfl) (fun _ _ _ h => h) (by assumption) ?_ ?_
            · intro W hW
              go_simp
            simp only [List.setIfInBounds_toArray, List.set_cons_zero, List.set_cons_succ]
            refine held_take 5 49 (v := (.int .i64 (k : Int))) rfl rfl (by kernel_rfl) (by kernel_rfl) (by kernel_rfl) (by rfl) (fun _ _ _ h => h) (by assumption) ?_ ?_
            · intro W hW
              go_simp
            simp only [List.setIfInBounds_toArray, List.set_cons_zero, List.set_cons_succ]
            refine held_take 6 50 (v := (.pointer (some ⟨b, off + k, none⟩))) rfl rfl (by kernel_rfl) (by kernel_rfl) (by kernel_rfl) (by rfl) (fun _ _ _ h => h) (by assumption) ?_ ?_
            · intro W hW
              go_simp
            simp only [List.setIfInBounds_toArray, List.set_cons_zero, List.set_cons_succ]
            refine held_take 7 51 (v := (.int .i64 X)) rfl rfl (by kernel_rfl) (by kernel_rfl) (by kernel_rfl) (by rfl) (fun _ _ _ h => h) (by assumption) ?_ ?_
            · intro W hW
              have z1 := HCW.out W hW
              go_simp
            simp only [List.setIfInBounds_toArray, List.set_cons_zero, List.set_cons_succ]
            refine held_take 10 54 (v := (.slice (some ⟨g, 0, none⟩) no c)) rfl rfl (by kernel_rfl) (by kernel_rfl) (by kernel_rfl) (by rfl) (fun _ _ _ h => h) (by assumption) ?_ ?_
            · intro W hW
              go_simp
            simp only [List.setIfInBounds_toArray, List.set_cons_zero, List.set_cons_succ]
            refine held_take 11 55 (v := (.int .i64 (m : Int))) rfl rfl (by kernel_rfl) (by kernel_rfl) (by kernel_rfl) (by rfl) (fun _ _ _ h => h) (by assumption) ?_ ?_
            · intro W hW
              go_simp
            simp only [List.setIfInBounds_toArray, List.set_cons_zero, List.set_cons_succ]
            refine held_take 12 56 (v := (.slice (some (if c = m then ⟨g, 0, none⟩ else ⟨g, m, none⟩)) (no - m) (c - m))) rfl rfl (by kernel_rfl) (by kernel_rfl) (by kernel_rfl) (by rfl) (fun _ _ _ h => h) (by assumption) ?_ ?_
            · intro W hW
              have sl := zcut_hi W g no c m (by omega)
              go_simp
            simp only [List.setIfInBounds_toArray, List.set_cons_zero, List.set_cons_succ]
            have dG : ∀ {x y : World} {q : Option Nat}, x.grownBy y q → x.heap.size ≤ y.heap.size := fun h => h.size
            refine held_two 3 8 rfl rfl (by kernel_rfl) (by rfl) (by rfl) ?_ ?_
            · refine wp_appZ (.const (.slice none 0 0)) (.tmp 46) rfl wq.heap.size (.slice none 0 0) 0 [] rfl (World.ownsRow_nil _ _ _ _) _ m _ (out.take m) rfl (by rw [List.length_take, ol]; omega) (fun e => by cases e) (ROWT.out wq.drew ((Below.refl _ _).drew)) (by omega) (Nat.le_refl _) ?_
              intro v1 w4 o1 g1
              have o1' : w4.ownsRow wq.heap.size 3 1 v1 m (zs (out.take m)) := by simpa using o1
              have d1 : Below wq.heap.size wq w4 := ((Below.refl _ _).drew).grown g1 (Nat.le_refl _) (fun _ h => by cases h)
              refine ⟨d1, ?_⟩
              show wpAnyH _ _ _ _ _ _ _ ⟨Array.setIfInBounds _ 47 v1, _⟩ _
              simp only [List.setIfInBounds_toArray, List.set_cons_zero, List.set_cons_succ]
              have dZ : Below wq.heap.size wq (w4.alloc (.cells #[.int .i64 X] 3)) := d1.alloc d1.size _
              refine held_op 8 rfl (by kernel_rfl) (by rfl) ?_
              refine wp_run (v := .slice (some ⟨w4.heap.size, 0, none⟩) 1 1) (w' := w4.alloc (.cells #[.int .i64 X] 3)) rfl (by go_simp) ⟨dZ, ?_⟩
              simp only [List.setIfInBounds_toArray, List.set_cons_zero, List.set_cons_succ]
              have oZ : (w4.alloc (.cells #[.int .i64 X] 3)).ownsRow wq.heap.size 3 1 v1 m (zs (out.take m)) := o1'.alloc _
              have hsZ : wq.heap.size ≤ (w4.alloc (.cells #[.int .i64 X] 3)).heap.size := dZ.size
              refine held_op 9 rfl (by kernel_rfl) (by rfl) ?_
              refine wp_appZ (.tmp 47) (.tmp 52) rfl wq.heap.size v1 m (out.take m) rfl oZ (some ⟨w4.heap.size, 0, none⟩) 1 1 [X] rfl rfl (fun e => by cases e) (lit_z w4 X) (by omega) hsZ ?_
              clear o1 g1 o1' d1
              intro v2 w5 o2 g2
              have d2 : Below wq.heap.size wq w5 := dZ.grown g2 dZ.size (fun g hg => by have := own_geZ oZ g hg; omega)
              refine ⟨d2, ?_⟩
              show wpAnyH _ _ _ _ _ _ _ ⟨Array.setIfInBounds _ 53 v2, _⟩ _
              simp only [List.setIfInBounds_toArray, List.set_cons_zero, List.set_cons_succ]
              have hs5 : wq.heap.size ≤ w5.heap.size := Nat.le_trans hsZ (dG g2)
              refine held_op 13 rfl (by kernel_rfl) (by rfl) ?_
              refine wp_appZ (.tmp 53) (.tmp 56) rfl wq.heap.size v2 (m + 1) (out.take m ++ [X]) rfl o2 _ (no - m) (c - m) (out.drop m) rfl (by rw [List.length_drop, ol]) (fun e => by cases e) (ROWD.out w5 d2) (by omega) hs5 ?_
              intro v3 w6 o3 g3
              have d3 : Below wq.heap.size wq w6 := d2.grown g3 d2.size (fun g hg => by have := own_geZ o2 g hg; omega)
              refine ⟨d3, ?_⟩
              show wpAnyH _ _ _ _ _ _ _ ⟨Array.setIfInBounds _ 57 v3, _⟩ _
              simp only [List.setIfInBounds_toArray, List.set_cons_zero, List.set_cons_succ]
              have R : Hid (RzI w l (k + 1) (no + 1) (out.take m ++ X :: out.drop m) v3 w6) := by
                have e : m + 1 + (no - m) = no + 1 := by omega
                have e2 : out.take m ++ [X] ++ out.drop m = out.take m ++ X :: out.drop m := by simp
                rw [e, e2] at o3
                exact ⟨own_baseZ o3 (by have := b0q.size; omega), HST.out.1, HST.out.2, b0q.trans (d3.mono b0q.size), by omega⟩
              clear o3 g3 o2 g2
              refine held_take 14 3 (v := v3) rfl rfl (by kernel_rfl) (by kernel_rfl) (by kernel_rfl) (by rfl) (fun _ _ _ h => h) (by assumption) ?_ ?_
              · intro W hW
                go_simp
              simp only [List.setIfInBounds_toArray, List.set_cons_zero, List.set_cons_succ]
              refine wpAnyH_done (by kernel_rfl) ?_ _
              clear d2 d3 dZ oZ hsZ HST
              go_wp2
              go_roundw
              case rel => exact ⟨k + 1, _, _, by omega, by go_num, R⟩
              case measure => simp [intOf]; omega
            · have dA : Below wq.heap.size wq (wq.drew.alloc (.cells #[.int .i64 X] 3)) := ((Below.refl _ _).drew).alloc (Nat.le_refl _) _
              refine wp_run (v := .slice (some ⟨wq.heap.size, 0, none⟩) 1 1) (w' := wq.drew.alloc (.cells #[.int .i64 X] 3)) rfl (by go_simp) ⟨dA, ?_⟩
              simp only [List.setIfInBounds_toArray, List.set_cons_zero, List.set_cons_succ]
              have hsA : wq.heap.size + 1 ≤ (wq.drew.alloc (.cells #[.int .i64 X] 3)).heap.size := by simp
              refine held_op 3 rfl (by kernel_rfl) (by rfl) ?_
              refine wp_appZ (.const (.slice none 0 0)) (.tmp 46) rfl (wq.heap.size + 1) (.slice none 0 0) 0 [] rfl (World.ownsRow_nil _ _ _ _) _ m _ (out.take m) rfl (by rw [List.length_take, ol]; omega) (fun e => by cases e) (ROWT.out (wq.drew.alloc (.cells #[.int .i64 X] 3)) dA) (by omega) hsA ?_
              intro v1 w4 o1 g1
              have oZ : w4.ownsRow (wq.heap.size + 1) 3 1 v1 m (zs (out.take m)) := by simpa using o1
              have dZ : Below wq.heap.size wq w4 := dA.grown g1 dA.size (fun _ h => by cases h)
              have dB : Below (wq.drew.alloc (.cells #[.int .i64 X] 3)).heap.size (wq.drew.alloc (.cells #[.int .i64 X] 3)) w4 := (Below.refl _ _).grown g1 (Nat.le_refl _) (fun _ h => by cases h)
              have lr : IsZ w4 (some ⟨wq.heap.size, 0, none⟩) [X] := (lit_z wq.drew X).below dB
              have hsZ : wq.heap.size + 1 ≤ w4.heap.size := Nat.le_trans hsA dB.size
              refine ⟨dZ, ?_⟩
              show wpAnyH _ _ _ _ _ _ _ ⟨Array.setIfInBounds _ 47 v1, _⟩ _
              simp only [List.setIfInBounds_toArray, List.set_cons_zero, List.set_cons_succ]
              refine held_op 9 rfl (by kernel_rfl) (by rfl) ?_
              refine wp_appZ (.tmp 47) (.tmp 52) rfl (wq.heap.size + 1) v1 m (out.take m) rfl oZ (some ⟨wq.heap.size, 0, none⟩) 1 1 [X] rfl rfl (fun e => by cases e) lr (by omega) hsZ ?_
              clear o1 g1 dA dB lr
              intro v2 w5 o2 g2
              have d2 : Below wq.heap.size wq w5 := dZ.grown g2 dZ.size (fun g hg => by have := own_geZ oZ g hg; omega)
              refine ⟨d2, ?_⟩
              show wpAnyH _ _ _ _ _ _ _ ⟨Array.setIfInBounds _ 53 v2, _⟩ _
              simp only [List.setIfInBounds_toArray, List.set_cons_zero, List.set_cons_succ]
              have hs5 : (wq.heap.size + 1) ≤ w5.heap.size := Nat.le_trans hsZ (dG g2)
              refine held_op 13 rfl (by kernel_rfl) (by rfl) ?_
              refine wp_appZ (.tmp 53) (.tmp 56) rfl (wq.heap.size + 1) v2 (m + 1) (out.take m ++ [X]) rfl o2 _ (no - m) (c - m) (out.drop m) rfl (by rw [List.length_drop, ol]) (fun e => by cases e) (ROWD.out w5 d2) (by omega) hs5 ?_
              intro v3 w6 o3 g3
              have d3 : Below wq.heap.size wq w6 := d2.grown g3 d2.size (fun g hg => by have := own_geZ o2 g hg; omega)
              refine ⟨d3, ?_⟩
              show wpAnyH _ _ _ _ _ _ _ ⟨Array.setIfInBounds _ 57 v3, _⟩ _
              simp only [List.setIfInBounds_toArray, List.set_cons_zero, List.set_cons_succ]
              have R : Hid (RzI w l (k + 1) (no + 1) (out.take m ++ X :: out.drop m) v3 w6) := by
                have e : m + 1 + (no - m) = no + 1 := by omega
                have e2 : out.take m ++ [X] ++ out.drop m = out.take m ++ X :: out.drop m := by simp
                rw [e, e2] at o3
                exact ⟨own_baseZ o3 (by have := b0q.size; omega), HST.out.1, HST.out.2, b0q.trans (d3.mono b0q.size), by omega⟩
              clear o3 g3 o2 g2
              refine held_take 14 3 (v := v3) rfl rfl (by kernel_rfl) (by kernel_rfl) (by kernel_rfl) (by rfl) (fun _ _ _ h => h) (by assumption) ?_ ?_
              · intro W hW
                go_simp
              simp only [List.setIfInBounds_toArray, List.set_cons_zero, List.set_cons_succ]
              refine wpAnyH_done (by kernel_rfl) ?_ _
              clear d2 d3 dZ oZ hsZ HST
              go_wp2
              go_roundw
              case rel => exact ⟨k + 1, _, _, by omega, by go_num, R⟩
              case measure => simp [intOf]; omega
          · obtain ⟨p, hp⟩ : ∃ p, m = p + 1 := ⟨m - 1, by omega⟩
            have g0 : decide ((m : Int) > 0) = true := decide_eq_true (by omega)
            have g0' : decide (0 < m) = true := decide_eq_true (by omega)
            have c1 := HC.out wr HB.out
            have c3 : wr.cell? ⟨g, p, none⟩ = some (.int .i64 (nz out p)) := by have := isZ_at HO.out (j := p) (by omega); rwa [Nat.zero_add] at this
            have i1 : IntKind.i64.wrap ((m : Int) - 1) = (p : Int) := by rw [IntWalk.i64_in _ (by omega)]; omega
            have i2 : (p : Int) < (no : Int) := by omega
            obtain ⟨Z, hZ⟩ : ∃ Z, nz out p = Z := ⟨_, rfl⟩
            rw [hZ] at c3
            by_cases hgt : Z > X
            · have HALL2 : Hid (∀ j, p ≤ j → j < no → X < nz out j) := fun j h1 h2 => by
                by_cases hj : m ≤ j
                · exact HALL.out j hj h2
                · obtain rfl : j = p := by omega
                  rw [hZ]; exact hgt
              have hd : decide (Z > X) = true := decide_eq_true hgt
              clear hZ hgt
              go_wp2
              go_quiet (fail)
              clear c1 c3
              go_wp2
              go_roundw
              case rel => exact ⟨p, by omega, by first | rfl | go_num, HALL2.out, by obtain ⟨q, rfl⟩ := HQ.out; exact ⟨_, World.drewN_drewN _ _ _⟩⟩
              case measure => simp [intOf]; omega
            · have hd : decide (Z > X) = false := decide_eq_false hgt
              have HZ := Lib.hid hZ
              clear hZ
              by_cases heq : Z = X
              · have HSM : Hid (IsRise (l.take (k + 1)) out) := rise_same ⟨HT.out.kp, HT.out.ks⟩ (by rw [HN.out]; exact hkn) (m := p) (by omega) (by rw [HX.out, HZ.out]; exact heq)
                subst heq
                clear hgt
                go_wp2
                go_quiet (fail)
                have HBd : Hid (Below w.heap.size w (wr.drewN nq)) := drewN_below HB.out nq
                have c1' : (wr.drewN nq).cell? ⟨b, off + k, none⟩ = some (.int .i64 Z) := c1
                have c3' : (wr.drewN nq).cell? ⟨g, p, none⟩ = some (.int .i64 Z) := c3
                clear c1 c3
                have KO : Hid ((wr.drewN nq).ownsRow w.heap.size 3 1 (.slice (some ⟨g, 0, none⟩) no c) no (zs out)) := by obtain ⟨q, rfl⟩ := HQ.out; exact HT.out.ko
                clear HT
                generalize wr.drewN nq = wx at HBd c1' c3' KO ⊢
                go_wp2
                go_quiet (fail)
                have R : Hid (RzI w l (k + 1) no out (.slice (some ⟨g, 0, none⟩) no c) (wx.drewN nq)) := ⟨KO.out, HSM.out.1, HSM.out.2, drewN_below HBd.out nq, by omega⟩
                clear c1' c3' KO HBd
                go_wp2
                go_roundw
                case rel => exact ⟨k + 1, _, _, by omega, by go_num, R⟩
                case measure => simp [intOf]; omega
              · have hne : (Z == X) = false := by simpa using heq
                have HST : Hid ((out.take m ++ X :: out.drop m).Pairwise (· < ·) ∧ ∀ y, y ∈ (out.take m ++ X :: out.drop m) ↔ y ∈ l.take (k + 1)) := by
                  have := rise_step ⟨HT.out.kp, HT.out.ks⟩ (m := m) (by rw [HN.out]; exact hkn) (by omega) (by rw [HX.out, ol]; exact HALL.out) (fun _ => by rw [HX.out, hp, Nat.add_sub_cancel, HZ.out]; omega)
                  rw [HX.out] at this
                  exact this
                clear heq hp m0
                go_wp2
                go_quiet (fail)
                have HB2 : Hid (Below w.heap.size w (wr.drewN nq)) := drewN_below HB.out nq
                have HO2 : Hid (IsZ (wr.drewN nq) (some ⟨g, 0, none⟩) out) := HO.out
                have c1x : (wr.drewN nq).cell? ⟨b, off + k, none⟩ = some (.int .i64 X) := c1
                have c3x : (wr.drewN nq).cell? ⟨g, p, none⟩ = some (.int .i64 Z) := c3
                clear c1 c3
                generalize wr.drewN nq = wx at HB2 HO2 c1x c3x ⊢
                go_wp2_with fail
                go_quiet (fail)
                have b0q : Below w.heap.size w (wx.drewN nq) := drewN_below HB2.out nq
                have ROWT : Hid (∀ W, Below wx.heap.size (wx.drewN nq) W → IsZ W (some ⟨g, 0, none⟩) (out.take m)) := fun W hW => z_take (IsZ.below (w := wx.drewN nq) HO2.out hW) m
                have ROWD : Hid (∀ W, Below wx.heap.size (wx.drewN nq) W → IsZ W (some (if c = m then ⟨g, 0, none⟩ else ⟨g, m, none⟩)) (out.drop m)) := fun W hW => z_drop (IsZ.below (w := wx.drewN nq) HO2.out hW) m (by rw [ol]; exact hkc)
                have esz : (wx.drewN nq).heap.size = wx.heap.size := rfl
                rw [← esz] at ROWT ROWD
                clear esz
                generalize wx.drewN nq = wq at b0q ROWT ROWD ⊢
                have HCW : Hid (∀ W, Below wq.heap.size wq W → W.cell? ⟨b, off + k, none⟩ = some (.int .i64 X)) := fun W hW => HC.out W (b0q.trans (hW.mono b0q.size))
                clear c1x c3x i1 i2 hne hd hgt g0 g0'
                go_wp2_with fail
                refine wp_region_held_drew (S := fun W => Below wq.heap.size wq W) (by kernel_rfl) ((Below.refl _ _).drew) (fun hHeld => ?_)
                refine held_take 0 44 (v := (.slice (some ⟨g, 0, none⟩) no c)) rfl rfl (by kernel_rfl) (by kernel_rfl) (by kernel_rfl) (by rfl) (fun _ _ _ h => h) (by assumption) ?_ ?_
                · intro W hW
                  go_simp
                simp only [List.setIfInBounds_toArray, List.set_cons_zero, List.set_cons_succ]
                refine held_take 1 45 (v := (.int .i64 (m : Int))) rfl rfl (by kernel_rfl) (by kernel_rfl) (by kernel_rfl) (by rfl) (fun _ _ _ h => h) (by assumption) ?_ ?_
                · intro W hW
                  go_simp
                simp only [List.setIfInBounds_toArray, List.set_cons_zero, List.set_cons_succ]
                refine held_take 2 46 (v := (.slice (some ⟨g, 0, none⟩) m c)) rfl rfl (by kernel_rfl) (by kernel_rfl) (by kernel_rfl) (by rfl) (fun _ _ _ h => h) (by assumption) ?_ ?_
                · intro W hW
                  have sl := zcut_lo W g no c m (by omega)
                  go_simp
                simp only [List.setIfInBounds_toArray, List.set_cons_zero, List.set_cons_succ]
                refine held_take 4 48 (v := (.slice (some ⟨b, off, none⟩) n cap)) rfl rfl (by kernel_rfl) (by kernel_rfl) (by kernel_rfl) (by rfl) (fun _ _ _ h => h) (by assumption) ?_ ?_
                · intro W hW
                  go_simp
                simp only [List.setIfInBounds_toArray, List.set_cons_zero, List.set_cons_succ]
                refine held_take 5 49 (v := (.int .i64 (k : Int))) rfl rfl (by kernel_rfl) (by kernel_rfl) (by kernel_rfl) (by rfl) (fun _ _ _ h => h) (by assumption) ?_ ?_
                · intro W hW
                  go_simp
                simp only [List.setIfInBounds_toArray, List.set_cons_zero, List.set_cons_succ]
                refine held_take 6 50 (v := (.pointer (some ⟨b, off + k, none⟩))) rfl rfl (by kernel_rfl) (by kernel_rfl) (by kernel_rfl) (by rfl) (fun _ _ _ h => h) (by assumption) ?_ ?_
                · intro W hW
                  go_simp
                simp only [List.setIfInBounds_toArray, List.set_cons_zero, List.set_cons_succ]
                refine held_take 7 51 (v := (.int .i64 X)) rfl rfl (by kernel_rfl) (by kernel_rfl) (by kernel_rfl) (by rfl) (fun _ _ _ h => h) (by assumption) ?_ ?_
                · intro W hW
                  have z1 := HCW.out W hW
                  go_simp
                simp only [List.setIfInBounds_toArray, List.set_cons_zero, List.set_cons_succ]
                refine held_take 10 54 (v := (.slice (some ⟨g, 0, none⟩) no c)) rfl rfl (by kernel_rfl) (by kernel_rfl) (by kernel_rfl) (by rfl) (fun _ _ _ h => h) (by assumption) ?_ ?_
                · intro W hW
                  go_simp
                simp only [List.setIfInBounds_toArray, List.set_cons_zero, List.set_cons_succ]
                refine held_take 11 55 (v := (.int .i64 (m : Int))) rfl rfl (by kernel_rfl) (by kernel_rfl) (by kernel_rfl) (by rfl) (fun _ _ _ h => h) (by assumption) ?_ ?_
                · intro W hW
                  go_simp
                simp only [List.setIfInBounds_toArray, List.set_cons_zero, List.set_cons_succ]
                refine held_take 12 56 (v := (.slice (some (if c = m then ⟨g, 0, none⟩ else ⟨g, m, none⟩)) (no - m) (c - m))) rfl rfl (by kernel_rfl) (by kernel_rfl) (by kernel_rfl) (by rfl) (fun _ _ _ h => h) (by assumption) ?_ ?_
                · intro W hW
                  have sl := zcut_hi W g no c m (by omega)
                  go_simp
                simp only [List.setIfInBounds_toArray, List.set_cons_zero, List.set_cons_succ]
                have dG : ∀ {x y : World} {q : Option Nat}, x.grownBy y q → x.heap.size ≤ y.heap.size := fun h => h.size
                refine held_two 3 8 rfl rfl (by kernel_rfl) (by rfl) (by rfl) ?_ ?_
                · refine wp_appZ (.const (.slice none 0 0)) (.tmp 46) rfl wq.heap.size (.slice none 0 0) 0 [] rfl (World.ownsRow_nil _ _ _ _) _ m _ (out.take m) rfl (by rw [List.length_take, ol]; omega) (fun e => by cases e) (ROWT.out wq.drew ((Below.refl _ _).drew)) (by omega) (Nat.le_refl _) ?_
                  intro v1 w4 o1 g1
                  have o1' : w4.ownsRow wq.heap.size 3 1 v1 m (zs (out.take m)) := by simpa using o1
                  have d1 : Below wq.heap.size wq w4 := ((Below.refl _ _).drew).grown g1 (Nat.le_refl _) (fun _ h => by cases h)
                  refine ⟨d1, ?_⟩
                  show wpAnyH _ _ _ _ _ _ _ ⟨Array.setIfInBounds _ 47 v1, _⟩ _
                  simp only [List.setIfInBounds_toArray, List.set_cons_zero, List.set_cons_succ]
                  have dZ : Below wq.heap.size wq (w4.alloc (.cells #[.int .i64 X] 3)) := d1.alloc d1.size _
                  refine held_op 8 rfl (by kernel_rfl) (by rfl) ?_
                  refine wp_run (v := .slice (some ⟨w4.heap.size, 0, none⟩) 1 1) (w' := w4.alloc (.cells #[.int .i64 X] 3)) rfl (by go_simp) ⟨dZ, ?_⟩
                  simp only [List.setIfInBounds_toArray, List.set_cons_zero, List.set_cons_succ]
                  have oZ : (w4.alloc (.cells #[.int .i64 X] 3)).ownsRow wq.heap.size 3 1 v1 m (zs (out.take m)) := o1'.alloc _
                  have hsZ : wq.heap.size ≤ (w4.alloc (.cells #[.int .i64 X] 3)).heap.size := dZ.size
                  refine held_op 9 rfl (by kernel_rfl) (by rfl) ?_
                  refine wp_appZ (.tmp 47) (.tmp 52) rfl wq.heap.size v1 m (out.take m) rfl oZ (some ⟨w4.heap.size, 0, none⟩) 1 1 [X] rfl rfl (fun e => by cases e) (lit_z w4 X) (by omega) hsZ ?_
                  clear o1 g1 o1' d1
                  intro v2 w5 o2 g2
                  have d2 : Below wq.heap.size wq w5 := dZ.grown g2 dZ.size (fun g hg => by have := own_geZ oZ g hg; omega)
                  refine ⟨d2, ?_⟩
                  show wpAnyH _ _ _ _ _ _ _ ⟨Array.setIfInBounds _ 53 v2, _⟩ _
                  simp only [List.setIfInBounds_toArray, List.set_cons_zero, List.set_cons_succ]
                  have hs5 : wq.heap.size ≤ w5.heap.size := Nat.le_trans hsZ (dG g2)
                  refine held_op 13 rfl (by kernel_rfl) (by rfl) ?_
                  refine wp_appZ (.tmp 53) (.tmp 56) rfl wq.heap.size v2 (m + 1) (out.take m ++ [X]) rfl o2 _ (no - m) (c - m) (out.drop m) rfl (by rw [List.length_drop, ol]) (fun e => by cases e) (ROWD.out w5 d2) (by omega) hs5 ?_
                  intro v3 w6 o3 g3
                  have d3 : Below wq.heap.size wq w6 := d2.grown g3 d2.size (fun g hg => by have := own_geZ o2 g hg; omega)
                  refine ⟨d3, ?_⟩
                  show wpAnyH _ _ _ _ _ _ _ ⟨Array.setIfInBounds _ 57 v3, _⟩ _
                  simp only [List.setIfInBounds_toArray, List.set_cons_zero, List.set_cons_succ]
                  have R : Hid (RzI w l (k + 1) (no + 1) (out.take m ++ X :: out.drop m) v3 w6) := by
                    have e : m + 1 + (no - m) = no + 1 := by omega
                    have e2 : out.take m ++ [X] ++ out.drop m = out.take m ++ X :: out.drop m := by simp
                    rw [e, e2] at o3
                    exact ⟨own_baseZ o3 (by have := b0q.size; omega), HST.out.1, HST.out.2, b0q.trans (d3.mono b0q.size), by omega⟩
                  clear o3 g3 o2 g2
                  refine held_take 14 3 (v := v3) rfl rfl (by kernel_rfl) (by kernel_rfl) (by kernel_rfl) (by rfl) (fun _ _ _ h => h) (by assumption) ?_ ?_
                  · intro W hW
                    go_simp
                  simp only [List.setIfInBounds_toArray, List.set_cons_zero, List.set_cons_succ]
                  refine wpAnyH_done (by kernel_rfl) ?_ _
                  clear d2 d3 dZ oZ hsZ HST
                  go_wp2
                  go_roundw
                  case rel => exact ⟨k + 1, _, _, by omega, by go_num, R⟩
                  case measure => simp [intOf]; omega
                · have dA : Below wq.heap.size wq (wq.drew.alloc (.cells #[.int .i64 X] 3)) := ((Below.refl _ _).drew).alloc (Nat.le_refl _) _
                  refine wp_run (v := .slice (some ⟨wq.heap.size, 0, none⟩) 1 1) (w' := wq.drew.alloc (.cells #[.int .i64 X] 3)) rfl (by go_simp) ⟨dA, ?_⟩
                  simp only [List.setIfInBounds_toArray, List.set_cons_zero, List.set_cons_succ]
                  have hsA : wq.heap.size + 1 ≤ (wq.drew.alloc (.cells #[.int .i64 X] 3)).heap.size := by simp
                  refine held_op 3 rfl (by kernel_rfl) (by rfl) ?_
                  refine wp_appZ (.const (.slice none 0 0)) (.tmp 46) rfl (wq.heap.size + 1) (.slice none 0 0) 0 [] rfl (World.ownsRow_nil _ _ _ _) _ m _ (out.take m) rfl (by rw [List.length_take, ol]; omega) (fun e => by cases e) (ROWT.out (wq.drew.alloc (.cells #[.int .i64 X] 3)) dA) (by omega) hsA ?_
                  intro v1 w4 o1 g1
                  have oZ : w4.ownsRow (wq.heap.size + 1) 3 1 v1 m (zs (out.take m)) := by simpa using o1
                  have dZ : Below wq.heap.size wq w4 := dA.grown g1 dA.size (fun _ h => by cases h)
                  have dB : Below (wq.drew.alloc (.cells #[.int .i64 X] 3)).heap.size (wq.drew.alloc (.cells #[.int .i64 X] 3)) w4 := (Below.refl _ _).grown g1 (Nat.le_refl _) (fun _ h => by cases h)
                  have lr : IsZ w4 (some ⟨wq.heap.size, 0, none⟩) [X] := (lit_z wq.drew X).below dB
                  have hsZ : wq.heap.size + 1 ≤ w4.heap.size := Nat.le_trans hsA dB.size
                  refine ⟨dZ, ?_⟩
                  show wpAnyH _ _ _ _ _ _ _ ⟨Array.setIfInBounds _ 47 v1, _⟩ _
                  simp only [List.setIfInBounds_toArray, List.set_cons_zero, List.set_cons_succ]
                  refine held_op 9 rfl (by kernel_rfl) (by rfl) ?_
                  refine wp_appZ (.tmp 47) (.tmp 52) rfl (wq.heap.size + 1) v1 m (out.take m) rfl oZ (some ⟨wq.heap.size, 0, none⟩) 1 1 [X] rfl rfl (fun e => by cases e) lr (by omega) hsZ ?_
                  clear o1 g1 dA dB lr
                  intro v2 w5 o2 g2
                  have d2 : Below wq.heap.size wq w5 := dZ.grown g2 dZ.size (fun g hg => by have := own_geZ oZ g hg; omega)
                  refine ⟨d2, ?_⟩
                  show wpAnyH _ _ _ _ _ _ _ ⟨Array.setIfInBounds _ 53 v2, _⟩ _
                  simp only [List.setIfInBounds_toArray, List.set_cons_zero, List.set_cons_succ]
                  have hs5 : (wq.heap.size + 1) ≤ w5.heap.size := Nat.le_trans hsZ (dG g2)
                  refine held_op 13 rfl (by kernel_rfl) (by rfl) ?_
                  refine wp_appZ (.tmp 53) (.tmp 56) rfl (wq.heap.size + 1) v2 (m + 1) (out.take m ++ [X]) rfl o2 _ (no - m) (c - m) (out.drop m) rfl (by rw [List.length_drop, ol]) (fun e => by cases e) (ROWD.out w5 d2) (by omega) hs5 ?_
                  intro v3 w6 o3 g3
                  have d3 : Below wq.heap.size wq w6 := d2.grown g3 d2.size (fun g hg => by have := own_geZ o2 g hg; omega)
                  refine ⟨d3, ?_⟩
                  show wpAnyH _ _ _ _ _ _ _ ⟨Array.setIfInBounds _ 57 v3, _⟩ _
                  simp only [List.setIfInBounds_toArray, List.set_cons_zero, List.set_cons_succ]
                  have R : Hid (RzI w l (k + 1) (no + 1) (out.take m ++ X :: out.drop m) v3 w6) := by
                    have e : m + 1 + (no - m) = no + 1 := by omega
                    have e2 : out.take m ++ [X] ++ out.drop m = out.take m ++ X :: out.drop m := by simp
                    rw [e, e2] at o3
                    exact ⟨own_baseZ o3 (by have := b0q.size; omega), HST.out.1, HST.out.2, b0q.trans (d3.mono b0q.size), by omega⟩
                  clear o3 g3 o2 g2
                  refine held_take 14 3 (v := v3) rfl rfl (by kernel_rfl) (by kernel_rfl) (by kernel_rfl) (by rfl) (fun _ _ _ h => h) (by assumption) ?_ ?_
                  · intro W hW
                    go_simp
                  simp only [List.setIfInBounds_toArray, List.set_cons_zero, List.set_cons_succ]
                  refine wpAnyH_done (by kernel_rfl) ?_ _
                  clear d2 d3 dZ oZ hsZ HST
                  go_wp2
                  go_roundw
                  case rel => exact ⟨k + 1, _, _, by omega, by go_num, R⟩
                  case measure => simp [intOf]; omega
    · obtain rfl : k = n := by omega
      have hkz : ¬ (k : Int) < (k : Int) := by omega
      obtain ⟨A', c', rfl, _, _, hi, hol⟩ := own_z HT.out.ko
      have RF : Hid (IsRise l out) := ⟨HT.out.kp, by have := HT.out.ks; rwa [List.take_of_length_le (by rw [HN.out]; omega)] at this⟩
      have KO : Hid (wr.ownsRow w.heap.size 3 1 (.slice A' no c') out.length (zs out)) := by show World.ownsRow _ _ _ _ _ _ _; rw [hol]; exact HT.out.ko
      have B := Lib.hid HT.out.kb
      clear HT hi hol
      go_wp2
      go_ret
      exact ⟨out, RF.out, _, rfl, KO.out, B.out⟩

end Go.Proofs.Ytaklabggojfijaa
