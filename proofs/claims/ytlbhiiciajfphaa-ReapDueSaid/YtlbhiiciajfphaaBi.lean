/-
  The reference's queue in memory; its At, Drop. Conditions: lengths fit.
-/
import Derived.Test.YtlbhiiciajfphaaBn
namespace Go.Proofs.Ytlbhiiciajfphaa
open Go.RowKit Go.Sort

section
variable {P : Program}
theorem wp_append_dst {o : Oper} {ts : Array Value} {ds : List Deferred} {w : World} {K : Act → World → Prop} {Q : Exit → Act → World → Prop} (n : Nat) (s x : Operand) (t t' : TypeId) (hd : o.dst = some n)
    (ho : o.op = .call { callee := .builtin .append, args := #[s, x], argTypes := #[t, t'] }) {v u : Value} (h1 : Act.eval ⟨ts, ds⟩ s = v) (h2 : Act.eval ⟨ts, ds⟩ x = u) {v' : Value} {w' : World}
    (hr : (Builtin.append_ #[t, t'] o.type #[v, u]).run P w = .ok v' w') (h : K ⟨ts.setIfInBounds n v', ds⟩ w') : o.wp P ⟨ts, ds⟩ w K Q :=
  wp_append_known s x t t' ho h1 h2 hr (by rw [hd]; exact h)
end
/-- A row of the reference's, in cells. -/
def dc (r : Rw) : List Value := [.int .i64 r.2, .int .u64 r.1]
theorem dc2 (r : Rw) : (dc r).length = 2 := rfl
theorem dc_one (l : List Rw) : ∀ u ∈ fl dc l, u.oneCell' = true := by
  intro u hu
  simp only [fl, List.mem_flatMap] at hu
  obtain ⟨x, _, hx⟩ := hu
  simp [dc] at hx
  rcases hx with rfl | rfl <;> rfl
theorem Try.infoD : (Try.prog.info? 42).map (fun i => (i.zero, i.size, i.bytes)) = some (some (.agg #[.int .i64 0, .int .u64 0]), 2, 16) := by kernel_rfl
/-- The slice at address A reads as these rows. -/
def IsRd (w : World) (A : Option Addr) (l : List Rw) : Prop := 0 < l.length → ∃ b off, A = some ⟨b, off, none⟩ ∧ ∀ j u, (fl dc l)[j]? = some u → w.cell? ⟨b, off + j, none⟩ = some u
section
variable {w w' : World} {A : Option Addr} {l : List Rw}
theorem IsRd.only {S : Nat → Prop} (h : IsRd w A l) (t : Only S w w') (hs : ∀ a, A = some a → ¬ S a.block) : IsRd w' A l := fun hp => by
  obtain ⟨b, off, rfl, hc⟩ := h hp
  exact ⟨b, off, rfl, fun j u hu => t.cell (a := ⟨b, off + j, none⟩) (hs ⟨b, off, none⟩ rfl) (hc j u hu)⟩
theorem IsRd.below (h : IsRd w A l) (t : Below w.heap.size w w') : IsRd w' A l := fun hp => by
  obtain ⟨b, off, rfl, hc⟩ := h hp
  exact ⟨b, off, rfl, fun j u hu => (t.cell (p := ⟨b, off + j, none⟩) (World.block_lt_of_cell? w _ (hc j u hu))).trans (hc j u hu)⟩
theorem IsRd.take (h : IsRd w A l) (i : Nat) : IsRd w A (l.take i) := fun hp => by
  obtain ⟨b, off, rfl, hc⟩ := h (by rw [List.length_take] at hp; omega)
  refine ⟨b, off, rfl, fun j u hu => hc j u ?_⟩
  rw [← fl_take dc2, List.getElem?_take] at hu
  split at hu
  · exact hu
  · cases hu
theorem IsRd.drop {b off c : Nat} (h : IsRd w (some ⟨b, off, none⟩) l) (i : Nat) (hc : l.length ≤ c) : IsRd w (if c = i then some ⟨b, off, none⟩ else some ⟨b, off + i * 2, none⟩) (l.drop i) := fun hp => by
  rw [List.length_drop] at hp
  obtain ⟨b', off', e, hx⟩ := h (by omega)
  injection e with e
  injection e with e1 e2
  subst e1 e2
  rw [if_neg (by omega)]
  refine ⟨_, _, rfl, fun j u hu => ?_⟩
  rw [← fl_drop dc2, List.getElem?_drop] at hu
  rw [Nat.add_assoc]
  exact hx _ _ hu
theorem IsRd.cells {b off : Nat} (h : IsRd w (some ⟨b, off, none⟩) l) {j : Nat} (hj : j < l.length) :
    w.cell? ⟨b, off + j * 2, none⟩ = some (.int .i64 (Qu.nr l j).2) ∧ w.cell? ⟨b, off + j * 2 + 1, none⟩ = some (.int .u64 (Qu.nr l j).1) := by
  obtain ⟨b', off', e, hx⟩ := h (by omega)
  injection e with e
  injection e with e1 e2
  subst e1 e2
  have e1 := fl_get dc2 l j 0 hj (by omega)
  have e2 := fl_get dc2 l j 1 hj (by omega)
  exact ⟨hx _ _ e1, by rw [Nat.add_assoc]; exact hx _ _ e2⟩
theorem own_rd {base n cap : Nat} (h : w.ownsRow base 42 2 (.slice A n cap) n (fl dc l)) : IsRd w A l ∧ l.length = n ∧ n ≤ cap ∧ (A = none → cap = 0) := by
  have hl : l.length = n := by have := h.1; rw [fl_len dc2] at this; omega
  rcases h.2 with ⟨e1, e⟩ | ⟨g, c, cur, e, _, _, hnc, _⟩
  · injection e1 with e1 e2 e3
    exact ⟨fun hp => by omega, hl, by omega, fun _ => e3⟩
  · injection e with e1 e2 e3
    subst e1 e3
    refine ⟨fun hp => ⟨g, 0, rfl, fun j u hu => ?_⟩, hl, hnc, fun e => by cases e⟩
    have := h.cells (g := g) rfl j u hu
    rw [Nat.zero_add]
    rwa [Addr.add_lit, Nat.zero_add] at this
/-- For app_near. -/
theorem IsRd.src (h : IsRd w A l) (ad : Addr) (e : A = some ad) : ∀ j u, (fl dc l)[j]? = some u → w.cell? (ad.add j) = some u := fun j u hu => by
  have hj : j < (fl dc l).length := by
    rcases Nat.lt_or_ge j (fl dc l).length with h1 | h1
    · exact h1
    · rw [List.getElem?_eq_none h1] at hu; cases hu
  rw [fl_len dc2] at hj
  obtain ⟨b, off, e', hc⟩ := h (by omega)
  rw [e] at e'
  injection e' with e'
  subst e'
  rw [Addr.add_lit]
  exact hc j u hu
end
/-- The reference's queue at block b. -/
structure RqAt (w : World) (b : Nat) (l : List Rw) (A : Option Addr) (c : Nat) : Prop where
  c0 : w.cell? ⟨b, 0, none⟩ = some (.slice A l.length c)
  fr : ∀ k, w.frozen? ⟨b, k, none⟩ = false
  rd : IsRd w A l
  le : l.length ≤ c
  nil : A = none → c = 0
  sh : ∀ a, A = some a → ∃ g off, a = ⟨g, off, none⟩
  bl : ∀ a, A = some a → a.block < w.heap.size
  ne : ∀ a, A = some a → a.block ≠ b
  sm : l.length ≤ 1048576
  cm : c ≤ maxLen
/-- Where its row lies afterwards. -/
def RNear (w : World) (A A' : Option Addr) : Prop := ∀ a', A' = some a' → (∃ a, A = some a ∧ a'.block = a.block) ∨ w.heap.size ≤ a'.block
/-- What a call that turns it leaves. -/
def RqTo (w : World) (b : Nat) (A : Option Addr) (l' : List Rw) (w' : World) : Prop := ∃ A' c', RqAt w' b l' A' c' ∧ Only (fun k => k = b) w w' ∧ RNear w A A'
section
variable {w w' : World} {b c : Nat} {A : Option Addr} {l : List Rw}
theorem RqAt.lt (h : RqAt w b l A c) : b < w.heap.size := World.block_lt_of_cell? w _ h.c0
theorem RqAt.only {S : Nat → Prop} (h : RqAt w b l A c) (t : Only S w w') (hb : ¬ S b) (hs : ∀ a, A = some a → ¬ S a.block) : RqAt w' b l A c := by
  have e := t.block b h.lt hb
  exact ⟨(World.cell?_of_block (a := ⟨b, 0, none⟩) e).trans h.c0, fun k => (World.frozen?_of_block (a := ⟨b, k, none⟩) e).trans (h.fr k), h.rd.only t hs, h.le, h.nil, h.sh, fun a e => Nat.lt_of_lt_of_le (h.bl a e) t.size, h.ne, h.sm, h.cm⟩
theorem RqAt.below (h : RqAt w b l A c) (t : Below w.heap.size w w') : RqAt w' b l A c :=
  ⟨(t.cell (p := ⟨b, 0, none⟩) h.lt).trans h.c0, fun k => (t.frozen (p := ⟨b, k, none⟩) h.lt).trans (h.fr k), h.rd.below t, h.le, h.nil, h.sh, fun a e => Nat.lt_of_lt_of_le (h.bl a e) t.size, h.ne, h.sm, h.cm⟩
theorem RqAt.same (h : RqAt w b l A c) (t : Below w.heap.size w w') : RqTo w b A l w' := ⟨A, c, h.below t, Only.ofBelow t, fun a e => .inl ⟨a, e, rfl⟩⟩
theorem RNear.own {base n cap : Nat} {A A' : Option Addr} {e s : Nat} {xs : List Value} (o : w'.ownsRow base e s (.slice A' n cap) n xs) (hb : w.heap.size ≤ base) : RNear w A A' := fun a' ha => by
  subst ha
  rcases o.2 with ⟨e, _⟩ | ⟨g, c, cur, e, hg, _⟩
  · cases e
  · injection e with e1
    injection e1 with e1
    subst e1
    exact .inr (Nat.le_trans hb hg)
/-- A row of its own, written. -/
theorem RqAt.put (h : RqAt w b l A c) {w2 : World} (t : Below w.heap.size w w2) {A' : Option Addr} {n c' : Nat} {l' : List Rw} (o : w2.ownsRow w.heap.size 42 2 (.slice A' n c') n (fl dc l')) (sm : l'.length ≤ 1048576) :
    RqTo w b A l' (w2.setCell ⟨b, 0, none⟩ (.slice A' n c')) := by
  obtain ⟨rd, hl, hle, hnil⟩ := own_rd o
  have hcm : c' ≤ maxLen := by
    rcases o.2 with ⟨e, _⟩ | ⟨g, c, cur, e, _, _, _, hcm, _⟩
    · injection e with e1 e2 e3; subst e3; exact Nat.zero_le _
    · injection e with e1 e2 e3; subst e3; exact hcm
  have h2 := h.below t
  have t2 : Only (fun k => k = b) w2 (w2.setCell ⟨b, 0, none⟩ (.slice A' n c')) := Only.ofSet (S := fun k => k = b) rfl _
  have nr : RNear w A A' := RNear.own o (Nat.le_refl _)
  have ha : ∀ a, A' = some a → w.heap.size ≤ a.block := fun a ha => by
    subst ha
    rcases o.2 with ⟨e, _⟩ | ⟨g, c, cur, e, hg, _⟩
    · cases e
    · injection e with e1
      injection e1 with e1
      subst e1
      exact hg
  have hlt : ∀ a, A' = some a → a.block < w2.heap.size := fun a ha => by
    subst ha
    rcases o.2 with ⟨e, _⟩ | ⟨g, c, cur, e, hg, hx, _⟩
    · cases e
    · injection e with e1
      injection e1 with e1
      subst e1
      exact (Array.getElem?_eq_some_iff.1 hx).1
  have hsh : ∀ a, A' = some a → ∃ g off, a = ⟨g, off, none⟩ := fun a ha => by
    subst ha
    rcases o.2 with ⟨e, _⟩ | ⟨g, c, cur, e, hg, _⟩
    · cases e
    · injection e with e1
      injection e1 with e1
      exact ⟨g, 0, e1⟩
  refine ⟨A', c', ⟨by rw [hl]; exact World.cell?_setCell_same _ _ _ h2.c0, fun k => by rw [World.frozen?_setCell]; exact h2.fr k, rd.only t2 fun a e hs => ?_, by rw [hl]; exact hle, hnil, hsh, fun a e => ?_, fun a e hs => ?_, sm, hcm⟩, (Only.ofBelow t).trans t2, nr⟩
  · have := ha a e
    have := h.lt
    have hs : a.block = b := hs
    omega
  · have := hlt a e
    rw [World.size_setCell]
    exact this
  · have := ha a e
    have := h.lt
    omega
end
/-- The first row taken off. -/
theorem RqAt.next {w : World} {b g off c : Nat} {l : List Rw} (h : RqAt w b l (some ⟨g, off, none⟩) c) (hp : 0 < l.length) :
    RqAt (w.setCell ⟨b, 0, none⟩ (.slice (if c = 1 then some ⟨g, off, none⟩ else some ⟨g, off + 2, none⟩) (l.length - 1) (c - 1))) b (l.drop 1) (if c = 1 then some ⟨g, off, none⟩ else some ⟨g, off + 2, none⟩) (c - 1) := by
  obtain ⟨V, hV⟩ : ∃ V, Value.slice (if c = 1 then some ⟨g, off, none⟩ else some ⟨g, off + 2, none⟩) (l.length - 1) (c - 1) = V := ⟨_, rfl⟩
  have hA : ∀ a, (if c = 1 then some (⟨g, off, none⟩ : Addr) else some ⟨g, off + 2, none⟩) = some a → a.block = g ∧ ∃ o, a = ⟨g, o, none⟩ := fun a e => by
    split at e <;> (injection e with e; subst e; exact ⟨rfl, _, rfl⟩)
  have t2 : Only (fun k => k = b) w (w.setCell ⟨b, 0, none⟩ V) := Only.ofSet (S := fun k => k = b) rfl _
  have hn := h.ne _ rfl
  have hb := h.bl _ rfl
  have hr := (h.rd.drop (i := 1) (c := c) h.le)
  rw [Nat.one_mul] at hr
  have hc : (w.setCell ⟨b, 0, none⟩ V).cell? ⟨b, 0, none⟩ = some V := World.cell?_setCell_same _ _ _ h.c0
  rw [hV]
  refine ⟨(by rw [hc, ← hV, List.length_drop]), (fun k => by rw [World.frozen?_setCell]; exact h.fr k), hr.only t2 (fun a e hs => ?_), (by rw [List.length_drop]; have := h.le; omega), (fun e => by split at e <;> cases e), fun a e => ⟨g, (hA a e).2⟩,
    (fun a e => by rw [World.size_setCell, (hA a e).1]; exact hb), (fun a e => by rw [(hA a e).1]; exact hn), (by rw [List.length_drop]; have := h.sm; omega), Nat.le_trans (Nat.sub_le _ _) h.cm⟩
  have hs : a.block = b := hs
  rw [(hA a e).1] at hs
  exact hn hs
set_option maxRecDepth 100000 in
set_option maxHeartbeats 1000000 in
theorem rat_any {w : World} {b c : Nat} {l : List Rw} {A : Option Addr} (h : RqAt w b l A c) (id : Int) :
    Calls Try.prog 15 #[.pointer (some ⟨b, 0, none⟩), .int .i64 id] w fun e w' => e = .returned (.tuple #[.int .u64 (Qu.dueAt id l), .bool (Qu.has id l)]) ∧ w' = w := by
  have c0 := h.c0
  have RD := Lib.hid h.rd
  have hNb : l.length ≤ 1048576 := h.sm
  clear h
  obtain ⟨N, hN⟩ : ∃ N, l.length = N := ⟨_, rfl⟩
  rw [hN] at c0 hNb
  have HN := Lib.hid hN
  clear hN
  obtain ⟨d, hd⟩ : ∃ d, Qu.dueAt id l = d := ⟨_, rfl⟩
  obtain ⟨t, ht⟩ : ∃ t, Qu.has id l = t := ⟨_, rfl⟩
  have HD := Lib.hid hd
  have HT := Lib.hid ht
  rw [hd, ht]
  clear hd ht
  go_enter Try.func15, Try.ntmps15
  go_wp2
  go_loop [6] (fun i => ∃ k : Nat, k ≤ N ∧ i = .int .i64 (k : Int) ∧ Hid (∀ j, j < k → (Qu.nr l j).2 ≠ id)) (fun i => N - (intOf i).toNat)
  case atStart => exact ⟨0, by omega, rfl, fun j hj => by omega⟩
  case round =>
    obtain ⟨k, hk, rfl, HI⟩ := hrel
    by_cases hkn : k < N
    · have hk2 : k < l.length := by rw [HN.out]; exact hkn
      obtain ⟨g, off, rfl, -⟩ := RD.out (by omega)
      obtain ⟨x0, x1⟩ := RD.out.cells hk2
      have hkz : (k : Int) < (N : Int) := by omega
      obtain ⟨r, hr⟩ : ∃ r, Qu.nr l k = r := ⟨_, rfl⟩
      rw [hr] at x0 x1
      have HR := Lib.hid hr
      clear hr
      obtain ⟨r1, r2⟩ := r
      by_cases hq : r2 = id
      · have hq' : (r2 == id) = true := by simpa using hq
        have R : Hid (d = r1 ∧ t = true) := by
          have hf : Qu.fx id l = k := Qu.fx_hit hk2 (by rw [HR.out]; exact hq) HI.out
          have hlt : Qu.fx id l < l.length := by omega
          refine ⟨?_, ?_⟩
          · rw [← HD.out]; unfold Qu.dueAt; rw [if_pos hlt, hf, HR.out]
          · rw [← HT.out]; exact decide_eq_true hlt
        clear HI
        subst hq
        go_wp2
        go_ret2
        exact ⟨by rw [R.out.1, R.out.2]; rfl, rfl⟩
      · have hq' : (r2 == id) = false := by simpa using hq
        have R : Hid (∀ j, j < k + 1 → (Qu.nr l j).2 ≠ id) := fun j hj => by
          rcases Nat.lt_or_ge j k with h1 | h1
          · exact HI.out j h1
          · obtain rfl : j = k := by omega
            rw [HR.out]; exact hq
        clear HI
        go_wp2
        go_round
        case rel => exact ⟨k + 1, by omega, by go_num, R⟩
        case measure => simp [intOf]; omega
    · obtain rfl : k = N := by omega
      have hkz : ¬ (k : Int) < (k : Int) := by omega
      have R : Hid (d = 0 ∧ t = false) := by
        have hf : Qu.fx id l = l.length := Qu.fx_miss fun j hj => HI.out j (by have := HN.out; omega)
        have hlt : ¬ Qu.fx id l < l.length := by omega
        exact ⟨by rw [← HD.out]; exact if_neg hlt, by rw [← HT.out]; exact decide_eq_false hlt⟩
      clear HI
      go_wp2
      go_ret2
      exact ⟨by rw [R.out.1, R.out.2]; rfl, rfl⟩
set_option maxRecDepth 100000 in
set_option maxHeartbeats 4000000 in
theorem rdrop_any {w : World} {b c : Nat} {l : List Rw} {A : Option Addr} (h : RqAt w b l A c) (id : Int) :
    Calls Try.prog 24 #[.pointer (some ⟨b, 0, none⟩), .int .i64 id] w fun e w' => e = .returned (.bool (Qu.has id l)) ∧ RqTo w b A (Qu.cut id l) w' := by
  have HH := Lib.hid h
  have c0 := h.c0
  have hNb : l.length ≤ 1048576 := h.sm
  have hcb : c ≤ 9223372036854775807 := by have := h.cm; unfold maxLen at this; omega
  have hNc : l.length ≤ c := h.le
  clear h
  obtain ⟨N, hN⟩ : ∃ N, l.length = N := ⟨_, rfl⟩
  rw [hN] at c0 hNb hNc
  have HN := Lib.hid hN
  clear hN
  obtain ⟨t, ht⟩ : ∃ t, Qu.has id l = t := ⟨_, rfl⟩
  have HT := Lib.hid ht
  rw [ht]
  clear ht
  go_enter Try.func24, Try.ntmps24
  go_wp2
  go_loop [5] (fun i => ∃ k : Nat, k ≤ N ∧ i = .int .i64 (k : Int) ∧ Hid (∀ j, j < k → (Qu.nr l j).2 ≠ id)) (fun i => N - (intOf i).toNat)
  case atStart => exact ⟨0, by omega, rfl, fun j hj => by omega⟩
  case round =>
    obtain ⟨k, hk, rfl, HI⟩ := hrel
    by_cases hkn : k < N
    · have hk2 : k < l.length := by rw [HN.out]; exact hkn
      obtain ⟨g, off, rfl, -⟩ := HH.out.rd (by omega)
      obtain ⟨x0, x1⟩ := HH.out.rd.cells hk2
      have hkz : (k : Int) < (N : Int) := by omega
      obtain ⟨r, hr⟩ : ∃ r, Qu.nr l k = r := ⟨_, rfl⟩
      rw [hr] at x0 x1
      have HR := Lib.hid hr
      clear hr
      obtain ⟨r1, r2⟩ := r
      by_cases hq : r2 = id
      · have hq' : (r2 == id) = true := by simpa using hq
        have hf : Hid (Qu.fx id l = k) := Qu.fx_hit hk2 (by rw [HR.out]; exact hq) HI.out
        have R : Hid (t = true) := by show _ = _; rw [← HT.out]; exact decide_eq_true (by have := hf.out; omega)
        clear HI HT
        subst hq
        go_wp2_with fail
        have hw1 : IntKind.i64.wrap ((k : Int) + 1) = (k : Int) + 1 := by rw [IntKind.wrap_i64]; omega
        have htn : ((k : Int) + 1).toNat = k + 1 := by omega
        have hb1 : (0 : Int) ≤ (k : Int) + 1 := by omega
        have hb2 : ¬ (c < k) := by omega
        have hb3 : ¬ (N < k + 1) := by omega
        have hb4 : (k : Int) + 1 ≤ (N : Int) := by omega
        have BD : Below w.heap.size w w.drew := (Below.refl _ _).drew
        have ST : Hid (∀ W, Below w.heap.size w W → W.cell? ⟨b, 0, none⟩ = some (.slice (some ⟨g, off, none⟩) N c)) := fun W hW => (hW.cell (p := ⟨b, 0, none⟩) HH.out.lt).trans (by rw [HH.out.c0, HN.out])
        refine wp_region_last (fun W => W.cell? ⟨b, 0, none⟩ = some (.slice (some ⟨g, off, none⟩) N c)) 18 (by kernel_rfl) (ST.out _ BD) (fun hHeld => ?_)
        refine last_take 0 25 (v := (.pointer (some ⟨b, 0, none⟩))) rfl rfl (by kernel_rfl) (by kernel_rfl) (by kernel_rfl) (by kernel_rfl) (by rfl) (fun _ _ _ h => h) (by assumption) ?_ ?_
        · intro W hW
          go_simp
        simp only [List.setIfInBounds_toArray, List.set_cons_zero, List.set_cons_succ]
        refine last_take 1 26 (v := (.pointer (some ⟨b, 0, none⟩))) rfl rfl (by kernel_rfl) (by kernel_rfl) (by kernel_rfl) (by kernel_rfl) (by rfl) (fun _ _ _ h => h) (by assumption) ?_ ?_
        · intro W hW
          go_simp
        simp only [List.setIfInBounds_toArray, List.set_cons_zero, List.set_cons_succ]
        refine last_take 2 27 (v := (.pointer (some ⟨b, 0, none⟩))) rfl rfl (by kernel_rfl) (by kernel_rfl) (by kernel_rfl) (by kernel_rfl) (by rfl) (fun _ _ _ h => h) (by assumption) ?_ ?_
        · intro W hW
          go_simp
        simp only [List.setIfInBounds_toArray, List.set_cons_zero, List.set_cons_succ]
        refine last_take 3 28 (v := (.pointer (some ⟨b, 0, none⟩))) rfl rfl (by kernel_rfl) (by kernel_rfl) (by kernel_rfl) (by kernel_rfl) (by rfl) (fun _ _ _ h => h) (by assumption) ?_ ?_
        · intro W hW
          go_simp
        simp only [List.setIfInBounds_toArray, List.set_cons_zero, List.set_cons_succ]
        refine last_take 4 29 (v := (.slice (some ⟨g, off, none⟩) N c)) rfl rfl (by kernel_rfl) (by kernel_rfl) (by kernel_rfl) (by kernel_rfl) (by rfl) (fun _ _ _ h => h) (by assumption) ?_ ?_
        · intro W hW
          have hc : W.cell? ⟨b, 0, none⟩ = some (.slice (some ⟨g, off, none⟩) N c) := hW
          go_simp
        simp only [List.setIfInBounds_toArray, List.set_cons_zero, List.set_cons_succ]
        refine last_take 5 30 (v := (.int .i64 (k : Int))) rfl rfl (by kernel_rfl) (by kernel_rfl) (by kernel_rfl) (by kernel_rfl) (by rfl) (fun _ _ _ h => h) (by assumption) ?_ ?_
        · intro W hW
          go_simp
        simp only [List.setIfInBounds_toArray, List.set_cons_zero, List.set_cons_succ]
        refine last_take 6 31 (v := (.slice (some ⟨g, off, none⟩) k c)) rfl rfl (by kernel_rfl) (by kernel_rfl) (by kernel_rfl) (by kernel_rfl) (by rfl) (fun _ _ _ h => h) (by assumption) ?_ ?_
        · intro W hW
          go_simp
        simp only [List.setIfInBounds_toArray, List.set_cons_zero, List.set_cons_succ]
        refine last_take 8 33 (v := (.pointer (some ⟨b, 0, none⟩))) rfl rfl (by kernel_rfl) (by kernel_rfl) (by kernel_rfl) (by kernel_rfl) (by rfl) (fun _ _ _ h => h) (by assumption) ?_ ?_
        · intro W hW
          go_simp
        simp only [List.setIfInBounds_toArray, List.set_cons_zero, List.set_cons_succ]
        refine last_take 9 34 (v := (.pointer (some ⟨b, 0, none⟩))) rfl rfl (by kernel_rfl) (by kernel_rfl) (by kernel_rfl) (by kernel_rfl) (by rfl) (fun _ _ _ h => h) (by assumption) ?_ ?_
        · intro W hW
          go_simp
        simp only [List.setIfInBounds_toArray, List.set_cons_zero, List.set_cons_succ]
        refine last_take 10 35 (v := (.pointer (some ⟨b, 0, none⟩))) rfl rfl (by kernel_rfl) (by kernel_rfl) (by kernel_rfl) (by kernel_rfl) (by rfl) (fun _ _ _ h => h) (by assumption) ?_ ?_
        · intro W hW
          go_simp
        simp only [List.setIfInBounds_toArray, List.set_cons_zero, List.set_cons_succ]
        refine last_take 11 36 (v := (.slice (some ⟨g, off, none⟩) N c)) rfl rfl (by kernel_rfl) (by kernel_rfl) (by kernel_rfl) (by kernel_rfl) (by rfl) (fun _ _ _ h => h) (by assumption) ?_ ?_
        · intro W hW
          have hc : W.cell? ⟨b, 0, none⟩ = some (.slice (some ⟨g, off, none⟩) N c) := hW
          go_simp
        simp only [List.setIfInBounds_toArray, List.set_cons_zero, List.set_cons_succ]
        refine last_take 12 37 (v := (.int .i64 (k : Int))) rfl rfl (by kernel_rfl) (by kernel_rfl) (by kernel_rfl) (by kernel_rfl) (by rfl) (fun _ _ _ h => h) (by assumption) ?_ ?_
        · intro W hW
          go_simp
        simp only [List.setIfInBounds_toArray, List.set_cons_zero, List.set_cons_succ]
        refine last_take 13 38 (v := (.int .i64 ((k : Int) + 1))) rfl rfl (by kernel_rfl) (by kernel_rfl) (by kernel_rfl) (by kernel_rfl) (by rfl) (fun _ _ _ h => h) (by assumption) ?_ ?_
        · intro W hW
          go_simp
        simp only [List.setIfInBounds_toArray, List.set_cons_zero, List.set_cons_succ]
        refine last_take 14 39 (v := (.slice (if c = k + 1 then some ⟨g, off, none⟩ else some ⟨g, off + (k + 1) * 2, none⟩) (N - (k + 1)) (c - (k + 1)))) rfl rfl (by kernel_rfl) (by kernel_rfl) (by kernel_rfl) (by kernel_rfl) (by rfl) (fun _ _ _ h => h) (by assumption) ?_ ?_
        · intro W hW
          go_simp
        simp only [List.setIfInBounds_toArray, List.set_cons_zero, List.set_cons_succ]
        obtain ⟨v1, w1, hrun1, o1, g1, n1⟩ := app_near (P := Try.prog) dc2 dc_one w.drew 35 35 42 (.agg #[.int .i64 0, .int .u64 0]) Try.underlying35 Try.infoD rfl w.heap.size (.slice none 0 0) 0 [] (World.ownsRow_nil _ _ _ _) (some ⟨g, off, none⟩) k c (l.take k) (by rw [List.length_take]; omega) (fun e => by cases e) ((HH.out.rd.below BD).take k).src (by omega) (Nat.le_refl _)
        have B1 : Below w.heap.size w w1 := BD.trans ((Only.ofGrown (S := fun _ => False) g1 (fun k hk => by cases hk)).below (fun _ h => h.elim) (Nat.le_refl _))
        obtain ⟨v2, w2, hrun2, o2, g2, n2⟩ := app_near (P := Try.prog) dc2 dc_one w1 35 35 42 (.agg #[.int .i64 0, .int .u64 0]) Try.underlying35 Try.infoD rfl w.heap.size v1 (0 + k) ([] ++ l.take k) o1 (if c = k + 1 then some ⟨g, off, none⟩ else some ⟨g, off + (k + 1) * 2, none⟩) (N - (k + 1)) (c - (k + 1)) (l.drop (k + 1)) (by rw [List.length_drop, HN.out]) (fun e => by split at e <;> cases e) ((HH.out.rd.below B1).drop (k + 1) HH.out.le).src (by omega) B1.size
        have B2 : Below w.heap.size w w2 := B1.trans ((Only.ofGrown (S := fun k => v1.ownBlock = some k) g2 (fun k hk => hk)).below (fun k h => (o1.lt k h).1) B1.size)
        have R2 : Hid (RqTo w b (some ⟨g, off, none⟩) (Qu.cut r2 l) (w2.setCell ⟨b, 0, none⟩ v2)) := by
          obtain ⟨A2, c2, rfl⟩ := own_slice o2
          refine HH.out.put B2 (l' := Qu.cut r2 l) (by rw [show Qu.cut r2 l = [] ++ l.take k ++ l.drop (k + 1) by unfold Qu.cut; rw [hf.out]; rfl]; exact o2) (Nat.le_trans (Qu.cut_le _ _) HH.out.sm)
        obtain ⟨A2, c2, rfl⟩ := own_slice o2
        have s1 := ST.out _ B1
        have s2 := ST.out _ B2
        have f2 : w2.frozen? ⟨b, 0, none⟩ = false := (B2.frozen (p := ⟨b, 0, none⟩) HH.out.lt).trans (HH.out.fr 0)
        refine last_op 7 rfl (by kernel_rfl) (by rfl) ?_
        refine wp_append_dst 32 (.const (.slice none 0 0)) (.tmp 31) 35 35 rfl rfl rfl rfl hrun1 ⟨fun _ => s1, ?_⟩
        simp only [List.setIfInBounds_toArray, List.set_cons_zero, List.set_cons_succ]
        refine last_op 15 rfl (by kernel_rfl) (by rfl) ?_
        refine wp_append_dst 40 (.tmp 32) (.tmp 39) 35 35 rfl rfl rfl rfl hrun2 ⟨fun _ => s2, ?_⟩
        simp only [List.setIfInBounds_toArray, List.set_cons_zero, List.set_cons_succ]
        clear hrun1 hrun2 o1 g1 n1 o2 g2 n2 B1 B2 BD ST
        refine last_op 16 rfl (by kernel_rfl) (by rfl) ?_
        refine wp_run (v := .pointer (some ⟨b, 0, none⟩)) (w' := w2) rfl (by go_simp) ⟨fun _ => s2, ?_⟩
        simp only [List.setIfInBounds_toArray, List.set_cons_zero, List.set_cons_succ]
        refine last_op 17 rfl (by kernel_rfl) (by rfl) ?_
        refine wp_run (v := .pointer (some ⟨b, 0, none⟩)) (w' := w2) rfl (by go_simp) ⟨fun _ => s2, ?_⟩
        simp only [List.setIfInBounds_toArray, List.set_cons_zero, List.set_cons_succ]
        refine last_op 18 rfl (by kernel_rfl) (by rfl) ?_
        refine wp_skip (w' := w2.setCell ⟨b, 0, none⟩ (.slice A2 (0 + k + (N - (k + 1))) c2)) rfl (by go_simp) ⟨fun h => absurd rfl h, ?_⟩
        refine last_done (by kernel_rfl) ?_ _
        clear s1 s2 f2 HH x0 x1 c0
        generalize (if c = k + 1 then some (⟨g, off, none⟩ : Addr) else some ⟨g, off + (k + 1) * 2, none⟩) = AD at *
        generalize (w2.setCell ⟨b, 0, none⟩ (.slice A2 (0 + k + (N - (k + 1))) c2)) = w3 at *
        go_wp2
        all_goals
          go_ret
          exact ⟨by rw [R.out]; rfl, R2.out⟩
      · have hq' : (r2 == id) = false := by simpa using hq
        have R : Hid (∀ j, j < k + 1 → (Qu.nr l j).2 ≠ id) := fun j hj => by
          rcases Nat.lt_or_ge j k with h1 | h1
          · exact HI.out j h1
          · obtain rfl : j = k := by omega
            rw [HR.out]; exact hq
        clear HI
        go_wp2
        go_round
        case rel => exact ⟨k + 1, by omega, by go_num, R⟩
        case measure => simp [intOf]; omega
    · obtain rfl : k = N := by omega
      have hkz : ¬ (k : Int) < (k : Int) := by omega
      have R : Hid (t = false ∧ RqTo w b A (Qu.cut id l) w) := by
        have hf : Qu.fx id l = l.length := Qu.fx_miss fun j hj => HI.out j (by have := HN.out; omega)
        have h1 : Qu.has id l = false := decide_eq_false (by omega)
        exact ⟨by rw [← HT.out]; exact h1, by rw [Qu.cut_no h1]; exact HH.out.same (Below.refl _ _)⟩
      clear HI
      go_wp2
      go_ret
      exact ⟨by rw [R.out.1]; rfl, R.out.2⟩
end Go.Proofs.Ytlbhiiciajfphaa
