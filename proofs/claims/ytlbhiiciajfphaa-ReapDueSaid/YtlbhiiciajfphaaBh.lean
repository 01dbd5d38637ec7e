/-
  A queue in memory: what its New, Len, At, First, Drop do. Conditions: lengths fit.
-/
import Derived.Test.YtlbhiiciajfphaaBl
namespace Go.Proofs.Ytlbhiiciajfphaa
open Go.RowKit Go.Sort

theorem own_slice {w : World} {base e s n : Nat} {v : Value} {xs : List Value} (h : w.ownsRow base e s v n xs) : ∃ A c, v = .slice A n c := by
  rcases h.2 with ⟨rfl, rfl⟩ | ⟨g, c, cur, rfl, _⟩
  · exact ⟨none, 0, rfl⟩
  · exact ⟨_, c, rfl⟩
/-- A queue at block b: its rows, and the slice that holds them. -/
structure QuAt (w : World) (b : Nat) (l : List Rw) (v : Value) : Prop where
  c0 : w.cell? ⟨b, 0, none⟩ = some v
  fr : ∀ k, w.frozen? ⟨b, k, none⟩ = false
  own : w.ownsRow (b + 1) 56 2 v l.length (fl pc l)
  srt : Qu.Srt l
  sm : l.length ≤ 1048576
/-- The blocks of a queue. -/
def Qb (b : Nat) (v : Value) (k : Nat) : Prop := k = b ∨ v.ownBlock = some k
section
variable {w w' : World} {b : Nat} {l : List Rw} {v : Value}
theorem QuAt.lt (h : QuAt w b l v) : b < w.heap.size := World.block_lt_of_cell? w _ h.c0
theorem QuAt.blocks (h : QuAt w b l v) : ∀ k, Qb b v k → b ≤ k ∧ k < w.heap.size := by
  rintro k (rfl | hk)
  · exact ⟨Nat.le_refl _, h.lt⟩
  · have := h.own.lt k hk; omega
theorem QuAt.only {S : Nat → Prop} (h : QuAt w b l v) (t : Only S w w') (hf : ∀ k, Qb b v k → ¬ S k) : QuAt w' b l v := by
  have hb := t.block b h.lt (hf b (.inl rfl))
  exact ⟨(World.cell?_of_block (a := ⟨b, 0, none⟩) hb).trans h.c0, fun k => (World.frozen?_of_block (a := ⟨b, k, none⟩) hb).trans (h.fr k), own_only h.own t (fun k hk => hf k (.inr hk)), h.srt, h.sm⟩
theorem QuAt.below (h : QuAt w b l v) (t : Below w.heap.size w w') : QuAt w' b l v := h.only (S := fun k => w.heap.size ≤ k) (Only.ofBelow t) fun k hk hs => absurd (show w.heap.size ≤ k from hs) (by have := (h.blocks k hk).2; omega)
theorem QuAt.row (h : QuAt w b l v) : ∃ A c, v = .slice A l.length c ∧ IsRw w A l := by
  rcases h.own.2 with ⟨rfl, e⟩ | ⟨g, c, cur, rfl, _⟩
  · exact ⟨none, 0, by rw [e], fun hp => by omega⟩
  · exact ⟨_, c, rfl, (own_rw h.own).1⟩
/-- The row, written. -/
theorem QuAt.put {l' : List Rw} {v' : Value} (h : QuAt w b l v) (t : Only (fun k => v.ownBlock = some k) w w') (o : w'.ownsRow (b + 1) 56 2 v' l'.length (fl pc l')) (srt : Qu.Srt l') (sm : l'.length ≤ 1048576) :
    QuAt (w'.setCell ⟨b, 0, none⟩ v') b l' v' := by
  have ne : ¬ v.ownBlock = some b := fun e => by have := h.own.lt b e; omega
  have hb := t.block b h.lt ne
  exact ⟨World.cell?_setCell_same _ _ _ ((World.cell?_of_block (a := ⟨b, 0, none⟩) hb).trans h.c0), fun k => by rw [World.frozen?_setCell, World.frozen?_of_block (a := ⟨b, k, none⟩) hb]; exact h.fr k,
    own_only o (Only.ofSet (S := fun k => k = b) rfl _) (fun k hk e => by have := o.lt k hk; omega), srt, sm⟩
end
/-- A queue in a world that has come from w0: it was made since. -/
structure Qs (w0 w : World) (b : Nat) (l : List Rw) (v : Value) : Prop where
  at_ : QuAt w b l v
  bel : Below w0.heap.size w0 w
  hb : w0.heap.size ≤ b
/-- What a call that turns a queue leaves. -/
def QsTo (w0 w : World) (b : Nat) (v : Value) (l' : List Rw) (w' : World) : Prop := ∃ v', Qs w0 w' b l' v' ∧ Only (Qb b v) w w' ∧ Near w v v'
section
variable {w0 w w' : World} {b : Nat} {l : List Rw} {v : Value}
theorem Qs.below (h : Qs w0 w b l v) (hb : Below w.heap.size w w') : Qs w0 w' b l v := ⟨h.at_.below hb, h.bel.trans (hb.mono h.bel.size), h.hb⟩
theorem Qs.to (h : Qs w0 w b l v) {l' : List Rw} {v' : Value} (hp : QuAt w' b l' v') (t : Only (Qb b v) w w') (n : Near w v v') : QsTo w0 w b v l' w' :=
  ⟨v', ⟨hp, h.bel.trans (t.below (fun k hk => Nat.le_trans h.hb (h.at_.blocks k hk).1) h.bel.size), h.hb⟩, t, n⟩
theorem Qs.same (h : Qs w0 w b l v) (hb : Below w.heap.size w w') : QsTo w0 w b v l w' := h.to (h.at_.below hb) (Only.ofBelow hb) (Near.same _ _)
/-- A row of the caller's, beside the queue. -/
def Aside (b : Nat) (v u : Value) : Prop := ∀ k, u.ownBlock = some k → ¬ Qb b v k
theorem Aside.none (b : Nat) (v : Value) : Aside b v (.slice none 0 0) := fun _ h => by cases h
/-- It stays beside it when the queue turns. -/
theorem Aside.turned {v' u : Value} {base e s n : Nat} {xs : List Value} (h : Aside b v u) (n2 : Near w v v') (o : w.ownsRow base e s u n xs) : Aside b v' u := fun k hk hp => by
  rcases hp with rfl | hp
  · exact h k hk (.inl rfl)
  · rcases n2 k hp with h1 | h1
    · exact h k hk (.inr h1)
    · have := (o.lt k hk).2; omega
/-- And when it turns itself. -/
theorem Aside.moved {u u' : Value} (h : Aside b v u) (hp : QuAt w b l v) (n2 : Near w u u') : Aside b v u' := fun k hk hq => by
  rcases n2 k hk with h1 | h1
  · exact h k h1 hq
  · have := (hp.blocks k hq).2; omega
end

set_option maxRecDepth 100000 in
theorem qnew_any (w : World) :
    Calls Try.prog 7 #[] w fun e w' => ∃ b, e = .returned (.pointer (some ⟨b, 0, none⟩)) ∧ Qs w w' b [] (.slice none 0 0) := by
  have PS : Hid (Qs w (w.alloc (.cells #[.slice none 0 0] 54)) w.heap.size [] (.slice none 0 0)) := by
    have hh : (w.alloc (.cells #[.slice none 0 0] 54)).heap[w.heap.size]? = some (.cells #[.slice none 0 0] 54 (0, 0)) := Array.getElem?_push_size
    refine ⟨⟨?_, fun j => by rw [World.frozen?, hh]; simp, World.ownsRow_nil _ _ _ _, Qu.Srt.nil, by simp⟩, (Below.refl _ _).alloc (Nat.le_refl _) _, Nat.le_refl _⟩
    rw [cell_of_row _ _ _ _ _ _ hh]; rfl
  go_enter Try.func7, Try.ntmps7
  go_wp2
  go_ret
  exact ⟨_, rfl, PS.out⟩
set_option maxRecDepth 100000 in
theorem qlen_any {w : World} {b : Nat} {l : List Rw} {v : Value} (h : QuAt w b l v) :
    Calls Try.prog 10 #[.pointer (some ⟨b, 0, none⟩)] w fun e w' => e = .returned (.int .i64 (l.length : Int)) ∧ w' = w := by
  obtain ⟨A, c, rfl, -⟩ := h.row
  have c0 := h.c0
  clear h
  generalize l.length = n at *
  go_enter Try.func10, Try.ntmps10
  go_wp2
  go_ret
  exact ⟨rfl, rfl⟩
set_option maxRecDepth 100000 in
theorem qat_any {w : World} {b : Nat} {l : List Rw} {v : Value} (h : QuAt w b l v) (id : Int) :
    Calls Try.prog 14 #[.pointer (some ⟨b, 0, none⟩), .int .i64 id] w fun e w' => e = .returned (.tuple #[.int .u64 (Qu.dueAt id l), .bool (Qu.has id l)]) ∧ Below w.heap.size w w' := by
  obtain ⟨A, c, rfl, ha⟩ := h.row
  have K := find_any l id b A l.length c w rfl (by have := h.sm; omega) h.c0 ha
  by_cases hf : Qu.fx id l < l.length
  · rw [if_pos hf] at K
    have E : Hid (Qu.dueAt id l = (Qu.nr l (Qu.fx id l)).1 ∧ Qu.has id l = true) := ⟨if_pos hf, decide_eq_true hf⟩
    rw [E.out.1, E.out.2]
    obtain ⟨g, off, rfl, hc⟩ := ha (by omega)
    have cc := (hc _ hf).1
    have KK := Lib.hid K
    have c0 := h.c0
    have L0 := Lib.hid h.lt
    have LG := Lib.hid (World.block_lt_of_cell? w _ cc)
    clear K h ha hc E
    generalize (Qu.nr l (Qu.fx id l)).1 = due at *
    generalize Qu.fx id l = k at *
    generalize l.length = n at *
    go_enter Try.func14, Try.ntmps14
    go_wp2_with fail
    refine KK.out.mono ?_
    rintro e w1 ⟨rfl, B1⟩
    have d0 := (B1.cell (p := ⟨b, 0, none⟩) L0.out).trans c0
    have dc := (B1.cell (p := ⟨g, off + k * 2, none⟩) LG.out).trans cc
    have BB := Lib.hid B1
    clear KK B1 c0 cc
    go_wp2
    go_ret2
    exact ⟨rfl, BB.out⟩
  · rw [if_neg hf] at K
    have E : Hid (Qu.dueAt id l = 0 ∧ Qu.has id l = false) := ⟨if_neg hf, decide_eq_false hf⟩
    rw [E.out.1, E.out.2]
    have KK := Lib.hid K
    clear K h ha E hf
    generalize l.length = n at *
    go_enter Try.func14, Try.ntmps14
    go_wp2_with fail
    refine KK.out.mono ?_
    rintro e w1 ⟨rfl, B1⟩
    have BB := Lib.hid B1
    clear KK B1
    go_wp2
    go_ret2
    exact ⟨rfl, BB.out⟩
/-- What is due first. -/
def Qu.first (l : List Rw) : Value := match l with
  | [] => .tuple #[.int .i64 0, .int .u64 0, .bool false]
  | r :: _ => .tuple #[.int .i64 r.2, .int .u64 r.1, .bool true]
set_option maxRecDepth 100000 in
theorem qfirst_any {w : World} {b : Nat} {l : List Rw} {v : Value} (h : QuAt w b l v) :
    Calls Try.prog 9 #[.pointer (some ⟨b, 0, none⟩)] w fun e w' => e = .returned (Qu.first l) ∧ Below w.heap.size w w' := by
  obtain ⟨A, c, rfl, ha⟩ := h.row
  have c0 := h.c0
  have BB : Hid (∀ q, Below w.heap.size w (w.drewN q)) := fun q => below_drewN (Below.refl _ _) q
  cases l with
  | nil =>
    have B0 : Hid (Below w.heap.size w w) := Below.refl _ _
    clear h ha
    unfold Qu.first
    go_enter Try.func9, Try.ntmps9
    go_wp2
    go_ret3
    exact ⟨rfl, B0.out⟩
  | cons r l =>
    obtain ⟨g, off, rfl, hc⟩ := ha (Nat.succ_pos _)
    obtain ⟨k0, k1⟩ := hc 0 (Nat.succ_pos _)
    obtain ⟨r1, r2⟩ := r
    rw [show off + 0 * 2 = off by omega, show Qu.nr ((r1, r2) :: l) 0 = (r1, r2) from rfl] at k0 k1
    unfold Qu.first
    rw [List.length_cons] at c0
    have hz : ¬ ((l.length + 1 : Nat) : Int) = 0 := by omega
    have hz1 : ¬ ((l.length : Int) + 1) = 0 := by omega
    have hz2 : (0 : Int) < ((l.length + 1 : Nat) : Int) := by omega
    have hz3 : (0 : Int) < ((l.length : Int) + 1) := by omega
    clear h ha hc
    generalize l.length = n at *
    go_enter Try.func9, Try.ntmps9
    go_wp2_with fail
    go_quiet (fail)
    go_wp2
    go_ret3
    exact ⟨rfl, BB.out _⟩
set_option maxRecDepth 100000 in
theorem qdrop_any {w0 w : World} {b : Nat} {l : List Rw} {v : Value} (h : Qs w0 w b l v) (id : Int) :
    Calls Try.prog 18 #[.pointer (some ⟨b, 0, none⟩), .int .i64 id] w fun e w' => e = .returned (.bool (Qu.has id l)) ∧ QsTo w0 w b v (Qu.cut id l) w' := by
  have HH := Lib.hid h
  obtain ⟨A, c, rfl, ha⟩ := h.at_.row
  have K := find_any l id b A l.length c w rfl (by have := h.at_.sm; omega) h.at_.c0 ha
  by_cases hf : Qu.fx id l < l.length
  · rw [if_pos hf] at K
    have E : Hid (Qu.has id l = true) := decide_eq_true hf
    rw [E.out]
    have KK := Lib.hid K
    have FIN : Hid (∀ w1 w2 v', Below w.heap.size w w1 → v'.ownBlock = (Value.slice A l.length c).ownBlock → w2.ownsRow (b + 1) 56 2 v' (Qu.fx id l + (l.length - (Qu.fx id l + 1))) (fl pc (l.take (Qu.fx id l) ++ l.drop (Qu.fx id l + 1))) →
        Only (fun k => (Value.slice A l.length c).ownBlock = some k) w1 w2 → QsTo w0 w b (.slice A l.length c) (Qu.cut id l) (w2.setCell ⟨b, 0, none⟩ v')) := fun w1 w2 v' hb he ho ht => by
      have h1 := HH.out.at_.below hb
      have hlen : (Qu.cut id l).length = Qu.fx id l + (l.length - (Qu.fx id l + 1)) := by
        unfold Qu.cut
        rw [List.length_append, List.length_take, List.length_drop]; omega
      have hp := h1.put (l' := Qu.cut id l) ht (by rw [hlen]; exact ho) (HH.out.at_.srt.cut id) (Nat.le_trans (Qu.cut_le _ _) HH.out.at_.sm)
      exact HH.out.to hp (((Only.ofBelow hb).trans (ht.mono fun k _ hk => .inr hk)).trans (Only.ofSet (.inl rfl) _)) (fun k hk => .inl (he ▸ hk))
    have C := Lib.hid (fun w1 (hb : Below w.heap.size w w1) => delete_any (b + 1) (.slice A l.length c) l.length l (Qu.fx id l) (Qu.fx id l + 1) w1 (h.at_.below hb).own (by omega) (by omega) (by have := h.at_.sm; omega))
    have c0 := h.at_.c0
    have L0 := Lib.hid h.at_.lt
    have F0 := Lib.hid (h.at_.fr 0)
    have hw : IntKind.i64.wrap ((Qu.fx id l : Int) + 1) = (Qu.fx id l : Int) + 1 := by have := h.at_.sm; rw [IntKind.wrap_i64]; omega
    have OB : Hid (∀ k, (Value.slice A l.length c).ownBlock = some k → b < k) := fun k hk => by have := h.at_.own.lt k hk; omega
    clear K h ha E
    generalize Qu.cut id l = l' at *
    generalize Qu.fx id l = k at *
    generalize l.length = n at *
    go_enter Try.func18, Try.ntmps18
    go_wp2_with fail
    refine KK.out.mono ?_
    rintro e w1 ⟨rfl, B1⟩
    have d0 := (B1.cell (p := ⟨b, 0, none⟩) L0.out).trans c0
    have f1 := (B1.frozen (p := ⟨b, 0, none⟩) L0.out).trans F0.out
    have BB := Lib.hid B1
    clear KK B1 c0
    go_wp2_with fail
    refine (C.out w1 BB.out).mono ?_
    rintro e w2 ⟨v', rfl, e2, o2, t2⟩
    have nb : ¬ (Value.slice A n c).ownBlock = some b := fun e => by have := OB.out b e; omega
    have hb2 := t2.block b (World.block_lt_of_cell? w1 _ d0) nb
    have d2 := (World.cell?_of_block (a := ⟨b, 0, none⟩) hb2).trans d0
    have f2 := (World.frozen?_of_block (a := ⟨b, 0, none⟩) hb2).trans f1
    have R := Lib.hid (FIN.out w1 w2 v' BB.out e2 o2 t2)
    obtain ⟨A', c', rfl⟩ := own_slice o2
    clear C d0 f1 o2 t2 hb2 FIN OB HH e2
    go_wp2
    go_ret
    exact ⟨rfl, R.out⟩
  · rw [if_neg hf] at K
    have E : Hid (Qu.has id l = false) := decide_eq_false hf
    have N : Hid (∀ w1, Below w.heap.size w w1 → QsTo w0 w b (.slice A l.length c) (Qu.cut id l) w1) := fun w1 hb => by rw [Qu.cut_no E.out]; exact HH.out.same hb
    rw [E.out]
    have KK := Lib.hid K
    clear K h ha E hf
    generalize Qu.cut id l = l' at *
    generalize l.length = n at *
    go_enter Try.func18, Try.ntmps18
    go_wp2_with fail
    refine KK.out.mono ?_
    rintro e w1 ⟨rfl, B1⟩
    have R := Lib.hid (N.out w1 B1)
    clear KK B1 N
    go_wp2
    go_ret
    exact ⟨rfl, R.out⟩
end Go.Proofs.Ytlbhiiciajfphaa
