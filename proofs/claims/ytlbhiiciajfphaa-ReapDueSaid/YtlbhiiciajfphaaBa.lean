/-
  The maths of a queue of what is due: rows (time, id) in order, each id once; put, drop, what is due. No conditions; nothing of any program.
-/
import Derived.Test.YtlbhiiciajfphaaIa
namespace Go.Proofs.Ytlbhiiciajfphaa

/-- A row: when it is due, and its id. -/
abbrev Rw := Int × Int
namespace Qu
def lt (a b : Rw) : Bool := decide (a.1 < b.1 ∨ a.1 = b.1 ∧ a.2 < b.2)
theorem lt_iff {a b : Rw} : lt a b = true ↔ a.1 < b.1 ∨ a.1 = b.1 ∧ a.2 < b.2 := decide_eq_true_iff
theorem lt_no {a b : Rw} : lt a b = false ↔ ¬ (a.1 < b.1 ∨ a.1 = b.1 ∧ a.2 < b.2) := decide_eq_false_iff_not
theorem lt_trans {a b c : Rw} (h : lt a b = true) (k : lt b c = true) : lt a c = true := by rw [lt_iff] at *; omega
theorem lt_self (a : Rw) : lt a a = false := by rw [lt_no]; omega
theorem lt_or {a b : Rw} (h : lt a b = false) (hn : a.2 ≠ b.2) : lt b a = true := by rw [lt_no] at h; rw [lt_iff]; omega
theorem lt_not {a b : Rw} (h : lt a b = true) : lt b a = false := by rw [lt_iff] at h; rw [lt_no]; omega
def nr (l : List Rw) (j : Nat) : Rw := l.getD j (0, 0)
theorem nr_eq {l : List Rw} {j : Nat} (h : j < l.length) : nr l j = l[j] := by simp [nr, List.getD, List.getElem?_eq_getElem h]
theorem nr_mem {l : List Rw} {j : Nat} (h : j < l.length) : nr l j ∈ l := by rw [nr_eq h]; exact List.getElem_mem h
/-- The place of an id's row; the length if it has none. -/
def fx (id : Int) (l : List Rw) : Nat := l.findIdx fun r => r.2 == id
theorem fx_le (id : Int) (l : List Rw) : fx id l ≤ l.length := List.findIdx_le_length
theorem fx_at {id : Int} {l : List Rw} (h : fx id l < l.length) : (nr l (fx id l)).2 = id := by
  have := List.findIdx_getElem (xs := l) (p := fun r : Rw => r.2 == id) (w := h)
  rw [nr_eq h]
  exact eq_of_beq this
theorem fx_before {id : Int} {l : List Rw} {j : Nat} (h : j < fx id l) : (nr l j).2 ≠ id := by
  have := List.not_of_lt_findIdx (p := fun r : Rw => r.2 == id) h
  rw [nr_eq (Nat.lt_of_lt_of_le h (fx_le _ _))]
  simpa using this
theorem fx_hit {id : Int} {l : List Rw} {k : Nat} (hk : k < l.length) (h : (nr l k).2 = id) (hb : ∀ j, j < k → (nr l j).2 ≠ id) : fx id l = k := by
  rcases Nat.lt_trichotomy (fx id l) k with h1 | h1 | h1
  · exact absurd (fx_at (by omega)) (hb _ h1)
  · exact h1
  · exact absurd h (fx_before h1)
theorem fx_miss {id : Int} {l : List Rw} (hb : ∀ j, j < l.length → (nr l j).2 ≠ id) : fx id l = l.length := by
  rcases Nat.lt_or_ge (fx id l) l.length with h1 | h1
  · exact absurd (fx_at h1) (hb _ h1)
  · exact Nat.le_antisymm (fx_le _ _) h1
theorem fx_mem {id : Int} {l : List Rw} : fx id l < l.length ↔ ∃ r ∈ l, r.2 = id := by
  constructor
  · intro h; exact ⟨_, nr_mem h, fx_at h⟩
  · rintro ⟨r, hr, h⟩
    obtain ⟨j, hj, rfl⟩ := List.getElem_of_mem hr
    rcases Nat.lt_or_ge (fx id l) l.length with h1 | h1
    · exact h1
    · exact absurd (show (nr l j).2 = id by rw [nr_eq hj]; exact h) (fx_before (by omega))
def cut (id : Int) (l : List Rw) : List Rw := l.take (fx id l) ++ l.drop (fx id l + 1)
/-- Is it there? -/
def has (id : Int) (l : List Rw) : Bool := decide (fx id l < l.length)
theorem cut_no {id : Int} {l : List Rw} (h : has id l = false) : cut id l = l := by
  have : ¬ fx id l < l.length := of_decide_eq_false h
  unfold cut
  rw [List.take_of_length_le (by omega), List.drop_of_length_le (by omega), List.append_nil]
theorem cut_len {id : Int} {l : List Rw} (h : has id l = true) : (cut id l).length + 1 = l.length := by
  have : fx id l < l.length := of_decide_eq_true h
  unfold cut
  rw [List.length_append, List.length_take, List.length_drop]; omega
theorem cut_le (id : Int) (l : List Rw) : (cut id l).length ≤ l.length := by
  unfold cut
  rw [List.length_append, List.length_take, List.length_drop]; omega
theorem cut_sub (id : Int) (l : List Rw) : (cut id l).Sublist l := by
  unfold cut
  conv => rhs; rw [← List.take_append_drop (fx id l) l]
  exact List.Sublist.append (List.Sublist.refl _) (by rw [← List.drop_drop]; exact List.drop_sublist _ _)
/-- How many rows stand ahead of r. -/
def kk (l : List Rw) (r : Rw) : Nat := l.countP fun x => lt x r
theorem kk_le (l : List Rw) (r : Rw) : kk l r ≤ l.length := List.countP_le_length
theorem kk_cons_lt {x r : Rw} {l : List Rw} (h : lt x r = true) : kk (x :: l) r = kk l r + 1 := by unfold kk; rw [List.countP_cons_of_pos (p := fun x => lt x r) h]
theorem kk_zero {r : Rw} {l : List Rw} (h : ∀ x ∈ l, lt x r = false) : kk l r = 0 := by unfold kk; rw [List.countP_eq_zero]; intro x hx; simp [h x hx]
theorem kk_at : ∀ (l : List Rw) (r : Rw) (m : Nat), m ≤ l.length → (∀ j, j < m → lt (nr l j) r = true) → (∀ j, m ≤ j → j < l.length → lt (nr l j) r = false) → kk l r = m
  | [], r, m, hm, _, _ => by simp at hm; subst hm; rfl
  | x :: l, r, 0, _, _, h2 => kk_zero fun y hy => by
    obtain ⟨j, hj, rfl⟩ := List.getElem_of_mem hy
    have := h2 j (Nat.zero_le _) hj
    rwa [nr_eq hj] at this
  | x :: l, r, m + 1, hm, h1, h2 => by
    rw [kk_cons_lt (show lt x r = true from h1 0 (Nat.succ_pos _)), kk_at l r m (by simpa using hm) (fun j hj => h1 (j + 1) (by omega)) (fun j h3 h4 => h2 (j + 1) (by omega) (by simpa using h4))]
def ins (l : List Rw) (r : Rw) : List Rw := l.take (kk l r) ++ r :: l.drop (kk l r)
theorem ins_len (l : List Rw) (r : Rw) : (ins l r).length = l.length + 1 := by
  have := kk_le l r
  unfold ins
  rw [List.length_append, List.length_cons, List.length_take, List.length_drop]; omega
theorem ins_mem {l : List Rw} {r x : Rw} : x ∈ ins l r ↔ x = r ∨ x ∈ l := by
  unfold ins
  conv => rhs; rhs; rw [← List.take_append_drop (kk l r) l]
  simp only [List.mem_append, List.mem_cons]
  constructor
  · rintro (h | h | h)
    · exact .inr (.inl h)
    · exact .inl h
    · exact .inr (.inr h)
  · rintro (h | h | h)
    · exact .inr (.inl h)
    · exact .inl h
    · exact .inr (.inr h)
/-- In order, each id once. -/
structure Srt (l : List Rw) : Prop where
  up : l.Pairwise fun a b => lt a b = true
  ids : l.Pairwise fun a b => a.2 ≠ b.2
theorem Srt.nil : Srt [] := ⟨List.Pairwise.nil, List.Pairwise.nil⟩
theorem Srt.sub {l m : List Rw} (h : Srt l) (s : m.Sublist l) : Srt m := ⟨h.up.sublist s, h.ids.sublist s⟩
theorem Srt.lt {l : List Rw} (h : Srt l) {i j : Nat} (hij : i < j) (hj : j < l.length) : Qu.lt (nr l i) (nr l j) = true := by
  rw [nr_eq hj, nr_eq (by omega)]
  exact List.pairwise_iff_getElem.1 h.up i j (by omega) hj hij
theorem Srt.one {l : List Rw} (h : Srt l) {a b : Rw} (ha : a ∈ l) (hb : b ∈ l) (e : a.2 = b.2) : a = b := by
  obtain ⟨i, hi, rfl⟩ := List.getElem_of_mem ha
  obtain ⟨j, hj, rfl⟩ := List.getElem_of_mem hb
  rcases Nat.lt_trichotomy i j with h1 | h1 | h1
  · exact absurd e (List.pairwise_iff_getElem.1 h.ids i j hi hj h1)
  · subst h1; rfl
  · exact absurd e.symm (List.pairwise_iff_getElem.1 h.ids j i hj hi h1)
theorem Srt.cut {l : List Rw} (h : Srt l) (id : Int) : Srt (cut id l) := h.sub (cut_sub _ _)
theorem Srt.mem_cut {l : List Rw} (h : Srt l) {id : Int} {r : Rw} : r ∈ Qu.cut id l ↔ r ∈ l ∧ r.2 ≠ id := by
  constructor
  · intro hr
    refine ⟨(cut_sub _ _).subset hr, fun e => ?_⟩
    unfold Qu.cut at hr
    rw [List.mem_append] at hr
    rcases hr with hr | hr
    · obtain ⟨j, hj, rfl⟩ := List.getElem_of_mem hr
      have hj' : j < fx id l ∧ j < l.length := by simp at hj; omega
      rw [List.getElem_take] at e
      exact fx_before hj'.1 (by rw [nr_eq hj'.2]; exact e)
    · obtain ⟨j, hj, rfl⟩ := List.getElem_of_mem hr
      have hj' : fx id l + 1 + j < l.length := by simp at hj; omega
      rw [List.getElem_drop] at e
      have h1 : (l[fx id l]'(by omega)).2 = id := by have := fx_at (id := id) (l := l) (by omega); rwa [nr_eq (by omega)] at this
      exact List.pairwise_iff_getElem.1 h.ids (fx id l) (fx id l + 1 + j) (by omega) hj' (by omega) (h1.trans e.symm)
  · rintro ⟨hr, hn⟩
    obtain ⟨j, hj, rfl⟩ := List.getElem_of_mem hr
    unfold Qu.cut
    rw [List.mem_append]
    rcases Nat.lt_trichotomy j (fx id l) with h1 | h1 | h1
    · exact .inl (List.mem_take_iff_getElem.2 ⟨j, by omega, rfl⟩)
    · subst h1
      exact absurd (by have := fx_at (id := id) (l := l) hj; rwa [nr_eq hj] at this) hn
    · refine .inr (List.mem_drop_iff_getElem.2 ⟨j - (fx id l + 1), by omega, ?_⟩)
      congr 1
      omega
theorem kk_cons_no {x r : Rw} {l : List Rw} (h : Srt (x :: l)) (hx : Qu.lt x r = false) : kk (x :: l) r = 0 := kk_zero fun y hy => by
  rcases List.mem_cons.1 hy with rfl | hy
  · exact hx
  · have h1 := (List.pairwise_cons.1 h.up).1 y hy
    cases h2 : Qu.lt y r with
    | false => rfl
    | true => rw [lt_trans h1 h2] at hx; cases hx
theorem ins_cons_lt {x r : Rw} {l : List Rw} (h : Qu.lt x r = true) : ins (x :: l) r = x :: ins l r := by unfold ins; rw [kk_cons_lt h]; rfl
theorem ins_cons_no {x r : Rw} {l : List Rw} (h : Srt (x :: l)) (hx : Qu.lt x r = false) : ins (x :: l) r = r :: x :: l := by unfold ins; rw [kk_cons_no h hx]; rfl
theorem Srt.tail {x : Rw} {l : List Rw} (h : Srt (x :: l)) : Srt l := h.sub (List.sublist_cons_self x l)
theorem Srt.ins : ∀ {l : List Rw} {r : Rw}, Srt l → (∀ x ∈ l, x.2 ≠ r.2) → Srt (ins l r)
  | [], r, _, _ => ⟨List.pairwise_singleton _ _, List.pairwise_singleton _ _⟩
  | x :: l, r, h, hn => by
    have ih := Srt.ins h.tail (r := r) fun y hy => hn y (List.mem_cons_of_mem _ hy)
    cases hx : Qu.lt x r with
    | true =>
      rw [ins_cons_lt hx]
      refine ⟨List.pairwise_cons.2 ⟨fun y hy => ?_, ih.up⟩, List.pairwise_cons.2 ⟨fun y hy => ?_, ih.ids⟩⟩
      · rcases ins_mem.1 hy with rfl | hy
        · exact hx
        · exact (List.pairwise_cons.1 h.up).1 y hy
      · rcases ins_mem.1 hy with rfl | hy
        · exact hn x (by simp)
        · exact (List.pairwise_cons.1 h.ids).1 y hy
    | false =>
      rw [ins_cons_no h hx]
      have hrx := lt_or hx (hn x (by simp))
      refine ⟨List.pairwise_cons.2 ⟨fun y hy => ?_, h.up⟩, List.pairwise_cons.2 ⟨fun y hy => (hn y hy).symm, h.ids⟩⟩
      rcases List.mem_cons.1 hy with rfl | hy
      · exact hrx
      · exact lt_trans hrx ((List.pairwise_cons.1 h.up).1 y hy)
theorem Srt.kk_lo : ∀ {l : List Rw} {r : Rw}, Srt l → ∀ j, j < kk l r → Qu.lt (nr l j) r = true
  | [], r, _, j, hj => by simp [kk] at hj
  | x :: l, r, h, j, hj => by
    cases hx : Qu.lt x r with
    | true =>
      rw [kk_cons_lt hx] at hj
      cases j with
      | zero => exact hx
      | succ j => exact Srt.kk_lo h.tail j (by omega)
    | false => rw [kk_cons_no h hx] at hj; omega
theorem Srt.kk_hi : ∀ {l : List Rw} {r : Rw}, Srt l → ∀ j, kk l r ≤ j → j < l.length → Qu.lt (nr l j) r = false
  | [], r, _, j, _, hj => by simp at hj
  | x :: l, r, h, j, hk, hj => by
    cases hx : Qu.lt x r with
    | true =>
      rw [kk_cons_lt hx] at hk
      cases j with
      | zero => omega
      | succ j => exact Srt.kk_hi h.tail j (by omega) (by simpa using hj)
    | false =>
      cases j with
      | zero => exact hx
      | succ j =>
        have h1 := (List.pairwise_cons.1 h.up).1 (nr l j) (nr_mem (by simpa using hj))
        cases h2 : Qu.lt (nr l j) r with
        | false => exact h2
        | true => rw [lt_trans h1 h2] at hx; cases hx
def put (id due : Int) (l : List Rw) : List Rw := ins (cut id l) (due, id)
theorem Srt.put {l : List Rw} (h : Srt l) (id due : Int) : Srt (put id due l) := (h.cut id).ins fun _ hx => (h.mem_cut.1 hx).2
theorem Srt.mem_put {l : List Rw} (h : Srt l) {id due : Int} {r : Rw} : r ∈ Qu.put id due l ↔ r = (due, id) ∨ r ∈ l ∧ r.2 ≠ id := by
  unfold Qu.put
  rw [ins_mem, h.mem_cut]
theorem put_le (id due : Int) (l : List Rw) : (put id due l).length ≤ l.length + 1 := by
  unfold put
  rw [ins_len]
  have := cut_le id l
  omega
/-- What is due now, and what is left. -/
def ripe (now : Int) (l : List Rw) : List Rw := l.takeWhile fun r => decide (r.1 ≤ now)
def late (now : Int) (l : List Rw) : List Rw := l.dropWhile fun r => decide (r.1 ≤ now)
theorem ripe_late (now : Int) (l : List Rw) : ripe now l ++ late now l = l := List.takeWhile_append_dropWhile
theorem ripe_sub (now : Int) (l : List Rw) : (ripe now l).Sublist l := List.takeWhile_sublist _
theorem late_sub (now : Int) (l : List Rw) : (late now l).Sublist l := List.dropWhile_sublist _
theorem late_len (now : Int) (l : List Rw) : (ripe now l).length + (late now l).length = l.length := by rw [← List.length_append, ripe_late]
theorem late_eq (now : Int) (l : List Rw) : late now l = l.drop (ripe now l).length := by
  have e : (ripe now l ++ late now l).drop (ripe now l).length = late now l := List.drop_left
  rwa [ripe_late, eq_comm] at e
theorem ripe_eq (now : Int) (l : List Rw) : ripe now l = l.take (ripe now l).length := by
  have e : (ripe now l ++ late now l).take (ripe now l).length = ripe now l := List.take_left
  rwa [ripe_late, eq_comm] at e
theorem ripe_mem {now : Int} {l : List Rw} {r : Rw} (h : r ∈ ripe now l) : r.1 ≤ now := by
  have : ∀ {l : List Rw}, r ∈ ripe now l → r.1 ≤ now := by
    intro l
    induction l with
    | nil => intro h; cases h
    | cons x l ih =>
      intro h
      unfold ripe at h
      rw [List.takeWhile_cons] at h
      split at h
      · rename_i hx
        rcases List.mem_cons.1 h with rfl | h
        · exact of_decide_eq_true hx
        · exact ih h
      · cases h
  exact this h
theorem Srt.late_mem : ∀ {l : List Rw} {now : Int} {r : Rw}, Srt l → r ∈ late now l → now < r.1
  | [], _, _, _, h => by cases h
  | x :: l, now, r, hs, h => by
    unfold late at h
    rw [List.dropWhile_cons] at h
    split at h
    · exact Srt.late_mem hs.tail h
    · rename_i hx
      have hx' : ¬ x.1 ≤ now := by simpa using hx
      rcases List.mem_cons.1 h with rfl | h
      · omega
      · have := lt_iff.1 ((List.pairwise_cons.1 hs.up).1 r h); omega
theorem mem_split {now : Int} {l : List Rw} {r : Rw} : r ∈ l ↔ r ∈ ripe now l ∨ r ∈ late now l := by rw [← List.mem_append, ripe_late]
/-- The loop's way: so many are due. -/
theorem ripe_at {now : Int} {l : List Rw} {k : Nat} (hk : k ≤ l.length) (h1 : ∀ j, j < k → (nr l j).1 ≤ now) (h2 : k = l.length ∨ ¬ (nr l k).1 ≤ now) : ripe now l = l.take k ∧ late now l = l.drop k := by
  induction l generalizing k with
  | nil => simp at hk; subst hk; exact ⟨rfl, rfl⟩
  | cons x l ih =>
    unfold ripe late
    cases k with
    | zero =>
      rcases h2 with h2 | h2
      · simp at h2
      · have hx : ¬ x.1 ≤ now := h2
        rw [List.takeWhile_cons_of_neg (by simpa using hx), List.dropWhile_cons_of_neg (by simpa using hx)]
        exact ⟨rfl, rfl⟩
    | succ k =>
      have hx : x.1 ≤ now := h1 0 (Nat.succ_pos _)
      obtain ⟨e1, e2⟩ := ih (k := k) (by simpa using hk) (fun j hj => h1 (j + 1) (by omega)) (h2.imp (by simp) id)
      rw [List.takeWhile_cons_of_pos (by simpa using hx), List.dropWhile_cons_of_pos (by simpa using hx)]
      exact ⟨by rw [List.take_succ_cons, ← e1]; rfl, e2⟩
/-- When is it due? -/
def dueAt (id : Int) (l : List Rw) : Int := if fx id l < l.length then (nr l (fx id l)).1 else 0
theorem dueAt_no {id : Int} {l : List Rw} (h : has id l = false) : dueAt id l = 0 := if_neg (of_decide_eq_false h)
theorem dueAt_yes {id : Int} {l : List Rw} (h : has id l = true) : dueAt id l = (nr l (fx id l)).1 := if_pos (of_decide_eq_true h)
theorem has_iff {id : Int} {l : List Rw} : has id l = true ↔ ∃ r ∈ l, r.2 = id := by unfold has; rw [decide_eq_true_iff]; exact fx_mem
theorem Srt.dueAt {l : List Rw} (h : Srt l) {r : Rw} (hr : r ∈ l) : has r.2 l = true ∧ Qu.dueAt r.2 l = r.1 := by
  have h1 : has r.2 l = true := has_iff.2 ⟨r, hr, rfl⟩
  refine ⟨h1, ?_⟩
  rw [dueAt_yes h1]
  have hlt : fx r.2 l < l.length := of_decide_eq_true h1
  rw [h.one (nr_mem hlt) hr (fx_at hlt)]
def ids (l : List Rw) : List Int := l.map (·.2)
theorem ids_len (l : List Rw) : (ids l).length = l.length := List.length_map _
end Qu
end Go.Proofs.Ytlbhiiciajfphaa
