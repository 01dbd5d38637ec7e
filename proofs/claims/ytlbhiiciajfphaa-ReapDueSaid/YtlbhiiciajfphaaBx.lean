/-
  The maths of what was put and when; what when does. Conditions: lengths fit.
-/
import Derived.Test.YtlbhiiciajfphaaBq
import Derived.Test.YtlbhiiciajfphaaBv
namespace Go.Proofs.Ytlbhiiciajfphaa
open Go.RowKit Go.Sort

namespace Qu
/-- When an id was put last, of the first k. -/
def wh (I D : List Int) : Nat → Int → Int
  | 0, _ => 0
  | k + 1, x => if nz I k = x then nz D k else wh I D k x
structure Kq (I D : List Int) (k : Nat) (l : List Rw) : Prop where
  srt : Srt l
  fr : ∀ r ∈ l, r.2 ∈ I.take k ∧ r.1 = wh I D k r.2
  has : ∀ x ∈ I.take k, ∃ r ∈ l, r.2 = x
  len : l.length ≤ k
theorem Kq.nil (I D : List Int) : Kq I D 0 [] := ⟨Srt.nil, (fun r hr => by cases hr), (fun x hx => by simp at hx), Nat.le_refl _⟩
theorem Kq.step {I D : List Int} {k : Nat} {l : List Rw} (h : Kq I D k l) (hk : k < I.length) : Kq I D (k + 1) (put (nz I k) (nz D k) l) := by
  refine ⟨h.srt.put _ _, fun r hr => ?_, fun x hx => ?_, Nat.le_trans (put_le _ _ _) (by have := h.len; omega)⟩
  · rcases h.srt.mem_put.1 hr with rfl | ⟨hr, hn⟩
    · exact ⟨(mem_take_succ hk).2 (.inr rfl), (if_pos rfl).symm⟩
    · obtain ⟨h1, h2⟩ := h.fr r hr
      exact ⟨(mem_take_succ hk).2 (.inl h1), h2.trans (if_neg (Ne.symm hn)).symm⟩
  · by_cases e : x = nz I k
    · exact ⟨_, h.srt.mem_put.2 (.inl rfl), e.symm⟩
    · rcases (mem_take_succ hk).1 hx with h1 | h1
      · obtain ⟨r, hr, hx⟩ := h.has x h1
        exact ⟨r, h.srt.mem_put.2 (.inr ⟨hr, fun e2 => e (hx.symm.trans e2)⟩), hx⟩
      · exact absurd h1 e
theorem nz_ids {l : List Rw} {k : Nat} (h : k < l.length) : nz (ids l) k = (nr l k).2 := by
  rw [nz_eq (by rw [ids_len]; exact h), nr_eq h]
  simp [ids]
theorem nr_ripe {now : Int} {l : List Rw} {k : Nat} (h : k < (ripe now l).length) : nr (ripe now l) k = nr l k := by
  have h2 : k < l.length := Nat.lt_of_lt_of_le h (ripe_sub now l).length_le
  rw [nr_eq h, nr_eq h2]
  have := List.getElem_take (xs := l) (i := k) (j := (ripe now l).length) (h := by rw [List.length_take]; omega)
  rw [← this]
  congr 1
  exact ripe_eq now l
section
variable {I D : List Int} {l : List Rw} {now : Int}
/-- What is due. -/
theorem Kq.due (h : Kq I D I.length l) {k : Nat} (hk : k < (ripe now l).length) : nz (ids (ripe now l)) k ∈ I ∧ wh I D I.length (nz (ids (ripe now l)) k) ≤ now := by
  have hm : nr (ripe now l) k ∈ ripe now l := nr_mem hk
  have h1 := h.fr _ ((ripe_sub now l).subset hm)
  rw [List.take_length] at h1
  rw [nz_ids hk]
  exact ⟨h1.1, by rw [← h1.2]; exact ripe_mem hm⟩
theorem Kq.order (h : Kq I D I.length l) {k : Nat} (hk : k < (ripe now l).length) (h0 : 0 < k) :
    wh I D I.length (nz (ids (ripe now l)) (k - 1)) < wh I D I.length (nz (ids (ripe now l)) k) ∨ wh I D I.length (nz (ids (ripe now l)) (k - 1)) = wh I D I.length (nz (ids (ripe now l)) k) ∧ nz (ids (ripe now l)) (k - 1) < nz (ids (ripe now l)) k := by
  have hk1 : k - 1 < (ripe now l).length := by omega
  have h2 := (ripe_sub now l).length_le
  have hlt := lt_iff.1 (h.srt.lt (i := k - 1) (j := k) (by omega) (by omega))
  rw [nz_ids hk, nz_ids hk1, nr_ripe hk, nr_ripe hk1, ← (h.fr _ (nr_mem (l := l) (j := k) (by omega))).2, ← (h.fr _ (nr_mem (l := l) (j := k - 1) (by omega))).2]
  exact hlt
/-- What stays. -/
theorem Kq.stay (h : Kq I D I.length l) {x : Int} (hx : x ∈ I) : Qu.has x (late now l) = !decide (x ∈ ids (ripe now l)) ∧ (Qu.has x (late now l) = true → dueAt x (late now l) = wh I D I.length x ∧ now < wh I D I.length x) := by
  obtain ⟨r, hr, rfl⟩ := h.has x (by rw [List.take_length]; exact hx)
  have hsl : Srt (late now l) := h.srt.sub (late_sub now l)
  have hw := (h.fr r hr).2
  rcases mem_split.1 hr with hr2 | hr2
  · have h1 : decide (r.2 ∈ ids (ripe now l)) = true := decide_eq_true (List.mem_map.2 ⟨r, hr2, rfl⟩)
    have h2 : Qu.has r.2 (late now l) = false := by
      cases hc : Qu.has r.2 (late now l) with
      | false => rfl
      | true =>
        obtain ⟨r', hr', e⟩ := has_iff.1 hc
        have := h.srt.one ((late_sub now l).subset hr') hr e
        subst this
        have h3 := ripe_mem hr2
        have h4 := h.srt.late_mem hr'
        omega
    rw [h1, h2]
    exact ⟨rfl, fun e => by cases e⟩
  · obtain ⟨h1, h2⟩ := hsl.dueAt hr2
    have h3 : decide (r.2 ∈ ids (ripe now l)) = false := decide_eq_false fun hm => by
      obtain ⟨r', hr', e⟩ := List.mem_map.1 hm
      have := h.srt.one ((ripe_sub now l).subset hr') hr e
      subst this
      have h3 := ripe_mem hr'
      have h4 := h.srt.late_mem hr2
      omega
    rw [h1, h3]
    exact ⟨rfl, fun _ => ⟨h2.trans hw, by rw [← hw]; exact h.srt.late_mem hr2⟩⟩
theorem ripe_none {l' : List Rw} (h : ∀ r ∈ l', now < r.1) : ripe now l' = [] ∧ late now l' = l' := by
  cases l' with
  | nil => exact ⟨rfl, rfl⟩
  | cons x t =>
    have hx : ¬ x.1 ≤ now := by have := h x (by simp); omega
    unfold ripe late
    rw [List.takeWhile_cons_of_neg (by simpa using hx), List.dropWhile_cons_of_neg (by simpa using hx)]
    exact ⟨rfl, rfl⟩
end
end Qu
theorem isU_at {w : World} {b off : Nat} {l : List Int} (h : IsU w (some ⟨b, off, none⟩) l) {j : Nat} (hj : j < l.length) : w.cell? ⟨b, off + j, none⟩ = some (.int .u64 (nz l j)) := by
  obtain ⟨b', off', e, hc⟩ := h (by omega)
  injection e with e
  injection e with e1 e2
  subst e1 e2
  exact hc j hj
theorem has_s (xs : List Int) (x : Int) (A : Option Addr) (nx ca : Nat) (w : World) (ex : xs.length = nx) (hx : nx ≤ 1099511627776) (ha : IsZ w A xs) {d : Bool} (hd : decide (x ∈ xs) = d) :
    Calls Try.prog 16 #[.slice A nx ca, .int .i64 x] w fun e w' => e = .returned (.bool d) ∧ w' = w := by
  subst hd
  exact (hasz_any xs x A nx ca w ex hx ha).mono fun e w' ⟨h1, h2⟩ => ⟨h1, h2.symm⟩
set_option maxRecDepth 100000 in
set_option maxHeartbeats 1000000 in
theorem when_any (I D : List Int) (x : Int) (A B : Option Addr) (ca cb M N : Nat) (w : World) (hN : I.length = N) (hM : D.length = M) (hNM : N ≤ M) (hNb : N ≤ 1048576) (hA : IsZ w A I) (hB : IsU w B D) :
    Calls Try.prog 17 #[.slice A N ca, .slice B M cb, .int .i64 x] w fun e w' => e = .returned (.int .u64 (Qu.wh I D N x)) ∧ w' = w := by
  have HA := Lib.hid hA
  have HB := Lib.hid hB
  have HN := Lib.hid hN
  have HM := Lib.hid hM
  clear hA hB hN hM
  go_enter Try.func17, Try.ntmps17
  go_wp2
  go_loop [7, 8] (fun v i => ∃ k : Nat, k ≤ N ∧ i = .int .i64 (k : Int) ∧ v = .int .u64 (Qu.wh I D k x)) (fun _ i => N - (intOf i).toNat)
  case atStart => exact ⟨0, by omega, rfl, rfl⟩
  case round =>
    obtain ⟨k, hk, rfl, rfl⟩ := hrel
    by_cases hkn : k < N
    · obtain ⟨b, off, rfl, -⟩ := HA.out (by rw [HN.out]; omega)
      obtain ⟨b2, off2, rfl, -⟩ := HB.out (by rw [HM.out]; omega)
      have c1 := isZ_at HA.out (j := k) (by rw [HN.out]; exact hkn)
      have c2 := isU_at HB.out (j := k) (by rw [HM.out]; omega)
      have hkz : (k : Int) < (N : Int) := by omega
      have hkm : (k : Int) < (M : Int) := by omega
      have hkm2 : k < M := by omega
      by_cases hq : nz I k = x
      · have R : Hid (Qu.wh I D (k + 1) x = nz D k) := if_pos hq
        obtain ⟨y, hy⟩ : ∃ y, nz I k = y := ⟨_, rfl⟩
        rw [hy] at c1 hq
        clear hy
        subst hq
        generalize nz D k = z at *
        generalize Qu.wh I D k y = z0 at *
        go_wp2
        go_round
        case rel => exact ⟨k + 1, by omega, by go_num, by rw [R.out]⟩
        case measure => simp [intOf]; omega
      · have R : Hid (Qu.wh I D (k + 1) x = Qu.wh I D k x) := if_neg hq
        have hq' : (nz I k == x) = false := by simpa using hq
        generalize nz D k = z at *
        generalize nz I k = y at *
        generalize Qu.wh I D k x = z0 at *
        go_wp2
        go_round
        case rel => exact ⟨k + 1, by omega, by go_num, by rw [R.out]⟩
        case measure => simp [intOf]; omega
    · obtain rfl : k = N := by omega
      have hkz : ¬ (k : Int) < (k : Int) := by omega
      go_wp2
      go_ret
      exact ⟨rfl, rfl⟩
end Go.Proofs.Ytlbhiiciajfphaa
