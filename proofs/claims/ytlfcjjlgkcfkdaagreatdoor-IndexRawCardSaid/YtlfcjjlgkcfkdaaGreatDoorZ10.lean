/-
  Plain mathematics of chapter 7: where a tree's steps come to their end a match of the tree ends. No conditions.
  Plain mathematics of chapter 7: sets of steps, level by level; which steps are reached in how many rounds; words as sets. No conditions.
  Plain mathematics of chapter 7: the reference's words, round by round, and what bits they have; when a program matches. No conditions.
  What the program's atom and factor do, of what group does. Conditions: at most 40 bytes.
-/
import Derived.Test.YtlfcjjlgkcfkdaaGreatDoorProg
import Derived.Test.YtlfcjjlgkcfkdaaGreatDoorZ01
import Derived.Test.YtlfcjjlgkcfkdaaGreatDoorZ02
import Derived.Test.YtlfcjjlgkcfkdaaGreatDoorZ04
import Derived.Test.YtlfcjjlgkcfkdaaGreatDoorZ05
import Derived.Test.YtlfcjjlgkcfkdaaGreatDoorZ07
import Derived.Test.YtlfcjjlgkcfkdaaGreatDoorZ09
import Derived.Test.YtlfcjjlgkcfkdaaGreatDoorZ06
import Derived.Test.YtlfcjjlgkcfkdaaGreatDoorZ08
import Derived.Test.YtlfcjjlgkcfkdaaGreatDoorZ03
import Derived.Deep.RegionHeld3
import Derived.WalkKit
import Derived.WalkSpells
import Derived.WalkLawsBesides
import Derived.Lib.Hide
import Derived.Below
import Derived.BigQuiet
import Derived.Lib.QuietBelow
import Derived.Laws.StructEq
import Derived.KernelRfl
import Derived.Laws.MakeOwn
import Derived.Laws.OwnMore
import Derived.OwnWalk
import Derived.Laws.CopyOwn
import Derived.Laws.AppendOwn
import Derived.Deep.QuietTactic
import Derived.Lib.Bytealg
import Derived.Laws.Externs
import Derived.Maps.AppendAt
import Derived.StillTailTactics
import Derived.Laws.ResultCell
import Derived.Deep.LoopGhost
namespace Go.Proofs.YtlfcjjlgkcfkdaaGreatDoor
namespace Sc
/-- Outside of a piece of a program. -/
def Out (n e q : Nat) : Prop := q < n ∨ e ≤ q
theorem Pth.first {P : List St} {S : List Nat} {m p i q j : Nat} (h : Pth P S m p i q j) (hne : p ≠ q) : ∃ m' p' i', m = m' + 1 ∧ Mv P S p i p' i' ∧ Pth P S m' p' i' q j := by
  cases m with
  | zero => exact absurd h.1 hne
  | succ m => obtain ⟨p', i', h1, h2⟩ := h; exact ⟨m, p', i', rfl, h1, h2⟩
theorem lay2 (n : Nat) (a b c d : Nat) (ks : List Rx) : Rx.lay n (.mk 2 a b c d ks) = Rx.layL n ks := by simp [Rx.lay]
theorem lay3 (n : Nat) (a b c d : Nat) (ks : List Rx) : Rx.lay n (.mk 3 a b c d ks) = Rx.ways n (n + (Rx.szL ks + 2 * (ks.length - 1))) ks := by simp [Rx.lay]
theorem lay4 (n : Nat) (a b c d : Nat) (ks : List Rx) : Rx.lay n (.mk 4 a b c d ks) = St.split (n + 1) (n + 2 + Rx.szL ks) :: (Rx.layL (n + 1) ks ++ [St.jump n]) := by simp [Rx.lay]
theorem lay5 (n : Nat) (a b c d : Nat) (ks : List Rx) : Rx.lay n (.mk 5 a b c d ks) = Rx.layL n ks ++ [St.split n (n + Rx.szL ks + 1)] := by simp [Rx.lay]
theorem lay6 (n : Nat) (a b c d : Nat) (ks : List Rx) : Rx.lay n (.mk 6 a b c d ks) = St.split (n + 1) (n + 1 + Rx.szL ks) :: Rx.layL (n + 1) ks := by simp [Rx.lay]
theorem sz2 (a b c d : Nat) (ks : List Rx) : Rx.sz (.mk 2 a b c d ks) = Rx.szL ks := by simp [Rx.sz]
theorem sz3 (a b c d : Nat) (ks : List Rx) : Rx.sz (.mk 3 a b c d ks) = Rx.szL ks + 2 * (ks.length - 1) := by simp [Rx.sz]
theorem sz4 (a b c d : Nat) (ks : List Rx) : Rx.sz (.mk 4 a b c d ks) = Rx.szL ks + 2 := by simp [Rx.sz]
theorem sz5 (a b c d : Nat) (ks : List Rx) : Rx.sz (.mk 5 a b c d ks) = Rx.szL ks + 1 := by simp [Rx.sz]
theorem sz6 (a b c d : Nat) (ks : List Rx) : Rx.sz (.mk 6 a b c d ks) = Rx.szL ks + 1 := by simp [Rx.sz]
theorem mt2 (S : List Nat) (a b c d : Nat) (ks : List Rx) (i j : Nat) : Rx.mt S (.mk 2 a b c d ks) i j ↔ Rx.mtSeq S ks i j := by simp [Rx.mt]
theorem mt3 (S : List Nat) (a b c d : Nat) (ks : List Rx) (i j : Nat) : Rx.mt S (.mk 3 a b c d ks) i j ↔ Rx.mtAlt S ks i j := by simp [Rx.mt]
theorem mt4 (S : List Nat) (a b c d : Nat) (ks : List Rx) (i j : Nat) : Rx.mt S (.mk 4 a b c d ks) i j ↔ Rx.Star (Rx.mtHd S ks) i j := by simp [Rx.mt]
theorem mt5 (S : List Nat) (a b c d : Nat) (ks : List Rx) (i j : Nat) : Rx.mt S (.mk 5 a b c d ks) i j ↔ ∃ m, Rx.mtHd S ks i m ∧ Rx.Star (Rx.mtHd S ks) m j := by simp [Rx.mt]
theorem mt6 (S : List Nat) (a b c d : Nat) (ks : List Rx) (i j : Nat) : Rx.mt S (.mk 6 a b c d ks) i j ↔ i = j ∨ Rx.mtHd S ks i j := by simp [Rx.mt]
mutual
/-- A way out of a tree's steps goes through their end, where a match ends. -/
theorem settles {P : List St} {S : List Nat} : ∀ (t : Rx) (n : Nat), Rx.isRex t = true → In P n (Rx.lay n t) → ∀ m i q j, Pth P S m n i q j → Out n (n + Rx.sz t) q → ∃ m' i', m' ≤ m ∧ Rx.mt S t i i' ∧ Pth P S m' (n + Rx.sz t) i' q j
  | .mk op a b c d ks, n, hr, hin, m, i, q, j, h, ho => by
    obtain ⟨hall, hop⟩ := Rx.isRex_cases hr
    have hk := settlesL (P := P) (S := S) ks
    have hw := settlesW (P := P) (S := S) ks
    rcases hop with ⟨rfl, rfl⟩ | rfl | ⟨rfl, h1⟩ | ⟨hop, h1⟩
    · simp only [Rx.lay, if_true] at hin
      simp only [Rx.sz, if_true] at ho ⊢
      obtain ⟨m', p', i', rfl, hm, hp⟩ := h.first (by rcases ho with h | h <;> omega)
      obtain ⟨e1, e2, e3, e4⟩ := (byte_mv hin.head i _ _).1 hm
      rw [e3, e4] at hp
      refine ⟨m', i + 1, by omega, ?_, hp⟩
      simp only [Rx.mt, if_true]
      exact ⟨e1, trivial, e2⟩
    · rw [lay2] at hin
      rw [sz2] at ho ⊢
      obtain ⟨m', i', h1, h2, h3⟩ := hk n hall hin m i q j h ho
      exact ⟨m', i', h1, (mt2 S a b c d ks i i').2 h2, h3⟩
    · rw [lay3] at hin
      rw [sz3] at ho ⊢
      obtain ⟨m', i', h1, h2, h3⟩ := hw n _ hall h1 rfl hin m i q j h ho
      exact ⟨m', i', h1, (mt3 S a b c d ks i i').2 h2, h3⟩
    · have one : ∀ x y, Rx.mtSeq S ks x y → Rx.mtHd S ks x y := fun x y hxy => by
        obtain ⟨k0, rfl⟩ := List.length_eq_one_iff.1 h1
        obtain ⟨z, hz, e⟩ := hxy
        have e2 : z = y := e
        subst e2; exact hz
      rcases hop with rfl | rfl | rfl
      · rw [lay4] at hin
        rw [sz4] at ho ⊢
        have hS := hin.head
        have hL := hin.tail.left
        have hJ := (hin.tail.right (Rx.layL_len ks (n + 1))).head
        clear hin
        induction m using Nat.strongRecOn generalizing i with
        | _ m ih =>
          obtain ⟨m1, p1, i1, rfl, hm, hp⟩ := h.first (by rcases ho with h | h <;> omega)
          obtain ⟨e1, hq⟩ := (split_mv hS i _ _).1 hm
          rw [e1] at hp
          rcases hq with e2 | e2
          · rw [e2] at hp
            obtain ⟨m2, i2, l2, hx, hp2⟩ := hk (n + 1) hall hL m1 i q j hp (by rcases ho with h | h; exact .inl (by omega); exact .inr (by omega))
            obtain ⟨m3, p3, i3, rfl, hm3, hp3⟩ := hp2.first (by rcases ho with h | h <;> omega)
            obtain ⟨e3, e4⟩ := (jump_mv hJ _ _ _).1 hm3
            rw [e3, e4] at hp3
            obtain ⟨m4, i4, l4, hs, hp4⟩ := ih m3 (by omega) i2 hp3
            exact ⟨m4, i4, by omega, (mt4 S a b c d ks i i4).2 (star_cons (one _ _ hx) ((mt4 S a b c d ks i2 i4).1 hs)), hp4⟩
          · rw [e2] at hp
            exact ⟨m1, i, by omega, (mt4 S a b c d ks i i).2 (.refl i), by rw [show n + (Rx.szL ks + 2) = n + 2 + Rx.szL ks by omega]; exact hp⟩
      · rw [lay5] at hin
        rw [sz5] at ho ⊢
        have hL := hin.left
        have hS := (hin.right (Rx.layL_len ks n)).head
        clear hin
        induction m using Nat.strongRecOn generalizing i with
        | _ m ih =>
          obtain ⟨m2, i2, l2, hx, hp2⟩ := hk n hall hL m i q j h (by rcases ho with h | h; exact .inl (by omega); exact .inr (by omega))
          obtain ⟨m3, p3, i3, rfl, hm3, hp3⟩ := hp2.first (by rcases ho with h | h <;> omega)
          obtain ⟨e1, hq⟩ := (split_mv hS _ _ _).1 hm3
          rw [e1] at hp3
          rcases hq with e2 | e2
          · rw [e2] at hp3
            obtain ⟨m4, i4, l4, hs, hp4⟩ := ih m3 (by omega) i2 hp3
            obtain ⟨y, hy, hs⟩ := (mt5 S a b c d ks i2 i4).1 hs
            exact ⟨m4, i4, by omega, (mt5 S a b c d ks i i4).2 ⟨i2, one _ _ hx, star_cons hy hs⟩, hp4⟩
          · rw [e2] at hp3
            exact ⟨m3, i2, by omega, (mt5 S a b c d ks i i2).2 ⟨i2, one _ _ hx, .refl i2⟩, by rw [← Nat.add_assoc]; exact hp3⟩
      · rw [lay6] at hin
        rw [sz6] at ho ⊢
        have hS := hin.head
        have hL := hin.tail
        obtain ⟨m1, p1, i1, rfl, hm, hp⟩ := h.first (by rcases ho with h | h <;> omega)
        obtain ⟨e1, hq⟩ := (split_mv hS i _ _).1 hm
        rw [e1] at hp
        have e : n + (Rx.szL ks + 1) = n + 1 + Rx.szL ks := by omega
        rcases hq with e2 | e2
        · rw [e2] at hp
          obtain ⟨m2, i2, l2, hx, hp2⟩ := hk (n + 1) hall hL m1 i q j hp (by rcases ho with h | h; exact .inl (by omega); exact .inr (by omega))
          exact ⟨m2, i2, by omega, (mt6 S a b c d ks i i2).2 (.inr (one _ _ hx)), by rw [e]; exact hp2⟩
        · rw [e2] at hp
          exact ⟨m1, i, by omega, (mt6 S a b c d ks i i).2 (.inl rfl), by rw [e]; exact hp⟩
theorem settlesL {P : List St} {S : List Nat} : ∀ (ks : List Rx) (n : Nat), Rx.isAll ks = true → In P n (Rx.layL n ks) → ∀ m i q j, Pth P S m n i q j → Out n (n + Rx.szL ks) q → ∃ m' i', m' ≤ m ∧ Rx.mtSeq S ks i i' ∧ Pth P S m' (n + Rx.szL ks) i' q j
  | [], n, _, _, m, i, q, j, h, _ => ⟨m, i, Nat.le_refl _, rfl, by simp [Rx.szL]; exact h⟩
  | k :: r, n, ha, hin, m, i, q, j, h, ho => by
    rw [Rx.isAll, Bool.and_eq_true] at ha
    rw [Rx.layL] at hin
    rw [Rx.szL] at ho ⊢
    obtain ⟨m1, i1, l1, h1, p1⟩ := settles k n ha.1 hin.left m i q j h (by rcases ho with h | h; exact .inl h; exact .inr (by omega))
    obtain ⟨m2, i2, l2, h2, p2⟩ := settlesL r (n + Rx.sz k) ha.2 (hin.right (Rx.lay_len k n)) m1 i1 q j p1 (by rcases ho with h | h; exact .inl (by omega); exact .inr (by omega))
    rw [← Nat.add_assoc]
    exact ⟨m2, i2, by omega, ⟨i1, h1, h2⟩, p2⟩
theorem settlesW {P : List St} {S : List Nat} : ∀ (ks : List Rx) (n e : Nat), Rx.isAll ks = true → 1 ≤ ks.length → n + (Rx.szL ks + 2 * (ks.length - 1)) = e → In P n (Rx.ways n e ks) → ∀ m i q j, Pth P S m n i q j → Out n e q → ∃ m' i', m' ≤ m ∧ Rx.mtAlt S ks i i' ∧ Pth P S m' e i' q j
  | k :: r, n, e, ha, _, he, hin, m, i, q, j, h, ho => by
    rw [Rx.isAll, Bool.and_eq_true] at ha
    rw [Rx.ways] at hin
    rcases r with _ | ⟨k2, r2⟩
    · rw [if_pos (by rfl)] at hin
      have e2 : n + Rx.sz k = e := by simp [Rx.szL] at he; omega
      rw [← e2] at ho ⊢
      obtain ⟨m1, i1, l1, h1, p1⟩ := settles k n ha.1 hin m i q j h ho
      exact ⟨m1, i1, l1, .inl h1, p1⟩
    · rw [if_neg (by simp)] at hin
      simp only [Rx.szL, List.length_cons] at he
      have hS := hin.head
      have hL := hin.tail.left
      have hR := hin.tail.right (Rx.lay_len k (n + 1))
      obtain ⟨m1, p1, i1, rfl, hm, hp⟩ := h.first (by rcases ho with h | h <;> omega)
      obtain ⟨e1, hq⟩ := (split_mv hS i _ _).1 hm
      rw [e1] at hp
      rcases hq with e2 | e2 <;> rw [e2] at hp
      · obtain ⟨m2, i2, l2, h2, p2⟩ := settles k (n + 1) ha.1 hL m1 i q j hp (by rcases ho with h | h; exact .inl (by omega); exact .inr (by omega))
        obtain ⟨m3, p3, i3, rfl, hm3, hp3⟩ := p2.first (by rcases ho with h | h <;> omega)
        obtain ⟨e3, e4⟩ := (jump_mv hR.head _ _ _).1 hm3
        rw [e3, e4] at hp3
        exact ⟨m3, i2, by omega, .inl h2, hp3⟩
      · have hW := hR.tail
        have e3 : n + 1 + Rx.sz k + 1 = n + 2 + Rx.sz k := by omega
        rw [e3] at hW
        obtain ⟨m2, i2, l2, h2, p2⟩ := settlesW (k2 :: r2) (n + 2 + Rx.sz k) e ha.2 (by simp) (by simp only [Rx.szL, List.length_cons]; omega) hW m1 i q j hp (by rcases ho with h | h; exact .inl (by omega); exact .inr (by omega))
        exact ⟨m2, i2, by omega, .inr h2, p2⟩
end
theorem in_self (L : List St) : In L 0 L := fun k hk => ⟨by omega, by rw [Nat.zero_add]⟩
/-- The program of a tree matches a text just if a match of the tree that begins at its beginning ends at its end. -/
def Acc (P : List St) (S : List Nat) : Prop := ∃ p m, Pth P S m 0 0 p S.length ∧ p < P.length ∧ (nthS P p).op = 4
theorem no_move {P : List St} {S : List Nat} {p i q j : Nat} (h : (nthS P p).op = 4) : ¬ Mv P S p i q j := by
  rintro (⟨⟨_, h1⟩, _⟩ | ⟨⟨_, h1, _⟩, _⟩)
  · rcases h1 with ⟨h1, _⟩ | ⟨h1, _⟩ <;> omega
  · omega
theorem acc_iff {t : Rx} (hr : Rx.isRex t = true) (S : List Nat) : Acc (progOf t) S ↔ Rx.mt S t 0 S.length := by
  have hin : In (progOf t) 0 (Rx.lay 0 t) := (in_self (progOf t)).left
  have hlen := prog_len t
  have hlast : (nthS (progOf t) (Rx.sz t)).op = 4 := by
    rw [nthS_eq (by omega)]
    simp only [progOf]
    rw [List.getElem_append_right (by rw [Rx.lay_len]; exact Nat.le_refl _)]
    simp [Rx.lay_len, St.mat]
  have hother : ∀ p, p < Rx.sz t → (nthS (progOf t) p).op ≠ 4 := fun p hp => by
    have hl : p < (Rx.lay 0 t).length := by rw [Rx.lay_len]; exact hp
    rw [nthS_eq (by omega)]
    simp only [progOf]
    rw [List.getElem_append_left hl]
    exact (lay_good t 0 (Rx.sz t + 1) (by omega) _ (List.getElem_mem hl)).2
  constructor
  · rintro ⟨p, m, h, hp, ho⟩
    have e : p = Rx.sz t := by
      rcases Nat.lt_or_ge p (Rx.sz t) with h | h
      · exact absurd ho (hother p h)
      · omega
    subst e
    obtain ⟨m', i', _, hm, hp'⟩ := settles t 0 hr hin m 0 _ _ h (.inr (by omega))
    rw [Nat.zero_add] at hp'
    cases m' with
    | zero => obtain ⟨_, e⟩ := hp'; rw [← e]; exact hm
    | succ m' => obtain ⟨_, _, h1, _⟩ := hp'; exact absurd h1 (no_move hlast)
  · intro h
    obtain ⟨m, hm⟩ := reaches t 0 hr hin 0 _ h
    rw [Nat.zero_add] at hm
    exact ⟨_, m, hm, by omega, hlast⟩
end Sc

end Go.Proofs.YtlfcjjlgkcfkdaaGreatDoor
namespace Go.Proofs.YtlfcjjlgkcfkdaaGreatDoor
namespace Sc
/-- A step where a byte is read, or a match. -/
def Rest (P : List St) (q : Nat) : Prop := q < P.length ∧ ((nthS P q).op = 1 ∨ (nthS P q).op = 4)
/-- The steps reached from an index. -/
def Fs (P : List St) (p q : Nat) : Prop := Rx.Star (EMv P) p q ∧ Rest P q
/-- The set behind k bytes. -/
def Lvl (P : List St) (S : List Nat) (k q : Nat) : Prop := (∃ m, Pth P S m 0 0 q k) ∧ Rest P q
theorem Pth.le {P : List St} {S : List Nat} : ∀ {m p i q j : Nat}, Pth P S m p i q j → i ≤ j
  | 0, _, _, _, _, ⟨_, e⟩ => by omega
  | m + 1, p, i, q, j, ⟨p', i', h1, h2⟩ => by
    have := Pth.le h2
    rcases h1 with ⟨_, e⟩ | ⟨_, _, e⟩ <;> omega
theorem Pth.eps {P : List St} {S : List Nat} : ∀ {m p i q j : Nat}, Pth P S m p i q j → i = j → Rx.Star (EMv P) p q
  | 0, _, _, _, _, ⟨e, _⟩, _ => by subst e; exact .refl _
  | m + 1, p, i, q, j, ⟨p', i', h1, h2⟩, e => by
    rcases h1 with ⟨h, e2⟩ | ⟨_, _, e2⟩
    · exact star_cons h (Pth.eps h2 (by omega))
    · have := Pth.le h2; omega
theorem eps_path {P : List St} (S : List Nat) {p q : Nat} (h : Rx.Star (EMv P) p q) (i : Nat) : ∃ m, Pth P S m p i q i := by
  induction h with
  | refl => exact ⟨0, rfl, rfl⟩
  | tail _ r ih => obtain ⟨m, hm⟩ := ih; exact ⟨_, hm.trans (Pth.one (.inl ⟨r, rfl⟩))⟩
/-- A way over more bytes reads the last one somewhere. -/
theorem Pth.last {P : List St} {S : List Nat} : ∀ {m p i q k : Nat}, Pth P S m p i q (k + 1) → i ≤ k → ∃ m1 r, Pth P S m1 p i r k ∧ BMv P S r k ∧ Rx.Star (EMv P) (r + 1) q
  | 0, _, _, _, _, ⟨_, e⟩, h => by omega
  | m + 1, p, i, q, k, ⟨p', i', h1, h2⟩, h => by
    rcases h1 with ⟨he, e⟩ | ⟨hb, e1, e2⟩
    · subst e
      obtain ⟨m1, r, a, b, c⟩ := Pth.last h2 h
      exact ⟨m1 + 1, r, ⟨p', i', .inl ⟨he, rfl⟩, a⟩, b, c⟩
    · rcases Nat.lt_or_ge i k with hlt | hge
      · obtain ⟨m1, r, a, b, c⟩ := Pth.last h2 (by omega)
        exact ⟨m1 + 1, r, ⟨p', i', .inr ⟨hb, e1, e2⟩, a⟩, b, c⟩
      · obtain rfl : i = k := by omega
        subst e1
        exact ⟨0, p, ⟨rfl, rfl⟩, hb, Pth.eps h2 (by omega)⟩
theorem lvl_zero (P : List St) (S : List Nat) (q : Nat) : Lvl P S 0 q ↔ Fs P 0 q :=
  ⟨fun ⟨⟨_, h⟩, hr⟩ => ⟨h.eps rfl, hr⟩, fun ⟨h, hr⟩ => ⟨eps_path S h 0, hr⟩⟩
theorem lvl_succ (P : List St) (S : List Nat) (k q : Nat) (hk : k < S.length) : Lvl P S (k + 1) q ↔ ∃ p, Lvl P S k p ∧ (nthS P p).op = 1 ∧ has (nthS P p) (S.getD k 0) = true ∧ Fs P (p + 1) q := by
  constructor
  · rintro ⟨⟨m, h⟩, hr⟩
    obtain ⟨m1, r, h1, ⟨h2, h3, h4, h5⟩, h6⟩ := h.last (Nat.zero_le _)
    exact ⟨r, ⟨⟨m1, h1⟩, h2, .inl h3⟩, h3, h5, h6, hr⟩
  · rintro ⟨p, ⟨⟨m, h⟩, hp, _⟩, ho, hb, hs, hr⟩
    obtain ⟨m2, h2⟩ := eps_path S hs (k + 1)
    exact ⟨⟨_, h.trans ((Pth.one (.inr ⟨⟨hp, ho, hk, hb⟩, rfl, rfl⟩)).trans h2)⟩, hr⟩
theorem acc_lvl (P : List St) (S : List Nat) : Acc P S ↔ ∃ p, Lvl P S S.length p ∧ (nthS P p).op = 4 :=
  ⟨fun ⟨p, m, h, hp, ho⟩ => ⟨p, ⟨⟨m, h⟩, hp, .inr ho⟩, ho⟩, fun ⟨p, ⟨⟨m, h⟩, hp, _⟩, ho⟩ => ⟨p, m, h, hp, ho⟩⟩

/-- A chain of places, each led to by the one before. -/
inductive Ch (R : Nat → Nat → Prop) : Nat → List Nat → Nat → Prop where
  | nil (p : Nat) : Ch R p [] p
  | cons {p x q : Nat} {l : List Nat} : R p x → Ch R x l q → Ch R p (x :: l) q
theorem Ch.snoc {R : Nat → Nat → Prop} {p q r : Nat} {l : List Nat} (h : Ch R p l q) (hr : R q r) : Ch R p (l ++ [r]) r := by
  induction h with
  | nil p => exact .cons hr (.nil _)
  | cons h1 _ ih => exact .cons h1 (ih hr)
theorem Ch.of {R : Nat → Nat → Prop} {p q : Nat} (h : Rx.Star R p q) : ∃ l, Ch R p l q := by
  induction h with
  | refl => exact ⟨[], .nil _⟩
  | tail _ r ih => obtain ⟨l, hl⟩ := ih; exact ⟨_, hl.snoc r⟩
theorem Ch.star {R : Nat → Nat → Prop} {p q : Nat} {l : List Nat} (h : Ch R p l q) : Rx.Star R p q := by
  induction h with
  | nil p => exact .refl p
  | cons h1 _ ih => exact star_cons h1 ih
/-- From any place on the chain. -/
theorem Ch.from {R : Nat → Nat → Prop} {p q x : Nat} {l : List Nat} (h : Ch R x l q) (hn : (x :: l).Nodup) (hp : p ∈ x :: l) : ∃ l', Ch R p l' q ∧ (p :: l').Nodup := by
  induction h with
  | nil y =>
    obtain rfl : p = y := by simpa using hp
    exact ⟨[], .nil p, by simp⟩
  | @cons y z q l h1 h2 ih =>
    rcases List.mem_cons.1 hp with rfl | hp
    · exact ⟨z :: l, .cons h1 h2, hn⟩
    · exact ih (List.nodup_cons.1 hn).2 hp
/-- No place twice. -/
theorem Ch.once {R : Nat → Nat → Prop} {p q : Nat} {l : List Nat} (h : Ch R p l q) : ∃ l', Ch R p l' q ∧ (p :: l').Nodup := by
  induction h with
  | nil p => exact ⟨[], .nil p, by simp⟩
  | @cons y z q l h1 h2 ih =>
    obtain ⟨l', h3, h4⟩ := ih
    by_cases hy : y ∈ z :: l'
    · exact h3.from h4 hy
    · exact ⟨z :: l', .cons h1 h3, List.nodup_cons.2 ⟨hy, h4⟩⟩
theorem Ch.all {R : Nat → Nat → Prop} {N : Nat} (hR : ∀ x y, R x y → y < N) {p q : Nat} {l : List Nat} (h : Ch R p l q) : ∀ x ∈ l, x < N := by
  induction h with
  | nil p => intro x hx; cases hx
  | cons h1 _ ih =>
    intro x hx
    rcases List.mem_cons.1 hx with rfl | hx
    · exact hR _ _ h1
    · exact ih x hx
/-- Short chains are enough. -/
theorem Ch.short {R : Nat → Nat → Prop} {N : Nat} (hR : ∀ x y, R x y → y < N) {p q : Nat} (hp : p < N) (h : Rx.Star R p q) : ∃ l, Ch R p l q ∧ l.length < N := by
  obtain ⟨l0, h0⟩ := Ch.of h
  obtain ⟨l, h1, h2⟩ := h0.once
  refine ⟨l, h1, ?_⟩
  have hs : (p :: l) ⊆ List.range N := fun x hx => by
    rw [List.mem_range]
    rcases List.mem_cons.1 hx with rfl | hx
    · exact hp
    · exact h1.all hR x hx
  have := h2.length_le_of_subset hs
  rw [List.length_range, List.length_cons] at this
  omega
theorem Ch.back {R : Nat → Nat → Prop} {p q : Nat} {l : List Nat} (h : Ch R p l q) (hl : 0 < l.length) : ∃ l' x, Ch R p l' x ∧ R x q ∧ l'.length + 1 = l.length := by
  induction h with
  | nil p => simp at hl
  | @cons y z q l h1 h2 ih =>
    rcases l with _ | ⟨a, l⟩
    · cases h2
      exact ⟨[], y, .nil y, h1, rfl⟩
    · obtain ⟨l', x, h3, h4, h5⟩ := ih (by simp)
      exact ⟨z :: l', x, .cons h1 h3, h4, by simp at h5 ⊢; omega⟩

/-- The word whose bits are Q. -/
def Word (z : Nat) (Q : Nat → Prop) : Prop := ∀ i, z.testBit i = true ↔ Q i
theorem Word.eq {y z : Nat} {Q : Nat → Prop} (h : Word y Q) (k : Word z Q) : y = z :=
  Nat.eq_of_testBit_eq fun i => by rw [Bool.eq_iff_iff, h i, k i]
theorem Word.congr {z : Nat} {Q Q' : Nat → Prop} (h : Word z Q) (hq : ∀ i, Q i ↔ Q' i) : Word z Q' := fun i => (h i).trans (hq i)
theorem Word.zero : Word 0 (fun _ => False) := fun i => by simp
theorem Word.or {y z : Nat} {Q R : Nat → Prop} (h : Word y Q) (k : Word z R) : Word (y ||| z) (fun i => Q i ∨ R i) := fun i => by
  rw [Nat.testBit_or, Bool.or_eq_true, h i, k i]
theorem Word.bit (n : Nat) : Word (2 ^ n) (fun i => i = n) := fun i => by
  rw [Nat.testBit_two_pow]
  constructor
  · intro h; have := of_decide_eq_true h; exact this.symm
  · intro h; exact decide_eq_true h.symm
theorem Word.lt {z N : Nat} {Q : Nat → Prop} (h : Word z Q) (hq : ∀ i, Q i → i < N) : z < 2 ^ N := by
  apply Nat.lt_pow_two_of_testBit
  intro i hi
  cases hb : z.testBit i
  · rfl
  · have := hq i ((h i).1 hb); omega
end Sc

end Go.Proofs.YtlfcjjlgkcfkdaaGreatDoor
namespace Go.Proofs.YtlfcjjlgkcfkdaaGreatDoor
namespace Sc
def toX (P : List St) (i : Nat) : Nat := (nthS P i).x.toNat
def toY (P : List St) (i : Nat) : Nat := (nthS P i).y.toNat
def opS (P : List St) (i : Nat) : Int := (nthS P i).op
/-- What may be at a place of a program. -/
structure OkAt (P : List St) (N i : Nat) : Prop where
  kind : opS P i = 1 ∨ opS P i = 2 ∨ opS P i = 3 ∨ opS P i = 4
  x2 : opS P i = 2 → (nthS P i).x = (toX P i : Int) ∧ toX P i < N ∧ (nthS P i).y = (toY P i : Int) ∧ toY P i < N
  x3 : opS P i = 3 → (nthS P i).x = (toX P i : Int) ∧ toX P i < N
  next : opS P i = 1 → i + 1 < N
theorem okIdx_of {z : Int} {n : Nat} (h : okIdx z n = true) : z = (z.toNat : Int) ∧ z.toNat < n := by
  simp only [okIdx, Bool.and_eq_true, decide_eq_true_eq] at h; omega
theorem prog_len2 {P : List St} (h : progOk P = true) : 1 ≤ P.length ∧ P.length ≤ 40 := by
  simp only [progOk, Bool.and_eq_true, decide_eq_true_eq] at h; exact ⟨h.1.1.1, h.1.1.2⟩
theorem lastOp_nth {L : List St} (h : 0 < L.length) : lastOp L = (nthS L (L.length - 1)).op := by
  unfold lastOp
  rw [nthS_eq (by omega)]
  cases L with
  | nil => simp at h
  | cons x r =>
    rw [List.getLastD_eq_getLast?, List.getLast?_eq_getElem?]
    simp
theorem prog_at {P : List St} (h : progOk P = true) {i : Nat} (hi : i < P.length) : OkAt P P.length i := by
  have hl := prog_len2 h
  simp only [progOk, Bool.and_eq_true, decide_eq_true_eq] at h
  obtain ⟨⟨_, ha⟩, hn⟩ := h
  have hs := List.all_eq_true.1 ha (nthS P i) (by rw [nthS_eq hi]; exact List.getElem_mem hi)
  unfold St.ok at hs
  refine ⟨?_, fun h2 => ?_, fun h3 => ?_, fun h1 => ?_⟩
  · unfold opS
    by_cases h1 : (nthS P i).op = 1
    · exact .inl h1
    rw [if_neg h1] at hs
    by_cases h2 : (nthS P i).op = 2
    · exact .inr (.inl h2)
    rw [if_neg h2] at hs
    by_cases h3 : (nthS P i).op = 3
    · exact .inr (.inr (.inl h3))
    rw [if_neg h3] at hs
    by_cases h4 : (nthS P i).op = 4
    · exact .inr (.inr (.inr h4))
    rw [if_neg h4] at hs
    simp at hs
  · unfold opS at h2
    rw [if_neg (by omega), if_pos h2, Bool.and_eq_true, Bool.and_eq_true] at hs
    exact ⟨(okIdx_of hs.2.1).1, (okIdx_of hs.2.1).2, (okIdx_of hs.2.2).1, (okIdx_of hs.2.2).2⟩
  · unfold opS at h3
    rw [if_neg (by omega), if_neg (by omega), if_pos h3, Bool.and_eq_true, Bool.and_eq_true] at hs
    exact ⟨(okIdx_of hs.2.1).1, (okIdx_of hs.2.1).2⟩
  · rw [lastOp_nth (by omega)] at hn
    rcases Nat.lt_or_ge (i + 1) P.length with h | h
    · exact h
    · exact absurd h1 (by unfold opS; rw [show i = P.length - 1 by omega]; exact hn)
theorem emv_of {P : List St} (h : progOk P = true) {p q : Nat} : EMv P p q ↔ p < P.length ∧ ((opS P p = 2 ∧ (q = toX P p ∨ q = toY P p)) ∨ (opS P p = 3 ∧ q = toX P p)) := by
  unfold EMv
  constructor
  · rintro ⟨hp, h1⟩
    have o := prog_at h hp
    refine ⟨hp, ?_⟩
    rcases h1 with ⟨h2, h3⟩ | ⟨h2, h3⟩
    · obtain ⟨e1, _, e2, _⟩ := o.x2 h2
      rw [e1, e2] at h3
      exact .inl ⟨h2, by omega⟩
    · obtain ⟨e1, _⟩ := o.x3 h2
      rw [e1] at h3
      exact .inr ⟨h2, by omega⟩
  · rintro ⟨hp, h1⟩
    have o := prog_at h hp
    refine ⟨hp, ?_⟩
    rcases h1 with ⟨h2, h3⟩ | ⟨h2, h3⟩
    · obtain ⟨e1, _, e2, _⟩ := o.x2 h2
      rw [e1, e2]
      exact .inl ⟨h2, by omega⟩
    · obtain ⟨e1, _⟩ := o.x3 h2
      rw [e1]
      exact .inr ⟨h2, by omega⟩
theorem emv_lt {P : List St} (h : progOk P = true) {p q : Nat} (he : EMv P p q) : q < P.length := by
  obtain ⟨hp, h1⟩ := (emv_of h).1 he
  have o := prog_at h hp
  rcases h1 with ⟨h2, h3 | h3⟩ | ⟨h2, h3⟩
  · rw [h3]; exact (o.x2 h2).2.1
  · rw [h3]; exact (o.x2 h2).2.2.2
  · rw [h3]; exact (o.x3 h2).2
/-- One place of the reference's reach. -/
def rst (P : List St) (m i : Nat) : Nat :=
  if m.testBit i = true then (if opS P i = 2 then (m ||| 2 ^ toX P i) ||| 2 ^ toY P i else if opS P i = 3 then m ||| 2 ^ toX P i else m) else m
def rrow (P : List St) (m : Nat) : Nat → Nat
  | 0 => m
  | k + 1 => rst P (rrow P m k) k
def rmet (P : List St) (m : Nat) : Nat → Nat
  | 0 => m
  | n + 1 => rrow P (rmet P m n) P.length
def rout (P : List St) (m : Nat) : Nat → Nat
  | 0 => 0
  | k + 1 => if m.testBit k = true ∧ (opS P k = 1 ∨ opS P k = 4) then rout P m k ||| 2 ^ k else rout P m k
def rreach (P : List St) (at_ : Nat) : Nat := rout P (rmet P (2 ^ at_) P.length) P.length
theorem bit_pow {n i : Nat} : (2 ^ n).testBit i = true ↔ i = n := Word.bit n i
theorem or_bit {y z i : Nat} : (y ||| z).testBit i = true ↔ y.testBit i = true ∨ z.testBit i = true := by rw [Nat.testBit_or, Bool.or_eq_true]
theorem rst_mono (P : List St) {m i j : Nat} (h : m.testBit j = true) : (rst P m i).testBit j = true := by
  unfold rst
  split
  · split
    · rw [or_bit, or_bit]; exact .inl (.inl h)
    · split
      · rw [or_bit]; exact .inl h
      · exact h
  · exact h
theorem rst_sound {P : List St} {m i : Nat} (hP : progOk P = true) (hi : i < P.length) {R : Nat → Prop} (hR : ∀ p q, R p → EMv P p q → R q) (h : ∀ j, m.testBit j = true → R j) : ∀ j, (rst P m i).testBit j = true → R j := by
  intro j hj
  unfold rst at hj
  split at hj
  · rename_i hb
    split at hj
    · rename_i h2
      rw [or_bit, or_bit, bit_pow, bit_pow] at hj
      rcases hj with (hj | hj) | hj
      · exact h j hj
      · exact hR i j (h i hb) ((emv_of hP).2 ⟨hi, .inl ⟨h2, .inl hj⟩⟩)
      · exact hR i j (h i hb) ((emv_of hP).2 ⟨hi, .inl ⟨h2, .inr hj⟩⟩)
    · split at hj
      · rename_i h3
        rw [or_bit, bit_pow] at hj
        rcases hj with hj | hj
        · exact h j hj
        · exact hR i j (h i hb) ((emv_of hP).2 ⟨hi, .inr ⟨h3, hj⟩⟩)
      · exact h j hj
  · exact h j hj
theorem rst_adds {P : List St} {m i q : Nat} (hP : progOk P = true) (h : m.testBit i = true) (he : EMv P i q) : (rst P m i).testBit q = true := by
  obtain ⟨_, h1⟩ := (emv_of hP).1 he
  unfold rst
  rw [if_pos h]
  rcases h1 with ⟨h2, h3⟩ | ⟨h2, h3⟩
  · rw [if_pos h2, or_bit, or_bit, bit_pow, bit_pow]
    rcases h3 with h3 | h3
    · exact .inl (.inr h3)
    · exact .inr h3
  · rw [if_neg (by omega), if_pos h2, or_bit, bit_pow]; exact .inr h3
theorem rrow_mono (P : List St) {m j : Nat} (h : m.testBit j = true) : ∀ k, (rrow P m k).testBit j = true
  | 0 => h
  | k + 1 => rst_mono P (rrow_mono P h k)
theorem rrow_sound {P : List St} {m : Nat} (hP : progOk P = true) {R : Nat → Prop} (hR : ∀ p q, R p → EMv P p q → R q) (h : ∀ j, m.testBit j = true → R j) : ∀ k, k ≤ P.length → ∀ j, (rrow P m k).testBit j = true → R j
  | 0, _ => h
  | k + 1, hk => rst_sound hP (by omega) hR (rrow_sound hP hR h k (by omega))
theorem rrow_adds {P : List St} {m i q : Nat} (hP : progOk P = true) (h : m.testBit i = true) (he : EMv P i q) : ∀ k, i < k → (rrow P m k).testBit q = true
  | 0, hk => by omega
  | k + 1, hk => by
    rcases Nat.lt_or_ge i k with h1 | h1
    · exact rst_mono P (rrow_adds hP h he k h1)
    · obtain rfl : i = k := by omega
      exact rst_adds hP (rrow_mono P h i) he
theorem rmet_sound {P : List St} {m : Nat} (hP : progOk P = true) {R : Nat → Prop} (hR : ∀ p q, R p → EMv P p q → R q) (h : ∀ j, m.testBit j = true → R j) : ∀ n, ∀ j, (rmet P m n).testBit j = true → R j
  | 0 => h
  | n + 1 => rrow_sound hP hR (rmet_sound hP hR h n) _ (Nat.le_refl _)
theorem rmet_mono (P : List St) {m j : Nat} (h : m.testBit j = true) : ∀ n, (rmet P m n).testBit j = true
  | 0 => h
  | n + 1 => rrow_mono P (rmet_mono P h n) _
theorem rmet_all {P : List St} {at_ : Nat} (hP : progOk P = true) : ∀ (n : Nat) (l : List Nat) (q : Nat), Ch (EMv P) at_ l q → l.length ≤ n → (rmet P (2 ^ at_) n).testBit q = true
  | n, [], q, h, _ => by cases h; exact rmet_mono P (bit_pow.2 rfl) n
  | 0, x :: l, q, h, hl => by simp at hl
  | n + 1, x :: l, q, h, hl => by
    obtain ⟨l', y, h1, h2, h3⟩ := h.back (by simp)
    have := rmet_all hP n l' y h1 (by omega)
    exact rrow_adds hP this h2 _ h2.1
theorem rmet_word {P : List St} {at_ : Nat} (hP : progOk P = true) (ha : at_ < P.length) : Word (rmet P (2 ^ at_) P.length) (fun q => Rx.Star (EMv P) at_ q) := fun q => by
  constructor
  · intro h
    exact rmet_sound (R := fun q => Rx.Star (EMv P) at_ q) hP (fun p q h1 h2 => .tail h1 h2) (fun j hj => by rw [bit_pow.1 hj]; exact .refl _) _ q h
  · intro h
    obtain ⟨l, h1, h2⟩ := Ch.short (fun x y => emv_lt hP) ha h
    exact rmet_all hP _ l q h1 (by omega)
theorem rout_bit (P : List St) (m : Nat) : ∀ k j, (rout P m k).testBit j = true ↔ j < k ∧ m.testBit j = true ∧ (opS P j = 1 ∨ opS P j = 4)
  | 0, j => by simp [rout]
  | k + 1, j => by
    have ih := rout_bit P m k j
    unfold rout
    split
    · rename_i h
      rw [or_bit, bit_pow, ih]
      constructor
      · rintro (⟨h1, h2⟩ | rfl)
        · exact ⟨by omega, h2⟩
        · exact ⟨by omega, h⟩
      · rintro ⟨h1, h2⟩
        rcases Nat.lt_or_ge j k with h3 | h3
        · exact .inl ⟨h3, h2⟩
        · exact .inr (by omega)
    · rename_i h
      rw [ih]
      constructor
      · rintro ⟨h1, h2⟩; exact ⟨by omega, h2⟩
      · rintro ⟨h1, h2⟩
        rcases Nat.lt_or_ge j k with h3 | h3
        · exact ⟨h3, h2⟩
        · obtain rfl : j = k := by omega
          exact absurd h2 h
/-- The reference's reach has the steps reached. -/
theorem rreach_word {P : List St} {at_ : Nat} (hP : progOk P = true) (ha : at_ < P.length) : Word (rreach P at_) (Fs P at_) := fun q => by
  unfold rreach Fs Rest
  rw [rout_bit, rmet_word hP ha q]
  exact ⟨fun ⟨h1, h2, h3⟩ => ⟨h2, h1, h3⟩, fun ⟨h2, h1, h3⟩ => ⟨h1, h2, h3⟩⟩
theorem word_lt {z N : Nat} (h : ∀ i, z.testBit i = true → i < N) : z < 2 ^ N := Word.lt (Q := fun i => z.testBit i = true) (fun _ => Iff.rfl) h
theorem lt64 {z N : Nat} (hN : N ≤ 64) (h : ∀ i, z.testBit i = true → i < N) : z < 18446744073709551616 := by
  have h1 := word_lt h
  have h2 : 2 ^ N ≤ 2 ^ 64 := Nat.pow_le_pow_right (by omega) hN
  simpa using Nat.lt_of_lt_of_le h1 h2
theorem rout_lim (P : List St) (m k : Nat) : ∀ j, (rout P m k).testBit j = true → j < k := fun j h => ((rout_bit P m k j).1 h).1
theorem rreach_lim (P : List St) (a : Nat) : ∀ j, (rreach P a).testBit j = true → j < P.length := rout_lim P _ _

/-- The reference's next set, place by place. -/
def rnext (P : List St) (now c : Nat) : Nat → Nat
  | 0 => 0
  | k + 1 => if now.testBit k = true ∧ opS P k = 1 ∧ has (nthS P k) c = true then rnext P now c k ||| rreach P (k + 1) else rnext P now c k
theorem rnext_bit (P : List St) (now c : Nat) : ∀ k q, (rnext P now c k).testBit q = true ↔ ∃ p, p < k ∧ now.testBit p = true ∧ opS P p = 1 ∧ has (nthS P p) c = true ∧ (rreach P (p + 1)).testBit q = true
  | 0, q => by simp [rnext]
  | k + 1, q => by
    have ih := rnext_bit P now c k q
    unfold rnext
    split
    · rename_i h
      rw [or_bit, ih]
      constructor
      · rintro (⟨p, h1, h2⟩ | h2)
        · exact ⟨p, by omega, h2⟩
        · exact ⟨k, by omega, h.1, h.2.1, h.2.2, h2⟩
      · rintro ⟨p, h1, h2⟩
        rcases Nat.lt_or_ge p k with h3 | h3
        · exact .inl ⟨p, h3, h2⟩
        · obtain rfl : p = k := by omega
          exact .inr h2.2.2.2
    · rename_i h
      rw [ih]
      constructor
      · rintro ⟨p, h1, h2⟩; exact ⟨p, by omega, h2⟩
      · rintro ⟨p, h1, h2⟩
        rcases Nat.lt_or_ge p k with h3 | h3
        · exact ⟨p, h3, h2⟩
        · obtain rfl : p = k := by omega
          exact absurd ⟨h2.1, h2.2.1, h2.2.2.1⟩ h
theorem rnext_lim (P : List St) (now c k : Nat) : ∀ j, (rnext P now c k).testBit j = true → j < P.length := fun j h => by
  obtain ⟨p, _, _, _, _, h5⟩ := (rnext_bit P now c k j).1 h
  exact rreach_lim P _ j h5
def vStart (P : List St) : Nat := if progOk P = true then rreach P 0 else 0
def vNext (P : List St) (now c : Nat) : Nat := if progOk P = true then rnext P now c P.length else 0
/-- The steps behind those that take the byte. -/
def Beh (P : List St) (now c q : Nat) : Prop := ∃ p, now.testBit p = true ∧ p < P.length ∧ opS P p = 1 ∧ has (nthS P p) c = true ∧ Fs P (p + 1) q
theorem vStart_word {P : List St} (hP : progOk P = true) : Word (vStart P) (Fs P 0) := by
  unfold vStart; rw [if_pos hP]; exact rreach_word hP (by have := prog_len2 hP; omega)
theorem vNext_word {P : List St} (hP : progOk P = true) (now c : Nat) : Word (vNext P now c) (Beh P now c) := fun q => by
  unfold vNext Beh; rw [if_pos hP, rnext_bit]
  constructor
  · rintro ⟨p, h1, h2, h3, h4, h5⟩
    exact ⟨p, h2, h1, h3, h4, (rreach_word hP ((prog_at hP h1).next h3) q).1 h5⟩
  · rintro ⟨p, h2, h1, h3, h4, h5⟩
    exact ⟨p, h1, h2, h3, h4, (rreach_word hP ((prog_at hP h1).next h3) q).2 h5⟩
theorem vStart_lim (P : List St) : ∀ j, (vStart P).testBit j = true → j < P.length := fun j h => by
  unfold vStart at h
  split at h
  · exact rreach_lim P _ j h
  · simp at h
theorem vNext_lim (P : List St) (now c : Nat) : ∀ j, (vNext P now c).testBit j = true → j < P.length := fun j h => by
  unfold vNext at h
  split at h
  · exact rnext_lim P _ _ _ j h
  · simp at h
/-- The set behind k bytes of a text. -/
def vSet (P : List St) (S : List Nat) : Nat → Nat
  | 0 => vStart P
  | k + 1 => vNext P (vSet P S k) (S.getD k 0)
theorem vSet_lim (P : List St) (S : List Nat) (k : Nat) : ∀ j, (vSet P S k).testBit j = true → j < P.length := by
  cases k with
  | zero => exact vStart_lim P
  | succ k => exact vNext_lim P _ _
theorem vSet_word {P : List St} (hP : progOk P = true) (S : List Nat) : ∀ k, k ≤ S.length → Word (vSet P S k) (Lvl P S k)
  | 0, _ => fun q => by rw [lvl_zero]; exact vStart_word hP q
  | k + 1, hk => fun q => by
    rw [lvl_succ P S k q (by omega), vSet, vNext_word hP _ _ q]
    have ih := vSet_word hP S k (by omega)
    constructor
    · rintro ⟨p, h1, _, h3, h4, h5⟩; exact ⟨p, (ih p).1 h1, h3, h4, h5⟩
    · rintro ⟨p, h1, h3, h4, h5⟩; exact ⟨p, (ih p).2 h1, vSet_lim P S k p ((ih p).2 h1), h3, h4, h5⟩
def anyM (P : List St) (z : Nat) : Nat → Bool
  | 0 => false
  | k + 1 => anyM P z k || (z.testBit k && decide (opS P k = 4))
theorem anyM_iff (P : List St) (z : Nat) : ∀ k, anyM P z k = true ↔ ∃ p, p < k ∧ z.testBit p = true ∧ opS P p = 4
  | 0 => by simp [anyM]
  | k + 1 => by
    rw [anyM, Bool.or_eq_true, anyM_iff P z k, Bool.and_eq_true, decide_eq_true_eq]
    constructor
    · rintro (⟨p, h1, h2⟩ | h)
      · exact ⟨p, by omega, h2⟩
      · exact ⟨k, by omega, h⟩
    · rintro ⟨p, h1, h2⟩
      rcases Nat.lt_or_ge p k with h3 | h3
      · exact .inl ⟨p, h3, h2⟩
      · obtain rfl : p = k := by omega
        exact .inr h2
def vMatch (P : List St) (S : List Nat) : Bool := anyM P (vSet P S S.length) P.length
theorem vSet_bad {P : List St} (hP : ¬ progOk P = true) (S : List Nat) : ∀ k, vSet P S k = 0
  | 0 => by unfold vSet vStart; rw [if_neg hP]
  | k + 1 => by unfold vSet vNext; rw [if_neg hP]
theorem vMatch_iff (P : List St) (S : List Nat) : vMatch P S = true ↔ progOk P = true ∧ Acc P S := by
  unfold vMatch
  rw [anyM_iff]
  by_cases hP : progOk P = true
  · rw [acc_lvl]
    have w := vSet_word hP S S.length (Nat.le_refl _)
    constructor
    · rintro ⟨p, h1, h2, h3⟩; exact ⟨hP, p, (w p).1 h2, h3⟩
    · rintro ⟨_, p, h2, h3⟩; exact ⟨p, vSet_lim P S _ p ((w p).2 h2), (w p).2 h2, h3⟩
  · rw [vSet_bad hP]
    constructor
    · rintro ⟨p, _, h2, _⟩; simp at h2
    · rintro ⟨h, _⟩; exact absurd h hP

/-- The program's words: which steps take a byte, which are matches. -/
def tks (P : List St) (c : Nat) : Nat → Nat
  | 0 => 0
  | k + 1 => if opS P k = 1 ∧ has (nthS P k) c = true then tks P c k ||| 2 ^ k else tks P c k
def mts (P : List St) : Nat → Nat
  | 0 => 0
  | k + 1 => if opS P k = 4 then mts P k ||| 2 ^ k else mts P k
theorem tks_bit (P : List St) (c : Nat) : ∀ k j, (tks P c k).testBit j = true ↔ j < k ∧ opS P j = 1 ∧ has (nthS P j) c = true
  | 0, j => by simp [tks]
  | k + 1, j => by
    have ih := tks_bit P c k j
    unfold tks
    split
    · rename_i h
      rw [or_bit, bit_pow, ih]
      constructor
      · rintro (⟨h1, h2⟩ | rfl)
        · exact ⟨by omega, h2⟩
        · exact ⟨by omega, h⟩
      · rintro ⟨h1, h2⟩
        rcases Nat.lt_or_ge j k with h3 | h3
        · exact .inl ⟨h3, h2⟩
        · exact .inr (by omega)
    · rename_i h
      rw [ih]
      constructor
      · rintro ⟨h1, h2⟩; exact ⟨by omega, h2⟩
      · rintro ⟨h1, h2⟩
        rcases Nat.lt_or_ge j k with h3 | h3
        · exact ⟨h3, h2⟩
        · obtain rfl : j = k := by omega
          exact absurd h2 h
theorem mts_bit (P : List St) : ∀ k j, (mts P k).testBit j = true ↔ j < k ∧ opS P j = 4
  | 0, j => by simp [mts]
  | k + 1, j => by
    have ih := mts_bit P k j
    unfold mts
    split
    · rename_i h
      rw [or_bit, bit_pow, ih]
      constructor
      · rintro (⟨h1, h2⟩ | rfl)
        · exact ⟨by omega, h2⟩
        · exact ⟨by omega, h⟩
      · rintro ⟨h1, h2⟩
        rcases Nat.lt_or_ge j k with h3 | h3
        · exact .inl ⟨h3, h2⟩
        · exact .inr (by omega)
    · rename_i h
      rw [ih]
      constructor
      · rintro ⟨h1, h2⟩; exact ⟨by omega, h2⟩
      · rintro ⟨h1, h2⟩
        rcases Nat.lt_or_ge j k with h3 | h3
        · exact ⟨h3, h2⟩
        · obtain rfl : j = k := by omega
          exact absurd h2 h
theorem tks_lim (P : List St) (c k : Nat) : ∀ j, (tks P c k).testBit j = true → j < k := fun j h => ((tks_bit P c k j).1 h).1
theorem mts_lim (P : List St) (k : Nat) : ∀ j, (mts P k).testBit j = true → j < k := fun j h => ((mts_bit P k j).1 h).1
theorem anyM_mts (P : List St) (z : Nat) : decide (z &&& mts P P.length ≠ 0) = anyM P z P.length := by
  rw [Bool.eq_iff_iff, decide_eq_true_eq, anyM_iff]
  constructor
  · intro h
    obtain ⟨p, hp⟩ := Nat.exists_testBit_of_ne_zero h
    rw [Nat.testBit_and, Bool.and_eq_true, mts_bit] at hp
    exact ⟨p, hp.2.1, hp.1, hp.2.2⟩
  · rintro ⟨p, h1, h2, h3⟩ h
    have : (z &&& mts P P.length).testBit p = true := by rw [Nat.testBit_and, Bool.and_eq_true, mts_bit]; exact ⟨h2, h1, h3⟩
    rw [h] at this; simp at this

/-- What the program's reached keeps: what is to do, what was seen, the ends. -/
structure RInv (P : List St) (start todo seen ends : Nat) : Prop where
  lim : ∀ i, todo.testBit i = true ∨ seen.testBit i = true → i < P.length
  apart : ∀ i, todo.testBit i = true → seen.testBit i = false
  sound : ∀ i, todo.testBit i = true ∨ seen.testBit i = true → ∃ p, start.testBit p = true ∧ Rx.Star (EMv P) p i
  all : ∀ p, start.testBit p = true → todo.testBit p = true ∨ seen.testBit p = true
  clos : ∀ i, seen.testBit i = true → ∀ q, EMv P i q → todo.testBit q = true ∨ seen.testBit q = true
  ends : ∀ i, ends.testBit i = true ↔ seen.testBit i = true ∧ (opS P i = 1 ∨ opS P i = 4)
theorem RInv.begin {P : List St} {start : Nat} (h : ∀ i, start.testBit i = true → i < P.length) : RInv P start start 0 0 :=
  ⟨fun i hi => hi.elim (h i) (fun e => by simp at e), fun i _ => by simp, fun i hi => hi.elim (fun e => ⟨i, e, .refl i⟩) (fun e => by simp at e), fun p hp => .inl hp, fun i hi => by simp at hi, fun i => by simp⟩
/-- How many are unseen. -/
def unseen (seen : Nat) : Nat → Nat
  | 0 => 0
  | k + 1 => unseen seen k + (if seen.testBit k = true then 0 else 1)
theorem unseen_less {s i : Nat} (h : s.testBit i = false) : ∀ k, unseen (s ||| 2 ^ i) k + (if i < k then 1 else 0) = unseen s k
  | 0 => by simp [unseen]
  | k + 1 => by
    have ih := unseen_less h k
    unfold unseen
    by_cases hk : k = i
    · subst hk
      have e1 : (s ||| 2 ^ k).testBit k = true := or_bit.2 (.inr (bit_pow.2 rfl))
      simp only [e1, h, if_true, Bool.false_eq_true, if_false, Nat.lt_irrefl, Nat.lt_succ_self] at ih ⊢
      omega
    · have e : (s ||| 2 ^ i).testBit k = s.testBit k := by
        rw [Bool.eq_iff_iff, or_bit, bit_pow]
        exact ⟨fun h => h.elim id (fun e => absurd e hk), .inl⟩
      rw [e]
      by_cases hik : i < k
      · rw [if_pos hik] at ih; rw [if_pos (show i < k + 1 by omega)]; omega
      · rw [if_neg hik] at ih; rw [if_neg (show ¬ i < k + 1 by omega)]; omega
/-- What is in a word and not in another. -/
def minus (a b : Nat) : Nat := a &&& (18446744073709551615 - b)
theorem minus_bit {a b i : Nat} (ha : a < 18446744073709551616) (hb : b < 18446744073709551616) : (minus a b).testBit i = true ↔ a.testBit i = true ∧ b.testBit i = false := by
  unfold minus
  have e : 18446744073709551615 - b = 2 ^ 64 - (b + 1) := by omega
  rw [Nat.testBit_and, e, Nat.testBit_two_pow_sub_succ (by simpa using hb)]
  simp only [Bool.and_eq_true, decide_eq_true_eq, Bool.not_eq_true']
  constructor
  · rintro ⟨h1, _, h3⟩; exact ⟨h1, h3⟩
  · rintro ⟨h1, h3⟩
    refine ⟨h1, ?_, h3⟩
    rcases Nat.lt_or_ge i 64 with h | h
    · exact h
    · have := Nat.testBit_lt_two_pow (x := a) (i := i) (Nat.lt_of_lt_of_le ha (by have : 2 ^ 64 ≤ 2 ^ i := Nat.pow_le_pow_right (by omega) h; simpa using this))
      rw [this] at h1; cases h1
/-- One round: a place that was to do is seen. -/
theorem RInv.step {P : List St} {start todo seen ends i todo1 ends1 : Nat} (hP : progOk P = true) (h : RInv P start todo seen ends) (hi : todo.testBit i = true)
    (ht : ∀ j, todo1.testBit j = true ↔ todo.testBit j = true ∨ EMv P i j) (he : ∀ j, ends1.testBit j = true ↔ ends.testBit j = true ∨ (j = i ∧ (opS P i = 1 ∨ opS P i = 4))) :
    RInv P start (minus todo1 (seen ||| 2 ^ i)) (seen ||| 2 ^ i) ends1 ∧ unseen (seen ||| 2 ^ i) P.length < unseen seen P.length := by
  have hl := prog_len2 hP
  have l1 : todo1 < 18446744073709551616 := lt64 (N := P.length) (by omega) fun j hj => ((ht j).1 hj).elim (fun h2 => h.lim j (.inl h2)) (fun h2 => emv_lt hP h2)
  have lS : ∀ j, (seen ||| 2 ^ i).testBit j = true → j < P.length := fun j hj => by
    rw [or_bit, bit_pow] at hj
    exact hj.elim (fun h2 => h.lim j (.inr h2)) (fun e => by rw [e]; exact h.lim i (.inl hi))
  have l2 : (seen ||| 2 ^ i) < 18446744073709551616 := lt64 (N := P.length) (by omega) lS
  have hM : ∀ j, (minus todo1 (seen ||| 2 ^ i)).testBit j = true ↔ (todo.testBit j = true ∨ EMv P i j) ∧ (seen ||| 2 ^ i).testBit j = false := fun j => by rw [minus_bit l1 l2, ht j]
  have hor : ∀ j, (minus todo1 (seen ||| 2 ^ i)).testBit j = true ∨ (seen ||| 2 ^ i).testBit j = true ↔ (todo.testBit j = true ∨ EMv P i j) ∨ (seen.testBit j = true ∨ j = i) := fun j => by
    rw [hM j]
    have e := @or_bit seen (2 ^ i) j
    rw [bit_pow] at e
    rw [← e]
    cases (seen ||| 2 ^ i).testBit j <;> simp
  have hiP := h.lim i (.inl hi)
  refine ⟨⟨fun j hj => ?_, fun j hj => ((hM j).1 hj).2, fun j hj => ?_, fun p hp => ?_, fun j hj q hq => ?_, fun j => ?_⟩, ?_⟩
  · rcases (hor j).1 hj with (h1 | h1) | (h1 | rfl)
    · exact h.lim j (.inl h1)
    · exact emv_lt hP h1
    · exact h.lim j (.inr h1)
    · exact hiP
  · rcases (hor j).1 hj with (h1 | h1) | (h1 | rfl)
    · exact h.sound j (.inl h1)
    · obtain ⟨p, h2, h3⟩ := h.sound i (.inl hi)
      exact ⟨p, h2, .tail h3 h1⟩
    · exact h.sound j (.inr h1)
    · exact h.sound j (.inl hi)
  · refine (hor p).2 ?_
    rcases h.all p hp with h1 | h1
    · exact .inl (.inl h1)
    · exact .inr (.inl h1)
  · refine (hor q).2 ?_
    rw [or_bit, bit_pow] at hj
    rcases hj with h1 | rfl
    · rcases h.clos j h1 q hq with h2 | h2
      · exact .inl (.inl h2)
      · exact .inr (.inl h2)
    · exact .inl (.inr hq)
  · rw [he j, h.ends j, or_bit, bit_pow]
    constructor
    · rintro (⟨h1, h2⟩ | ⟨rfl, h2⟩)
      · exact ⟨.inl h1, h2⟩
      · exact ⟨.inr rfl, h2⟩
    · rintro ⟨h1 | rfl, h2⟩
      · exact .inl ⟨h1, h2⟩
      · exact .inr ⟨rfl, h2⟩
  · have := unseen_less (h.apart i hi) P.length
    rw [if_pos hiP] at this
    omega
/-- Nothing to do: the ends are the steps reached. -/
theorem RInv.done {P : List St} {start seen ends : Nat} (h : RInv P start 0 seen ends) : Word ends (fun q => ∃ p, start.testBit p = true ∧ Fs P p q) := fun q => by
  have hs : ∀ p q, seen.testBit p = true → Rx.Star (EMv P) p q → seen.testBit q = true := by
    intro p q hp hs
    induction hs with
    | refl => exact hp
    | tail _ r ih =>
      rcases h.clos _ ih _ r with h1 | h1
      · simp at h1
      · exact h1
  rw [h.ends q]
  constructor
  · rintro ⟨h1, h2⟩
    obtain ⟨p, h3, h4⟩ := h.sound q (.inr h1)
    exact ⟨p, h3, h4, h.lim q (.inr h1), h2⟩
  · rintro ⟨p, h1, h2, h3, h4⟩
    rcases h.all p h1 with h5 | h5
    · simp at h5
    · exact ⟨hs p q h5 h2, h4⟩
/-- The program's words are the reference's. -/
theorem start_word {P : List St} (hP : progOk P = true) {z : Nat} (h : Word z (fun q => ∃ p, (1 : Nat).testBit p = true ∧ Fs P p q)) : z = vStart P :=
  h.eq ((vStart_word hP).congr fun q => by
    constructor
    · intro h; exact ⟨0, by decide, h⟩
    · rintro ⟨p, h1, h2⟩
      obtain rfl : p = 0 := by
        have : (1 : Nat) = 2 ^ 0 := rfl
        rw [this, bit_pow] at h1; exact h1
      exact h2)
theorem next_word {P : List St} (hP : progOk P = true) {now c z : Nat} (h : Word z (fun q => ∃ p, (2 * (now &&& tks P c P.length)).testBit p = true ∧ Fs P p q)) : z = vNext P now c :=
  h.eq ((vNext_word hP now c).congr fun q => by
    unfold Beh
    constructor
    · rintro ⟨p, h1, h2, h3, h4, h5⟩
      refine ⟨p + 1, ?_, h5⟩
      rw [Nat.testBit_succ, Nat.mul_div_cancel_left _ (by omega), Nat.testBit_and, h1, (tks_bit P c _ p).2 ⟨h2, h3, h4⟩]; rfl
    · rintro ⟨p, h1, h2⟩
      cases p with
      | zero => simp at h1
      | succ p =>
        rw [Nat.testBit_succ, Nat.mul_div_cancel_left _ (by omega), Nat.testBit_and, Bool.and_eq_true, tks_bit] at h1
        exact ⟨p, h1.1, h1.2.1, h1.2.2.1, h1.2.2.2, h2⟩)
theorem next_lim {P : List St} (hP : progOk P = true) (now c : Nat) : ∀ i, (2 * (now &&& tks P c P.length)).testBit i = true → i < P.length := fun i h => by
  cases i with
  | zero => have := prog_len2 hP; omega
  | succ p =>
    rw [Nat.testBit_succ, Nat.mul_div_cancel_left _ (by omega), Nat.testBit_and, Bool.and_eq_true, tks_bit] at h
    exact (prog_at hP h.2.1).next h.2.2.1
end Sc

end Go.Proofs.YtlfcjjlgkcfkdaaGreatDoor
namespace Go.Proofs.YtlfcjjlgkcfkdaaGreatDoor
open Go.RowKit Go.Sort
open Pz

/-- What is told of a part of the parser: its tree at each place. -/
def Tells (f : FuncId) (P : Nat) (s : ByteArray) (d : Nat) (G : Nat → Option (Rx × Nat)) : Prop := ∀ i W, Par W P s i d → Calls Tryz.prog f #[.pointer (some ⟨P, 0, none⟩)] W (PRes W P s d (G i))
theorem put_span (c : Nat) : span none4 c (c + 1 - c) = put none4 c := by
  rw [show c + 1 - c = 1 by omega]; rfl
set_option maxRecDepth 100000 in
set_option maxHeartbeats 8000000 in
theorem atom_any (P d : Nat) (s : ByteArray) (G : Nat → Option (Rx × Nat)) (hG : Tells 164 P s d G) : Tells 156 P s d (atom (txt8 s) 42 G) := by
  intro i w h
  have H := Lib.hid (At.start h zero6 135)
  have Z1 : Hid ((w.alloc (.cells zero6 135)).heap.size = w.heap.size + 1) := by show _ = _; simp
  clear h
  unfold zero6 at H
  unfold zero6 at Z1
  have GH := Lib.hid hG
  have BH : Hid (Tells 165 P s d (class1 (txt8 s) 42)) := fun i W h => brackets_any P i d s W h
  clear hG
  by_cases h40 : pk (txt8 s) i = 40
  · have C1 := Lib.hid (fun W => skip_yes (P := P) (d := d) h40 (by omega) W)
    have e1 : atom (txt8 s) 42 G i = G (i + 1) := by unfold atom; rw [if_pos h40]
    cases hg : G (i + 1) with
    | none =>
      have R : Hid (atom (txt8 s) 42 G i = none) := e1.trans hg
      have HG := Lib.hid hg
      clear h40 e1 hg
      go_enter Tryz.func156, Tryz.ntmps156
      go_wp2_with fail
      refine (C1.out _ H.out.pa).mono ?_
      rintro e W1 ⟨rfl, S1, P1⟩
      replace H := Lib.hid (H.out.step S1 P1)
      clear S1 P1
      go_wp2_with fail
      refine (GH.out (i + 1) _ H.out.pa).mono ?_
      intro e W1 hp
      obtain ⟨rfl, S1, j1, P1⟩ := hp.no HG.out
      replace H := Lib.hid (H.out.step S1 P1)
      clear S1 P1 hp
      go_wp2_with (refine wpList_store_row rfl 135 (.tmp 2) (.tmp 11) rfl w.heap.size #[.int .i64 0, .int .u64 0, .int .u64 0, .int .u64 0, .int .u64 0, .slice none 0 0] rfl rfl 135 _ H.out.r Tryz.size6 rfl (by simp [Value.oneCell']) ?_)
      exact bodyPost_ret (run_ct rfl _ _ _ w.heap.size #[.int .i64 0, .int .u64 0, .int .u64 0, .int .u64 0, .int .u64 0, .slice none 0 0] (.bool false) rfl rfl (run_loadVar_row _ _ _ _ _ _ _ (H.out.fin _).2.2 Tryz.underlying135 rfl Tryz.size6)) rfl (pres_none R.out H.out)
    | some q =>
      obtain ⟨t, j⟩ := q
      have R : Hid (atom (txt8 s) 42 G i = some (t, j)) := e1.trans hg
      have HG := Lib.hid hg
      clear h40 e1 hg
      go_enter Tryz.func156, Tryz.ntmps156
      go_wp2_with fail
      refine (C1.out _ H.out.pa).mono ?_
      rintro e W1 ⟨rfl, S1, P1⟩
      replace H := Lib.hid (H.out.step S1 P1)
      clear S1 P1
      have hbig := H.out.big
      have hlt := H.out.lt
      go_wp2_with fail
      refine (GH.out (i + 1) _ H.out.pa).mono ?_
      intro e W2 hp
      obtain ⟨op, a, b, c, d1, A, n, cap, rfl, RX, S1, P1⟩ := hp.yes HG.out
      replace H := Lib.hid (H.out.step S1 P1)
      replace RX : Hid (RxIn (fun b => w.heap.size + 1 ≤ b) W2 (.agg (c6 op a b c d1 A n cap)) t) := RX.under (Below.refl _ _) hbig
      clear S1 P1 hp hbig
      go_wp2_with (refine wpList_store_row rfl 135 (.tmp 2) (.tmp 11) rfl w.heap.size #[.int .i64 op, .int .u64 (a : Int), .int .u64 (b : Int), .int .u64 (c : Int), .int .u64 (d1 : Int), .slice A n cap] rfl rfl 135 _ H.out.r Tryz.size6 rfl (by simp [Value.oneCell']) ?_)
      exact bodyPost_ret (run_ct rfl _ _ _ w.heap.size #[.int .i64 op, .int .u64 (a : Int), .int .u64 (b : Int), .int .u64 (c : Int), .int .u64 (d1 : Int), .slice A n cap] (.bool true) rfl rfl (run_loadVar_row _ _ _ _ _ _ _ (H.out.fin _).2.2 Tryz.underlying135 rfl Tryz.size6)) rfl (pres_some R.out H.out RX.out)
  have N1 := Lib.hid (fun W => skip_no (P := P) (d := d) h40 (by omega) W)
  by_cases h91 : pk (txt8 s) i = 91
  · have C1 := Lib.hid (fun W => skip_yes (P := P) (d := d) h91 (by omega) W)
    have e1 : atom (txt8 s) 42 G i = class1 (txt8 s) 42 (i + 1) := by unfold atom; rw [if_neg h40, if_pos h91]
    cases hg : class1 (txt8 s) 42 (i + 1) with
    | none =>
      have R : Hid (atom (txt8 s) 42 G i = none) := e1.trans hg
      have HG := Lib.hid hg
      clear h40 h91 e1 hg
      go_enter Tryz.func156, Tryz.ntmps156
      go_wp2_with fail
      refine (N1.out _ H.out.pa).mono ?_
      rintro e W1 ⟨rfl, S1, P1⟩
      replace H := Lib.hid (H.out.step S1 P1)
      clear S1 P1
      go_wp2_with fail
      refine (C1.out _ H.out.pa).mono ?_
      rintro e W1 ⟨rfl, S1, P1⟩
      replace H := Lib.hid (H.out.step S1 P1)
      clear S1 P1
      go_wp2_with fail
      refine (BH.out (i + 1) _ H.out.pa).mono ?_
      intro e W1 hp
      obtain ⟨rfl, S1, j1, P1⟩ := hp.no HG.out
      replace H := Lib.hid (H.out.step S1 P1)
      clear S1 P1 hp
      go_wp2_with (refine wpList_store_row rfl 135 (.tmp 2) (.tmp 18) rfl w.heap.size #[.int .i64 0, .int .u64 0, .int .u64 0, .int .u64 0, .int .u64 0, .slice none 0 0] rfl rfl 135 _ H.out.r Tryz.size6 rfl (by simp [Value.oneCell']) ?_)
      exact bodyPost_ret (run_ct rfl _ _ _ w.heap.size #[.int .i64 0, .int .u64 0, .int .u64 0, .int .u64 0, .int .u64 0, .slice none 0 0] (.bool false) rfl rfl (run_loadVar_row _ _ _ _ _ _ _ (H.out.fin _).2.2 Tryz.underlying135 rfl Tryz.size6)) rfl (pres_none R.out H.out)
    | some q =>
      obtain ⟨t, j⟩ := q
      have R : Hid (atom (txt8 s) 42 G i = some (t, j)) := e1.trans hg
      have HG := Lib.hid hg
      clear h40 h91 e1 hg
      go_enter Tryz.func156, Tryz.ntmps156
      go_wp2_with fail
      refine (N1.out _ H.out.pa).mono ?_
      rintro e W1 ⟨rfl, S1, P1⟩
      replace H := Lib.hid (H.out.step S1 P1)
      clear S1 P1
      go_wp2_with fail
      refine (C1.out _ H.out.pa).mono ?_
      rintro e W1 ⟨rfl, S1, P1⟩
      replace H := Lib.hid (H.out.step S1 P1)
      clear S1 P1
      have hbig := H.out.big
      have hlt := H.out.lt
      go_wp2_with fail
      refine (BH.out (i + 1) _ H.out.pa).mono ?_
      intro e W2 hp
      obtain ⟨op, a, b, c, d1, A, n, cap, rfl, RX, S1, P1⟩ := hp.yes HG.out
      replace H := Lib.hid (H.out.step S1 P1)
      replace RX : Hid (RxIn (fun b => w.heap.size + 1 ≤ b) W2 (.agg (c6 op a b c d1 A n cap)) t) := RX.under (Below.refl _ _) hbig
      clear S1 P1 hp hbig
      go_wp2_with (refine wpList_store_row rfl 135 (.tmp 2) (.tmp 18) rfl w.heap.size #[.int .i64 op, .int .u64 (a : Int), .int .u64 (b : Int), .int .u64 (c : Int), .int .u64 (d1 : Int), .slice A n cap] rfl rfl 135 _ H.out.r Tryz.size6 rfl (by simp [Value.oneCell']) ?_)
      exact bodyPost_ret (run_ct rfl _ _ _ w.heap.size #[.int .i64 op, .int .u64 (a : Int), .int .u64 (b : Int), .int .u64 (c : Int), .int .u64 (d1 : Int), .slice A n cap] (.bool true) rfl rfl (run_loadVar_row _ _ _ _ _ _ _ (H.out.fin _).2.2 Tryz.underlying135 rfl Tryz.size6)) rfl (pres_some R.out H.out RX.out)
  have N2 := Lib.hid (fun W => skip_no (P := P) (d := d) h91 (by omega) W)
  by_cases h46 : pk (txt8 s) i = 46
  · have C1 := Lib.hid (fun W => skip_yes (P := P) (d := d) h46 (by omega) W)
    obtain ⟨U, hU⟩ : ∃ U, neg none4 = U := ⟨_, rfl⟩
    have R : Hid (atom (txt8 s) 42 G i = some (setOf U, i + 1)) := by show _ = _; unfold atom; rw [if_neg h40, if_neg h91, if_pos h46, hU]
    have OT : Hid (∀ W, Calls Tryz.prog 166 #[.agg #[.int .u64 0, .int .u64 0, .int .u64 0, .int .u64 0]] W fun e w' => e = .returned (.agg #[.int .u64 (U 0 : Int), .int .u64 (U 1 : Int), .int .u64 (U 2 : Int), .int .u64 (U 3 : Int)]) ∧ Below W.heap.size W w') := fun W => by rw [← hU]; exact others_any none4 none4_fits W
    clear hU h40 h91 h46
    go_enter Tryz.func156, Tryz.ntmps156
    go_wp2_with fail
    refine (N1.out _ H.out.pa).mono ?_
    rintro e W1 ⟨rfl, S1, P1⟩
    replace H := Lib.hid (H.out.step S1 P1)
    clear S1 P1
    go_wp2_with fail
    refine (N2.out _ H.out.pa).mono ?_
    rintro e W1 ⟨rfl, S1, P1⟩
    replace H := Lib.hid (H.out.step S1 P1)
    clear S1 P1
    go_wp2_with fail
    refine (C1.out _ H.out.pa).mono ?_
    rintro e W1 ⟨rfl, S1, P1⟩
    replace H := Lib.hid (H.out.step S1 P1)
    clear S1 P1
    go_wp2_with fail
    refine (OT.out _).mono ?_
    rintro e W1 ⟨rfl, B1⟩
    replace H := Lib.hid (H.out.grow B1)
    clear B1
    go_wp2_with (refine wpList_store_row rfl 135 (.tmp 2) (.tmp 25) rfl w.heap.size #[.int .i64 1, .int .u64 (U 0 : Int), .int .u64 (U 1 : Int), .int .u64 (U 2 : Int), .int .u64 (U 3 : Int), .slice none 0 0] rfl rfl 135 _ H.out.r Tryz.size6 rfl (by simp [Value.oneCell']) ?_)
    exact bodyPost_ret (run_ct rfl _ _ _ w.heap.size #[.int .i64 1, .int .u64 (U 0 : Int), .int .u64 (U 1 : Int), .int .u64 (U 2 : Int), .int .u64 (U 3 : Int), .slice none 0 0] (.bool true) rfl rfl (run_loadVar_row _ _ _ _ _ _ _ (H.out.fin _).2.2 Tryz.underlying135 rfl Tryz.size6)) rfl (pres_some R.out H.out (RxIn.leaf _ _ 1 _ _ _ _))
  have N3 := Lib.hid (fun W => skip_no (P := P) (d := d) h46 (by omega) W)
  cases h1 : byte1 (txt8 s) special i with
  | none =>
    have R : Hid (atom (txt8 s) 42 G i = none) := by show _ = _; unfold atom; rw [if_neg h40, if_neg h91, if_neg h46, h1]
    have C1 := Lib.hid (fun W => bb_none (P := P) (d := d) sS special mem_S h1 W)
    clear h1 h40 h91 h46
    go_enter Tryz.func156, Tryz.ntmps156
    go_wp2_with fail
    refine (N1.out _ H.out.pa).mono ?_
    rintro e W1 ⟨rfl, S1, P1⟩
    replace H := Lib.hid (H.out.step S1 P1)
    clear S1 P1
    go_wp2_with fail
    refine (N2.out _ H.out.pa).mono ?_
    rintro e W1 ⟨rfl, S1, P1⟩
    replace H := Lib.hid (H.out.step S1 P1)
    clear S1 P1
    go_wp2_with fail
    refine (N3.out _ H.out.pa).mono ?_
    rintro e W1 ⟨rfl, S1, P1⟩
    replace H := Lib.hid (H.out.step S1 P1)
    clear S1 P1
    go_wp2_with fail
    refine (C1.out _ H.out.pa).mono ?_
    rintro e W1 ⟨rfl, S1, j1, P1⟩
    replace H := Lib.hid (H.out.step S1 P1)
    clear S1 P1
    go_wp2_with (refine wpList_store_row rfl 135 (.tmp 2) (.tmp 33) rfl w.heap.size #[.int .i64 0, .int .u64 0, .int .u64 0, .int .u64 0, .int .u64 0, .slice none 0 0] rfl rfl 135 _ H.out.r Tryz.size6 rfl (by simp [Value.oneCell']) ?_)
    exact bodyPost_ret (run_ct rfl _ _ _ w.heap.size #[.int .i64 0, .int .u64 0, .int .u64 0, .int .u64 0, .int .u64 0, .slice none 0 0] (.bool false) rfl rfl (run_loadVar_row _ _ _ _ _ _ _ (H.out.fin _).2.2 Tryz.underlying135 rfl Tryz.size6)) rfl (pres_none R.out H.out)
  | some q =>
    obtain ⟨c, j⟩ := q
    have ⟨l1, _, _⟩ := byte1_lt h1
    obtain ⟨U, hU⟩ : ∃ U, put none4 c = U := ⟨_, rfl⟩
    have R : Hid (atom (txt8 s) 42 G i = some (setOf U, j)) := by show _ = _; unfold atom; rw [if_neg h40, if_neg h91, if_neg h46, h1, ← hU]
    have C1 := Lib.hid (fun W => bb_some (P := P) (d := d) sS special mem_S h1 W)
    have SP : Hid (∀ W, Calls Tryz.prog 168 #[.int .u8 (c : Int), .int .u8 (c : Int)] W fun e w' => e = .returned (.agg #[.int .u64 (U 0 : Int), .int .u64 (U 1 : Int), .int .u64 (U 2 : Int), .int .u64 (U 3 : Int)]) ∧ Below W.heap.size W w') := fun W => by have := span_any c c l1 l1 W; rw [put_span, hU] at this; exact this
    clear h1 h40 h91 h46 hU
    go_enter Tryz.func156, Tryz.ntmps156
    go_wp2_with fail
    refine (N1.out _ H.out.pa).mono ?_
    rintro e W1 ⟨rfl, S1, P1⟩
    replace H := Lib.hid (H.out.step S1 P1)
    clear S1 P1
    go_wp2_with fail
    refine (N2.out _ H.out.pa).mono ?_
    rintro e W1 ⟨rfl, S1, P1⟩
    replace H := Lib.hid (H.out.step S1 P1)
    clear S1 P1
    go_wp2_with fail
    refine (N3.out _ H.out.pa).mono ?_
    rintro e W1 ⟨rfl, S1, P1⟩
    replace H := Lib.hid (H.out.step S1 P1)
    clear S1 P1
    go_wp2_with fail
    refine (C1.out _ H.out.pa).mono ?_
    rintro e W1 ⟨rfl, S1, P1⟩
    replace H := Lib.hid (H.out.step S1 P1)
    clear S1 P1
    go_wp2_with fail
    refine (SP.out _).mono ?_
    rintro e W1 ⟨rfl, B1⟩
    replace H := Lib.hid (H.out.grow B1)
    clear B1
    go_wp2_with (refine wpList_store_row rfl 135 (.tmp 2) (.tmp 37) rfl w.heap.size #[.int .i64 1, .int .u64 (U 0 : Int), .int .u64 (U 1 : Int), .int .u64 (U 2 : Int), .int .u64 (U 3 : Int), .slice none 0 0] rfl rfl 135 _ H.out.r Tryz.size6 rfl (by simp [Value.oneCell']) ?_)
    exact bodyPost_ret (run_ct rfl _ _ _ w.heap.size #[.int .i64 1, .int .u64 (U 0 : Int), .int .u64 (U 1 : Int), .int .u64 (U 2 : Int), .int .u64 (U 3 : Int), .slice none 0 0] (.bool true) rfl rfl (run_loadVar_row _ _ _ _ _ _ _ (H.out.fin _).2.2 Tryz.underlying135 rfl Tryz.size6)) rfl (pres_some R.out H.out (RxIn.leaf _ _ 1 _ _ _ _))

set_option maxRecDepth 100000 in
set_option maxHeartbeats 8000000 in
theorem factor_any (P d : Nat) (s : ByteArray) (G : Nat → Option (Rx × Nat)) (hG : Tells 164 P s d G) : Tells 152 P s d (factor (txt8 s) 42 G) := by
  intro i w h
  have H := Lib.hid (At.start h zero6 135)
  clear h
  unfold zero6 at H
  have GH := Lib.hid (atom_any P d s G hG)
  clear hG
  cases hg : atom (txt8 s) 42 G i with
  | none =>
    have R : Hid (factor (txt8 s) 42 G i = none) := by show _ = _; unfold factor; rw [hg]
    have HG := Lib.hid hg
    clear hg
    go_enter Tryz.func152, Tryz.ntmps152
    go_wp2_with fail
    refine (GH.out i _ H.out.pa).mono ?_
    intro e W1 hp
    obtain ⟨rfl, S1, j1, P1⟩ := hp.no HG.out
    replace H := Lib.hid (H.out.step S1 P1)
    clear S1 P1 hp
    replace H := Lib.hid (H.out.grow ((Below.refl _ _).alloc (Nat.le_refl _) (.cells #[.int .i64 0, .int .u64 0, .int .u64 0, .int .u64 0, .int .u64 0, .slice none 0 0] 135)))
    go_wp2_with (refine wpList_store_row rfl 135 (.tmp 2) (.tmp 13) rfl w.heap.size #[.int .i64 0, .int .u64 0, .int .u64 0, .int .u64 0, .int .u64 0, .slice none 0 0] rfl rfl 135 _ H.out.r Tryz.size6 rfl (by simp [Value.oneCell']) ?_)
    exact bodyPost_ret (run_ct rfl _ _ _ w.heap.size #[.int .i64 0, .int .u64 0, .int .u64 0, .int .u64 0, .int .u64 0, .slice none 0 0] (.bool false) rfl rfl (run_loadVar_row _ _ _ _ _ _ _ (H.out.fin _).2.2 Tryz.underlying135 rfl Tryz.size6)) rfl (pres_none R.out H.out)
  | some q =>
    obtain ⟨t, j⟩ := q
    have e1 : factor (txt8 s) 42 G i = if pk (txt8 s) j = 42 then some (rep 4 t, j + 1) else if pk (txt8 s) j = 43 then some (rep 5 t, j + 1) else if pk (txt8 s) j = 63 then some (rep 6 t, j + 1) else some (t, j) := by unfold factor; rw [hg]
    have HG := Lib.hid hg
    clear hg
    by_cases h42 : pk (txt8 s) j = 42
    · have C1 := Lib.hid (fun W => skip_yes (P := P) (d := d) h42 (by omega) W)
      have R : Hid (factor (txt8 s) 42 G i = some (rep 4 t, j + 1)) := by show _ = _; rw [e1, if_pos h42]
      clear h42 e1
      go_enter Tryz.func152, Tryz.ntmps152
      have hbig := H.out.big
      have hlt := H.out.lt
      go_wp2_with fail
      refine (GH.out i _ H.out.pa).mono ?_
      intro e W1 hp
      obtain ⟨op, a, b, c, d1, A, n, cap, rfl, RX, S1, P1⟩ := hp.yes HG.out
      replace H := Lib.hid (H.out.step S1 P1)
      replace RX : Hid (RxIn (fun b => w.heap.size + 1 ≤ b) W1 (.agg (c6 op a b c d1 A n cap)) t) := RX.under (Below.refl _ _) hbig
      clear S1 P1 hp hbig
      have X6 : Hid (Row6 (W1.alloc (.cells #[.int .i64 op, .int .u64 (a : Int), .int .u64 (b : Int), .int .u64 (c : Int), .int .u64 (d1 : Int), .slice A n cap] 135)) W1.heap.size #[.int .i64 op, .int .u64 (a : Int), .int .u64 (b : Int), .int .u64 (c : Int), .int .u64 (d1 : Int), .slice A n cap]) := heap_alloc_new W1 _
      have B6 : Below W1.heap.size W1 (W1.alloc (.cells #[.int .i64 op, .int .u64 (a : Int), .int .u64 (b : Int), .int .u64 (c : Int), .int .u64 (d1 : Int), .slice A n cap] 135)) := (Below.refl _ _).alloc (Nat.le_refl _) _
      have hgP : P < W1.heap.size := by have := H.out.pa.lt; omega
      replace RX := Lib.hid (RX.out.under B6 (Nat.le_refl _))
      replace H := Lib.hid (H.out.grow B6)
      clear B6
      go_wp2_with fail
      generalize W1.alloc (.cells #[.int .i64 op, .int .u64 (a : Int), .int .u64 (b : Int), .int .u64 (c : Int), .int .u64 (d1 : Int), .slice A n cap] 135) = W2 at *
      generalize W1.heap.size = g at *
      refine (C1.out _ H.out.pa).mono ?_
      rintro e W3 ⟨rfl, S1, P1⟩
      replace X6 := Lib.hid (X6.out.stp S1 hgP)
      replace RX := Lib.hid (RX.out.stp S1 (by omega) (Nat.le_refl _))
      replace H := Lib.hid (H.out.step S1 P1)
      clear S1 P1
      obtain ⟨x0, x1, x2, x3, x4, x5⟩ := X6.out.cells
      have CR := Lib.hid (repeated_any 4 t _ op a b c d1 A n cap _ (by have := H.out.big; omega) RX.out)
      go_wp2_with fail
      refine CR.out.mono ?_
      rintro e W4 ⟨A1, n1, cap1, rfl, RX2, B1⟩
      replace H := Lib.hid (H.out.grow B1)
      have RX2 := Lib.hid RX2
      clear B1 CR x0 x1 x2 x3 x4 x5
      go_wp2_with (refine wpList_store_row rfl 135 (.tmp 2) (.tmp 18) rfl w.heap.size #[.int .i64 4, .int .u64 0, .int .u64 0, .int .u64 0, .int .u64 0, .slice A1 n1 cap1] rfl rfl 135 _ H.out.r Tryz.size6 rfl (by simp [Value.oneCell']) ?_)
      exact bodyPost_ret (run_ct rfl _ _ _ w.heap.size #[.int .i64 4, .int .u64 0, .int .u64 0, .int .u64 0, .int .u64 0, .slice A1 n1 cap1] (.bool true) rfl rfl (run_loadVar_row _ _ _ _ _ _ _ (H.out.fin _).2.2 Tryz.underlying135 rfl Tryz.size6)) rfl (pres_some R.out H.out RX2.out)
    have N1 := Lib.hid (fun W => skip_no (P := P) (d := d) h42 (by omega) W)
    by_cases h43 : pk (txt8 s) j = 43
    · have C1 := Lib.hid (fun W => skip_yes (P := P) (d := d) h43 (by omega) W)
      have R : Hid (factor (txt8 s) 42 G i = some (rep 5 t, j + 1)) := by show _ = _; rw [e1, if_neg h42, if_pos h43]
      clear h42 h43 e1
      go_enter Tryz.func152, Tryz.ntmps152
      have hbig := H.out.big
      have hlt := H.out.lt
      go_wp2_with fail
      refine (GH.out i _ H.out.pa).mono ?_
      intro e W1 hp
      obtain ⟨op, a, b, c, d1, A, n, cap, rfl, RX, S1, P1⟩ := hp.yes HG.out
      replace H := Lib.hid (H.out.step S1 P1)
      replace RX : Hid (RxIn (fun b => w.heap.size + 1 ≤ b) W1 (.agg (c6 op a b c d1 A n cap)) t) := RX.under (Below.refl _ _) hbig
      clear S1 P1 hp hbig
      have X6 : Hid (Row6 (W1.alloc (.cells #[.int .i64 op, .int .u64 (a : Int), .int .u64 (b : Int), .int .u64 (c : Int), .int .u64 (d1 : Int), .slice A n cap] 135)) W1.heap.size #[.int .i64 op, .int .u64 (a : Int), .int .u64 (b : Int), .int .u64 (c : Int), .int .u64 (d1 : Int), .slice A n cap]) := heap_alloc_new W1 _
      have B6 : Below W1.heap.size W1 (W1.alloc (.cells #[.int .i64 op, .int .u64 (a : Int), .int .u64 (b : Int), .int .u64 (c : Int), .int .u64 (d1 : Int), .slice A n cap] 135)) := (Below.refl _ _).alloc (Nat.le_refl _) _
      have hgP : P < W1.heap.size := by have := H.out.pa.lt; omega
      replace RX := Lib.hid (RX.out.under B6 (Nat.le_refl _))
      replace H := Lib.hid (H.out.grow B6)
      clear B6
      go_wp2_with fail
      generalize W1.alloc (.cells #[.int .i64 op, .int .u64 (a : Int), .int .u64 (b : Int), .int .u64 (c : Int), .int .u64 (d1 : Int), .slice A n cap] 135) = W2 at *
      generalize W1.heap.size = g at *
      refine (N1.out _ H.out.pa).mono ?_
      rintro e W3 ⟨rfl, S1, P1⟩
      replace X6 := Lib.hid (X6.out.stp S1 hgP)
      replace RX := Lib.hid (RX.out.stp S1 (by omega) (Nat.le_refl _))
      replace H := Lib.hid (H.out.step S1 P1)
      clear S1 P1
      go_wp2_with fail
      refine (C1.out _ H.out.pa).mono ?_
      rintro e W3 ⟨rfl, S1, P1⟩
      replace X6 := Lib.hid (X6.out.stp S1 hgP)
      replace RX := Lib.hid (RX.out.stp S1 (by omega) (Nat.le_refl _))
      replace H := Lib.hid (H.out.step S1 P1)
      clear S1 P1
      obtain ⟨x0, x1, x2, x3, x4, x5⟩ := X6.out.cells
      have CR := Lib.hid (repeated_any 5 t _ op a b c d1 A n cap _ (by have := H.out.big; omega) RX.out)
      go_wp2_with fail
      refine CR.out.mono ?_
      rintro e W4 ⟨A1, n1, cap1, rfl, RX2, B1⟩
      replace H := Lib.hid (H.out.grow B1)
      have RX2 := Lib.hid RX2
      clear B1 CR x0 x1 x2 x3 x4 x5
      go_wp2_with (refine wpList_store_row rfl 135 (.tmp 2) (.tmp 23) rfl w.heap.size #[.int .i64 5, .int .u64 0, .int .u64 0, .int .u64 0, .int .u64 0, .slice A1 n1 cap1] rfl rfl 135 _ H.out.r Tryz.size6 rfl (by simp [Value.oneCell']) ?_)
      exact bodyPost_ret (run_ct rfl _ _ _ w.heap.size #[.int .i64 5, .int .u64 0, .int .u64 0, .int .u64 0, .int .u64 0, .slice A1 n1 cap1] (.bool true) rfl rfl (run_loadVar_row _ _ _ _ _ _ _ (H.out.fin _).2.2 Tryz.underlying135 rfl Tryz.size6)) rfl (pres_some R.out H.out RX2.out)
    have N2 := Lib.hid (fun W => skip_no (P := P) (d := d) h43 (by omega) W)
    by_cases h63 : pk (txt8 s) j = 63
    · have C1 := Lib.hid (fun W => skip_yes (P := P) (d := d) h63 (by omega) W)
      have R : Hid (factor (txt8 s) 42 G i = some (rep 6 t, j + 1)) := by show _ = _; rw [e1, if_neg h42, if_neg h43, if_pos h63]
      clear h42 h43 h63 e1
      go_enter Tryz.func152, Tryz.ntmps152
      have hbig := H.out.big
      have hlt := H.out.lt
      go_wp2_with fail
      refine (GH.out i _ H.out.pa).mono ?_
      intro e W1 hp
      obtain ⟨op, a, b, c, d1, A, n, cap, rfl, RX, S1, P1⟩ := hp.yes HG.out
      replace H := Lib.hid (H.out.step S1 P1)
      replace RX : Hid (RxIn (fun b => w.heap.size + 1 ≤ b) W1 (.agg (c6 op a b c d1 A n cap)) t) := RX.under (Below.refl _ _) hbig
      clear S1 P1 hp hbig
      have X6 : Hid (Row6 (W1.alloc (.cells #[.int .i64 op, .int .u64 (a : Int), .int .u64 (b : Int), .int .u64 (c : Int), .int .u64 (d1 : Int), .slice A n cap] 135)) W1.heap.size #[.int .i64 op, .int .u64 (a : Int), .int .u64 (b : Int), .int .u64 (c : Int), .int .u64 (d1 : Int), .slice A n cap]) := heap_alloc_new W1 _
      have B6 : Below W1.heap.size W1 (W1.alloc (.cells #[.int .i64 op, .int .u64 (a : Int), .int .u64 (b : Int), .int .u64 (c : Int), .int .u64 (d1 : Int), .slice A n cap] 135)) := (Below.refl _ _).alloc (Nat.le_refl _) _
      have hgP : P < W1.heap.size := by have := H.out.pa.lt; omega
      replace RX := Lib.hid (RX.out.under B6 (Nat.le_refl _))
      replace H := Lib.hid (H.out.grow B6)
      clear B6
      go_wp2_with fail
      generalize W1.alloc (.cells #[.int .i64 op, .int .u64 (a : Int), .int .u64 (b : Int), .int .u64 (c : Int), .int .u64 (d1 : Int), .slice A n cap] 135) = W2 at *
      generalize W1.heap.size = g at *
      refine (N1.out _ H.out.pa).mono ?_
      rintro e W3 ⟨rfl, S1, P1⟩
      replace X6 := Lib.hid (X6.out.stp S1 hgP)
      replace RX := Lib.hid (RX.out.stp S1 (by omega) (Nat.le_refl _))
      replace H := Lib.hid (H.out.step S1 P1)
      clear S1 P1
      go_wp2_with fail
      refine (N2.out _ H.out.pa).mono ?_
      rintro e W3 ⟨rfl, S1, P1⟩
      replace X6 := Lib.hid (X6.out.stp S1 hgP)
      replace RX := Lib.hid (RX.out.stp S1 (by omega) (Nat.le_refl _))
      replace H := Lib.hid (H.out.step S1 P1)
      clear S1 P1
      go_wp2_with fail
      refine (C1.out _ H.out.pa).mono ?_
      rintro e W3 ⟨rfl, S1, P1⟩
      replace X6 := Lib.hid (X6.out.stp S1 hgP)
      replace RX := Lib.hid (RX.out.stp S1 (by omega) (Nat.le_refl _))
      replace H := Lib.hid (H.out.step S1 P1)
      clear S1 P1
      obtain ⟨x0, x1, x2, x3, x4, x5⟩ := X6.out.cells
      have CR := Lib.hid (repeated_any 6 t _ op a b c d1 A n cap _ (by have := H.out.big; omega) RX.out)
      go_wp2_with fail
      refine CR.out.mono ?_
      rintro e W4 ⟨A1, n1, cap1, rfl, RX2, B1⟩
      replace H := Lib.hid (H.out.grow B1)
      have RX2 := Lib.hid RX2
      clear B1 CR x0 x1 x2 x3 x4 x5
      go_wp2_with (refine wpList_store_row rfl 135 (.tmp 2) (.tmp 28) rfl w.heap.size #[.int .i64 6, .int .u64 0, .int .u64 0, .int .u64 0, .int .u64 0, .slice A1 n1 cap1] rfl rfl 135 _ H.out.r Tryz.size6 rfl (by simp [Value.oneCell']) ?_)
      exact bodyPost_ret (run_ct rfl _ _ _ w.heap.size #[.int .i64 6, .int .u64 0, .int .u64 0, .int .u64 0, .int .u64 0, .slice A1 n1 cap1] (.bool true) rfl rfl (run_loadVar_row _ _ _ _ _ _ _ (H.out.fin _).2.2 Tryz.underlying135 rfl Tryz.size6)) rfl (pres_some R.out H.out RX2.out)
    have N3 := Lib.hid (fun W => skip_no (P := P) (d := d) h63 (by omega) W)
    have R : Hid (factor (txt8 s) 42 G i = some (t, j)) := by show _ = _; rw [e1, if_neg h42, if_neg h43, if_neg h63]
    clear h42 h43 h63 e1
    go_enter Tryz.func152, Tryz.ntmps152
    have hbig := H.out.big
    have hlt := H.out.lt
    go_wp2_with fail
    refine (GH.out i _ H.out.pa).mono ?_
    intro e W1 hp
    obtain ⟨op, a, b, c, d1, A, n, cap, rfl, RX, S1, P1⟩ := hp.yes HG.out
    replace H := Lib.hid (H.out.step S1 P1)
    replace RX : Hid (RxIn (fun b => w.heap.size + 1 ≤ b) W1 (.agg (c6 op a b c d1 A n cap)) t) := RX.under (Below.refl _ _) hbig
    clear S1 P1 hp hbig
    have X6 : Hid (Row6 (W1.alloc (.cells #[.int .i64 op, .int .u64 (a : Int), .int .u64 (b : Int), .int .u64 (c : Int), .int .u64 (d1 : Int), .slice A n cap] 135)) W1.heap.size #[.int .i64 op, .int .u64 (a : Int), .int .u64 (b : Int), .int .u64 (c : Int), .int .u64 (d1 : Int), .slice A n cap]) := heap_alloc_new W1 _
    have B6 : Below W1.heap.size W1 (W1.alloc (.cells #[.int .i64 op, .int .u64 (a : Int), .int .u64 (b : Int), .int .u64 (c : Int), .int .u64 (d1 : Int), .slice A n cap] 135)) := (Below.refl _ _).alloc (Nat.le_refl _) _
    have hgP : P < W1.heap.size := by have := H.out.pa.lt; omega
    replace RX := Lib.hid (RX.out.under B6 (Nat.le_refl _))
    replace H := Lib.hid (H.out.grow B6)
    clear B6
    go_wp2_with fail
    generalize W1.alloc (.cells #[.int .i64 op, .int .u64 (a : Int), .int .u64 (b : Int), .int .u64 (c : Int), .int .u64 (d1 : Int), .slice A n cap] 135) = W2 at *
    generalize W1.heap.size = g at *
    refine (N1.out _ H.out.pa).mono ?_
    rintro e W3 ⟨rfl, S1, P1⟩
    replace X6 := Lib.hid (X6.out.stp S1 hgP)
    replace RX := Lib.hid (RX.out.stp S1 (by omega) (Nat.le_refl _))
    replace H := Lib.hid (H.out.step S1 P1)
    clear S1 P1
    go_wp2_with fail
    refine (N2.out _ H.out.pa).mono ?_
    rintro e W3 ⟨rfl, S1, P1⟩
    replace X6 := Lib.hid (X6.out.stp S1 hgP)
    replace RX := Lib.hid (RX.out.stp S1 (by omega) (Nat.le_refl _))
    replace H := Lib.hid (H.out.step S1 P1)
    clear S1 P1
    go_wp2_with fail
    refine (N3.out _ H.out.pa).mono ?_
    rintro e W3 ⟨rfl, S1, P1⟩
    replace X6 := Lib.hid (X6.out.stp S1 hgP)
    replace RX := Lib.hid (RX.out.stp S1 (by omega) (Nat.le_refl _))
    replace H := Lib.hid (H.out.step S1 P1)
    clear S1 P1
    obtain ⟨x0, x1, x2, x3, x4, x5⟩ := X6.out.cells
    go_wp2_with (refine wpList_store_row rfl 135 (.tmp 2) (.tmp 29) rfl w.heap.size #[.int .i64 op, .int .u64 (a : Int), .int .u64 (b : Int), .int .u64 (c : Int), .int .u64 (d1 : Int), .slice A n cap] rfl rfl 135 _ H.out.r Tryz.size6 rfl (by simp [Value.oneCell']) ?_)
    exact bodyPost_ret (run_ct rfl _ _ _ w.heap.size #[.int .i64 op, .int .u64 (a : Int), .int .u64 (b : Int), .int .u64 (c : Int), .int .u64 (d1 : Int), .slice A n cap] (.bool true) rfl rfl (run_loadVar_row _ _ _ _ _ _ _ (H.out.fin _).2.2 Tryz.underlying135 rfl Tryz.size6)) rfl (pres_some R.out H.out RX.out)

end Go.Proofs.YtlfcjjlgkcfkdaaGreatDoor

