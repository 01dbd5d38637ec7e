/-
  Plain mathematics of chapter 5: a text whose special bytes are quoted is a pattern of just itself. Conditions: bytes.
-/
import Derived.Test.YteifjiadgbgkbaaKf
namespace Go.Proofs.Yteifjiadgbgkbaa
open Pz Rx

/-- A byte, quoted where it must be. -/
def enc1 (c : Nat) : List Nat := if special c = true then [92, c] else [c]
def qt : List Nat → List Nat
  | [] => []
  | c :: r => enc1 c ++ qt r
def single (c : Nat) : Rx := setOf (put none4 c)
theorem pk_at (pre r : List Nat) : pk (pre ++ r) pre.length = r.headD 256 := by
  unfold pk
  rw [List.getD_eq_getElem?_getD, List.getElem?_append_right (Nat.le_refl _), Nat.sub_self]
  cases r <;> rfl
theorem pk_at1 (pre : List Nat) (c : Nat) (r : List Nat) : pk (pre ++ c :: r) (pre.length + 1) = r.headD 256 := by
  have := pk_at (pre ++ [c]) r
  simpa using this
/-- What a quoted text begins with: no sign of repetition, no bar, no closing bracket. -/
theorem qt_head (S : List Nat) (h : ∀ c ∈ S, c < 256) : (S = [] ∧ (qt S).headD 256 = 256) ∨ (S ≠ [] ∧ ((qt S).headD 256 = 92 ∨ (special ((qt S).headD 256) = false ∧ (qt S).headD 256 < 256))) := by
  cases S with
  | nil => exact .inl ⟨rfl, rfl⟩
  | cons c r =>
    refine .inr ⟨by simp, ?_⟩
    unfold qt enc1
    by_cases hs : special c = true
    · rw [if_pos hs]; exact .inl rfl
    · rw [if_neg hs]
      exact .inr ⟨by simpa using hs, h c (by simp)⟩
theorem nosign {c : Nat} (h : c = 256 ∨ c = 92 ∨ special c = false) : ¬ c = 42 ∧ ¬ c = 43 ∧ ¬ c = 63 ∧ ¬ c = 124 ∧ ¬ c = 41 ∧ ¬ c = 40 ∧ ¬ c = 91 ∧ ¬ c = 46 := by
  rcases h with rfl | rfl | h
  · omega
  · omega
  · refine ⟨?_, ?_, ?_, ?_, ?_, ?_, ?_, ?_⟩ <;> (rintro rfl; revert h; decide)
theorem enc_len (c : Nat) : 1 ≤ (enc1 c).length ∧ (enc1 c).length ≤ 2 := by unfold enc1; split <;> simp
theorem byte_enc (pre r : List Nat) (c : Nat) (hc : c < 256) : byte1 (pre ++ (enc1 c ++ r)) special pre.length = some (c, pre.length + (enc1 c).length) := by
  unfold byte1 enc1
  by_cases hs : special c = true
  · rw [if_pos hs]
    have e1 := pk_at pre ([92, c] ++ r)
    have e2 := pk_at1 pre 92 (c :: r)
    simp only [List.cons_append, List.nil_append, List.headD_cons] at e1 e2 ⊢
    rw [e1, e2]
    simp [quotable, hs]
  · rw [if_neg hs]
    have e1 := pk_at pre ([c] ++ r)
    simp only [List.cons_append, List.nil_append, List.headD_cons] at e1 ⊢
    rw [e1]
    have h92 : ¬ c = 92 := by rintro rfl; exact hs (by decide)
    rw [if_neg h92, if_neg (by rintro (h | h); omega; exact hs h)]
    rfl
theorem pk_enc (pre r : List Nat) (c : Nat) (hc : c < 256) : pk (pre ++ (enc1 c ++ r)) pre.length = 92 ∨ (special (pk (pre ++ (enc1 c ++ r)) pre.length) = false ∧ pk (pre ++ (enc1 c ++ r)) pre.length < 256) := by
  rw [pk_at]
  unfold enc1
  by_cases hs : special c = true
  · rw [if_pos hs]; exact .inl rfl
  · rw [if_neg hs]; exact .inr ⟨by simpa using hs, hc⟩
theorem factor_enc (pre r : List Nat) (c : Nat) (hc : c < 256) (hr : ∀ c ∈ r, c < 256) (G : Nat → Option (Rx × Nat)) : factor (pre ++ (enc1 c ++ qt r)) 42 G pre.length = some (single c, pre.length + (enc1 c).length) := by
  have h1 := nosign (c := pk (pre ++ (enc1 c ++ qt r)) pre.length) (by rcases pk_enc pre (qt r) c hc with h | h; exact .inr (.inl h); exact .inr (.inr h.1))
  have ha : atom (pre ++ (enc1 c ++ qt r)) 42 G pre.length = some (single c, pre.length + (enc1 c).length) := by
    unfold atom
    rw [if_neg h1.2.2.2.2.2.1, if_neg h1.2.2.2.2.2.2.1, if_neg h1.2.2.2.2.2.2.2, byte_enc pre (qt r) c hc]
    rfl
  have e : pk (pre ++ (enc1 c ++ qt r)) (pre.length + (enc1 c).length) = (qt r).headD 256 := by
    have := pk_at (pre ++ enc1 c) (qt r)
    rwa [List.append_assoc, List.length_append] at this
  have h2 := nosign (c := (qt r).headD 256) (by rcases qt_head r hr with h | h; exact .inl h.2; rcases h.2 with h | h; exact .inr (.inl h); exact .inr (.inr h.1))
  unfold factor
  rw [ha]
  simp only
  rw [e, if_neg h2.1, if_neg h2.2.1, if_neg h2.2.2.1]
theorem way_q (G : Nat → Option (Rx × Nat)) : ∀ (r : List Nat) (l : List Rx) (m : Nat) (pre : List Nat), r.length < m → (∀ c ∈ r, c < 256) → way (pre ++ qt r) 42 G m l pre.length = some (joined 2 (l ++ r.map single), (pre ++ qt r).length)
  | [], l, m + 1, pre, _, _ => by
    rw [way]
    have e : pk (pre ++ qt []) pre.length = 256 := pk_at pre []
    rw [if_pos (.inl e)]
    simp [qt]
  | c :: r, l, m + 1, pre, hm, hb => by
    have hc : c < 256 := hb c (by simp)
    have hr : ∀ c ∈ r, c < 256 := fun x hx => hb x (by simp [hx])
    rw [way]
    have h0 := pk_enc pre (qt r) c hc
    have h1 := nosign (c := pk (pre ++ (enc1 c ++ qt r)) pre.length) (by rcases h0 with h | h; exact .inr (.inl h); exact .inr (.inr h.1))
    have hne : ¬ (pk (pre ++ qt (c :: r)) pre.length = 256 ∨ pk (pre ++ qt (c :: r)) pre.length = 124 ∨ pk (pre ++ qt (c :: r)) pre.length = 41) := by
      show ¬ (pk (pre ++ (enc1 c ++ qt r)) pre.length = 256 ∨ pk (pre ++ (enc1 c ++ qt r)) pre.length = 124 ∨ pk (pre ++ (enc1 c ++ qt r)) pre.length = 41)
      rintro (h | h | h)
      · rcases h0 with h0 | h0 <;> omega
      · exact h1.2.2.2.1 h
      · exact h1.2.2.2.2.1 h
    rw [if_neg hne]
    have hf := factor_enc pre r c hc hr G
    have hf2 : factor (pre ++ qt (c :: r)) 42 G pre.length = some (single c, pre.length + (enc1 c).length) := hf
    rw [hf2]
    simp only
    have ih := way_q G r (l ++ [single c]) m (pre ++ enc1 c) (by simp at hm; omega) hr
    rw [List.append_assoc, List.length_append] at ih
    have e : pre ++ qt (c :: r) = pre ++ (enc1 c ++ qt r) := rfl
    rw [e, ih]
    simp
  | [], _, 0, _, h, _ => by omega
  | _ :: _, _, 0, _, h, _ => by omega
theorem qt_len : ∀ S : List Nat, (qt S).length ≤ 2 * S.length
  | [] => by simp [qt]
  | c :: r => by have := qt_len r; have := enc_len c; rw [qt, List.length_append, List.length_cons]; omega
theorem plain_parse (S : List Nat) (h : ∀ c ∈ S, c < 256) (hl : S.length ≤ 20) : parse (qt S) = some (joined 2 (S.map single)) := by
  have hq := qt_len S
  unfold parse
  rw [if_neg (by omega)]
  have hw := way_q (group (qt S) 42 8) S [] 42 [] (by omega) h
  simp only [List.nil_append, List.length_nil] at hw
  have hend : ¬ pk (qt S) (qt S).length = 124 := by
    have := pk_at (qt S) []
    rw [List.append_nil] at this
    rw [this]
    decide
  have e : Pz.ways (qt S) 42 (group (qt S) 42 8) 42 [] 0 = some (joined 2 (S.map single), (qt S).length) := by
    rw [show (42 : Nat) = 41 + 1 from rfl, Pz.ways]
    rw [hw]
    simp only
    rw [if_neg hend]
    rfl
  rw [e]
  simp
theorem has_one : ∀ c, c < 256 → ∀ x, x < 256 → hasB (put none4 c 0) (put none4 c 1) (put none4 c 2) (put none4 c 3) x = (x == c) := by decide +kernel
theorem mt_single {U : List Nat} {c i j : Nat} (hc : c < 256) (hU : ∀ k, U.getD k 0 < 256) : mt U (single c) i j ↔ i < U.length ∧ j = i + 1 ∧ U.getD i 0 = c := by
  unfold single setOf
  rw [Rx.mt, if_pos rfl, has_one c hc _ (hU i)]
  simp
/-- The text r stands in U at i. -/
def Stands (U r : List Nat) (i : Nat) : Prop := i + r.length ≤ U.length ∧ ∀ k, k < r.length → U.getD (i + k) 0 = r.getD k 0
theorem mt_row {U : List Nat} (hU : ∀ k, U.getD k 0 < 256) : ∀ {r : List Nat} {i j : Nat}, (∀ c ∈ r, c < 256) → i ≤ U.length → (mtSeq U (r.map single) i j ↔ j = i + r.length ∧ Stands U r i)
  | [], i, j, _, hi => by
    rw [List.map_nil, mtSeq]
    constructor
    · rintro rfl; exact ⟨rfl, by simpa using hi, fun k hk => by simp at hk⟩
    · rintro ⟨h, _⟩; simpa using h.symm
  | c :: r, i, j, hb, hi => by
    have hc : c < 256 := hb c (by simp)
    have hr : ∀ c ∈ r, c < 256 := fun x hx => hb x (by simp [hx])
    rw [List.map_cons, mtSeq]
    constructor
    · rintro ⟨m, h1, h2⟩
      obtain ⟨h3, rfl, h5⟩ := (mt_single hc hU).1 h1
      obtain ⟨rfl, h6, h7⟩ := (mt_row hU hr (by omega)).1 h2
      refine ⟨by simp; omega, by simp; omega, fun k hk => ?_⟩
      cases k with
      | zero => simpa using h5
      | succ k => have := h7 k (by simpa using hk); rw [show i + (k + 1) = i + 1 + k by omega, this]; simp
    · rintro ⟨rfl, h6, h7⟩
      have h0 := h7 0 (by simp)
      simp at h6 h0
      refine ⟨i + 1, (mt_single hc hU).2 ⟨by omega, rfl, by simpa using h0⟩, (mt_row hU hr (by omega)).2 ⟨by simp; omega, by omega, fun k hk => ?_⟩⟩
      have := h7 (k + 1) (by simpa using hk)
      rw [show i + 1 + k = i + (k + 1) by omega, this]; simp
theorem mt_joined {U : List Nat} {l : List Rx} {i j : Nat} : mt U (joined 2 l) i j ↔ mtSeq U l i j := by
  by_cases h : l.length = 1
  · obtain ⟨x, rfl⟩ := List.length_eq_one_iff.1 h
    show mt U x i j ↔ _
    rw [mtSeq]
    constructor
    · intro h; exact ⟨j, h, by rw [mtSeq]⟩
    · rintro ⟨m, h1, h2⟩
      rw [mtSeq] at h2
      rw [← h2]; exact h1
  · rw [joined_two h, Rx.mt]
    simp
end Go.Proofs.Yteifjiadgbgkbaa
