/-
  Values as texts: what the text of a word is, how digits are read; a text has one word at most. Plain mathematics; conditions: words have 64 bits.
-/
import Derived.Test.YtmdpeifpgnkbiaaDoorFn
import Derived.Test.YtmdpeifpgnkbiaaDoorVm
namespace Go.Proofs.YtmdpeifpgnkbiaaDoor.Fm

def hexd (d : Nat) : Nat := if d < 10 then 48 + d else 87 + d
/-- The digits of bytes. -/
def hex : List Nat → List Nat
  | [] => []
  | b :: r => hexd (b / 16) :: hexd (b % 16) :: hex r
/-- A digit's number; 16: it is none. -/
def nib (c : Nat) : Nat := if 48 ≤ c ∧ c ≤ 57 then c - 48 else if 97 ≤ c ∧ c ≤ 102 then c - 87 else 16
def unhex : List Nat → Option (List Nat)
  | [] => some []
  | [_] => none
  | a :: b :: r => if nib a < 16 ∧ nib b < 16 then (unhex r).map (fun t => (16 * nib a + nib b) :: t) else none
theorem nib_hexd {d : Nat} (h : d < 16) : nib (hexd d) = d := by
  unfold nib hexd
  split <;> split <;> (try split) <;> omega
theorem hexd_nib {c : Nat} (h : nib c < 16) : hexd (nib c) = c := by
  unfold nib at h ⊢
  unfold hexd
  split at h
  · rename_i h1; rw [if_pos h1]; split <;> omega
  · rename_i h1
    split at h
    · rename_i h2; rw [if_neg h1, if_pos h2]; split <;> omega
    · omega
theorem unhex_hex : ∀ {l : List Nat}, (∀ x ∈ l, x < 256) → unhex (hex l) = some l
  | [], _ => rfl
  | b :: r, h => by
    have hb := h b (by simp)
    have ih := unhex_hex (l := r) fun x hx => h x (by simp [hx])
    have h1 := nib_hexd (d := b / 16) (by omega)
    have h2 := nib_hexd (d := b % 16) (by omega)
    rw [hex, unhex, h1, h2, if_pos (by omega), ih]
    simp; omega
theorem hex_unhex : ∀ {s b : List Nat}, unhex s = some b → hex b = s ∧ (∀ x ∈ b, x < 256) ∧ s.length = 2 * b.length
  | [], b, h => by simp [unhex] at h; subst h; exact ⟨rfl, by simp, rfl⟩
  | [_], b, h => by simp [unhex] at h
  | a :: c :: r, b, h => by
    rw [unhex] at h
    split at h
    · rename_i hn
      cases hr : unhex r with
      | none => rw [hr] at h; simp at h
      | some t =>
        rw [hr] at h
        simp at h
        subst h
        obtain ⟨h1, h2, h3⟩ := hex_unhex hr
        have e1 : (16 * nib a + nib c) / 16 = nib a := by omega
        have e2 : (16 * nib a + nib c) % 16 = nib c := by omega
        refine ⟨?_, ?_, ?_⟩
        · rw [hex, e1, e2, hexd_nib hn.1, hexd_nib hn.2, h1]
        · intro x hx
          rcases List.mem_cons.1 hx with rfl | hx
          · omega
          · exact h2 x hx
        · simp [h3]; omega
    · cases h
theorem hex_len : ∀ l : List Nat, (hex l).length = 2 * l.length
  | [] => rfl
  | _ :: r => by rw [hex, List.length_cons, List.length_cons, hex_len r]; simp; omega

def tNan : List Nat := [110, 97, 110]
def tPinf : List Nat := [43, 105, 110, 102]
def tMinf : List Nat := [45, 105, 110, 102]
def tPz : List Nat := [43, 48]
def tMz : List Nat := [45, 48]
/-- The text of bits. -/
def txt (u : Nat) : List Nat := if u = 9221120237041090561 then tNan else if u = 9218868437227405312 then tPinf else if u = 18442240474082181120 then tMinf else if u = 0 then tPz else if u = 9223372036854775808 then tMz else hex (Vm.word u)
def plain (u : Nat) : Prop := u ≠ 9221120237041090561 ∧ u ≠ 9218868437227405312 ∧ u ≠ 18442240474082181120 ∧ u ≠ 0 ∧ u ≠ 9223372036854775808
theorem txt_plain {u : Nat} (h : plain u) : txt u = hex (Vm.word u) := by
  obtain ⟨h1, h2, h3, h4, h5⟩ := h
  unfold txt; rw [if_neg h1, if_neg h2, if_neg h3, if_neg h4, if_neg h5]
theorem word_bytes (n : Nat) : ∀ x ∈ Vm.word n, x < 256 := by
  intro x hx
  simp only [Vm.word, List.mem_cons, List.not_mem_nil, or_false] at hx
  omega
theorem txt_cases (u : Nat) : (u = 9221120237041090561 ∧ txt u = tNan) ∨ (u = 9218868437227405312 ∧ txt u = tPinf) ∨ (u = 18442240474082181120 ∧ txt u = tMinf) ∨ (u = 0 ∧ txt u = tPz) ∨ (u = 9223372036854775808 ∧ txt u = tMz) ∨ (plain u ∧ txt u = hex (Vm.word u)) := by
  by_cases h1 : u = 9221120237041090561
  · exact .inl ⟨h1, by rw [h1]; rfl⟩
  by_cases h2 : u = 9218868437227405312
  · exact .inr (.inl ⟨h2, by rw [h2]; rfl⟩)
  by_cases h3 : u = 18442240474082181120
  · exact .inr (.inr (.inl ⟨h3, by rw [h3]; rfl⟩))
  by_cases h4 : u = 0
  · exact .inr (.inr (.inr (.inl ⟨h4, by rw [h4]; rfl⟩)))
  by_cases h5 : u = 9223372036854775808
  · exact .inr (.inr (.inr (.inr (.inl ⟨h5, by rw [h5]; rfl⟩))))
  exact .inr (.inr (.inr (.inr (.inr ⟨⟨h1, h2, h3, h4, h5⟩, txt_plain ⟨h1, h2, h3, h4, h5⟩⟩))))
theorem hex_word_len (u : Nat) : (hex (Vm.word u)).length = 16 := by rw [hex_len]; rfl
/-- A text has one word at most. -/
theorem txt_inj {u v : Nat} (hu : W u) (hv : W v) (h : txt u = txt v) : u = v := by
  have lu := hex_word_len u
  have lv := hex_word_len v
  have hne : ∀ {x : Nat} {t : List Nat}, t.length < 16 → hex (Vm.word x) ≠ t := fun {x t} ht e => by
    have := hex_word_len x; rw [e] at this; omega
  rcases txt_cases u with ⟨rfl, e⟩ | ⟨rfl, e⟩ | ⟨rfl, e⟩ | ⟨rfl, e⟩ | ⟨rfl, e⟩ | ⟨pu, e⟩ <;>
    rcases txt_cases v with ⟨rfl, e'⟩ | ⟨rfl, e'⟩ | ⟨rfl, e'⟩ | ⟨rfl, e'⟩ | ⟨rfl, e'⟩ | ⟨pv, e'⟩ <;> have h' := e.symm.trans (h.trans e') <;>
    first
    | rfl
    | (exact absurd h' (by decide))
    | (exact absurd h'.symm (hne (by decide)))
    | (exact absurd h' (hne (by decide)))
    | skip
  have h1 := unhex_hex (word_bytes u)
  rw [h', unhex_hex (word_bytes v)] at h1
  have h2 := Option.some.inj h1
  have h3 := Vm.be_word u hu
  rw [← h2, Vm.be_word v hv] at h3
  exact h3.symm
/-- A text read: its value, or that there is none. -/
def IsRead (s : List Nat) (u : Nat) (ok : Bool) : Prop := (ok = true ∧ W u ∧ has u = true ∧ txt u = s) ∨ (ok = false ∧ u = 0 ∧ ∀ v, W v → has v = true → txt v ≠ s)
theorem read_unique {s : List Nat} {u v : Nat} {p q : Bool} (h1 : IsRead s u p) (h2 : IsRead s v q) : u = v ∧ p = q := by
  rcases h1 with ⟨rfl, a1, a2, a3⟩ | ⟨rfl, rfl, a1⟩ <;> rcases h2 with ⟨rfl, b1, b2, b3⟩ | ⟨rfl, rfl, b1⟩
  · exact ⟨txt_inj a1 b1 (a3.trans b3.symm), rfl⟩
  · exact absurd a3 (b1 u a1 a2)
  · exact absurd b3 (a1 v b1 b2)
  · exact ⟨rfl, rfl⟩
/-- Digits that are no text of a value. -/
theorem read_none {s : List Nat} (n1 : s ≠ tNan) (n2 : s ≠ tPinf) (n3 : s ≠ tMinf) (n4 : s ≠ tPz) (n5 : s ≠ tMz) (h : ∀ b, unhex s = some b → b.length = 8 → ∀ v, W v → has v = true → plain v → Vm.word v = b → False) :
    ∀ v, W v → has v = true → txt v ≠ s := by
  intro v hv hh e
  rcases txt_cases v with ⟨_, c⟩ | ⟨_, c⟩ | ⟨_, c⟩ | ⟨_, c⟩ | ⟨_, c⟩ | ⟨pl, c⟩ <;> rw [c] at e
  · exact n1 e.symm
  · exact n2 e.symm
  · exact n3 e.symm
  · exact n4 e.symm
  · exact n5 e.symm
  · have := unhex_hex (word_bytes v)
    rw [e] at this
    exact h _ this rfl v hv hh pl rfl
theorem word_be {b : List Nat} (h8 : b.length = 8) (hb : ∀ x ∈ b, x < 256) : Vm.word (Vm.be b) = b ∧ W (Vm.be b) := by
  match b, h8 with
  | [b0, b1, b2, b3, b4, b5, b6, b7], _ =>
    have h0 := hb b0 (by simp)
    have h1 := hb b1 (by simp)
    have h2 := hb b2 (by simp)
    have h3 := hb b3 (by simp)
    have h4 := hb b4 (by simp)
    have h5 := hb b5 (by simp)
    have h6 := hb b6 (by simp)
    have h7 := hb b7 (by simp)
    clear hb
    unfold W
    simp only [Vm.be, Vm.word, List.foldl, List.cons.injEq, and_true]
    omega
end Go.Proofs.YtmdpeifpgnkbiaaDoor.Fm
