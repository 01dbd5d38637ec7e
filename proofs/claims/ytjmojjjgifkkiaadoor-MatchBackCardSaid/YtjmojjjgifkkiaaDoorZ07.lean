/-
  What the program's byteBut does. Conditions: at most 100 bytes.
-/
import Derived.Test.YtjmojjjgifkkiaaDoorProg
import Derived.Test.YtjmojjjgifkkiaaDoorZ02
import Derived.Test.YtjmojjjgifkkiaaDoorZ03
import Derived.Test.YtjmojjjgifkkiaaDoorZ04
import Derived.Laws.MakeOwn
import Derived.Laws.OwnMore
import Derived.OwnWalk
import Derived.Deep.RegionHeld3
import Derived.Laws.CopyOwn
import Derived.Deep.QuietTactic
import Derived.BigQuiet
import Derived.Lib.Bytealg
import Derived.Laws.Externs
import Derived.Laws.AppendOwn
import Derived.WalkKit
import Derived.WalkSpells
import Derived.WalkLawsBesides
import Derived.Lib.Hide
import Derived.Below
import Derived.Lib.QuietBelow
import Derived.Laws.StructEq
import Derived.KernelRfl
namespace Go.Proofs.YtjmojjjgifkkiaaDoor
open Go.RowKit Go.Sort
open Pz

def sQ : ByteArray := ⟨#[124, 42, 43, 63, 40, 41, 91, 93, 46, 92, 94, 45]⟩
def sS : ByteArray := ⟨#[124, 42, 43, 63, 40, 41, 91, 93, 46, 92]⟩
def sI : ByteArray := ⟨#[92, 93, 91, 94, 45]⟩
def sW : ByteArray := ⟨#[124, 41]⟩
theorem mem_Q : ∀ c, c < 256 → mem sQ c = quotable c := by decide +kernel
theorem mem_S : ∀ c, c < 256 → mem sS c = special c := by decide +kernel
theorem mem_I : ∀ c, c < 256 → mem sI c = inside c := by decide +kernel
theorem mem_W : ∀ c, c < 256 → mem sW c = (c == 124 || c == 41) := by decide +kernel

/-- What a byte that was read is told as. -/
def byteRes : Option (Nat × Nat) → Value
  | none => .tuple #[.int .u8 0, .bool false]
  | some (c, _) => .tuple #[.int .u8 (c : Int), .bool true]
theorem byte1_lt {s : ByteArray} {but : Nat → Bool} {i c j : Nat} (h : byte1 (txt8 s) but i = some (c, j)) : c < 256 ∧ i < j ∧ j ≤ s.size := by
  unfold byte1 at h
  split at h
  · split at h
    · rename_i h1 h2
      have h3 : pk (txt8 s) (i + 1) ≠ 256 := by intro e; rw [e] at h2; simp [quotable, special] at h2
      have h4 := pk_in h3
      have h5 := pk_byte h4
      simp at h
      omega
    · simp at h
  · split at h
    · simp at h
    · rename_i h1 h2
      have h3 : pk (txt8 s) i ≠ 256 := fun e => h2 (.inl e)
      have h4 := pk_in h3
      have h5 := pk_byte h4
      simp at h
      omega
set_option maxRecDepth 100000 in
set_option maxHeartbeats 4000000 in
theorem bytebut_any (P i d : Nat) (q s : ByteArray) (but : Nat → Bool) (hq : ∀ c, c < 256 → mem q c = but c) (w : World) (h : Par w P s i d) :
    Calls Tryd.prog 118 #[.pointer (some ⟨P, 0, none⟩), .string q] w fun e w' => e = .returned (byteRes (byte1 (txt8 s) but i)) ∧ Stp P w w' ∧ ∃ j, Par w' P s j d ∧ ∀ c k, byte1 (txt8 s) but i = some (c, k) → k = j := by
  have H := Lib.hid h
  have hle := h.le
  have hsm := h.sm
  clear h
  obtain ⟨L, hL⟩ : ∃ L, s.size = L := ⟨_, rfl⟩
  by_cases hi : i < L
  · by_cases h92 : pk (txt8 s) i = 92
    · obtain ⟨k, hk⟩ : ∃ k, i + 1 = k := ⟨_, rfl⟩
      have SK : Hid (∀ W (h : Par W P s i d), Calls Tryd.prog 87 #[.pointer (some ⟨P, 0, none⟩), .int .u8 92] W fun e w' => e = .returned (.bool true) ∧ Par w' P s (k) d ∧ Stp P W w') := fun W h => by have := skip_any P i d 92 s W (by omega) h; rw [h92] at this; rw [← hk]; exact this
      obtain ⟨b, hb⟩ : ∃ b, (decide (i < s.size) && mem q (pk (txt8 s) i)) = b := ⟨_, rfl⟩
      have NX : Hid (∀ W (h : Par W P s i d), Calls Tryd.prog 102 #[.pointer (some ⟨P, 0, none⟩), .string q] W fun e w' => e = .returned (.bool b) ∧ ∃ n, w' = W.drewN n) := fun W h => by have := next_any P i d q s W h; rw [hb] at this; exact this
      by_cases hi2 : k < L
      · have TX := fun W => txt8_at W s k (by omega)
        have hpk : pk (txt8 s) k = (txt8 s).getD k 0 := pk_lt (by omega)
        have hb : pk (txt8 s) k < 256 := pk_byte (by omega)
        have hN : (decide (k < s.size) && mem sQ (pk (txt8 s) k)) = quotable (pk (txt8 s) k) := by rw [decide_eq_true (by omega), mem_Q _ hb]; rfl
        obtain ⟨x, hx⟩ : ∃ x, (txt8 s).getD k 0 = x := ⟨_, rfl⟩
        rw [hpk, hx] at hN
        simp only [hx] at TX
        rw [hx] at hpk
        have hge : decide ((k : Int) ≥ (L : Int)) = false := decide_eq_false (by omega)
        have hw1 : IntKind.i64.wrap ((k : Int) + 1) = ((k + 1 : Nat) : Int) := by rw [IntKind.wrap_i64]; omega
        have R : Hid (byte1 (txt8 s) but i = if quotable x = true then some (x, k + 1) else none) := by show _ = _; rw [show k + 1 = i + 2 by omega]; simp only [byte1, h92, hk, hpk, if_true]
        have NQ : Hid (∀ W (h : Par W P s k d), Calls Tryd.prog 102 #[.pointer (some ⟨P, 0, none⟩), .string sQ] W fun e w' => e = .returned (.bool (quotable x)) ∧ ∃ n, w' = W.drewN n) := fun W h => by have := next_any P k d sQ s W h; rw [hpk, hN] at this; exact this
        clear hN hpk hb h92 hx
        cases hqx : quotable x with
        | true =>
          rw [hqx] at NQ R
          rw [if_pos rfl] at R
          go_enter Tryd.func118, Tryd.ntmps118
          go_wp2_with fail
          refine (NX.out _ H.out).mono ?_
          rintro e w' ⟨rfl, n1, rfl⟩
          go_wp2_with fail
          refine (SK.out _ (H.out.drew n1)).mono ?_
          rintro e w2 ⟨rfl, H2, S2⟩
          have H2 := Lib.hid H2
          have S2 := Lib.hid ((Stp.refl P w).drew n1 |>.trans S2)
          go_wp2_with fail
          refine (NQ.out _ H2.out).mono ?_
          rintro e w' ⟨rfl, n2, rfl⟩
          have H3 := H2
          have S3 := S2
          have c0 := H2.out.c0
          have c1 := H2.out.c1
          have f1 := H2.out.fr 1
          have H4 := Lib.hid (fun q => (H3.out.drew q).put1 (k + 1) (by omega))
          go_wp2_with fail
          go_quiet (fail)
          go_wp2_with fail
          go_quiet (fail)
          go_wp2
          go_ret2
          exact ⟨by rw [R.out]; rfl, (S3.out.drew _).trans (Stp.put _ _ _), k + 1, H4.out _, fun c k e => by rw [R.out] at e; simp at e; omega⟩
        | false =>
          rw [hqx] at NQ R
          rw [if_neg (by simp)] at R
          go_enter Tryd.func118, Tryd.ntmps118
          go_wp2_with fail
          refine (NX.out _ H.out).mono ?_
          rintro e w' ⟨rfl, n1, rfl⟩
          go_wp2_with fail
          refine (SK.out _ (H.out.drew n1)).mono ?_
          rintro e w2 ⟨rfl, H2, S2⟩
          have H2 := Lib.hid H2
          have S2 := Lib.hid ((Stp.refl P w).drew n1 |>.trans S2)
          go_wp2_with fail
          refine (NQ.out _ H2.out).mono ?_
          rintro e w' ⟨rfl, n2, rfl⟩
          have H3 := H2
          have S3 := S2
          have c0 := H2.out.c0
          have c1 := H2.out.c1
          have f1 := H2.out.fr 1
          go_wp2_with fail
          go_quiet (fail)
          go_wp2
          go_ret2
          first
            | exact ⟨by rw [R.out]; rfl, S3.out.drew _, _, H3.out.drew _, fun c k e => by rw [R.out] at e; cases e⟩
            | exact ⟨by rw [R.out]; rfl, (S3.out.drew _).drew _, _, (H3.out.drew _).drew _, fun c k e => by rw [R.out] at e; cases e⟩
      · have hge : decide ((k : Int) ≥ (L : Int)) = true := decide_eq_true (by omega)
        have hpk : pk (txt8 s) k = 256 := pk_end (by omega)
        have R : Hid (byte1 (txt8 s) but i = none) := by show _ = _; simp only [byte1, h92, hk, hpk, if_true]; rfl
        have NQ : Hid (∀ W (h : Par W P s k d), Calls Tryd.prog 102 #[.pointer (some ⟨P, 0, none⟩), .string sQ] W fun e w' => e = .returned (.bool false) ∧ ∃ n, w' = W.drewN n) := fun W h => by have := next_any P k d sQ s W h; rw [decide_eq_false (by omega : ¬ k < s.size)] at this; exact this
        clear hpk h92 hb
        go_enter Tryd.func118, Tryd.ntmps118
        go_wp2_with fail
        refine (NX.out _ H.out).mono ?_
        rintro e w' ⟨rfl, n1, rfl⟩
        go_wp2_with fail
        refine (SK.out _ (H.out.drew n1)).mono ?_
        rintro e w2 ⟨rfl, H2, S2⟩
        have H2 := Lib.hid H2
        have S2 := Lib.hid ((Stp.refl P w).drew n1 |>.trans S2)
        go_wp2_with fail
        refine (NQ.out _ H2.out).mono ?_
        rintro e w' ⟨rfl, n2, rfl⟩
        have H3 := H2
        have S3 := S2
        have c0 := H2.out.c0
        have c1 := H2.out.c1
        have f1 := H2.out.fr 1
        go_wp2_with fail
        go_quiet (fail)
        go_wp2
        go_ret2
        first
          | exact ⟨by rw [R.out]; rfl, S3.out.drew _, _, H3.out.drew _, fun c k e => by rw [R.out] at e; cases e⟩
          | exact ⟨by rw [R.out]; rfl, (S3.out.drew _).drew _, _, (H3.out.drew _).drew _, fun c k e => by rw [R.out] at e; cases e⟩
    · have TX := fun W => txt8_at W s i (by omega)
      have hpk : pk (txt8 s) i = (txt8 s).getD i 0 := pk_lt (by omega)
      have hb : pk (txt8 s) i < 256 := pk_byte (by omega)
      have hN : (decide (i < s.size) && mem q (pk (txt8 s) i)) = but (pk (txt8 s) i) := by rw [decide_eq_true (by omega), hq _ hb]; rfl
      obtain ⟨x, hx⟩ : ∃ x, (txt8 s).getD i 0 = x := ⟨_, rfl⟩
      rw [hpk, hx] at hN
      simp only [hx] at TX
      rw [hx] at hpk
      rw [hpk] at h92 hb
      have hge : decide ((i : Int) ≥ (L : Int)) = false := decide_eq_false (by omega)
      have hw1 : IntKind.i64.wrap ((i : Int) + 1) = ((i + 1 : Nat) : Int) := by rw [IntKind.wrap_i64]; omega
      have R : Hid (byte1 (txt8 s) but i = if but x = true then none else some (x, i + 1)) := by
        show _ = _
        simp only [byte1, hpk, if_neg h92]
        have : ¬ x = 256 := by omega
        simp [this]
      have SK : Hid (∀ W (h : Par W P s i d), Calls Tryd.prog 87 #[.pointer (some ⟨P, 0, none⟩), .int .u8 92] W fun e w' => e = .returned (.bool false) ∧ Par w' P s (i) d ∧ Stp P W w') := fun W h => by
        have := skip_any P i d 92 s W (by omega) h
        rw [hpk, if_neg h92, (by simpa using h92 : (x == 92) = false)] at this
        exact this
      have NX : Hid (∀ W (h : Par W P s i d), Calls Tryd.prog 102 #[.pointer (some ⟨P, 0, none⟩), .string q] W fun e w' => e = .returned (.bool (but x)) ∧ ∃ n, w' = W.drewN n) := fun W h => by have := next_any P i d q s W h; rw [hpk, hN] at this; exact this
      clear hN hpk hb h92 hx
      cases hqx : but x with
      | true =>
        rw [hqx] at NX R
        rw [if_pos rfl] at R
        go_enter Tryd.func118, Tryd.ntmps118
        go_wp2_with fail
        refine (NX.out _ H.out).mono ?_
        rintro e w' ⟨rfl, n1, rfl⟩
        go_wp2_with fail
        refine (SK.out _ (H.out.drew n1)).mono ?_
        rintro e w2 ⟨rfl, H2, S2⟩
        have H2 := Lib.hid H2
        have S2 := Lib.hid ((Stp.refl P w).drew n1 |>.trans S2)
        have H3 := H2
        have S3 := S2
        have c0 := H2.out.c0
        have c1 := H2.out.c1
        have f1 := H2.out.fr 1
        go_wp2_with fail
        go_quiet (fail)
        go_wp2
        go_ret2
        first
          | exact ⟨by rw [R.out]; rfl, S3.out.drew _, _, H3.out.drew _, fun c k e => by rw [R.out] at e; cases e⟩
          | exact ⟨by rw [R.out]; rfl, (S3.out.drew _).drew _, _, (H3.out.drew _).drew _, fun c k e => by rw [R.out] at e; cases e⟩
      | false =>
        rw [hqx] at NX R
        rw [if_neg (by simp)] at R
        go_enter Tryd.func118, Tryd.ntmps118
        go_wp2_with fail
        refine (NX.out _ H.out).mono ?_
        rintro e w' ⟨rfl, n1, rfl⟩
        go_wp2_with fail
        refine (SK.out _ (H.out.drew n1)).mono ?_
        rintro e w2 ⟨rfl, H2, S2⟩
        have H2 := Lib.hid H2
        have S2 := Lib.hid ((Stp.refl P w).drew n1 |>.trans S2)
        have H3 := H2
        have S3 := S2
        have c0 := H2.out.c0
        have c1 := H2.out.c1
        have f1 := H2.out.fr 1
        have H4 := Lib.hid (fun q => (H3.out.drew q).put1 (i + 1) (by omega))
        go_wp2_with fail
        go_quiet (fail)
        go_wp2_with fail
        go_quiet (fail)
        go_wp2
        go_ret2
        exact ⟨by rw [R.out]; rfl, (S3.out.drew _).trans (Stp.put _ _ _), i + 1, H4.out _, fun c k e => by rw [R.out] at e; simp at e; omega⟩
  · have hge : decide ((i : Int) ≥ (L : Int)) = true := decide_eq_true (by omega)
    have hpk : pk (txt8 s) i = 256 := pk_end (by omega)
    have R : Hid (byte1 (txt8 s) but i = none) := by show _ = _; simp [byte1, hpk]
    have SK : Hid (∀ W (h : Par W P s i d), Calls Tryd.prog 87 #[.pointer (some ⟨P, 0, none⟩), .int .u8 92] W fun e w' => e = .returned (.bool false) ∧ Par w' P s (i) d ∧ Stp P W w') := fun W h => by
      have := skip_any P i d 92 s W (by omega) h
      rw [hpk] at this
      exact this
    have NX : Hid (∀ W (h : Par W P s i d), Calls Tryd.prog 102 #[.pointer (some ⟨P, 0, none⟩), .string q] W fun e w' => e = .returned (.bool false) ∧ ∃ n, w' = W.drewN n) := fun W h => by have := next_any P i d q s W h; rw [decide_eq_false (by omega : ¬ i < s.size)] at this; exact this
    clear hpk
    go_enter Tryd.func118, Tryd.ntmps118
    go_wp2_with fail
    refine (NX.out _ H.out).mono ?_
    rintro e w' ⟨rfl, n1, rfl⟩
    go_wp2_with fail
    refine (SK.out _ (H.out.drew n1)).mono ?_
    rintro e w2 ⟨rfl, H2, S2⟩
    have H2 := Lib.hid H2
    have S2 := Lib.hid ((Stp.refl P w).drew n1 |>.trans S2)
    have H3 := H2
    have S3 := S2
    have c0 := H2.out.c0
    have c1 := H2.out.c1
    have f1 := H2.out.fr 1
    go_wp2_with fail
    go_quiet (fail)
    go_wp2
    go_ret2
    first
      | exact ⟨by rw [R.out]; rfl, S3.out.drew _, _, H3.out.drew _, fun c k e => by rw [R.out] at e; cases e⟩
      | exact ⟨by rw [R.out]; rfl, (S3.out.drew _).drew _, _, (H3.out.drew _).drew _, fun c k e => by rw [R.out] at e; cases e⟩

end Go.Proofs.YtjmojjjgifkkiaaDoor
