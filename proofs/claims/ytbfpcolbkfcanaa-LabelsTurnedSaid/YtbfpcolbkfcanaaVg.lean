/-
  What vint.Get and the reference's Get do, for all bytes: they tell 'dec' of them, and leave memory as it is.
-/
import Derived.Test.YtbfpcolbkfcanaaVp
namespace Go.Proofs.Ytbfpcolbkfcanaa
open Go.RowKit

def getRes : Option (Nat × Nat) → Value
  | none => .tuple #[.int .u64 0, .int .i64 0, .bool false]
  | some (n, k) => .tuple #[.int .u64 (n : Int), .int .i64 (k : Int), .bool true]

def GetInv (l : List Nat) (n i : Value) : Prop := ∃ k m acc : Nat, k ≤ 10 ∧ k ≤ l.length ∧ i = .int .i64 (k : Int) ∧ n = .int .u64 (m : Int) ∧ Vm.GetRel l k m acc

theorem shortest_any (c i : Int) (w : World) : Calls Try.prog 49 #[.int .u8 c, .int .i64 i] w fun e w' => e = .returned (.bool (c != 0 || i == 0)) ∧ w = w' := by
  by_cases h : c = 0
  · subst h
    go_enter Try.func49, Try.ntmps49
    go_wp2
    go_ret
    exact ⟨by simp, rfl⟩
  · have h1 : (c != 0) = true := by simpa using h
    go_enter Try.func49, Try.ntmps49
    go_wp2
    go_ret
    exact ⟨by simp [h], rfl⟩

theorem overflows_any (c i : Int) (w : World) : Calls Try.prog 50 #[.int .u8 c, .int .i64 i] w fun e w' => e = .returned (.bool (i == 9 && decide (1 < c))) ∧ w = w' := by
  by_cases h : i = 9
  · subst h
    go_enter Try.func50, Try.ntmps50
    go_wp2
    go_ret
    exact ⟨by simp, rfl⟩
  · have h1 : (i == 9) = false := by simpa using h
    go_enter Try.func50, Try.ntmps50
    go_wp2
    go_ret
    exact ⟨by simp [h], rfl⟩

theorem or_val {m x k : Nat} (hm : m < 128 ^ k) (hf : m + x * 128 ^ k < 18446744073709551616) : bits .or .u64 (m : Int) (IntKind.u64.wrap ((x : Int) * 2 ^ (7 * k))) = ((m + x * 128 ^ k : Nat) : Int) := by
  have e : (x : Int) * 2 ^ (7 * k) = ((x * 128 ^ k : Nat) : Int) := by rw [Vm.pow128]; simp
  have e2 : IntKind.u64.wrap ((x * 128 ^ k : Nat) : Int) = ((x * 128 ^ k : Nat) : Int) := by rw [IntKind.wrap_u64]; omega
  rw [e, e2, u64_or_nat _ _ (by omega) (by omega), Vm.or_add hm]
theorem or_some {l : List Nat} {k m acc c : Nat} (h : Vm.GetRel l k m acc) (hk : k < 10) (h1 : 128 ≤ c) (h2 : c < 256) :
    ∃ m' : Nat, Vm.Fits m' ∧ (k ≤ 8 → m' = m + (c - 128) * 128 ^ k) ∧ bits .or .u64 (m : Int) (IntKind.u64.wrap ((c : Int) % 128 * 2 ^ (7 * k))) = (m' : Int) := by
  have ec : (c : Int) % 128 = ((c - 128 : Nat) : Int) := by omega
  rw [ec]
  obtain ⟨e, f⟩ := h.2.1 (by omega)
  rw [← e] at f
  by_cases h8 : k ≤ 8
  · have g := Vm.small_fits (x := c - 128) h8 (by omega) f
    exact ⟨m + (c - 128) * 128 ^ k, by unfold Vm.Fits; omega, fun _ => rfl, or_val f (by omega)⟩
  · have lo := bits_lo_u64 .or (m : Int) (IntKind.u64.wrap (((c - 128 : Nat) : Int) * 2 ^ (7 * k)))
    have hi := bits_hi_u64 .or (m : Int) (IntKind.u64.wrap (((c - 128 : Nat) : Int) * 2 ^ (7 * k)))
    generalize bits .or .u64 (m : Int) (IntKind.u64.wrap (((c - 128 : Nat) : Int) * 2 ^ (7 * k))) = z at lo hi
    exact ⟨z.toNat, by unfold Vm.Fits; omega, fun h => absurd h h8, by omega⟩
theorem get_step {l : List Nat} {k m acc c : Nat} (h : Vm.GetRel l k m acc) (hk : k < 10) (hl : k < l.length) (hc : l.getD k 0 = c) (h1 : 128 ≤ c) (h2 : c < 256) :
    GetInv l (.int .u64 (bits .or .u64 (m : Int) (IntKind.u64.wrap ((c : Int) % 128 * 2 ^ (7 * k))))) (.int .i64 ((k : Int) + 1)) := by
  obtain ⟨m', hf, he, hv⟩ := or_some h hk h1 h2
  rw [hv]
  subst hc
  exact ⟨k + 1, m', _, by omega, by omega, rfl, rfl, Vm.getRel_step h hk hl h1 h2 m' hf he⟩
theorem get_good {l : List Nat} {k m acc c : Nat} (h : Vm.GetRel l k m acc) (hk : k < 10) (hl : k < l.length) (hc : l.getD k 0 = c) (h1 : c < 128) (hb : ¬ ((c = 0 ∧ k ≠ 0) ∨ (k = 9 ∧ 1 < c))) :
    Ending.returned (.tuple #[.int .u64 (bits .or .u64 (m : Int) (IntKind.u64.wrap ((c : Int) % 128 * 2 ^ (7 * k)))), .int .i64 ((k : Int) + 1), .bool true]) = .returned (getRes (Vm.dec l)) := by
  have ec : (c : Int) % 128 = (c : Int) := by omega
  obtain ⟨e, f⟩ := h.2.1 (by omega)
  rw [← e] at f
  have g : m + c * 128 ^ k < 18446744073709551616 := by
    by_cases h8 : k ≤ 8
    · have := Vm.small_fits (x := c) h8 h1 f; omega
    · obtain rfl : k = 9 := by omega
      exact Vm.nine_fits (by omega) f
  rw [ec, or_val f g]
  subst hc
  rw [Vm.getRel_good h hk hl h1 hb]
  simp [getRes]

set_option maxRecDepth 100000 in
set_option maxHeartbeats 400000 in
theorem get_any (l : List Nat) (a : Option Addr) (cap : Nat) (w : World) (hl : l.length ≤ maxLen) (hb : IsBytes w a l) :
    Calls Try.prog 37 #[.slice a l.length cap] w fun e w' => e = .returned (getRes (Vm.dec l)) ∧ w = w' := by
  unfold maxLen at hl
  obtain ⟨hlt, hbb⟩ := hb
  have HB := Lib.hid hbb
  have HL := Lib.hid hlt
  clear hbb hlt
  go_enter Try.func37, Try.ntmps37
  go_wp2
  go_loop [5, 6] (fun n i => GetInv l n i) (fun _ i => 10 - (intOf i).toNat)
  case atStart => exact ⟨0, 0, 0, by omega, by omega, rfl, rfl, Vm.getRel_start l⟩
  case round =>
    obtain ⟨k, m, acc, hk, hkl, rfl, rfl, hrel⟩ := hrel
    have HR := Lib.hid hrel
    clear hrel
    by_cases h : k < l.length ∧ k < 10
    · obtain ⟨h1, h2⟩ := h
      obtain ⟨b, off, rfl, hc⟩ := HB.out (by omega)
      have hcell := hc k h1
      clear hc
      have hc2 := HL.out k
      generalize hcv : l.getD k 0 = c at hcell hc2
      have HC := Lib.hid hcv
      clear hcv
      by_cases h3 : 128 ≤ c
      · have R := get_step HR.out h2 h1 HC.out h3 hc2
        go_wp2
        go_round
        case rel => exact R
        case measure => simp [intOf]; omega
      · by_cases h4 : (c = 0 ∧ k ≠ 0) ∨ (k = 9 ∧ 1 < c)
        · have R : Hid (getRes (Vm.dec l) = getRes none) := by rw [Vm.getRel_bad HR.out h2 h1 (by rw [HC.out]; omega) (by rw [HC.out]; exact h4)]; rfl
          rcases h4 with ⟨h5, h6⟩ | ⟨h5, h6⟩
          · have hs : (((c : Int) != 0 || (k : Int) == 0)) = false := by simp; omega
            clear h5 h6
            go_wp2_with (go_at_call 49; refine (shortest_any _ _ _).mono ?_; rw [hs]; rintro e w' ⟨rfl, rfl⟩)
            go_ret3
            exact ⟨by rw [R.out]; rfl, rfl⟩
          · have hs : (((c : Int) != 0 || (k : Int) == 0)) = true := by simp; omega
            have ho : ((k : Int) == 9 && decide (1 < (c : Int))) = true := by simp; omega
            clear h5 h6
            go_wp2_with (first | (go_at_call 49; refine (shortest_any _ _ _).mono ?_; rw [hs]; rintro e w' ⟨rfl, rfl⟩) | (go_at_call 50; refine (overflows_any _ _ _).mono ?_; rw [ho]; rintro e w' ⟨rfl, rfl⟩))
            go_ret3
            exact ⟨by rw [R.out]; rfl, rfl⟩
        · have R := Lib.hid (get_good HR.out h2 h1 HC.out (by omega) h4)
          have hs : (((c : Int) != 0 || (k : Int) == 0)) = true := by simp; omega
          have ho : ((k : Int) == 9 && decide (1 < (c : Int))) = false := by simp; omega
          clear h4
          go_wp2_with (first | (go_at_call 49; refine (shortest_any _ _ _).mono ?_; rw [hs]; rintro e w' ⟨rfl, rfl⟩) | (go_at_call 50; refine (overflows_any _ _ _).mono ?_; rw [ho]; rintro e w' ⟨rfl, rfl⟩))
          go_ret3
          exact ⟨R.out, rfl⟩
    · have R : Hid (getRes (Vm.dec l) = getRes none) := by rw [Vm.getRel_out HR.out (by omega)]; rfl
      by_cases h1 : k < l.length
      · have h2 : ¬ k < 10 := by omega
        go_wp2
        go_ret3
        exact ⟨by rw [R.out]; rfl, rfl⟩
      · have hd : decide ((k : Int) < (l.length : Int)) = false := by simp; omega
        go_wp2
        go_ret3
        exact ⟨by rw [R.out]; rfl, rfl⟩

theorem get_late {l : List Nat} {k m acc c : Nat} (h : Vm.GetRel l k m acc) (hk : k < 10) (hl : k < l.length) (hc : l.getD k 0 = c) (h2 : c < 256) (h9 : k = 9 ∧ 1 < c % 128) : Vm.dec l = none := by
  subst hc
  by_cases h1 : l.getD k 0 < 128
  · exact Vm.getRel_bad h hk hl h1 (.inr ⟨h9.1, by omega⟩)
  · exact Vm.getRel_out (Vm.getRel_step h hk hl (by omega) h2 0 (by unfold Vm.Fits; omega) (fun h8 => by omega)) (.inl (by omega))

set_option maxRecDepth 100000 in
set_option maxHeartbeats 400000 in
theorem rget_any (l : List Nat) (a : Option Addr) (cap : Nat) (w : World) (hl : l.length ≤ maxLen) (hb : IsBytes w a l) :
    Calls Try.prog 39 #[.slice a l.length cap] w fun e w' => e = .returned (getRes (Vm.dec l)) ∧ w = w' := by
  unfold maxLen at hl
  obtain ⟨hlt, hbb⟩ := hb
  have HB := Lib.hid hbb
  have HL := Lib.hid hlt
  clear hbb hlt
  go_enter Try.func39, Try.ntmps39
  go_wp2
  go_loop [5, 6] (fun n i => GetInv l n i) (fun _ i => 10 - (intOf i).toNat)
  case atStart => exact ⟨0, 0, 0, by omega, by omega, rfl, rfl, Vm.getRel_start l⟩
  case round =>
    obtain ⟨k, m, acc, hk, hkl, rfl, rfl, hrel⟩ := hrel
    have HR := Lib.hid hrel
    clear hrel
    by_cases h : k < l.length ∧ k < 10
    · obtain ⟨h1, h2⟩ := h
      obtain ⟨b, off, rfl, hc⟩ := HB.out (by omega)
      have hcell := hc k h1
      clear hc
      have hc2 := HL.out k
      generalize hcv : l.getD k 0 = c at hcell hc2
      have HC := Lib.hid hcv
      clear hcv
      by_cases h9 : k = 9 ∧ 1 < c % 128
      · have R : Hid (getRes (Vm.dec l) = getRes none) := by rw [get_late HR.out h2 h1 HC.out hc2 h9]; rfl
        have e9 : ((k : Int) == 9) = true := by simp; omega
        have d9 : (1 : Int) < (c : Int) % 128 := by omega
        clear h9
        go_wp2
        go_ret3
        exact ⟨by rw [R.out]; rfl, rfl⟩
      · by_cases h3 : 128 ≤ c
        · have R := get_step HR.out h2 h1 HC.out h3 hc2
          by_cases hk9 : k = 9
          · have e9 : ((k : Int) == 9) = true := by simp; omega
            have d9 : ¬ (1 : Int) < (c : Int) % 128 := by omega
            clear h9 hk9
            go_wp2
            go_round
            case rel => exact R
            case measure => simp [intOf]; omega
          · have e9 : ((k : Int) == 9) = false := by simp; omega
            clear h9 hk9
            go_wp2
            go_round
            case rel => exact R
            case measure => simp [intOf]; omega
        · have d9 : ¬ ((k : Int) = 9 ∧ (1 : Int) < (c : Int) % 128) := by omega
          obtain ⟨b9, e9, f9⟩ : ∃ b9, ((k : Int) == 9) = b9 ∧ (b9 = true → ¬ (1 : Int) < (c : Int) % 128) := ⟨_, rfl, fun h => by have := beq_iff_eq.1 h; omega⟩
          by_cases h4 : c = 0 ∧ k ≠ 0
          · have R : Hid (getRes (Vm.dec l) = getRes none) := by rw [Vm.getRel_bad HR.out h2 h1 (by rw [HC.out]; omega) (by rw [HC.out]; exact .inl h4)]; rfl
            have z0 : ((c : Int) % 128 == 0) = true := by simp; omega
            have z1 : (0 : Int) < (k : Int) := by omega
            clear h4 h9 d9
            cases b9
            · clear f9
              go_wp2
              go_ret3
              exact ⟨by rw [R.out]; rfl, rfl⟩
            · have g9 := f9 rfl
              clear f9
              go_wp2
              go_ret3
              exact ⟨by rw [R.out]; rfl, rfl⟩
          · have R := Lib.hid (get_good HR.out h2 h1 HC.out (by omega) (by omega))
            obtain ⟨b0, z0, f0⟩ : ∃ b0, ((c : Int) % 128 == 0) = b0 ∧ (b0 = true → ¬ (0 : Int) < (k : Int)) := ⟨_, rfl, fun h => by have := beq_iff_eq.1 h; omega⟩
            clear h4 h9 d9
            cases b9
            · clear f9
              cases b0
              · clear f0
                go_wp2
                go_ret3
                exact ⟨R.out, rfl⟩
              · have g0 := f0 rfl
                clear f0
                go_wp2
                go_ret3
                exact ⟨R.out, rfl⟩
            · have g9 := f9 rfl
              clear f9
              cases b0
              · clear f0
                go_wp2
                go_ret3
                exact ⟨R.out, rfl⟩
              · exact absurd (f0 rfl) (by have := beq_iff_eq.1 e9; omega)
    · have R : Hid (getRes (Vm.dec l) = getRes none) := by rw [Vm.getRel_out HR.out (by omega)]; rfl
      by_cases h1 : k < l.length
      · have h2 : ¬ k < 10 := by omega
        go_wp2
        go_ret3
        exact ⟨by rw [R.out]; rfl, rfl⟩
      · have hd : decide ((k : Int) < (l.length : Int)) = false := by simp; omega
        go_wp2
        go_ret3
        exact ⟨by rw [R.out]; rfl, rfl⟩

end Go.Proofs.Ytbfpcolbkfcanaa
