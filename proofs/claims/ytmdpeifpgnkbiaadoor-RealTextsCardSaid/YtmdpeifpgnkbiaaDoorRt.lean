/-
  Bytes and values as texts: what the reference's nibble, Hex, UnHex, GetWord, Text and ReadValue do. Conditions: lengths fit.
-/
import Derived.Test.YtmdpeifpgnkbiaaDoorRl
import Derived.Test.YtmdpeifpgnkbiaaDoorRh
import Derived.Test.YtmdpeifpgnkbiaaDoorFt
import Derived.Test.YtmdpeifpgnkbiaaDoorPw
namespace Go.Proofs.YtmdpeifpgnkbiaaDoor
open Go.RowKit

theorem dig_at (w : World) (d : Nat) (h : d < 16) : (Instr.index 9 (.string ⟨#[48, 49, 50, 51, 52, 53, 54, 55, 56, 57, 97, 98, 99, 100, 101, 102]⟩) (.int .u8 (d : Int))).run Tryd.prog w = .ok (.int .u8 ((Fm.hexd d : Nat) : Int)) w := by
  rcases (by omega : d = 0 ∨ d = 1 ∨ d = 2 ∨ d = 3 ∨ d = 4 ∨ d = 5 ∨ d = 6 ∨ d = 7 ∨ d = 8 ∨ d = 9 ∨ d = 10 ∨ d = 11 ∨ d = 12 ∨ d = 13 ∨ d = 14 ∨ d = 15) with rfl | rfl | rfl | rfl | rfl | rfl | rfl | rfl | rfl | rfl | rfl | rfl | rfl | rfl | rfl | rfl <;> kernel_rfl
theorem Fm.hex_app : ∀ (a b : List Nat), Fm.hex (a ++ b) = Fm.hex a ++ Fm.hex b
  | [], _ => rfl
  | x :: r, b => by rw [List.cons_append, Fm.hex, Fm.hex, Fm.hex_app r b]; rfl
theorem Fm.hex_step (l : List Nat) (k : Nat) (h : k < l.length) : Fm.hex (l.take (k + 1)) = Fm.hex (l.take k) ++ [Fm.hexd (l.getD k 0 / 16), Fm.hexd (l.getD k 0 % 16)] := by
  rw [Vm.take_snoc l k h, Fm.hex_app]; rfl
theorem Fm.hexd_lt {d : Nat} (h : d < 16) : Fm.hexd d < 256 := by unfold Fm.hexd; split <;> omega
theorem Fm.hex_byte : ∀ {l : List Nat}, (∀ x ∈ l, x < 256) → ∀ x ∈ Fm.hex l, x < 256
  | [], _, x, hx => by cases hx
  | b :: r, h, x, hx => by
    have hb := h b (by simp)
    rw [Fm.hex] at hx
    rcases List.mem_cons.1 hx with rfl | hx
    · exact Fm.hexd_lt (by omega)
    · rcases List.mem_cons.1 hx with rfl | hx
      · exact Fm.hexd_lt (by omega)
      · exact Fm.hex_byte (fun y hy => h y (by simp [hy])) x hx
theorem two_new (w : World) (a b : Value) : ∀ j u, [a, b][j]? = some u → (w.alloc (.cells #[a, b] 5)).cell? ((⟨w.heap.size, 0, none⟩ : Addr).add j) = some u := by
  intro j u hu
  have e : (⟨w.heap.size, 0, none⟩ : Addr).add j = ⟨w.heap.size, j, none⟩ := by unfold Addr.add; split <;> simp_all
  rw [e, cell_of_row _ w.heap.size j _ 5 (0, 0) (heap_alloc_new w _)]
  simpa using hu
theorem two8 (x y : Int) : ∀ u ∈ [Value.int .u8 x, Value.int .u8 y], u.oneCell' = true := by intro u hu; simp at hu; rcases hu with rfl | rfl <;> rfl

set_option maxRecDepth 100000 in
set_option maxHeartbeats 1000000 in
theorem rhex_any (l : List Nat) (A : Option Addr) (cap : Nat) (w : World) (hl : l.length ≤ 1099511627776) (hb : IsBytes w A l) :
    Calls Tryd.prog 52 #[.slice A l.length cap] w fun e w' => e = .returned (.string (strOf (Fm.hex l))) ∧ Below w.heap.size w w' := by
  obtain ⟨i0, hi, hz0, hz1, hz2⟩ := info_parts Tryd.info5
  have HB := Lib.hid hb
  clear hb
  generalize hn : l.length = n at *
  have HN := Lib.hid hn
  clear hn
  go_enter Tryd.func52, Tryd.ntmps52
  go_wp2
  go_loopw [3, 4] (fun v i wr => ∃ k : Nat, k ≤ n ∧ i = .int .i64 (k : Int) ∧ wr.ownsRow w.heap.size 5 1 v (2 * k) (by8 (Fm.hex (l.take k))) ∧ Below w.heap.size w wr) (fun _ i _ => n - (intOf i).toNat)
  case atStart => exact ⟨0, by omega, rfl, World.ownsRow_nil _ _ _ _, Below.refl _ _⟩
  case round =>
    obtain ⟨k, hk, rfl, hown, hbel⟩ := hrel
    by_cases hkn : k < n
    · obtain ⟨b, off, rfl, _⟩ := HB.out.2 (by rw [HN.out]; omega)
      have HC : Hid (∀ W, Below w.heap.size w W → W.cell? ⟨b, off + k, none⟩ = some (.int .u8 ((l.getD k 0 : Nat) : Int))) := fun W hW => by
        obtain ⟨b', off', e, hc⟩ := (isBytes_below HB.out hW).2 (by rw [HN.out]; omega)
        injection e with e; injection e with e1 e2
        subst e1 e2
        exact hc k (by rw [HN.out]; exact hkn)
      have hc256 := HB.out.1 k
      have HS := Lib.hid (Fm.hex_step l k (by rw [HN.out]; exact hkn))
      generalize l.getD k 0 = c at *
      have D1 := Lib.hid (fun W => dig_at W (c / 16) (by omega))
      have D2 := Lib.hid (fun W => dig_at W (c % 16) (by omega))
      have e1 : (c : Int) / 16 = ((c / 16 : Nat) : Int) := rfl
      have e2 : (c : Int) % 16 = ((c % 16 : Nat) : Int) := rfl
      have e3 : (c : Int).tmod 16 = ((c % 16 : Nat) : Int) := by rw [Int.tmod_eq_emod_of_nonneg (by omega)]; rfl
      have e4 : IntKind.u8.wrap ((c / 16 : Nat) : Int) = ((c / 16 : Nat) : Int) := by simp [IntKind.wrap, IntKind.bits, IntKind.signed]; omega
      generalize c / 16 = c1 at *
      generalize c % 16 = c2 at *
      go_wp2_with fail
      refine wp_region_held_drew (S := fun W => Below w.heap.size w W) (by kernel_rfl) hbel.drew (fun hHeld => ?_)
      refine held_take 0 11 (v := u3) rfl rfl (by kernel_rfl) (by kernel_rfl) (by kernel_rfl) (by rfl) (fun _ _ _ h => h) (by assumption) ?_ ?_
      · intro W hW
        go_simp
      simp only [List.setIfInBounds_toArray, List.set_cons_zero, List.set_cons_succ]
      refine held_take 1 12 (v := (.slice (some ⟨b, off, none⟩) n cap)) rfl rfl (by kernel_rfl) (by kernel_rfl) (by kernel_rfl) (by rfl) (fun _ _ _ h => h) (by assumption) ?_ ?_
      · intro W hW
        go_simp
      simp only [List.setIfInBounds_toArray, List.set_cons_zero, List.set_cons_succ]
      refine held_take 2 13 (v := (.int .i64 (k : Int))) rfl rfl (by kernel_rfl) (by kernel_rfl) (by kernel_rfl) (by rfl) (fun _ _ _ h => h) (by assumption) ?_ ?_
      · intro W hW
        go_simp
      simp only [List.setIfInBounds_toArray, List.set_cons_zero, List.set_cons_succ]
      refine held_take 3 14 (v := (.pointer (some ⟨b, off + k, none⟩))) rfl rfl (by kernel_rfl) (by kernel_rfl) (by kernel_rfl) (by rfl) (fun _ _ _ h => h) (by assumption) ?_ ?_
      · intro W hW
        go_simp
      simp only [List.setIfInBounds_toArray, List.set_cons_zero, List.set_cons_succ]
      refine held_take 4 15 (v := (.int .u8 (c : Int))) rfl rfl (by kernel_rfl) (by kernel_rfl) (by kernel_rfl) (by rfl) (fun _ _ _ h => h) (by assumption) ?_ ?_
      · intro W hW
        have cW := HC.out W hW
        go_simp
      simp only [List.setIfInBounds_toArray, List.set_cons_zero, List.set_cons_succ]
      refine held_take 5 16 (v := (.int .u8 ((c1 : Nat) : Int))) rfl rfl (by kernel_rfl) (by kernel_rfl) (by kernel_rfl) (by rfl) (fun _ _ _ h => h) (by assumption) ?_ ?_
      · intro W hW
        go_simp
      simp only [List.setIfInBounds_toArray, List.set_cons_zero, List.set_cons_succ]
      refine held_take 6 17 (v := (.int .u8 ((Fm.hexd c1 : Nat) : Int))) rfl rfl (by kernel_rfl) (by kernel_rfl) (by kernel_rfl) (by rfl) (fun _ _ _ h => h) (by assumption) ?_ ?_
      · intro W hW
        have dW := D1.out W
        go_simp
      simp only [List.setIfInBounds_toArray, List.set_cons_zero, List.set_cons_succ]
      refine held_take 7 18 (v := (.slice (some ⟨b, off, none⟩) n cap)) rfl rfl (by kernel_rfl) (by kernel_rfl) (by kernel_rfl) (by rfl) (fun _ _ _ h => h) (by assumption) ?_ ?_
      · intro W hW
        go_simp
      simp only [List.setIfInBounds_toArray, List.set_cons_zero, List.set_cons_succ]
      refine held_take 8 19 (v := (.int .i64 (k : Int))) rfl rfl (by kernel_rfl) (by kernel_rfl) (by kernel_rfl) (by rfl) (fun _ _ _ h => h) (by assumption) ?_ ?_
      · intro W hW
        go_simp
      simp only [List.setIfInBounds_toArray, List.set_cons_zero, List.set_cons_succ]
      refine held_take 9 20 (v := (.pointer (some ⟨b, off + k, none⟩))) rfl rfl (by kernel_rfl) (by kernel_rfl) (by kernel_rfl) (by rfl) (fun _ _ _ h => h) (by assumption) ?_ ?_
      · intro W hW
        go_simp
      simp only [List.setIfInBounds_toArray, List.set_cons_zero, List.set_cons_succ]
      refine held_take 10 21 (v := (.int .u8 (c : Int))) rfl rfl (by kernel_rfl) (by kernel_rfl) (by kernel_rfl) (by rfl) (fun _ _ _ h => h) (by assumption) ?_ ?_
      · intro W hW
        have cW := HC.out W hW
        go_simp
      simp only [List.setIfInBounds_toArray, List.set_cons_zero, List.set_cons_succ]
      refine held_take 11 22 (v := (.int .u8 ((c2 : Nat) : Int))) rfl rfl (by kernel_rfl) (by kernel_rfl) (by kernel_rfl) (by rfl) (fun _ _ _ h => h) (by assumption) ?_ ?_
      · intro W hW
        go_simp
      simp only [List.setIfInBounds_toArray, List.set_cons_zero, List.set_cons_succ]
      refine held_take 12 23 (v := (.int .u8 ((Fm.hexd c2 : Nat) : Int))) rfl rfl (by kernel_rfl) (by kernel_rfl) (by kernel_rfl) (by rfl) (fun _ _ _ h => h) (by assumption) ?_ ?_
      · intro W hW
        have dW := D2.out W
        go_simp
      simp only [List.setIfInBounds_toArray, List.set_cons_zero, List.set_cons_succ]
      generalize hx : ((Fm.hexd c1 : Nat) : Int) = x
      generalize hy : ((Fm.hexd c2 : Nat) : Int) = y
      have HX := Lib.hid hx
      have HY := Lib.hid hy
      clear hx hy
      have bA : Below w.heap.size w (wr.drew.alloc (.cells #[.int .u8 x, .int .u8 y] 5)) := hbel.drew.alloc hbel.size _
      have bO : Below wr.heap.size wr (wr.drew.alloc (.cells #[.int .u8 x, .int .u8 y] 5)) := ((Below.refl _ _).drew).alloc (Nat.le_refl _) _
      refine held_op 13 rfl (by kernel_rfl) (by rfl) ?_
      refine wp_run (v := .slice (some ⟨wr.heap.size, 0, none⟩) 2 2) (w' := wr.drew.alloc (.cells #[.int .u8 x, .int .u8 y] 5)) rfl (by go_simp) ⟨bA, ?_⟩
      simp only [List.setIfInBounds_toArray, List.set_cons_zero, List.set_cons_succ]
      have ownA : (wr.drew.alloc (.cells #[.int .u8 x, .int .u8 y] 5)).ownsRow w.heap.size 5 1 u3 (2 * k) (by8 (Fm.hex (l.take k))) := own_keep hown bO
      refine held_op 14 rfl (by kernel_rfl) (by rfl) ?_
      refine wp_append_own _ (.tmp 11) (.tmp 24) 62 rfl w.heap.size 5 i0 (.int .u8 0) 1 1 Tryd.underlying62 hi hz0 hz1 hz2 rfl (by decide) u3 (2 * k) _ rfl ownA ⟨wr.heap.size, 0, none⟩ 2 2 [.int .u8 x, .int .u8 y] rfl rfl (two_new wr.drew _ _) (two8 _ _) (by unfold maxLen; omega) (by omega) bA.size ?_
      intro v4 w4 o4 g4 _
      have b4 : Below w.heap.size w w4 := bA.grown g4 bA.size (own_ge ownA)
      refine ⟨b4, ?_⟩
      have R : w4.ownsRow w.heap.size 5 1 v4 (2 * (k + 1)) (by8 (Fm.hex (l.take (k + 1)))) := by
        rw [HS.out, by8_app]
        have e : by8 [Fm.hexd c1, Fm.hexd c2] = [.int .u8 x, .int .u8 y] := by rw [← HX.out, ← HY.out]; rfl
        rw [e]; exact o4
      clear o4 g4 ownA bA bO hown
      show wpAnyH _ _ _ _ _ _ _ ⟨Array.setIfInBounds _ 25 v4, _⟩ _
      simp only [List.setIfInBounds_toArray, List.set_cons_zero, List.set_cons_succ]
      refine held_take 15 3 (v := v4) rfl rfl (by kernel_rfl) (by kernel_rfl) (by kernel_rfl) (by rfl) (fun _ _ _ h => h) (by assumption) ?_ ?_
      · intro W hW
        go_simp
      simp only [List.setIfInBounds_toArray, List.set_cons_zero, List.set_cons_succ]
      refine wpAnyH_done (by kernel_rfl) ?_ _
      clear HC HS D1 D2 HX HY
      go_wp2
      go_roundw
      case rel => exact ⟨k + 1, by omega, by go_num, R, b4⟩
      case measure => simp [intOf]; omega
    · obtain rfl : k = n := by omega
      have et : l.take k = l := List.take_of_length_le (by rw [HN.out]; exact Nat.le_refl _)
      rw [et] at hown
      have cv := own_conv hown (Fm.hex_byte (mem_of_getD HB.out.1))
      generalize hst : strOf (Fm.hex l) = st at *
      have HST := Lib.hid hst
      clear hown et hst
      go_wp2
      go_ret
      exact ⟨by rw [HST.out]; rfl, hbel⟩
end Go.Proofs.YtmdpeifpgnkbiaaDoor
