/-
  What the reference's GetWord does, for all bytes: it tells the word that they begin with, or that there is none, and leaves memory as it is.
-/
import Derived.Test.YtmdpeifpgnkbiaaDoorBy
import Derived.Laws.BitsAllLaws
namespace Go.Proofs.YtmdpeifpgnkbiaaDoor
open Go.RowKit

def wordRes (l : List Nat) : Value := if l.length < 8 then .tuple #[.int .u64 0, .bool false] else .tuple #[.int .u64 (Vm.be (l.take 8) : Int), .bool true]
def WordInv (l : List Nat) (n i : Value) : Prop := ∃ k : Nat, k ≤ 8 ∧ i = .int .i64 (k : Int) ∧ n = .int .u64 (Vm.be (l.take k) : Int)

theorem word_step {l : List Nat} {k c : Nat} (hb : ∀ j, l.getD j 0 < 256) (hk : k < 8) (hl : 8 ≤ l.length) (hc : l.getD k 0 = c) (h2 : c < 256) :
    WordInv l (.int .u64 (bits .or .u64 (IntKind.u64.wrap ((Vm.be (l.take k) : Int) * 256)) (c : Int))) (.int .i64 ((k : Int) + 1)) := by
  have h := Vm.be_small hb hk (by omega)
  refine ⟨k + 1, by omega, rfl, ?_⟩
  rw [Vm.take_snoc l k (by omega), Vm.be_snoc, hc]
  generalize Vm.be (l.take k) = m at h
  have e2 : IntKind.u64.wrap ((m : Int) * 256) = ((m * 256 : Nat) : Int) := by rw [IntKind.wrap_u64]; omega
  rw [e2, u64_or_nat _ _ (by omega) (by omega), Vm.or256 h2]

set_option maxRecDepth 100000 in
set_option maxHeartbeats 400000 in
theorem rgword_any (l : List Nat) (a : Option Addr) (cap : Nat) (w : World) (hl : l.length ≤ maxLen) (hb : IsBytes w a l) :
    Calls Tryd.prog 51 #[.slice a l.length cap] w fun e w' => e = .returned (wordRes l) ∧ w = w' := by
  unfold maxLen at hl
  obtain ⟨hlt, hbb⟩ := hb
  have HB := Lib.hid hbb
  have HL := Lib.hid hlt
  clear hbb hlt
  by_cases h8 : l.length < 8
  · have R : Hid (wordRes l = .tuple #[.int .u64 0, .bool false]) := by rw [wordRes, if_pos h8]; exact rfl
    go_enter Tryd.func51, Tryd.ntmps51
    go_wp2
    go_ret2
    exact ⟨by rw [R.out]; rfl, rfl⟩
  · have R : Hid (wordRes l = .tuple #[.int .u64 (Vm.be (l.take 8) : Int), .bool true]) := by rw [wordRes, if_neg h8]; exact rfl
    obtain ⟨b, off, rfl, hc⟩ := HB.out (by omega)
    have HC := Lib.hid hc
    clear hc
    go_enter Tryd.func51, Tryd.ntmps51
    go_wp2
    go_loop [4, 5] (fun n i => WordInv l n i) (fun _ i => 8 - (intOf i).toNat)
    case atStart => exact ⟨0, by omega, rfl, rfl⟩
    case round =>
      obtain ⟨k, hk, rfl, rfl⟩ := hrel
      by_cases h : k < 8
      · have hcell := HC.out k (by omega)
        have hc2 := HL.out k
        generalize hcv : l.getD k 0 = c at hcell hc2
        have R2 := word_step HL.out h (by omega) hcv hc2
        clear hcv
        go_wp2
        go_round
        case rel => exact R2
        case measure => simp [intOf]; omega
      · obtain rfl : k = 8 := by omega
        go_wp2
        go_ret2
        exact ⟨by rw [R.out]; rfl, rfl⟩

end Go.Proofs.YtmdpeifpgnkbiaaDoor
