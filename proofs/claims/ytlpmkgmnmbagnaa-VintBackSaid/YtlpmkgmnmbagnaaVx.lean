/-
  The walk of the law VintGets: for any bytes and any bound it returns true and leaves what was there. Conditions: the bound fits 64 bits (as every argument does).
-/
import Derived.Test.YtlpmkgmnmbagnaaVw
namespace Go.Proofs.Ytlpmkgmnmbagnaa
open Go.RowKit

theorem getRes_form (o : Option (Nat × Nat)) : ∃ N K O, getRes o = .tuple #[.int .u64 N, .int .i64 K, .bool O] := by
  rcases o with _ | ⟨n, k⟩
  · exact ⟨_, _, _, rfl⟩
  · exact ⟨_, _, _, rfl⟩
theorem textRes_form (o : Option (List Nat × Nat)) : ∃ S K O, textRes o = .tuple #[.string S, .int .i64 K, .bool O] := by
  rcases o with _ | ⟨n, k⟩
  · exact ⟨_, _, _, rfl⟩
  · exact ⟨_, _, _, rfl⟩
theorem wordRes_form (l : List Nat) : ∃ N O, wordRes l = .tuple #[.int .u64 N, .bool O] := by
  unfold wordRes; split
  · exact ⟨_, _, rfl⟩
  · exact ⟨_, _, rfl⟩

set_option maxRecDepth 100000 in
set_option maxHeartbeats 400000 in
theorem gets_any (l : List Nat) (a : Option Addr) (cap : Nat) (top : Int) (w : World) (hcap : l.length ≤ cap) (hl : l.length ≤ maxLen) (hm : -9223372036854775808 ≤ top ∧ top ≤ 9223372036854775807) (hb : IsBytes w a l) :
    Calls Try.prog 5 #[.slice a l.length cap, .int .i64 top] w fun e w' => e = .returned (.bool true) ∧ Below w.heap.size w w' := by
  have HB := Lib.hid hb
  have HM := Lib.hid hm
  clear hb hm
  by_cases h : 400 < l.length
  · have HL := Lib.hid hl
    clear hl
    go_enter Try.func5, Try.ntmps5
    go_wp2_with fail
    refine (runs_any _).mono ?_
    rintro e w3 ⟨rfl, hb3⟩
    go_wp2
    go_ret
    exact ⟨rfl, hb3⟩
  · clear hl
    obtain ⟨N, K, O, hg⟩ := getRes_form (Vm.dec l)
    obtain ⟨S, K2, O2, ht⟩ := textRes_form (Vm.getText l top)
    obtain ⟨N3, O3, hw⟩ := wordRes_form l
    have G := Lib.hid hg
    have T := Lib.hid ht
    have W := Lib.hid hw
    clear hg ht hw
    go_enter Try.func5, Try.ntmps5
    go_wp2_with fail
    refine (get_any l a cap w (by unfold maxLen; omega) HB.out).mono ?_
    rw [G.out]
    rintro e w' ⟨rfl, rfl⟩
    go_wp2_with fail
    refine (rget_any l a cap w (by unfold maxLen; omega) HB.out).mono ?_
    rw [G.out]
    rintro e w' ⟨rfl, rfl⟩
    go_wp2_with fail
    refine (gtext_any l a cap top w (by omega) hcap HM.out HB.out).mono ?_
    rw [T.out]
    rintro e w' ⟨rfl, rfl⟩
    go_wp2_with fail
    refine (rgtext_any l a cap top w (by omega) hcap HM.out HB.out).mono ?_
    rw [T.out]
    rintro e w' ⟨rfl, rfl⟩
    go_wp2_with fail
    refine (gword_any l a cap w (by unfold maxLen; omega) hcap HB.out).mono ?_
    rw [W.out]
    rintro e w' ⟨rfl, rfl⟩
    go_wp2_with fail
    refine (rgword_any l a cap w (by unfold maxLen; omega) HB.out).mono ?_
    rw [W.out]
    rintro e w' ⟨rfl, rfl⟩
    go_wp2_with fail
    refine (runs_any _).mono ?_
    rintro e w3 ⟨rfl, hb3⟩
    go_wp2
    go_ret
    exact ⟨rfl, hb3⟩

end Go.Proofs.Ytlpmkgmnmbagnaa
