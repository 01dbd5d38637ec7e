/-
  What GetText (the program's and the reference's) does, for all bytes and every bound: it tells the text that the bytes begin with, or that there is none, and leaves memory as it is.
-/
import Derived.Test.YtbfpcolbkfcanaaVg
namespace Go.Proofs.Ytbfpcolbkfcanaa
open Go.RowKit

def textRes : Option (List Nat × Nat) → Value
  | none => .tuple #[.string ⟨#[]⟩, .int .i64 0, .bool false]
  | some (t, j) => .tuple #[.string (strOf t), .int .i64 (j : Int), .bool true]

set_option maxRecDepth 100000 in
set_option maxHeartbeats 400000 in
theorem gtext_any (l : List Nat) (a : Option Addr) (cap : Nat) (most : Int) (w : World) (hl : l.length ≤ 140737488351232) (hcap : l.length ≤ cap) (hm : -9223372036854775808 ≤ most ∧ most ≤ 9223372036854775807) (hb : IsBytes w a l) :
    Calls Try.prog 51 #[.slice a l.length cap, .int .i64 most] w fun e w' => e = .returned (textRes (Vm.getText l most)) ∧ w = w' := by
  have hb0 := Lib.hid hb
  obtain ⟨hlt, hbb⟩ := hb
  have HB := Lib.hid hbb
  have HL := Lib.hid hlt
  clear hbb hlt
  cases hd : Vm.dec l with
  | none =>
    have R : Hid (textRes (Vm.getText l most) = textRes none) := by simp [Hid, Vm.getText, hd]
    have D : Hid (Vm.dec l = none) := hd
    clear hd hm
    go_enter Try.func51, Try.ntmps51
    go_wp2_with (go_at_call 37; refine (get_any l a cap w (by unfold maxLen; omega) hb0.out).mono ?_; rw [D.out]; rintro e w' ⟨rfl, rfl⟩; simp only [getRes])
    go_ret3
    exact ⟨by rw [R.out]; rfl, rfl⟩
  | some q =>
    obtain ⟨n, k⟩ := q
    obtain ⟨k1, k2, k3, k4⟩ := Vm.dec_ok hd HL.out
    have D : Hid (Vm.dec l = some (n, k)) := hd
    by_cases h1 : most < 0 ∨ most < (n : Int) ∨ l.length < k + n
    · have R : Hid (textRes (Vm.getText l most) = textRes none) := by
        have e : Vm.getText l most = none := by rw [Vm.getText, hd]; exact if_pos h1
        rw [e]; exact rfl
      clear hd k4
      by_cases h2 : most < 0
      · clear h1 hm
        go_enter Try.func51, Try.ntmps51
        go_wp2_with (go_at_call 37; refine (get_any l a cap w (by unfold maxLen; omega) hb0.out).mono ?_; rw [D.out]; rintro e w' ⟨rfl, rfl⟩; simp only [getRes])
        go_ret3
        exact ⟨by rw [R.out]; rfl, rfl⟩
      · obtain ⟨mo, rfl⟩ := Int.eq_ofNat_of_zero_le (show 0 ≤ most by omega)
        have hmo : (mo : Int) ≤ 9223372036854775807 := hm.2
        clear hm
        by_cases h3 : mo < n
        · clear h1
          go_enter Try.func51, Try.ntmps51
          go_wp2_with (go_at_call 37; refine (get_any l a cap w (by unfold maxLen; omega) hb0.out).mono ?_; rw [D.out]; rintro e w' ⟨rfl, rfl⟩; simp only [getRes])
          go_ret3
          exact ⟨by rw [R.out]; rfl, rfl⟩
        · have h4 : l.length < k + n := by omega
          clear h1
          go_enter Try.func51, Try.ntmps51
          go_wp2_with (go_at_call 37; refine (get_any l a cap w (by unfold maxLen; omega) hb0.out).mono ?_; rw [D.out]; rintro e w' ⟨rfl, rfl⟩; simp only [getRes])
          go_ret3
          exact ⟨by rw [R.out]; rfl, rfl⟩
    · obtain ⟨mo, rfl⟩ := Int.eq_ofNat_of_zero_le (show 0 ≤ most by omega)
      have R : Hid (textRes (Vm.getText l mo) = textRes (some ((l.drop k).take n, k + n))) := by
        have e : Vm.getText l mo = some ((l.drop k).take n, k + n) := by rw [Vm.getText, hd]; exact if_neg h1
        rw [e]; exact rfl
      clear hd k4
      obtain ⟨b, off, rfl, hc⟩ := HB.out (by omega)
      have hmo : (mo : Int) ≤ 9223372036854775807 := hm.2
      clear hm
      by_cases hck : cap = k
      · obtain rfl : n = 0 := by omega
        have C := fun (A : Option Addr) (c : Nat) => cut_none (w := w) (l := l) (A := A) (k := k) (c := c)
        generalize hS : strOf ((l.drop k).take 0) = S at C
        have HS := Lib.hid hS
        subst hck
        clear hc hS h1
        go_enter Try.func51, Try.ntmps51
        go_wp2_with (go_at_call 37; refine (get_any l _ cap w (by unfold maxLen; omega) hb0.out).mono ?_; rw [D.out]; rintro e w' ⟨rfl, rfl⟩; simp only [getRes])
        go_ret3
        exact ⟨by rw [R.out, textRes, HS.out]; simp, rfl⟩
      · have C := fun c => cut_string (k := k) (n := n) (c := c) hc (by omega)
        generalize hS : strOf ((l.drop k).take n) = S at C
        have HS := Lib.hid hS
        have h5 : k + n ≤ l.length := by omega
        have h6 : n ≤ mo := by omega
        clear hc hS h1
        go_enter Try.func51, Try.ntmps51
        go_wp2_with (go_at_call 37; refine (get_any l _ cap w (by unfold maxLen; omega) hb0.out).mono ?_; rw [D.out]; rintro e w' ⟨rfl, rfl⟩; simp only [getRes])
        go_ret3
        exact ⟨by rw [R.out, textRes, HS.out]; simp, rfl⟩

set_option maxRecDepth 100000 in
set_option maxHeartbeats 400000 in
theorem rgtext_any (l : List Nat) (a : Option Addr) (cap : Nat) (most : Int) (w : World) (hl : l.length ≤ 140737488351232) (hcap : l.length ≤ cap) (hm : -9223372036854775808 ≤ most ∧ most ≤ 9223372036854775807) (hb : IsBytes w a l) :
    Calls Try.prog 40 #[.slice a l.length cap, .int .i64 most] w fun e w' => e = .returned (textRes (Vm.getText l most)) ∧ w = w' := by
  have hb0 := Lib.hid hb
  obtain ⟨hlt, hbb⟩ := hb
  have HB := Lib.hid hbb
  have HL := Lib.hid hlt
  clear hbb hlt
  cases hd : Vm.dec l with
  | none =>
    have R : Hid (textRes (Vm.getText l most) = textRes none) := by simp [Hid, Vm.getText, hd]
    have D : Hid (Vm.dec l = none) := hd
    clear hd hm
    go_enter Try.func40, Try.ntmps40
    go_wp2_with (go_at_call 39; refine (rget_any l a cap w (by unfold maxLen; omega) hb0.out).mono ?_; rw [D.out]; rintro e w' ⟨rfl, rfl⟩; simp only [getRes])
    go_ret3
    exact ⟨by rw [R.out]; rfl, rfl⟩
  | some q =>
    obtain ⟨n, k⟩ := q
    obtain ⟨k1, k2, k3, k4⟩ := Vm.dec_ok hd HL.out
    have D : Hid (Vm.dec l = some (n, k)) := hd
    by_cases h1 : most < 0 ∨ most < (n : Int) ∨ l.length < k + n
    · have R : Hid (textRes (Vm.getText l most) = textRes none) := by
        have e : Vm.getText l most = none := by rw [Vm.getText, hd]; exact if_pos h1
        rw [e]; exact rfl
      clear hd k4
      by_cases h4 : l.length < k + n
      · clear h1 hm
        go_enter Try.func40, Try.ntmps40
        go_wp2_with (go_at_call 39; refine (rget_any l a cap w (by unfold maxLen; omega) hb0.out).mono ?_; rw [D.out]; rintro e w' ⟨rfl, rfl⟩; simp only [getRes])
        go_ret3
        exact ⟨by rw [R.out]; rfl, rfl⟩
      · by_cases h2 : most < 0
        · clear h1 hm
          go_enter Try.func40, Try.ntmps40
          go_wp2_with (go_at_call 39; refine (rget_any l a cap w (by unfold maxLen; omega) hb0.out).mono ?_; rw [D.out]; rintro e w' ⟨rfl, rfl⟩; simp only [getRes])
          go_ret3
          exact ⟨by rw [R.out]; rfl, rfl⟩
        · obtain ⟨mo, rfl⟩ := Int.eq_ofNat_of_zero_le (show 0 ≤ most by omega)
          have hmo : (mo : Int) ≤ 9223372036854775807 := hm.2
          have h3 : mo < n := by omega
          clear hm h1
          go_enter Try.func40, Try.ntmps40
          go_wp2_with (go_at_call 39; refine (rget_any l a cap w (by unfold maxLen; omega) hb0.out).mono ?_; rw [D.out]; rintro e w' ⟨rfl, rfl⟩; simp only [getRes])
          go_ret3
          exact ⟨by rw [R.out]; rfl, rfl⟩
    · obtain ⟨mo, rfl⟩ := Int.eq_ofNat_of_zero_le (show 0 ≤ most by omega)
      have R : Hid (textRes (Vm.getText l mo) = textRes (some ((l.drop k).take n, k + n))) := by
        have e : Vm.getText l mo = some ((l.drop k).take n, k + n) := by rw [Vm.getText, hd]; exact if_neg h1
        rw [e]; exact rfl
      clear hd k4
      obtain ⟨b, off, rfl, hc⟩ := HB.out (by omega)
      have hmo : (mo : Int) ≤ 9223372036854775807 := hm.2
      clear hm
      by_cases hck : cap = k
      · obtain rfl : n = 0 := by omega
        have C := fun (A : Option Addr) (c : Nat) => cut_none (w := w) (l := l) (A := A) (k := k) (c := c)
        generalize hS : strOf ((l.drop k).take 0) = S at C
        have HS := Lib.hid hS
        subst hck
        clear hc hS h1
        go_enter Try.func40, Try.ntmps40
        go_wp2_with (go_at_call 39; refine (rget_any l _ cap w (by unfold maxLen; omega) hb0.out).mono ?_; rw [D.out]; rintro e w' ⟨rfl, rfl⟩; simp only [getRes])
        go_ret3
        exact ⟨by rw [R.out, textRes, HS.out]; simp, rfl⟩
      · have C := fun c => cut_string (k := k) (n := n) (c := c) hc (by omega)
        generalize hS : strOf ((l.drop k).take n) = S at C
        have HS := Lib.hid hS
        have h5 : k + n ≤ l.length := by omega
        have h6 : n ≤ mo := by omega
        clear hc hS h1
        go_enter Try.func40, Try.ntmps40
        go_wp2_with (go_at_call 39; refine (rget_any l _ cap w (by unfold maxLen; omega) hb0.out).mono ?_; rw [D.out]; rintro e w' ⟨rfl, rfl⟩; simp only [getRes])
        go_ret3
        exact ⟨by rw [R.out, textRes, HS.out]; simp, rfl⟩

end Go.Proofs.Ytbfpcolbkfcanaa
