/-
  What GetText (the program's and the reference's) does, for all bytes and every bound: it tells the text that the bytes begin with, or that there is none, and leaves memory as it is.
  Plain mathematics of chapter 1 once more (no Go in it): what was laid is read again; a number has one form; a greater number has no fewer bytes. Condition: numbers fit 64 bits.
  Plain mathematics of chapter 1 (no Go in it): texts and words that were laid are read again, whatever stands behind; no beginning of what was laid is one; what is read, laid again, are the bytes that were read. Condition: numbers fit 64 bits.
-/
import Derived.Test.YtjmojjjgifkkiaaDoorProg
import Derived.Test.YtjmojjjgifkkiaaDoorZ23
import Derived.Test.YtjmojjjgifkkiaaDoorZ29
import Derived.Below
import Derived.WalkKit
import Derived.WalkSpells
import Derived.WalkLawsBesides
import Derived.Lib.Hide
import Derived.Lib.AppendStr
import Derived.Laws.BytesArg
import Derived.Shelf.Bytes.SlSmallAll
import Derived.Laws.AppendOwnNone
import Derived.KernelRfl
namespace Go.Proofs.YtjmojjjgifkkiaaDoor
open Go.RowKit

def textRes : Option (List Nat × Nat) → Value
  | none => .tuple #[.string ⟨#[]⟩, .int .i64 0, .bool false]
  | some (t, j) => .tuple #[.string (strOf t), .int .i64 (j : Int), .bool true]

set_option maxRecDepth 100000 in
set_option maxHeartbeats 400000 in
theorem gtext_any (l : List Nat) (a : Option Addr) (cap : Nat) (most : Int) (w : World) (hl : l.length ≤ 140737488351232) (hcap : l.length ≤ cap) (hm : -9223372036854775808 ≤ most ∧ most ≤ 9223372036854775807) (hb : IsBytes w a l) :
    Calls Tryd.prog 80 #[.slice a l.length cap, .int .i64 most] w fun e w' => e = .returned (textRes (Vm.getText l most)) ∧ w = w' := by
  have hb0 := Lib.hid hb
  obtain ⟨hlt, hbb⟩ := hb
  have HB := Lib.hid hbb
  have HL := Lib.hid hlt
  clear hbb hlt
  cases hd : Vm.dec l with
  | none =>
    have R : Hid (textRes (Vm.getText l most) = textRes none) := by simp [Hid, Vm.getText, hd]
    have D : Hid (Vm.dec l = none) := hd
    clear hd hm
    go_enter Tryd.func80, Tryd.ntmps80
    go_wp2_with (go_at_call 52; refine (get_any l a cap w (by unfold maxLen; omega) hb0.out).mono ?_; rw [D.out]; rintro e w' ⟨rfl, rfl⟩; simp only [getRes])
    go_ret3
    exact ⟨by rw [R.out]; rfl, rfl⟩
  | some q =>
    obtain ⟨n, k⟩ := q
    obtain ⟨k1, k2, k3, k4⟩ := Vm.dec_ok hd HL.out
    have D : Hid (Vm.dec l = some (n, k)) := hd
    by_cases h1 : most < 0 ∨ most < (n : Int) ∨ l.length < k + n
    · have R : Hid (textRes (Vm.getText l most) = textRes none) := by
        have e : Vm.getText l most = none := by rw [Vm.getText, hd]; exact if_pos h1
        rw [e]; exact rfl
      clear hd k4
      by_cases h2 : most < 0
      · clear h1 hm
        go_enter Tryd.func80, Tryd.ntmps80
        go_wp2_with (go_at_call 52; refine (get_any l a cap w (by unfold maxLen; omega) hb0.out).mono ?_; rw [D.out]; rintro e w' ⟨rfl, rfl⟩; simp only [getRes])
        go_ret3
        exact ⟨by rw [R.out]; rfl, rfl⟩
      · obtain ⟨mo, rfl⟩ := Int.eq_ofNat_of_zero_le (show 0 ≤ most by omega)
        have hmo : (mo : Int) ≤ 9223372036854775807 := hm.2
        clear hm
        by_cases h3 : mo < n
        · clear h1
          go_enter Tryd.func80, Tryd.ntmps80
          go_wp2_with (go_at_call 52; refine (get_any l a cap w (by unfold maxLen; omega) hb0.out).mono ?_; rw [D.out]; rintro e w' ⟨rfl, rfl⟩; simp only [getRes])
          go_ret3
          exact ⟨by rw [R.out]; rfl, rfl⟩
        · have h4 : l.length < k + n := by omega
          clear h1
          go_enter Tryd.func80, Tryd.ntmps80
          go_wp2_with (go_at_call 52; refine (get_any l a cap w (by unfold maxLen; omega) hb0.out).mono ?_; rw [D.out]; rintro e w' ⟨rfl, rfl⟩; simp only [getRes])
          go_ret3
          exact ⟨by rw [R.out]; rfl, rfl⟩
    · obtain ⟨mo, rfl⟩ := Int.eq_ofNat_of_zero_le (show 0 ≤ most by omega)
      have R : Hid (textRes (Vm.getText l mo) = textRes (some ((l.drop k).take n, k + n))) := by
        have e : Vm.getText l mo = some ((l.drop k).take n, k + n) := by rw [Vm.getText, hd]; exact if_neg h1
        rw [e]; exact rfl
      clear hd k4
      obtain ⟨b, off, rfl, hc⟩ := HB.out (by omega)
      have hmo : (mo : Int) ≤ 9223372036854775807 := hm.2
      clear hm
      by_cases hck : cap = k
      · obtain rfl : n = 0 := by omega
        have C := fun (A : Option Addr) (c : Nat) => cut_none (w := w) (l := l) (A := A) (k := k) (c := c)
        generalize hS : strOf ((l.drop k).take 0) = S at C
        have HS := Lib.hid hS
        subst hck
        clear hc hS h1
        go_enter Tryd.func80, Tryd.ntmps80
        go_wp2_with (go_at_call 52; refine (get_any l _ cap w (by unfold maxLen; omega) hb0.out).mono ?_; rw [D.out]; rintro e w' ⟨rfl, rfl⟩; simp only [getRes])
        go_ret3
        exact ⟨by rw [R.out, textRes, HS.out]; simp, rfl⟩
      · have C := fun c => cut_string (k := k) (n := n) (c := c) hc (by omega)
        generalize hS : strOf ((l.drop k).take n) = S at C
        have HS := Lib.hid hS
        have h5 : k + n ≤ l.length := by omega
        have h6 : n ≤ mo := by omega
        clear hc hS h1
        go_enter Tryd.func80, Tryd.ntmps80
        go_wp2_with (go_at_call 52; refine (get_any l _ cap w (by unfold maxLen; omega) hb0.out).mono ?_; rw [D.out]; rintro e w' ⟨rfl, rfl⟩; simp only [getRes])
        go_ret3
        exact ⟨by rw [R.out, textRes, HS.out]; simp, rfl⟩

set_option maxRecDepth 100000 in
set_option maxHeartbeats 400000 in
theorem rgtext_any (l : List Nat) (a : Option Addr) (cap : Nat) (most : Int) (w : World) (hl : l.length ≤ 140737488351232) (hcap : l.length ≤ cap) (hm : -9223372036854775808 ≤ most ∧ most ≤ 9223372036854775807) (hb : IsBytes w a l) :
    Calls Tryd.prog 55 #[.slice a l.length cap, .int .i64 most] w fun e w' => e = .returned (textRes (Vm.getText l most)) ∧ w = w' := by
  have hb0 := Lib.hid hb
  obtain ⟨hlt, hbb⟩ := hb
  have HB := Lib.hid hbb
  have HL := Lib.hid hlt
  clear hbb hlt
  cases hd : Vm.dec l with
  | none =>
    have R : Hid (textRes (Vm.getText l most) = textRes none) := by simp [Hid, Vm.getText, hd]
    have D : Hid (Vm.dec l = none) := hd
    clear hd hm
    go_enter Tryd.func55, Tryd.ntmps55
    go_wp2_with (go_at_call 54; refine (rget_any l a cap w (by unfold maxLen; omega) hb0.out).mono ?_; rw [D.out]; rintro e w' ⟨rfl, rfl⟩; simp only [getRes])
    go_ret3
    exact ⟨by rw [R.out]; rfl, rfl⟩
  | some q =>
    obtain ⟨n, k⟩ := q
    obtain ⟨k1, k2, k3, k4⟩ := Vm.dec_ok hd HL.out
    have D : Hid (Vm.dec l = some (n, k)) := hd
    by_cases h1 : most < 0 ∨ most < (n : Int) ∨ l.length < k + n
    · have R : Hid (textRes (Vm.getText l most) = textRes none) := by
        have e : Vm.getText l most = none := by rw [Vm.getText, hd]; exact if_pos h1
        rw [e]; exact rfl
      clear hd k4
      by_cases h4 : l.length < k + n
      · clear h1 hm
        go_enter Tryd.func55, Tryd.ntmps55
        go_wp2_with (go_at_call 54; refine (rget_any l a cap w (by unfold maxLen; omega) hb0.out).mono ?_; rw [D.out]; rintro e w' ⟨rfl, rfl⟩; simp only [getRes])
        go_ret3
        exact ⟨by rw [R.out]; rfl, rfl⟩
      · by_cases h2 : most < 0
        · clear h1 hm
          go_enter Tryd.func55, Tryd.ntmps55
          go_wp2_with (go_at_call 54; refine (rget_any l a cap w (by unfold maxLen; omega) hb0.out).mono ?_; rw [D.out]; rintro e w' ⟨rfl, rfl⟩; simp only [getRes])
          go_ret3
          exact ⟨by rw [R.out]; rfl, rfl⟩
        · obtain ⟨mo, rfl⟩ := Int.eq_ofNat_of_zero_le (show 0 ≤ most by omega)
          have hmo : (mo : Int) ≤ 9223372036854775807 := hm.2
          have h3 : mo < n := by omega
          clear hm h1
          go_enter Tryd.func55, Tryd.ntmps55
          go_wp2_with (go_at_call 54; refine (rget_any l a cap w (by unfold maxLen; omega) hb0.out).mono ?_; rw [D.out]; rintro e w' ⟨rfl, rfl⟩; simp only [getRes])
          go_ret3
          exact ⟨by rw [R.out]; rfl, rfl⟩
    · obtain ⟨mo, rfl⟩ := Int.eq_ofNat_of_zero_le (show 0 ≤ most by omega)
      have R : Hid (textRes (Vm.getText l mo) = textRes (some ((l.drop k).take n, k + n))) := by
        have e : Vm.getText l mo = some ((l.drop k).take n, k + n) := by rw [Vm.getText, hd]; exact if_neg h1
        rw [e]; exact rfl
      clear hd k4
      obtain ⟨b, off, rfl, hc⟩ := HB.out (by omega)
      have hmo : (mo : Int) ≤ 9223372036854775807 := hm.2
      clear hm
      by_cases hck : cap = k
      · obtain rfl : n = 0 := by omega
        have C := fun (A : Option Addr) (c : Nat) => cut_none (w := w) (l := l) (A := A) (k := k) (c := c)
        generalize hS : strOf ((l.drop k).take 0) = S at C
        have HS := Lib.hid hS
        subst hck
        clear hc hS h1
        go_enter Tryd.func55, Tryd.ntmps55
        go_wp2_with (go_at_call 54; refine (rget_any l _ cap w (by unfold maxLen; omega) hb0.out).mono ?_; rw [D.out]; rintro e w' ⟨rfl, rfl⟩; simp only [getRes])
        go_ret3
        exact ⟨by rw [R.out, textRes, HS.out]; simp, rfl⟩
      · have C := fun c => cut_string (k := k) (n := n) (c := c) hc (by omega)
        generalize hS : strOf ((l.drop k).take n) = S at C
        have HS := Lib.hid hS
        have h5 : k + n ≤ l.length := by omega
        have h6 : n ≤ mo := by omega
        clear hc hS h1
        go_enter Tryd.func55, Tryd.ntmps55
        go_wp2_with (go_at_call 54; refine (rget_any l _ cap w (by unfold maxLen; omega) hb0.out).mono ?_; rw [D.out]; rintro e w' ⟨rfl, rfl⟩; simp only [getRes])
        go_ret3
        exact ⟨by rw [R.out, textRes, HS.out]; simp, rfl⟩


end Go.Proofs.YtjmojjjgifkkiaaDoor
namespace Go.Proofs.YtjmojjjgifkkiaaDoor
namespace Vm
theorem putF_len_mono : ∀ (f a b : Nat), a ≤ b → (putF f a).length ≤ (putF f b).length
  | 0, a, b, _ => by simp [putF]
  | f + 1, a, b, h => by
    rw [putF, putF]
    by_cases ha : a < 128
    · rw [if_pos ha]; split <;> simp
    · rw [if_neg ha, if_neg (by omega)]
      have := putF_len_mono f (a / 128) (b / 128) (Nat.div_le_div_right h)
      simp; omega
theorem put_mono {a b : Nat} (h : a ≤ b) : (put a).length ≤ (put b).length := putF_len_mono 9 a b h

/-- What was laid is read, whatever stands behind it. -/
theorem decF_putF : ∀ (f i acc n : Nat) (r : List Nat), f + i = 9 → n < lim i → (i ≠ 0 → n ≠ 0) → decF (f + 1) i acc (putF f n ++ r) = some (acc + n * 128 ^ i, i + (putF f n).length)
  | 0, i, acc, n, r, hi, hn, h0 => by
    obtain rfl : i = 9 := by omega
    have e : lim 9 = 2 := by decide
    rw [e] at hn
    simp only [putF, List.cons_append, List.nil_append, decF]
    rw [if_pos (by omega), if_neg (by omega)]
    rfl
  | f + 1, i, acc, n, r, hi, hn, h0 => by
    rw [putF]
    by_cases hs : n < 128
    · rw [if_pos hs]
      simp only [List.cons_append, List.nil_append, decF]
      rw [if_pos hs, if_neg (by omega)]
      rfl
    · rw [if_neg hs]
      simp only [List.cons_append, decF]
      rw [if_neg (by omega)]
      have ih := decF_putF f (i + 1) (acc + (n % 128 + 128 - 128) * 128 ^ i) (n / 128) r (by omega) (lim_step (by omega) hn (by omega)).2 (by omega)
      rw [ih]
      have e : acc + (n % 128 + 128 - 128) * 128 ^ i + n / 128 * 128 ^ (i + 1) = acc + n * 128 ^ i := by
        have h1 : n % 128 + 128 - 128 = n % 128 := by omega
        have h2 : n % 128 * 128 ^ i + n / 128 * (128 ^ i * 128) = n * 128 ^ i := by
          generalize 128 ^ i = X
          have h3 : n % 128 * X + n / 128 * (X * 128) = (n % 128 + 128 * (n / 128)) * X := by
            rw [Nat.add_mul, Nat.mul_comm X 128, ← Nat.mul_assoc, Nat.mul_comm (n / 128) 128]
          rw [h3, Nat.mod_add_div]
        rw [h1, Nat.pow_succ, Nat.add_assoc, h2]
      rw [e]
      simp; omega
theorem dec_put {n : Nat} (h : Fits n) (r : List Nat) : dec (put n ++ r) = some (n, (put n).length) := by
  have := decF_putF 9 0 0 n r rfl (by unfold Fits at h; unfold lim; simpa using h) (by omega)
  rw [dec, put, this]; simp
theorem put_inj {a b : Nat} (ha : Fits a) (hb : Fits b) (h : put a = put b) : a = b := by
  have h1 := dec_put ha []
  rw [h, dec_put hb []] at h1
  injection h1 with h1; injection h1 with h1 _
  exact h1.symm
theorem put_small {n : Nat} (h : n < 128) : put n = [n] := by rw [put, putF, if_pos h]
end Vm

end Go.Proofs.YtjmojjjgifkkiaaDoor
namespace Go.Proofs.YtjmojjjgifkkiaaDoor
namespace Vm
theorem decF_take : ∀ (f i acc n k : Nat), k < (putF f n).length → decF (f + 1) i acc ((putF f n).take k) = none
  | f, i, acc, n, 0, _ => by simp [decF]
  | 0, i, acc, n, k + 1, h => by simp [putF] at h
  | f + 1, i, acc, n, k + 1, h => by
    rw [putF] at h ⊢
    by_cases hs : n < 128
    · rw [if_pos hs] at h; simp at h
    · rw [if_neg hs] at h ⊢
      simp only [List.take_succ_cons, decF]
      rw [if_neg (by omega)]
      exact decF_take f (i + 1) _ (n / 128) k (by simpa using h)
theorem dec_take {n k : Nat} (h : k < (put n).length) : dec ((put n).take k) = none := decF_take 9 0 0 n k h

theorem text_back {T : List Nat} (h : Fits T.length) (r : List Nat) : getText (put T.length ++ T ++ r) (T.length : Int) = some (T, (put T.length ++ T).length) := by
  rw [getText, List.append_assoc, dec_put h]
  simp
theorem text_less {T : List Nat} (h : Fits T.length) (r : List Nat) : getText (put T.length ++ T ++ r) ((T.length : Int) - 1) = none := by
  rw [getText, List.append_assoc, dec_put h]
  simp; omega
theorem text_take {T : List Nat} (h : Fits T.length) {k : Nat} (hk : k < (put T.length ++ T).length) (m : Int) : getText ((put T.length ++ T).take k) m = none := by
  by_cases hp : k < (put T.length).length
  · rw [getText, List.take_append_of_le_length (by omega), dec_take hp]
  · rw [getText]
    have e : (put T.length ++ T).take k = put T.length ++ T.take (k - (put T.length).length) := by
      rw [List.take_append, List.take_of_length_le (by omega)]
    rw [e, dec_put h]
    simp only [List.length_append] at hk
    refine if_pos (.inr (.inr ?_))
    simp; omega
theorem word_length (n : Nat) : (word n).length = 8 := rfl
theorem word_byte (n : Nat) : ∀ x ∈ word n, x < 256 := by
  intro x hx
  simp only [word, List.mem_cons, List.not_mem_nil, or_false] at hx
  omega
theorem word_back {n : Nat} (h : Fits n) (r : List Nat) : be ((word n ++ r).take 8) = n := by
  have e : (word n ++ r).take 8 = word n := by rw [List.take_append_of_le_length (by simp [word])]; rfl
  rw [e, be_word n h]

/-- What is read, laid again, are the bytes that were read. -/
theorem putF_decF : ∀ (f i acc : Nat) (l : List Nat) (n k : Nat), f + i = 10 → (∀ j, l.getD j 0 < 256) → decF f i acc l = some (n, k) → ∃ m, n = acc + m * 128 ^ i ∧ (i ≠ 0 → m ≠ 0) ∧ putF (f - 1) m = l.take (k - i) ∧ i < k ∧ m < lim i
  | 0, _, _, _, _, _, _, _, h => by simp [decF] at h
  | _ + 1, _, _, [], _, _, _, _, h => by simp [decF] at h
  | f + 1, i, acc, b :: r, n, k, hf, hb, h => by
    rw [decF] at h
    have hb0 : b < 256 := by simpa using hb 0
    by_cases h1 : b < 128
    · rw [if_pos h1] at h
      split at h
      · cases h
      · next hn =>
        injection h with h; injection h with e1 e2
        subst e1 e2
        have hl : b < lim i := by
          by_cases h9 : i = 9
          · subst h9; have : lim 9 = 2 := by decide
            omega
          · have : lim 8 ≤ lim i := Nat.pow_le_pow_right (by omega) (by omega)
            have e8 : lim 8 = 256 := by decide
            omega
        refine ⟨b, rfl, by omega, ?_, by omega, hl⟩
        have e : i + 1 - i = 1 := by omega
        rw [e]
        cases f with
        | zero => rfl
        | succ g => show putF g.succ b = _; rw [putF, if_pos h1]; rfl
    · rw [if_neg h1] at h
      obtain ⟨m, e1, e2, e3, e4, e5⟩ := putF_decF f (i + 1) _ r n k (by omega) (fun j => by simpa using hb (j + 1)) h
      have hm0 : m ≠ 0 := e2 (by omega)
      have hf0 : f ≠ 0 := by rintro rfl; simp [decF] at h
      obtain ⟨g, rfl⟩ : ∃ g, f = g + 1 := ⟨f - 1, by omega⟩
      refine ⟨(b - 128) + 128 * m, ?_, by omega, ?_, by omega, ?_⟩
      · rw [e1, Nat.pow_succ, Nat.add_assoc, Nat.add_mul]
        have : m * (128 ^ i * 128) = 128 * m * 128 ^ i := by rw [Nat.mul_comm (128 ^ i) 128, ← Nat.mul_assoc, Nat.mul_comm m 128]
        rw [this]
      · have e : k - i = (k - (i + 1)) + 1 := by omega
        show putF (g + 1) _ = _
        rw [putF, if_neg (by omega), e, List.take_succ_cons, ← e3]
        have d1 : (b - 128 + 128 * m) % 128 + 128 = b := by omega
        have d2 : (b - 128 + 128 * m) / 128 = m := by omega
        rw [d1, d2]; rfl
      · have hx : lim i = lim (i + 1) * 128 := by
          unfold lim
          have e : 64 - 7 * i = (64 - 7 * (i + 1)) + 7 := by omega
          rw [e, Nat.pow_add]
        omega
theorem put_dec {l : List Nat} {n k : Nat} (h : dec l = some (n, k)) (hb : ∀ j, l.getD j 0 < 256) : put n = l.take k := by
  obtain ⟨m, e1, _, e3, _, _⟩ := putF_decF 10 0 0 l n k rfl hb h
  have : n = m := by simpa using e1
  rw [this]; simpa [put] using e3
end Vm

end Go.Proofs.YtjmojjjgifkkiaaDoor
