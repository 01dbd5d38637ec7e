/-
  RexPlain as a contract: any text, its special bytes quoted, is a pattern of just itself. No conditions.
-/
import Derived.Test.YteifjiadgbgkbaaKh
import Derived.Test.YteifjiadgbgkbaaKd
namespace Go.Proofs.Yteifjiadgbgkbaa
open Go.RowKit Go.Sort
open Pz

theorem txt8_inj {s t : ByteArray} (h : txt8 s = txt8 t) : s = t := by
  have h2 : s.data.toList = t.data.toList := by
    have : ∀ {a b : List UInt8}, a.map UInt8.toNat = b.map UInt8.toNat → a = b := by
      intro a
      induction a with
      | nil => intro b h; cases b with
        | nil => rfl
        | cons y r => simp at h
      | cons x a ih => intro b h; cases b with
        | nil => simp at h
        | cons y r =>
          simp only [List.map_cons, List.cons.injEq] at h
          rw [UInt8.toNat_inj.1 h.1, ih h.2]
    exact this h
  have h3 : s.data = t.data := Array.toList_inj.1 h2
  cases s; cases t; simp_all
theorem txt8_mem {s : ByteArray} {c : Nat} (h : c ∈ txt8 s) : c < 256 := by
  unfold txt8 at h
  obtain ⟨x, _, rfl⟩ := List.mem_map.1 h
  exact UInt8.toNat_lt x
theorem txt8_cut (s : ByteArray) (k : Nat) (h : k < s.size) : txt8 (s.extract k (k + 1)) = [(txt8 s).getD k 0] := by
  have e : (s.extract k (k + 1)).data.toList = (s.data.toList.drop k).take 1 := by
    simp [ByteArray.data_extract, Array.toList_extract, List.extract]
  have hk : k < s.data.toList.length := by simpa using h
  unfold txt8
  rw [e, List.drop_eq_getElem_cons hk]
  simp [List.getD, List.getElem?_map, List.getElem?_eq_getElem hk]
theorem qt_app : ∀ (a : List Nat) (c : Nat), qt (a ++ [c]) = qt a ++ enc1 c
  | [], c => by simp [qt]
  | x :: r, c => by rw [List.cons_append, qt, qt, qt_app r c, List.append_assoc]
theorem qt_take {S : List Nat} {k : Nat} (h : k < S.length) : qt (S.take (k + 1)) = qt (S.take k) ++ enc1 (S.getD k 0) := by rw [take_nth' h, qt_app]
where take_nth' {l : List Nat} {k : Nat} (h : k < l.length) : l.take (k + 1) = l.take k ++ [l.getD k 0] := by
        rw [List.take_succ_eq_append_getElem h]; simp [List.getD, List.getElem?_eq_getElem h]
/-- The tree of a text. -/
def textTree (S : List Nat) : Rx := joined 2 (S.map single)
theorem mem_text {S U : List Nat} {k : Nat} (hS : ∀ c ∈ S, c < 256) (hU : ∀ k, U.getD k 0 < 256) (hr : Rx.isRex (textTree S) = true) : k ∈ ends U (textTree S) ((0 : Nat) : Int) ↔ k = S.length ∧ Stands U S 0 := by
  rw [mem_ends hr (Nat.zero_le _)]
  unfold textTree
  rw [mt_joined, mt_row hU hS (Nat.zero_le _), Nat.zero_add]
  constructor
  · exact fun h => h.2
  · rintro ⟨h1, h2⟩; exact ⟨by have := h2.1; omega, h1, h2⟩
theorem stands_self (S : List Nat) : Stands S S 0 := ⟨by omega, fun k _ => by rw [Nat.zero_add]⟩
theorem ends_self {S : List Nat} (hS : ∀ c ∈ S, c < 256) (hU : ∀ k, S.getD k 0 < 256) (hr : Rx.isRex (textTree S) = true) : zn (ends S (textTree S) 0) = [(S.length : Int)] :=
  rise_unique (ends_rise _ _ _) (by simp) (fun y => by
    have h := fun k => mem_text (k := k) hS hU hr
    unfold zn
    simp only [List.mem_map, List.mem_singleton]
    constructor
    · rintro ⟨k, hk, rfl⟩; rw [((h k).1 hk).1]
    · rintro rfl; exact ⟨S.length, (h _).2 ⟨rfl, stands_self S⟩, rfl⟩)
theorem ends_other {S U : List Nat} (hS : ∀ c ∈ S, c < 256) (hU : ∀ k, U.getD k 0 < 256) (hr : Rx.isRex (textTree S) = true) : (U.length : Int) ∈ zn (ends U (textTree S) 0) ↔ S = U := by
  rw [zn_mem]
  have h := mem_text (k := U.length) hS hU hr
  constructor
  · intro h1
    obtain ⟨h2, h3, h4⟩ := h.1 h1
    refine List.ext_getElem h2.symm fun j j1 j2 => ?_
    have := h4 j j1
    rw [Nat.zero_add] at this
    simpa [List.getD, List.getElem?_eq_getElem j1, List.getElem?_eq_getElem j2] using this.symm
  · rintro rfl; exact h.2 ⟨rfl, stands_self _⟩
theorem special_tab : ∀ c, c < 256 → special c = (txt8 sS).contains c := by decide +kernel
set_option maxRecDepth 100000 in
set_option maxHeartbeats 2000000 in
theorem lspecial_any (c : Nat) (hc : c < 256) (w : World) : Calls Try.prog 23 #[.int .u8 (c : Int)] w fun e w' => e = .returned (.bool (special c)) ∧ w = w' := by
  have SP := Lib.hid (special_tab c hc)
  have SL : Hid ((txt8 sS).length = 10) := by show _ = _; decide
  have TX := fun k (h : k < 10) W => txt8_at W sS k h
  have TX := Lib.hid TX
  go_enter Try.func23, Try.ntmps23
  go_wp2
  go_loop [3] (fun i => ∃ k : Nat, k ≤ 10 ∧ i = .int .i64 (k : Int) ∧ Hid (∀ j, j < k → ¬ (txt8 sS).getD j 0 = c)) (fun i => 10 - (intOf i).toNat)
  case atStart => exact ⟨0, by omega, rfl, fun j hj => by omega⟩
  case round =>
    obtain ⟨k, hk, rfl, HN⟩ := hrel
    by_cases hk10 : k < 10
    · have hkz : (k : Int) < 10 := by omega
      have TK := TX.out k hk10
      unfold sS at TK
      obtain ⟨x, hx⟩ : ∃ x, (txt8 sS).getD k 0 = x := ⟨_, rfl⟩
      have hx' : (txt8 ⟨#[124, 42, 43, 63, 40, 41, 91, 93, 46, 92]⟩).getD k 0 = x := hx
      rw [hx'] at TK
      clear hx'
      by_cases e : x = c
      · have R : Hid (special c = true) := by
          show _ = _
          rw [SP.out, List.contains_iff_mem, ← e, ← hx]
          have hl : k < (txt8 sS).length := by rw [SL.out]; exact hk10
          simp [List.getD, List.getElem?_eq_getElem hl]
        subst e
        clear hx
        go_wp2
        go_ret
        exact ⟨by rw [R.out]; rfl, rfl⟩
      · have ez : ((x : Int) == (c : Int)) = false := by simp; omega
        have R : Hid (∀ j, j < k + 1 → ¬ (txt8 sS).getD j 0 = c) := fun j hj => by
          by_cases hjk : j < k
          · exact HN.out j hjk
          · obtain rfl : j = k := by omega
            rw [hx]; exact e
        clear hx e
        go_wp2
        go_round
        case rel => exact ⟨k + 1, by omega, by go_num, R⟩
        case measure => simp [intOf]; omega
    · obtain rfl : k = 10 := by omega
      have R : Hid (special c = false) := by
        show _ = _
        rw [SP.out]
        cases hq : (txt8 sS).contains c with
        | false => rfl
        | true =>
          obtain ⟨j, hj, e⟩ := List.getElem_of_mem (List.contains_iff_mem.1 hq)
          exact absurd (by simp [List.getD, List.getElem?_eq_getElem hj, e]) (HN.out j (by rw [SL.out] at hj; exact hj))
      have e10 : ¬ (((10 : Nat) : Int) < 10) := by omega
      go_wp2
      go_ret
      exact ⟨by rw [R.out]; rfl, rfl⟩
set_option maxRecDepth 100000 in
set_option maxHeartbeats 4000000 in
theorem plain_law (s t : ByteArray) (w : World) (hs : s.size ≤ maxLen) (ht : t.size ≤ maxLen) :
    Calls Try.prog 9 #[.string s, .string t] w fun e w' => e = .returned (.bool true) ∧ Below w.heap.size w w' := by
  unfold maxLen at hs ht
  have RN := Lib.hid runs_any
  obtain ⟨L, hL⟩ : ∃ L, s.size = L := ⟨_, rfl⟩
  obtain ⟨M, hM⟩ : ∃ M, t.size = M := ⟨_, rfl⟩
  rw [hL] at hs
  rw [hM] at ht
  by_cases h20 : 20 < L
  · have hz : decide ((L : Int) > 20) = true := decide_eq_true (by omega)
    clear h20
    go_enter Try.func9, Try.ntmps9
    go_wp2_with fail
    refine (RN.out _).mono ?_
    rintro e w1 ⟨rfl, b1⟩
    have B := Lib.hid b1
    clear b1
    go_wp2
    go_ret
    exact ⟨rfl, B.out⟩
  have hz : decide ((L : Int) > 20) = false := decide_eq_false (by omega)
  by_cases h21 : 20 < M
  · have hz2 : decide ((M : Int) > 20) = true := decide_eq_true (by omega)
    clear h20 h21
    go_enter Try.func9, Try.ntmps9
    go_wp2_with fail
    refine (RN.out _).mono ?_
    rintro e w1 ⟨rfl, b1⟩
    have B := Lib.hid b1
    clear b1
    go_wp2
    go_ret
    exact ⟨rfl, B.out⟩
  have hz2 : decide ((M : Int) > 20) = false := decide_eq_false (by omega)
  have TX := Lib.hid (fun k (h : k < L) W => txt8_at W s k (by omega))
  have LS := Lib.hid (fun c (hc : c < 256) W => lspecial_any c hc W)
  have QT := Lib.hid (fun k (h : k < L) => qt_take (S := txt8 s) (k := k) (by rw [txt8_len]; omega))
  have QL := Lib.hid (fun k => qt_len ((txt8 s).take k))
  have CU := Lib.hid (fun k (h : k < L) => txt8_cut s k (by omega))
  have BY := Lib.hid (txt8_lt s)
  go_enter Try.func9, Try.ntmps9
  go_wp2
  go_loop [5, 6] (fun p i => ∃ (k : Nat) (P : ByteArray), k ≤ L ∧ i = .int .i64 (k : Int) ∧ p = .string P ∧ Hid (txt8 P = qt ((txt8 s).take k))) (fun _ i => L - (intOf i).toNat)
  case atStart => exact ⟨0, _, by omega, rfl, rfl, rfl⟩
  case round =>
    obtain ⟨k, P, hk, rfl, rfl, HP⟩ := hrel
    have hps : P.size ≤ 40 := by
      have h1 := QL.out k
      rw [← HP.out, txt8_len] at h1
      have h2 : ((txt8 s).take k).length ≤ k := by simp; omega
      omega
    have hpz : (P.size : Int) ≤ 8388608 := by omega
    have HPS := Lib.hid hps
    clear hps
    by_cases hkl : k < L
    · have hkz : (k : Int) < (L : Int) := by omega
      have TK := TX.out k hkl
      have CK := Lib.hid (CU.out k hkl)
      have QK := Lib.hid (QT.out k hkl)
      have bx := BY.out k
      obtain ⟨x, hx⟩ : ∃ x, (txt8 s).getD k 0 = x := ⟨_, rfl⟩
      rw [hx] at TK CK QK bx
      clear hx
      have CS := Lib.hid (LS.out x bx w)
      cases hsp : special x with
      | true =>
        rw [hsp] at CS
        have E : Hid (enc1 x = [92, x]) := by show _ = _; unfold enc1; rw [if_pos hsp]
        clear hsp
        go_wp2_with fail
        refine CS.out.mono ?_
        rintro e w' ⟨rfl, rfl⟩
        clear CS
        go_wp2
        go_round
        case rel => exact ⟨k + 1, _, by omega, by go_num, rfl, by show _ = _; rw [txt8_app, txt8_app, HP.out, CK.out, QK.out, E.out]; simp [txt8]⟩
        case measure => simp [intOf]; omega
      | false =>
        rw [hsp] at CS
        have E : Hid (enc1 x = [x]) := by show _ = _; unfold enc1; rw [if_neg (by rw [hsp]; simp)]
        clear hsp
        go_wp2_with fail
        refine CS.out.mono ?_
        rintro e w' ⟨rfl, rfl⟩
        clear CS
        go_wp2
        go_round
        case rel => exact ⟨k + 1, _, by omega, by go_num, rfl, by show _ = _; rw [txt8_app, HP.out, CK.out, QK.out, E.out]⟩
        case measure => simp [intOf]; omega
    · obtain rfl : k = L := by omega
      have hkz : ¬ (k : Int) < (k : Int) := by omega
      have hP : txt8 P = qt (txt8 s) := by rw [HP.out, List.take_of_length_le (by rw [txt8_len]; omega)]
      have hpp : parse (txt8 P) = some (textTree (txt8 s)) := by rw [hP]; exact plain_parse _ (fun c hc => txt8_mem hc) (by rw [txt8_len]; omega)
      have good := parse_good hpp
      have P0 := Lib.hid (parse_any P (by have := HPS.out; omega) w)
      have ES := Lib.hid (ends_self (fun c hc => txt8_mem hc) (txt8_lt s) good.rex)
      have EO := Lib.hid (ends_other (U := txt8 t) (fun c hc => txt8_mem hc) (txt8_lt t) good.rex)
      rw [txt8_len, hL] at ES
      rw [txt8_len, hM] at EO
      clear hP HP TX LS QT QL CU BY
      go_wp2_with fail
      refine P0.out.mono ?_
      intro e w1 hp
      obtain ⟨op, a, b, c, d, A, n, cap, rfl, X1, b1⟩ := hp.yes hpp
      have A1 : Below w1.heap.size w1 (w1.alloc (.cells #[.int .i64 op, .int .u64 (a : Int), .int .u64 (b : Int), .int .u64 (c : Int), .int .u64 (d : Int), .slice A n cap] 26)) := (Below.refl _ _).alloc (Nat.le_refl _) _
      have B := Lib.hid (b1.trans (A1.mono b1.size))
      have X := Lib.hid (X1.grown A1)
      have R6 : Hid (Row6 (w1.alloc (.cells #[.int .i64 op, .int .u64 (a : Int), .int .u64 (b : Int), .int .u64 (c : Int), .int .u64 (d : Int), .slice A n cap] 26)) w1.heap.size #[.int .i64 op, .int .u64 (a : Int), .int .u64 (b : Int), .int .u64 (c : Int), .int .u64 (d : Int), .slice A n cap]) := heap_alloc_new w1 _
      have CE := Lib.hid (ends_all good.count good.fit _ 0 s _ (by omega) X.out)
      unfold c6 at CE
      have GC := Lib.hid (And.intro good.count good.fit)
      clear hp X1 b1 A1 P0 hpp good
      go_wp2_with fail
      generalize w1.alloc (.cells #[.int .i64 op, .int .u64 (a : Int), .int .u64 (b : Int), .int .u64 (c : Int), .int .u64 (d : Int), .slice A n cap] 26) = W1 at *
      generalize w1.heap.size = g at *
      refine CE.out.mono ?_
      rintro e w4 ⟨A4, n4, c4, rfl, l4, h4, Z4, b4⟩
      have BL : Below w4.heap.size w4 (w4.alloc (.cells #[.int .i64 (k : Int)] 3)) := (Below.refl _ _).alloc (Nat.le_refl _) _
      have CS := Lib.hid (same_b _ [(k : Int)] A4 _ n4 1 c4 1 _ (by rw [zn_len]; exact l4) rfl (by omega) (by omega) (Z4.below BL) (one_lit w4 (k : Int)))
      rw [decide_eq_true ES.out] at CS
      have b5 := b4.trans (BL.mono b4.size)
      replace B := Lib.hid (B.out.trans (b5.mono B.out.size))
      replace X := Lib.hid (X.out.grown b5)
      replace R6 := Lib.hid (R6.out.grow b5)
      clear CE b4 BL Z4 l4 b5
      go_wp2_with fail
      refine CS.out.mono ?_
      rintro e w5 ⟨rfl, b5⟩
      replace B := Lib.hid (B.out.trans (b5.mono B.out.size))
      replace X := Lib.hid (X.out.grown b5)
      replace R6 := Lib.hid (R6.out.grow b5)
      clear b5 CS
      obtain ⟨x0, x1, x2, x3, x4, x5⟩ := R6.out.cells
      have CE2 := Lib.hid (ends_all GC.out.1 GC.out.2 _ 0 t _ (by omega) X.out)
      unfold c6 at CE2
      have HH0 : decide ((M : Int) ∈ zn (ends (txt8 t) (textTree (txt8 s)) 0)) = decide (txt8 s = txt8 t) := decide_eq_decide.2 EO.out
      by_cases hst : s = t
      · have HH : Hid (decide ((M : Int) ∈ zn (ends (txt8 t) (textTree (txt8 s)) 0)) = true) := by show _ = _; rw [HH0]; exact decide_eq_true (by rw [hst])
        have hb : (s.toList == t.toList) = true := by rw [hst]; simp
        clear HH0
        have hst' := Lib.hid hst
        clear hst
        go_wp2_with fail
        refine CE2.out.mono ?_
        rintro e w6 ⟨A2, n2, c2, rfl, l2, m2, Z2, b6⟩
        have B6 := Lib.hid (B.out.trans (b6.mono B.out.size))
        have CH := Lib.hid (has_b _ (M : Int) A2 n2 c2 w6 (by rw [zn_len]; exact l2) (by omega) Z2)
        rw [HH.out] at CH
        clear CE2 Z2 b6 l2
        go_wp2_with fail
        refine CH.out.mono ?_
        rintro e w7 ⟨rfl, b7⟩
        have B7 := Lib.hid (B6.out.trans (b7.mono B6.out.size))
        clear b7 CH
        go_wp2_with fail
        refine (RN.out _).mono ?_
        rintro e w8 ⟨rfl, b8⟩
        have B8 := Lib.hid (B7.out.trans (b8.mono B7.out.size))
        clear b8
        go_wp2
        go_ret
        exact ⟨rfl, B8.out⟩
      · have HH : Hid (decide ((M : Int) ∈ zn (ends (txt8 t) (textTree (txt8 s)) 0)) = false) := by show _ = _; rw [HH0]; exact decide_eq_false (fun h => hst (txt8_inj h))
        have hb : (s.toList == t.toList) = false := by
          cases hq : (s.toList == t.toList) with
          | false => rfl
          | true => exact absurd (txt8_inj (by unfold txt8; rw [← ByteArray.toList_eq, ← ByteArray.toList_eq, eq_of_beq hq])) hst
        clear HH0
        go_wp2_with fail
        refine CE2.out.mono ?_
        rintro e w6 ⟨A2, n2, c2, rfl, l2, m2, Z2, b6⟩
        have B6 := Lib.hid (B.out.trans (b6.mono B.out.size))
        have CH := Lib.hid (has_b _ (M : Int) A2 n2 c2 w6 (by rw [zn_len]; exact l2) (by omega) Z2)
        rw [HH.out] at CH
        clear CE2 Z2 b6 l2
        go_wp2_with fail
        refine CH.out.mono ?_
        rintro e w7 ⟨rfl, b7⟩
        have B7 := Lib.hid (B6.out.trans (b7.mono B6.out.size))
        clear b7 CH
        go_wp2_with fail
        refine (RN.out _).mono ?_
        rintro e w8 ⟨rfl, b8⟩
        have B8 := Lib.hid (B7.out.trans (b8.mono B7.out.size))
        clear b8
        go_wp2
        go_ret
        exact ⟨rfl, B8.out⟩
end Go.Proofs.Yteifjiadgbgkbaa
