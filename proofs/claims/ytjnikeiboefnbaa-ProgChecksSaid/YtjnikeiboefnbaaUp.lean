/-
  ProgChecks and ProgSizes as contracts: may steps be a program; a program's size, its only match. No conditions.
-/
import Derived.Test.YtjnikeiboefnbaaUo
import Derived.Test.YtjnikeiboefnbaaUl
namespace Go.Proofs.Ytjnikeiboefnbaa
open Go.RowKit Go.Sort
open Pz

set_option maxRecDepth 100000 in
set_option maxHeartbeats 4000000 in
theorem checks_law (L : List St) (A : Option Addr) (N cap : Nat) (w : World) (hN : L.length = N) (hcap : N ≤ cap) (h : IsSt w A L) :
    Calls Try.prog 6 #[.slice A N cap] w fun e w' => e = .returned (.bool true) ∧ Below w.heap.size w w' := by
  have RN := Lib.hid runs6_any
  by_cases h60 : 60 < N
  · have hz : decide ((N : Int) > 60) = true := decide_eq_true (by omega)
    clear h hN
    go_enter Try.func6, Try.ntmps6
    go_wp2_with fail
    refine (RN.out _).mono ?_
    rintro e w1 ⟨rfl, b1⟩
    replace b1 := Lib.hid b1
    go_wp2
    go_ret
    exact ⟨rfl, b1.out⟩
  have hz : decide ((N : Int) > 60) = false := decide_eq_false (by omega)
  have CK := Lib.hid (fun W hW => check_any L A N cap W hN (by omega) hcap (h.grown hW))
  have CR := Lib.hid (fun W hW => rcheck_any L A N cap W hN (by omega) hcap (h.grown hW))
  generalize progOk L = q at *
  have B0 := Lib.hid (Below.refl w.heap.size w)
  clear h hN h60
  go_enter Try.func6, Try.ntmps6
  go_wp2_with fail
  refine (CK.out _ B0.out).mono ?_
  rintro e w1 ⟨rfl, b1⟩
  have B1 := Lib.hid (B0.out.trans (b1.mono B0.out.size))
  clear b1
  go_wp2_with fail
  refine (CR.out _ B1.out).mono ?_
  rintro e w2 ⟨rfl, b1⟩
  have B2 := Lib.hid (B1.out.trans (b1.mono B1.out.size))
  clear b1
  go_wp2_with fail
  refine (RN.out _).mono ?_
  rintro e w3 ⟨rfl, b1⟩
  have B3 := Lib.hid (B2.out.trans (b1.mono B2.out.size))
  clear b1
  go_wp2
  go_ret
  exact ⟨rfl, B3.out⟩

theorem made_size (t : Rx) : Rx.made t = (decide ((0 : Int) < (Rx.size t : Int)) && decide ((Rx.size t : Int) ≤ 40)) := by
  unfold Rx.made
  rw [Bool.eq_iff_iff]; simp; omega
theorem isRex_size (t : Rx) : decide ((0 : Int) < (Rx.size t : Int)) = Rx.isRex t := by
  unfold Rx.size
  cases h : Rx.isRex t <;> simp
theorem prog_op {t : Rx} {j : Nat} (h : j < Rx.sz t) : (nthS (progOf t) j).op ≠ 4 := by
  have hl : j < (Rx.lay 0 t).length := by rw [Rx.lay_len]; exact h
  have e : nthS (progOf t) j = (Rx.lay 0 t)[j] := by
    rw [nthS_eq (by rw [prog_len]; omega)]
    simp only [progOf]
    rw [List.getElem_append_left hl]
  rw [e]
  exact (lay_good t 0 (Rx.sz t + 1) (by omega) _ (List.getElem_mem hl)).2
theorem prog_last (t : Rx) : (nthS (progOf t) (Rx.sz t)).op = 4 := by
  rw [nthS_eq (by rw [prog_len]; omega)]
  simp only [progOf]
  rw [List.getElem_append_right (by rw [Rx.lay_len]; exact Nat.le_refl _)]
  simp [Rx.lay_len, St.mat]

set_option maxRecDepth 100000 in
set_option maxHeartbeats 4000000 in
theorem sizes_law (t : Rx) (v : Value) (w : World) (h : IsRx w v t) :
    Calls Try.prog 7 #[v] w fun e w' => e = .returned (.bool true) ∧ Below w.heap.size w w' := by
  obtain ⟨op, a, b, c, d, A, n, cap, rfl⟩ := h.six
  have B0 : Below w.heap.size w (w.alloc (.cells #[.int .i64 op, .int .u64 (a : Int), .int .u64 (b : Int), .int .u64 (c : Int), .int .u64 (d : Int), .slice A n cap] 26)) := (Below.refl _ _).alloc (Nat.le_refl _) _
  have R0 : Hid (Row6 (w.alloc (.cells #[.int .i64 op, .int .u64 (a : Int), .int .u64 (b : Int), .int .u64 (c : Int), .int .u64 (d : Int), .slice A n cap] 26)) w.heap.size #[.int .i64 op, .int .u64 (a : Int), .int .u64 (b : Int), .int .u64 (c : Int), .int .u64 (d : Int), .slice A n cap]) := heap_alloc_new w _
  have X0 := Lib.hid (h.grown B0)
  have B := Lib.hid B0
  clear B0 h
  have RN := Lib.hid runs6_any
  have CN := Lib.hid (nodes_at 60 (by omega) t _ _ X0.out)
  obtain ⟨k, hk⟩ : ∃ k, min (Rx.count t) (60 + 1) = k := ⟨_, rfl⟩
  rw [hk] at CN
  by_cases h14 : 60 < k
  · have hkz : decide ((k : Int) > 60) = true := decide_eq_true (by omega)
    clear hk h14
    go_enter Try.func7, Try.ntmps7
    go_wp2_with fail
    refine CN.out.mono ?_
    rintro e w1 ⟨rfl, b1⟩
    replace B := Lib.hid (B.out.trans (b1.mono B.out.size))
    clear b1
    go_wp2_with fail
    refine (RN.out _).mono ?_
    rintro e w2 ⟨rfl, b1⟩
    replace B := Lib.hid (B.out.trans (b1.mono B.out.size))
    clear b1
    go_wp2
    go_ret
    exact ⟨rfl, B.out⟩
  have hkz : decide ((k : Int) > 60) = false := decide_eq_false (by omega)
  have hcnt : Rx.count t ≤ 1000 := by omega
  clear hk h14
  go_enter Try.func7, Try.ntmps7
  go_wp2_with fail
  refine CN.out.mono ?_
  rintro e w1 ⟨rfl, b1⟩
  replace B := Lib.hid (B.out.trans (b1.mono B.out.size))
  replace R0 := Lib.hid (R0.out.grow b1)
  replace X0 := Lib.hid (X0.out.grown b1)
  have M1 := Lib.hid (size_any t _ _ hcnt X0.out)
  clear b1 CN
  obtain ⟨e0, e1, e2, e3, e4, e5⟩ := R0.out.cells
  go_wp2_with fail
  refine M1.out.mono ?_
  rintro e w2 ⟨rfl, b2⟩
  replace B := Lib.hid (B.out.trans (b2.mono B.out.size))
  replace R0 := Lib.hid (R0.out.grow b2)
  replace X0 := Lib.hid (X0.out.grown b2)
  have M2 := Lib.hid (make_any t _ _ hcnt X0.out)
  have ZR := isRex_size t
  have MZ := made_size t
  rw [ZR] at MZ
  clear b2 M1 e0 e1 e2 e3 e4 e5
  obtain ⟨e0, e1, e2, e3, e4, e5⟩ := R0.out.cells
  cases hmd : Rx.made t
  · rw [hmd] at MZ
    have DE : Hid ((decide (Rx.size t > 0) && decide (Rx.size t ≤ 40)) = false) := by
      have := hmd; unfold Rx.made at this; exact this
    obtain ⟨Z, hZ⟩ : ∃ Z, Rx.size t = Z := ⟨_, rfl⟩
    rw [hZ] at ZR MZ DE ⊢
    have CI0 := Lib.hid (fun W (hX : IsRx W (.agg #[.int .i64 op, .int .u64 (a : Int), .int .u64 (b : Int), .int .u64 (c : Int), .int .u64 (d : Int), .slice A n cap]) t) => is_any 1000 t _ W (Nat.le_refl _) hcnt hX)
    generalize Rx.isRex t = r at *
    clear hZ
    go_wp2_with fail
    refine M2.out.mono ?_
    intro e w3 h3
    obtain ⟨rfl, b3⟩ := h3.no hmd
    replace B := Lib.hid (B.out.trans (b3.mono B.out.size))
    replace R0 := Lib.hid (R0.out.grow b3)
    replace X0 := Lib.hid (X0.out.grown b3)
    clear h3 b3 M2 e0 e1 e2 e3 e4 e5
    obtain ⟨e0, e1, e2, e3, e4, e5⟩ := R0.out.cells
    have CI := Lib.hid (CI0.out _ X0.out)
    clear CI0 X0 hmd
    have ZR2 : decide (0 < Z) = r := by rw [← ZR, Bool.eq_iff_iff]; simp
    clear ZR
    go_wp2_with fail
    refine CI.out.mono ?_
    rintro e w4 ⟨rfl, b4⟩
    replace B := Lib.hid (B.out.trans (b4.mono B.out.size))
    clear b4 CI e0 e1 e2 e3 e4 e5
    cases r
    · clear MZ
      go_wp2_with fail
      refine (RN.out _).mono ?_
      rintro e w5 ⟨rfl, b5⟩
      replace B := Lib.hid (B.out.trans (b5.mono B.out.size))
      clear b5
      go_wp2
      go_ret
      exact ⟨rfl, B.out⟩
    · have MZ2 : decide ((Z : Int) ≤ 40) = false := by rw [Bool.true_and] at MZ; exact MZ.symm
      clear MZ
      go_wp2_with fail
      refine (RN.out _).mono ?_
      rintro e w5 ⟨rfl, b5⟩
      replace B := Lib.hid (B.out.trans (b5.mono B.out.size))
      clear b5
      go_wp2
      go_ret
      exact ⟨rfl, B.out⟩
  · obtain ⟨hrx, hle, hsz⟩ := Rx.size_yes hmd
    have CI0 := Lib.hid (fun W (hX : IsRx W (.agg #[.int .i64 op, .int .u64 (a : Int), .int .u64 (b : Int), .int .u64 (c : Int), .int .u64 (d : Int), .slice A n cap]) t) => is_any 1000 t _ W (Nat.le_refl _) hcnt hX)
    rw [hrx] at CI0
    have OPS := Lib.hid (fun j (hj : j < Rx.sz t) => prog_op hj)
    have LST := Lib.hid (prog_last t)
    have PL := Lib.hid (prog_len t)
    have PK := Lib.hid (prog_ok hle)
    have YS := Lib.hid (fun w w' e (h : MakeRes w t e w') => h.yes hmd)
    rw [hsz]
    obtain ⟨m, hm⟩ : ∃ m, Rx.sz t = m := ⟨_, rfl⟩
    rw [hm] at OPS LST PL YS hle ⊢
    clear hm MZ ZR hsz hrx hmd
    go_wp2_with fail
    refine M2.out.mono ?_
    intro e w3 h3
    obtain ⟨A1, c1, rfl, S1, b3, hc1⟩ := YS.out _ _ _ h3
    replace B := Lib.hid (B.out.trans (b3.mono B.out.size))
    replace R0 := Lib.hid (R0.out.grow b3)
    replace X0 := Lib.hid (X0.out.grown b3)
    replace S1 := Lib.hid S1
    clear h3 b3 M2 e0 e1 e2 e3 e4 e5 YS
    obtain ⟨e0, e1, e2, e3, e4, e5⟩ := R0.out.cells
    have CI := Lib.hid (CI0.out _ X0.out)
    have m1 : (0 : Int) < (m : Int) + 1 := by omega
    have m2 : (m : Int) + 1 ≤ 40 := by omega
    clear CI0
    go_wp2_with fail
    refine CI.out.mono ?_
    rintro e w4 ⟨rfl, b4⟩
    replace B := Lib.hid (B.out.trans (b4.mono B.out.size))
    replace S1 := Lib.hid (S1.out.grown b4)
    have CK := Lib.hid (check_any (progOf t) A1 (m + 1) c1 _ PL.out (by omega) hc1 S1.out)
    rw [PK.out] at CK
    clear b4 CI e0 e1 e2 e3 e4 e5 X0 R0 PK
    go_wp2_with fail
    refine CK.out.mono ?_
    rintro e w5 ⟨rfl, b5⟩
    replace B := Lib.hid (B.out.trans (b5.mono B.out.size))
    replace S1 := Lib.hid (S1.out.grown b5)
    obtain ⟨blk, off, rfl, HC⟩ := S1.out.at (by rw [PL.out]; omega)
    have HO : Hid (∀ j, j < m + 1 → w5.cell? ⟨blk, off + j * 7, none⟩ = some (.int .i64 (nthS (progOf t) j).op)) := fun j hj => (HC j (by rw [PL.out]; exact hj)).1
    have cl := HO.out m (by omega)
    rw [LST.out] at cl
    clear b5 CK HC S1 LST PL
    go_wp2_with fail
    go_loopw [6] (fun i wr => ∃ k : Nat, k ≤ m ∧ i = .int .i64 (k : Int) ∧ wr = w5) (fun i _ => m - (intOf i).toNat)
    case atStart => exact ⟨0, by omega, rfl, rfl⟩
    case round =>
      obtain ⟨k, hk, rfl, rfl⟩ := hrel
      clear cl
      by_cases hkm : k < m
      · have hkz : (k : Int) < (m : Int) := by omega
        have ck := HO.out k (by omega)
        have ne := OPS.out k hkm
        obtain ⟨o, ho⟩ : ∃ o, (nthS (progOf t) k).op = o := ⟨_, rfl⟩
        rw [ho] at ck ne
        have oz : (o == 4) = false := by simpa using ne
        clear ho ne HO OPS
        go_wp2
        go_roundw
        case rel => exact ⟨k + 1, by omega, by go_num, trivial⟩
        case measure => simp [intOf]; omega
      · obtain rfl : k = m := by omega
        have hkz : ¬ (k : Int) < (k : Int) := by omega
        clear HO OPS
        go_wp2_with fail
        refine (RN.out _).mono ?_
        rintro e w6 ⟨rfl, b6⟩
        replace B := Lib.hid (B.out.trans (b6.mono B.out.size))
        clear b6
        go_wp2
        go_ret
        exact ⟨rfl, B.out⟩
end Go.Proofs.Ytjnikeiboefnbaa
