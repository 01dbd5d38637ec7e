/-
  What slices.swapRangeCmpFunc and slices.rotateCmpFunc do to a row of ints: two rows of places exchanged, a rotation. Conditions: no more than 60 places; what SortW says of the worlds that the sort passes through.
-/
import Derived.Test.YtmdpeifpgnkbiaaDoorQn
import Derived.Test.YtmdpeifpgnkbiaaDoorQb
namespace Go.Proofs.YtmdpeifpgnkbiaaDoor
open Go.RowKit

/-- What a sort of the first n places of block B is told of the worlds that it passes through: S d w: the row holds d in w. -/
structure SortW (B n : Nat) (c : FuncId) (cb : Array Value) (cf : Nat → Nat → Int) (S : (Nat → Nat) → World → Prop) : Prop where
  len : n ≤ 60
  cell : ∀ {d w}, S d w → ∀ j, j < n → w.cell? ⟨B, j, none⟩ = some (.int .i64 ((d j : Nat) : Int))
  free : ∀ {d w}, S d w → ∀ j, j < n → w.frozen? ⟨B, j, none⟩ = false
  drew : ∀ {d w}, S d w → ∀ q, S d (w.drewN q)
  put : ∀ {d w}, S d w → ∀ i j, i < n → j < n → S (So.sw d i j) ((w.setCell ⟨B, i, none⟩ (.int .i64 ((d j : Nat) : Int))).setCell ⟨B, j, none⟩ (.int .i64 ((d i : Nat) : Int)))
  enters : ∀ args w, (callFunc c args).run Tryd.prog w = .ok (.enter c args) w
  cmp : ∀ {d w}, S d w → ∀ i j, i < n → j < n → Calls Tryd.prog c (#[.int .i64 ((d i : Nat) : Int), .int .i64 ((d j : Nat) : Int)] ++ cb) w fun e w' => e = .returned (.int .i64 (cf (d i) (d j))) ∧ ∃ q, w' = w.drewN q

section
variable {B n : Nat} {c : FuncId} {cb : Array Value} {cf : Nat → Nat → Int} {S : (Nat → Nat) → World → Prop}
/-- The second place still holds something behind the first store. -/
theorem SortW.two (T : SortW B n c cb cf S) {d : Nat → Nat} {w : World} (h : S d w) (i j : Nat) (hi : i < n) (hj : j < n) (v : Value) : ∃ u, (w.setCell ⟨B, i, none⟩ v).cell? ⟨B, j, none⟩ = some u := by
  by_cases e : i = j
  · subst e; exact ⟨v, World.cell?_setCell_same _ _ _ (T.cell h i hi)⟩
  · exact ⟨_, (World.cell?_setCell_other _ _ _ _ (by intro e'; simp only [Addr.mk.injEq] at e'; omega)).trans (T.cell h j hj)⟩

set_option maxRecDepth 100000 in
set_option maxHeartbeats 1000000 in
theorem swaprange_any (T : SortW B n c cb cf S) (cap a b k : Nat) (d : Nat → Nat) (w : World) (hS : S d w) (h1 : a + k ≤ b) (h2 : b + k ≤ n) :
    Calls Tryd.prog 61 #[.slice (some ⟨B, 0, none⟩) n cap, .int .i64 (a : Int), .int .i64 (b : Int), .int .i64 (k : Int), .func (.func c) #[] cb] w fun e w' => e = .returned (.tuple #[]) ∧ S (So.swr d a b k) w' := by
  have HT := Lib.hid T
  have hn := T.len
  have HS := Lib.hid hS
  clear T hS
  go_enter Tryd.func61, Tryd.ntmps61
  go_wp2
  go_loopw [10] (fun v wr => ∃ i : Nat, i ≤ k ∧ v = .int .i64 (i : Int) ∧ Hid (S (So.swr d a b i) wr)) (fun v _ => k - (intOf v).toNat)
  case atStart => exact ⟨0, by omega, rfl, by show S _ _; rw [So.swr_zero]; exact HS.out⟩
  case round =>
    obtain ⟨i, hi, rfl, HI⟩ := hrel
    by_cases hik : i < k
    · have P1 : Hid (S (So.swr d a b (i + 1)) ((wr.setCell ⟨B, a + i, none⟩ (.int .i64 ((So.swr d a b i (b + i) : Nat) : Int))).setCell ⟨B, b + i, none⟩ (.int .i64 ((So.swr d a b i (a + i) : Nat) : Int))).drew) := by
        show S _ _
        rw [← So.swr_succ d a b k i hik h1]
        exact HT.out.drew (HT.out.put HI.out (a + i) (b + i) (by omega) (by omega)) 1
      have cp := HT.out.cell HI.out (a + i) (by omega)
      have cq := HT.out.cell HI.out (b + i) (by omega)
      have fp := HT.out.free HI.out (a + i) (by omega)
      have fq := HT.out.free HI.out (b + i) (by omega)
      obtain ⟨u, cu⟩ := HT.out.two HI.out (a + i) (b + i) (by omega) (by omega) (.int .i64 ((So.swr d a b i (b + i) : Nat) : Int))
      generalize So.swr d a b i (a + i) = x at *
      generalize So.swr d a b i (b + i) = y at *
      clear HI HS
      have pa : (0 : Int) ≤ (a : Int) + (i : Int) := by omega
      have ba : (a : Int) + (i : Int) < (n : Int) := by omega
      have ra : IntKind.i64.wrap ((a : Int) + (i : Int)) = (a : Int) + (i : Int) := by rw [IntKind.wrap_i64]; omega
      have pb : (0 : Int) ≤ (b : Int) + (i : Int) := by omega
      have bb : (b : Int) + (i : Int) < (n : Int) := by omega
      have rb : IntKind.i64.wrap ((b : Int) + (i : Int)) = (b : Int) + (i : Int) := by rw [IntKind.wrap_i64]; omega
      have hlt : (i : Int) < (k : Int) := by omega
      go_wp2_with fail
      go_region
      generalize ((wr.setCell ⟨B, a + i, none⟩ (.int .i64 (y : Int))).setCell ⟨B, b + i, none⟩ (.int .i64 (x : Int))).drew = w3 at *
      clear cp cq fp fq cu pa ba ra pb bb rb
      go_wp2
      go_roundw
      case rel => exact ⟨i + 1, by omega, by go_num, P1⟩
      case measure => simp [intOf]; omega
    · obtain rfl : i = k := by omega
      go_wp2
      go_end0
      exact ⟨rfl, HI.out⟩
end
end Go.Proofs.YtmdpeifpgnkbiaaDoor
