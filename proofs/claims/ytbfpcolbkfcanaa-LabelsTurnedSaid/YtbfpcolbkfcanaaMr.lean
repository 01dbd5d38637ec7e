/-
  What readLabel does: the label that bytes begin with, or that there is none. Conditions: lengths fit.
-/
import Derived.Test.YtbfpcolbkfcanaaMz
import Derived.Laws.ResultCell
namespace Go.Proofs.Ytbfpcolbkfcanaa
open Go.RowKit La

/-- Where a slice of bytes begins that is cut at p. -/
def cutA (b off cap p : Nat) : Option Addr := some (if cap = p then ⟨b, off, none⟩ else ⟨b, off + p, none⟩)
theorem bcut (W : World) (b off n cap p : Nat) (hp : p ≤ n) : (Instr.slice 28 (.slice (some ⟨b, off, none⟩) n cap) (some (.int .i64 (p : Int))) none none).run Try.prog W = .ok (.slice (cutA b off cap p) (n - p) (cap - p)) W := by
  obtain ⟨i0, hi, hz0, hz1, hz2⟩ := info_parts Try.info5
  unfold cutA
  simp [Instr.slice, Instr.sliceBounds, Instr.sliceBound, run_underlying Try.underlying28, asIntOf, sizeOf, typeInfo, hi, hz1, go_sem]
  by_cases hc : cap = p
  · simp [hc]; intro h; omega
  · simp [hc]; intro h; omega
theorem bcut_is {W : World} {b off cap : Nat} {l : List Nat} (h : IsBytes W (some ⟨b, off, none⟩) l) (p : Nat) (hc : l.length ≤ cap) : IsBytes W (cutA b off cap p) (l.drop p) := by
  refine ⟨drop_byte h.1 p, fun hp => ?_⟩
  have hl : p < l.length := by simp at hp; omega
  obtain ⟨b', off', e, hx⟩ := h.2 (by omega)
  injection e with e; injection e with e1 e2
  subst e1 e2
  unfold cutA
  rw [if_neg (by omega)]
  refine ⟨b, off + p, rfl, fun j hj => ?_⟩
  have := hx (p + j) (by simp at hj; omega)
  rw [Nat.add_assoc, this]
  simp [List.getD, List.getElem?_drop]
theorem gtext_at (l : List Nat) (L : Nat) (hL : l.length = L) (a : Option Addr) (cap : Nat) (most : Int) (w : World) (hl : L ≤ 1048576) (hcap : L ≤ cap) (hm : -9223372036854775808 ≤ most ∧ most ≤ 9223372036854775807) (hb : IsBytes w a l) :
    Calls Try.prog 51 #[.slice a L cap, .int .i64 most] w fun e w' => e = .returned (textRes (Vm.getText l most)) ∧ w = w' := by subst hL; exact gtext_any l a cap most w (by omega) hcap hm hb
theorem rgtext_at (l : List Nat) (L : Nat) (hL : l.length = L) (a : Option Addr) (cap : Nat) (most : Int) (w : World) (hl : L ≤ 1048576) (hcap : L ≤ cap) (hm : -9223372036854775808 ≤ most ∧ most ≤ 9223372036854775807) (hb : IsBytes w a l) :
    Calls Try.prog 40 #[.slice a L cap, .int .i64 most] w fun e w' => e = .returned (textRes (Vm.getText l most)) ∧ w = w' := by subst hL; exact rgtext_any l a cap most w (by omega) hcap hm hb
/-- The label that bytes begin with. -/
def read1 (l : List Nat) : Option (Lab × Nat) :=
  match Vm.getText l 12 with
  | none => none
  | some (t, j) =>
    match Vm.getText (l.drop j) 24 with
    | none => none
    | some (u, m) => some ((strOf t, strOf u), j + m)
def labRes : Option (Lab × Nat) → Value
  | none => .tuple #[.agg #[.string ⟨#[]⟩, .string ⟨#[]⟩], .int .i64 0, .bool false]
  | some (x, j) => .tuple #[.agg #[.string x.1, .string x.2], .int .i64 (j : Int), .bool true]
theorem read1_none1 {l : List Nat} (h : Vm.getText l 12 = none) : read1 l = none := by rw [read1, h]
theorem read1_none2 {l t : List Nat} {j : Nat} (h : Vm.getText l 12 = some (t, j)) (h2 : Vm.getText (l.drop j) 24 = none) : read1 l = none := by rw [read1, h]; simp only [h2]
theorem read1_some {l t u : List Nat} {j m : Nat} (h : Vm.getText l 12 = some (t, j)) (h2 : Vm.getText (l.drop j) 24 = some (u, m)) : read1 l = some ((strOf t, strOf u), j + m) := by rw [read1, h]; simp only [h2]

theorem results_ctt {fn : Func} {p t u : Tmp} {ty : TypeId} (h : fn.results = #[.cell p ty, .tmp t, .tmp u]) (tmps : Array Value) (P : Program) (w : World) :
    (results fn tmps).run P w = ((asAddr (tmps.getD p undef)).run P w).andThen fun a w1 => ((loadVar ty a).run P w1).andThen fun v w2 => .ok (.tuple #[v, tmps.getD t undef, tmps.getD u undef]) w2 := by
  simp only [results, h]
  simp [Sem.run_bind, Result.andThen]

set_option maxRecDepth 100000 in
set_option maxHeartbeats 1000000 in
theorem readlab_any (l : List Nat) (N : Nat) (hN : l.length = N) (A : Option Addr) (cap : Nat) (w : World) (hl : N ≤ 1048576) (hc : N ≤ cap) (ha : IsBytes w A l) :
    Calls Try.prog 38 #[.slice A N cap] w fun e w' => e = .returned (labRes (read1 l)) ∧ Below w.heap.size w w' := by
  have HA := Lib.hid ha
  have hlt := Lib.hid ha.1
  have HN := Lib.hid hN
  clear ha hN
  have ba : Below w.heap.size w (w.alloc (.cells #[.string ⟨#[]⟩, .string ⟨#[]⟩] 23)) := (Below.refl _ _).alloc (Nat.le_refl _) _
  have G1 := Lib.hid (fun W (hW : Below w.heap.size w W) => gtext_at l N HN.out A cap 12 W hl hc (by omega) (isBytes_below HA.out hW))
  cases h1 : Vm.getText l 12 with
  | none =>
    have R := Lib.hid (read1_none1 h1)
    rw [h1] at G1
    clear h1
    go_enter Try.func38, Try.ntmps38
    go_wp2_with fail
    refine (G1.out _ ba).mono ?_
    rintro e w' ⟨rfl, rfl⟩
    simp only [textRes]
    clear G1
    go_wp2
    refine bodyPost_ret (v := labRes none) ?_ rfl ?_
    · rw [results_ctt rfl]
      simp only [labRes]
      go_simp
    · exact ⟨by rw [R.out], ba⟩
  | some q =>
    obtain ⟨t, j⟩ := q
    have gl := getText_le h1 hlt.out
    rw [HN.out] at gl
    obtain ⟨b, off, rfl, _⟩ := HA.out.2 (by rw [HN.out]; omega)
    have SC := fun W => bcut W b off N cap j gl.1
    have G2 := Lib.hid (fun W (hW : Below w.heap.size w W) => gtext_at (l.drop j) (N - j) (by rw [List.length_drop, HN.out]) (cutA b off cap j) (cap - j) 24 W (by omega) (by omega) (by omega) (bcut_is (isBytes_below HA.out hW) j (by rw [HN.out]; exact hc)))
    rw [h1] at G1
    cases h2 : Vm.getText (l.drop j) 24 with
    | none =>
      have R := Lib.hid (read1_none2 h1 h2)
      rw [h2] at G2
      clear h1 h2
      generalize strOf t = T at *
      go_enter Try.func38, Try.ntmps38
      go_wp2_with fail
      refine (G1.out _ ba).mono ?_
      rintro e w' ⟨rfl, rfl⟩
      simp only [textRes]
      clear G1
      go_wp2_with fail
      refine (G2.out _ ba).mono ?_
      rintro e w' ⟨rfl, rfl⟩
      simp only [textRes]
      clear G2
      go_wp2
      refine bodyPost_ret (v := labRes none) ?_ rfl ?_
      · rw [results_ctt rfl]
        simp only [labRes]
        go_simp
      · exact ⟨by rw [R.out], ba⟩
    | some q =>
      obtain ⟨u, m⟩ := q
      have gl2 := getText_le h2 (drop_byte hlt.out j)
      rw [List.length_drop, HN.out] at gl2
      have R := Lib.hid (read1_some h1 h2)
      rw [h2] at G2
      clear h1 h2
      have BB : Hid (Below w.heap.size w (w.alloc (.cells #[.string (strOf t), .string (strOf u)] 23))) := (Below.refl _ _).alloc (Nat.le_refl _) _
      simp only [textRes] at G1 G2
      generalize strOf t = T at *
      generalize strOf u = U at *
      have wj : IntKind.i64.wrap ((j : Int) + (m : Int)) = (j : Int) + (m : Int) := by rw [IntKind.wrap_i64]; omega
      go_enter Try.func38, Try.ntmps38
      go_wp2_with fail
      refine (G1.out _ ba).mono ?_
      rintro e w' ⟨rfl, rfl⟩
      clear G1
      go_wp2_with fail
      refine (G2.out _ ba).mono ?_
      rintro e w' ⟨rfl, rfl⟩
      clear G2
      go_wp2
      refine bodyPost_ret (v := labRes (some ((T, U), j + m))) ?_ rfl ?_
      · rw [results_ctt rfl]
        simp only [labRes]
        go_simp
      · exact ⟨by rw [R.out], BB.out⟩
end Go.Proofs.Ytbfpcolbkfcanaa
