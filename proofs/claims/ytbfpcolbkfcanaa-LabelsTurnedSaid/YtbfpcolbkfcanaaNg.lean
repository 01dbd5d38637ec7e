/-
  Slices of labels cut, wherever they lie. Conditions: the bounds fit.
-/
import Derived.Test.YtbfpcolbkfcanaaNb
namespace Go.Proofs.Ytbfpcolbkfcanaa
open Go.RowKit La Go.Sort

theorem lcutA_hi (W : World) (ad : Addr) (k c m : Nat) (hm : m ≤ k) : (Instr.slice 24 (.slice (some ad) k c) (some (.int .i64 (m : Int))) none none).run Try.prog W = .ok (.slice (some (if c = m then ad else ad.add (m * 2))) (k - m) (c - m)) W := by
  obtain ⟨i0, hi, hz0, hz1, hz2⟩ := info_parts Try.infoL
  simp [Instr.slice, Instr.sliceBounds, Instr.sliceBound, run_underlying Try.underlying24, asIntOf, sizeOf, typeInfo, hi, hz1, go_sem]
  by_cases hc : c = m
  · simp [hc]; intro h; omega
  · simp [hc]; intro h; omega
theorem lcutA_lo (W : World) (ad : Addr) (k c m : Nat) (hm : m ≤ c) : (Instr.slice 24 (.slice (some ad) k c) none (some (.int .i64 (m : Int))) none).run Try.prog W = .ok (.slice (some ad) m c) W := by
  obtain ⟨i0, hi, hz0, hz1, hz2⟩ := info_parts Try.infoL
  simp [Instr.slice, Instr.sliceBounds, Instr.sliceBound, run_underlying Try.underlying24, asIntOf, sizeOf, typeInfo, hi, go_sem]
  intro h; omega
theorem lcutN_hi (W : World) : (Instr.slice 24 (.slice none 0 0) (some (.int .i64 0)) none none).run Try.prog W = .ok (.slice none 0 0) W := by kernel_rfl
theorem lcutN_lo (W : World) : (Instr.slice 24 (.slice none 0 0) none (some (.int .i64 0)) none).run Try.prog W = .ok (.slice none 0 0) W := by kernel_rfl
theorem cut_labs {A : Option Addr} {cap p N : Nat} {ls : List Lab} (hN : ls.length = N) (hp : p ≤ N) (hc : N ≤ cap) (hA : A = none → cap = 0) :
    ∃ A1 A0, (∀ W, (Instr.slice 24 (.slice A N cap) (some (.int .i64 (p : Int))) none none).run Try.prog W = .ok (.slice A1 (N - p) (cap - p)) W) ∧ (∀ W, IsLabs W A ls → IsLabs W A1 (ls.drop p)) ∧ (A1 = none → cap - p = 0) ∧
      (∀ W, (Instr.slice 24 (.slice A N cap) none (some (.int .i64 (p : Int))) none).run Try.prog W = .ok (.slice A0 p cap) W) ∧ (∀ W, IsLabs W A ls → IsLabs W A0 (ls.take p)) ∧ (A0 = none → cap = 0) := by
  cases A with
  | none =>
    obtain rfl := hA rfl
    obtain rfl : N = 0 := by omega
    obtain rfl : p = 0 := by omega
    have e : ls = [] := List.eq_nil_of_length_eq_zero hN
    subst e
    exact ⟨none, none, lcutN_hi, fun _ _ hp => absurd hp (by simp), fun _ => rfl, lcutN_lo, fun _ _ hp => absurd hp (by simp), fun _ => rfl⟩
  | some ad =>
    refine ⟨_, _, fun W => lcutA_hi W ad N cap p hp, fun W hi hq => ?_, (fun e => by cases e), fun W => lcutA_lo W ad N cap p (by omega), fun W hi => labs_take hi p, (fun e => by cases e)⟩
    have hm : p < ls.length := by simp at hq; omega
    obtain ⟨b, off, e, hx⟩ := hi (by omega)
    injection e with e
    subst e
    rw [if_neg (by omega)]
    have e2 : (⟨b, off, none⟩ : Addr).add (p * 2) = ⟨b, off + p * 2, none⟩ := by unfold Addr.add; split <;> simp_all
    refine ⟨b, off + p * 2, by rw [e2], fun j hj => ?_⟩
    have := hx (p + j) (by simp at hj; omega)
    rw [nth_drop]
    have q1 : off + (p + j) * 2 = off + p * 2 + j * 2 := by omega
    rw [q1] at this
    exact this
/-- Two labels of a row exchanged. -/
theorem swap_row {base B N c : Nat} {r ls : List Lab} {w0 wr : World} (h : wr.ownsRow base 23 2 (.slice (some ⟨B, 0, none⟩) N c) N (lc r)) (hl : r.length = N) (hp : r.Perm ls) (hb : Below base w0 wr) (hs : base ≤ wr.heap.size) (i j : Nat) (hi : i < N) (hj : j < N) :
    ∃ r' : List Lab, r'.length = N ∧ r'.Perm ls ∧
      ((((wr.setCell ⟨B, i * 2, none⟩ (.string (nth r j).1)).setCell ⟨B, i * 2 + 1, none⟩ (.string (nth r j).2)).setCell ⟨B, j * 2, none⟩ (.string (nth r i).1)).setCell ⟨B, j * 2 + 1, none⟩ (.string (nth r i).2)).drew.ownsRow base 23 2 (.slice (some ⟨B, 0, none⟩) N c) N (lc r') ∧
      Below base w0 ((((wr.setCell ⟨B, i * 2, none⟩ (.string (nth r j).1)).setCell ⟨B, i * 2 + 1, none⟩ (.string (nth r j).2)).setCell ⟨B, j * 2, none⟩ (.string (nth r i).1)).setCell ⟨B, j * 2 + 1, none⟩ (.string (nth r i).2)).drew ∧
      base ≤ ((((wr.setCell ⟨B, i * 2, none⟩ (.string (nth r j).1)).setCell ⟨B, i * 2 + 1, none⟩ (.string (nth r j).2)).setCell ⟨B, j * 2, none⟩ (.string (nth r i).1)).setCell ⟨B, j * 2 + 1, none⟩ (.string (nth r i).2)).drew.heap.size := by
  have e : rowL r N (fun j => j) = r := by rw [← hl]; exact rowL_id r
  have L : LabS base B N c r w0 (fun j => j) wr := ⟨by rw [e]; exact h, hb, hs⟩
  have P := (L.put i j hi hj).drew1
  exact ⟨rowL r N (So.sw (fun j => j) i j), rowL_len _ _ _, (via_perm hl (.step i j .refl (Nat.zero_le _) hi (Nat.zero_le _) hj)).trans hp, P.own, P.bel, P.siz⟩
theorem row_cells {base B N c : Nat} {r : List Lab} {wr : World} (h : wr.ownsRow base 23 2 (.slice (some ⟨B, 0, none⟩) N c) N (lc r)) (j : Nat) (hj : j < N) : wr.cell? ⟨B, j * 2, none⟩ = some (.string (nth r j).1) ∧ wr.cell? ⟨B, j * 2 + 1, none⟩ = some (.string (nth r j).2) := by
  obtain ⟨h1, h2⟩ := own_labs h
  have := isLabs_at h1 (j := j) (by omega)
  rwa [Nat.zero_add] at this
end Go.Proofs.Ytbfpcolbkfcanaa
