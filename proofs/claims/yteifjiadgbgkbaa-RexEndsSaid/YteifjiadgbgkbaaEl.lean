/-
  What the reference's after does, for every tree that may be: it goes by sets of places as Rx.aft does. Conditions: at most 1000 nodes, 100 places; words have 64 bits.
-/
import Derived.Test.YteifjiadgbgkbaaEk
namespace Go.Proofs.Yteifjiadgbgkbaa
open Go.RowKit Go.Sort

namespace Rx
mutual
/-- Its sets' words have 64 bits. -/
def fit : Rx → Prop
  | .mk _ a b c d ks => Fit4 a b c d ∧ fitL ks
def fitL : List Rx → Prop
  | [] => True
  | k :: r => fit k ∧ fitL r
end
theorem fit_nth : ∀ {ks : List Rx} {j : Nat}, fitL ks → j < ks.length → fit (nth ks j)
  | k :: r, 0, h, _ => by simpa [nth] using h.1
  | k :: r, j + 1, h, hj => by
    have := fit_nth (ks := r) (j := j) h.2 (by simpa using hj)
    simpa [nth] using this
theorem all_nth : ∀ {ks : List Rx} {j : Nat}, isAll ks = true → j < ks.length → isRex (nth ks j) = true
  | k :: r, 0, h, _ => by
    rw [isAll, Bool.and_eq_true] at h
    simpa [nth] using h.1
  | k :: r, j + 1, h, hj => by
    rw [isAll, Bool.and_eq_true] at h
    have := all_nth (ks := r) (j := j) h.2 (by simpa using hj)
    simpa [nth] using this
end Rx

theorem rafter_any : ∀ (n : Nat) (t : Rx) (v : Value) (w : World) (s : ByteArray) (L : Nat) (F : Option Addr) (cf : Nat) (f : Nat → Bool), n ≤ 1000 → Rx.count t ≤ n → Rx.isRex t = true → Rx.fit t → s.size = L → L ≤ 100 → IsRx w v t → IsBo w F (L + 1) f →
    Calls Try.prog 29 #[v, .string s, .slice F (L + 1) cf] w (AftDone w (txt8 s) L t f) := by
  intro n
  induction n with
  | zero => intro t v w s L F cf f _ hs; have := Rx.count_pos t; omega
  | succ n ih =>
    intro t v w s L F cf f hn hcnt hr hfit hs hL h hf
    cases h with
    | node op a b c d ks A cap blk off V hcap hA hp hc hk =>
      rw [Rx.count] at hcnt
      have hlen := Rx.len_count ks
      obtain ⟨h4, hfl⟩ := hfit
      by_cases o1 : op = 1
      · subst o1
        exact after_set hs hL a b c d h4 A ks.length cap F cf f hf
      have hr2 : Rx.may op ks.length = true ∧ Rx.isAll ks = true := by
        rw [Rx.isRex, if_neg o1] at hr
        simp only [Bool.and_eq_true] at hr
        exact hr.1
      have T : AftH w s (txt8 s) L ks ks.length A blk off V :=
        { size := hs
          text := by rw [txt8_len, hs]
          few := hL
          len := rfl
          lenN := by omega
          ptr := hp
          cells := fun W hW j i hj hi => (hW.cell (World.block_lt_of_cell? w _ (hc j i hj hi))).trans (hc j i hj hi)
          call := fun j W A' c' f' hj hW hi => ih _ _ W s L A' c' f' (by omega) (by have := Rx.nth_count hj; omega) (Rx.all_nth hr2.2 hj) (Rx.fit_nth hfl hj) hs hL ((hk j hj).grown hW) hi }
      have hm := hr2.1
      unfold Rx.may at hm
      by_cases o2 : op = 2
      · subst o2; exact after_seq T a b c d cap F cf f hf
      by_cases o3 : op = 3
      · subst o3; exact after_alt T a b c d cap F cf f hf
      have p2 : (op == 2) = false := by simpa using o2
      have p3 : (op == 3) = false := by simpa using o3
      rw [p2, p3] at hm
      simp only [Bool.false_and, Bool.or_self, Bool.false_or, Bool.and_eq_true, Bool.or_eq_true, beq_iff_eq] at hm
      obtain ⟨ho, h1⟩ := hm
      rcases ho with (rfl | rfl) | rfl
      · exact after_star T a b c d cap h1 F cf f hf
      · exact after_plus T a b c d cap h1 F cf f hf
      · exact after_maybe T a b c d cap h1 F cf f hf
end Go.Proofs.Yteifjiadgbgkbaa
