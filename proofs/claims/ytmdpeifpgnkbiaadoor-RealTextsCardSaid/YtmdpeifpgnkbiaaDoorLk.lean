/-
  The law RealRank over the contracts of package real. Conditions: words have 64 bits; G.
-/
import Derived.Test.YtmdpeifpgnkbiaaDoorLx
import Derived.Test.YtmdpeifpgnkbiaaDoorRk
namespace Go.Proofs.YtmdpeifpgnkbiaaDoor
open Go.RowKit

theorem own_isrow {w : World} {base n : Nat} {v : Value} {l : List Nat} (h : w.ownsRow base 3 1 v n (in64 l)) : ∃ A c, v = .slice A n c ∧ IsRow1 w A (in64 l) := by
  rcases h.2 with ⟨rfl, rfl⟩ | ⟨g, c, cur, rfl, _⟩
  · have : l.length = 0 := by have := h.1; simpa [in64] using this
    exact ⟨none, 0, rfl, fun hp => by rw [in64_len] at hp; omega⟩
  · have ro := own_row h
    refine ⟨_, c, rfl, ?_⟩
    have := row_take ro.2 ro.1 l.length
    rwa [List.take_length] at this
section
variable {G : World → Prop}
set_option maxRecDepth 100000 in
set_option maxHeartbeats 400000 in
theorem rank_law (C : RealC 60 G) (l : List Nat) (A : Option Addr) (cap : Nat) (w : World) (hl : l.length ≤ maxLen) (hA : A = none → cap = 0) (hcap : l.length ≤ cap) (hw : ∀ x ∈ l, Fm.W x) (hr : IsRow1 w A (fl64 l)) (hG : G w) :
    Gives 10 #[.slice A l.length cap] w (.bool true) := by
  have HC := Lib.hid C
  have HG := Lib.hid hG
  have HR := Lib.hid hr
  have HW := Lib.hid hw
  have HA := Lib.hid hA
  have HCP := Lib.hid hcap
  clear C hG hr hw hA hcap
  unfold Gives
  by_cases h : 60 < l.length
  · have HL := Lib.hid hl
    clear hl
    go_enter Tryd.func10, Tryd.ntmps10
    go_wp2_with fail
    refine (HC.out.runs _ HG.out).mono ?_
    rintro e w3 ⟨rfl, hb3⟩
    go_wp2
    go_ret
    exact ⟨rfl, hb3⟩
  · clear hl
    go_enter Tryd.func10, Tryd.ntmps10
    go_wp2_with fail
    refine (HC.out.rank l A cap w HG.out (by omega) HW.out HA.out HCP.out HR.out).mono ?_
    rintro e w1 ⟨⟨r, B, c, h1, rfl, hB⟩, b1⟩
    have H1 := Lib.hid h1
    have HB := Lib.hid hB
    clear h1 hB
    go_wp2_with fail
    refine (rrank_any l A cap w1 (by omega) HW.out (HR.out.below b1)).mono ?_
    rintro e w2 ⟨⟨r2, v, h2, rfl, o2⟩, b2⟩
    obtain rfl := Fm.rank_unique H1.out h2
    obtain ⟨A2, c2, rfl, i2⟩ := own_isrow o2
    have hrl : r.length = l.length := by have := H1.out.1.length_eq; simpa using this
    have i1 := HB.out.below b2
    have SM := same_any r r B A2 c c2 w2 (by omega) (by omega) i1 i2
    rw [decide_eq_true rfl] at SM
    replace b1 := b1.trans (b2.mono b1.size)
    clear b2 h2 o2 i1 i2 H1 HB hrl
    go_wp2_with fail
    refine SM.mono ?_
    rintro e w3 ⟨rfl, n3, rfl⟩
    clear SM
    replace b1 := b1.trans ((below_drewN n3).mono b1.size)
    generalize w2.drewN n3 = w3 at *
    go_wp2_with fail
    refine (HC.out.runs w3 (HC.out.keep _ _ HG.out b1)).mono ?_
    rintro e w5 ⟨rfl, b5⟩
    replace b1 := b1.trans (b5.mono b1.size)
    clear b5
    go_wp2
    go_ret
    exact ⟨rfl, b1⟩
end
end Go.Proofs.YtmdpeifpgnkbiaaDoor
