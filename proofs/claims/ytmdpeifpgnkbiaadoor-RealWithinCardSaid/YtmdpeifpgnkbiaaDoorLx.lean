/-
  The laws RealExtremes and RealTexts over the contracts of package real. Conditions: words have 64 bits; G.
-/
import Derived.Test.YtmdpeifpgnkbiaaDoorLc
namespace Go.Proofs.YtmdpeifpgnkbiaaDoor
open Go.RowKit

theorem Fm.ext_ok {g : Bool} {l : List Nat} {m : Nat} {ok : Bool} (h : Fm.IsExt g l m ok) : ok = decide (l ≠ []) := by
  rcases h with ⟨rfl, _, rfl⟩ | ⟨h, _, _, rfl⟩ | ⟨h, _, rfl, _⟩
  · simp
  · simp [h]
  · have : l ≠ [] := fun e => by rw [e] at h; cases h
    simp [this]
theorem below_drewN {w : World} (n : Nat) : Below w.heap.size w (w.drewN n) := by
  have b := Below.refl w.heap.size w
  exact ⟨b.os, b.tape, b.output, b.size, b.block⟩

section
variable {K : Nat} {G : World → Prop}
attribute [local go_sem] Fm.order_eql Fm.order_neq Fm.order_lss Fm.order_gtr Fm.lt_or_eq
set_option maxRecDepth 100000 in
set_option maxHeartbeats 400000 in
theorem extremes_law (C : RealC K G) (l : List Nat) (A : Option Addr) (cap : Nat) (w : World) (hl : l.length ≤ maxLen) (hA : A = none → cap = 0) (hcap : l.length ≤ cap) (hw : ∀ x ∈ l, Fm.W x) (hr : IsRow1 w A (fl64 l)) (hG : G w) :
    Gives 9 #[.slice A l.length cap] w (.bool true) := by
  have HC := Lib.hid C
  have HG := Lib.hid hG
  have HR := Lib.hid hr
  have HW := Lib.hid hw
  have HA := Lib.hid hA
  have HCP := Lib.hid hcap
  clear C hG hr hw hA hcap
  unfold Gives
  by_cases h : 60 < l.length
  · have HL := Lib.hid hl
    clear hl
    go_enter Tryd.func9, Tryd.ntmps9
    go_wp2_with fail
    refine (HC.out.runs _ HG.out).mono ?_
    rintro e w3 ⟨rfl, hb3⟩
    go_wp2
    go_ret
    exact ⟨rfl, hb3⟩
  · clear hl
    have fb : ∀ w m, (callFunc 24 #[.float .f64 m]).run Tryd.prog w = .ok (.value (.int .u64 (m : Int))) w := fun w m => fbits w m
    go_enter Tryd.func9, Tryd.ntmps9
    go_wp2_with fail
    refine (HC.out.min l A cap w HG.out (by omega) HW.out HA.out HCP.out HR.out).mono ?_
    rintro e w1 ⟨⟨m1, k1, h1, rfl⟩, b1⟩
    have H1 := Lib.hid h1
    clear h1
    go_wp2_with fail
    refine (HC.out.max l A cap w1 (HC.out.keep _ _ HG.out b1) (by omega) HW.out HA.out HCP.out (HR.out.below b1)).mono ?_
    rintro e w2 ⟨⟨m2, k2, h2, rfl⟩, b2⟩
    have H2 := Lib.hid h2
    clear h2
    replace b1 := b1.trans (b2.mono b1.size)
    clear b2
    go_wp2_with fail
    refine (rext_any l A cap false w2 (by omega) HW.out (HR.out.below b1)).mono ?_
    rintro e w3 ⟨⟨m3, k3, h3, rfl⟩, n3, rfl⟩
    have e3 := Fm.ext_unique HW.out H1.out h3
    obtain ⟨rfl, rfl⟩ := e3
    clear h3
    replace b1 := b1.trans ((below_drewN n3).mono b1.size)
    generalize w2.drewN n3 = w3 at *
    go_wp2_with fail
    refine (rext_any l A cap true w3 (by omega) HW.out (HR.out.below b1)).mono ?_
    rintro e w4 ⟨⟨m4, k4, h4, rfl⟩, n4, rfl⟩
    have e4 := Fm.ext_unique HW.out H2.out h4
    obtain ⟨rfl, rfl⟩ := e4
    have e5 : k2 = k1 := (Fm.ext_ok H2.out).trans (Fm.ext_ok H1.out).symm
    subst e5
    clear h4
    replace b1 := b1.trans ((below_drewN n4).mono b1.size)
    generalize w3.drewN n4 = w4 at *
    go_wp2_with fail
    refine (HC.out.runs w4 (HC.out.keep _ _ HG.out b1)).mono ?_
    rintro e w5 ⟨rfl, b5⟩
    replace b1 := b1.trans (b5.mono b1.size)
    clear b5
    go_wp2
    go_ret
    exact ⟨rfl, b1⟩

set_option maxRecDepth 100000 in
set_option maxHeartbeats 400000 in
theorem texts_law (C : RealC K G) (f : Nat) (s : ByteArray) (w : World) (hl : s.size ≤ maxLen) (hf : Fm.W f) (hG : G w) : Gives 12 #[.float .f64 f, .string s] w (.bool true) := by
  have HC := Lib.hid C
  have HG := Lib.hid hG
  have Q2 := Lib.hid (fun w hG => C.bits f w hG hf)
  have Q3 := Lib.hid (fun w hG => C.text f w hG hf)
  have R3 := Lib.hid (fun w => rtext_any f hf w)
  have hbW := Fm.bits_W hf
  have IR : Fm.IsRead (Fm.txt (Fm.bits f)) (Fm.bits f) true := .inl ⟨rfl, hbW, Fm.has_bits f, rfl⟩
  have HT := Lib.hid (textL_strOf (Fm.txt_byte (Fm.bits f)))
  have hsz : (strOf (Fm.txt (Fm.bits f))).size ≤ 1024 := by
    have h1 := textL_length (strOf (Fm.txt (Fm.bits f)))
    rw [HT.out] at h1
    rw [← h1]
    rcases Fm.txt_cases (Fm.bits f) with ⟨_, e⟩ | ⟨_, e⟩ | ⟨_, e⟩ | ⟨_, e⟩ | ⟨_, e⟩ | ⟨_, e⟩ <;> rw [e]
    · decide
    · decide
    · decide
    · decide
    · decide
    · rw [Fm.hex_word_len]; decide
  have RD : Hid (∀ w, G w → Calls Tryd.prog 36 #[.string (strOf (Fm.txt (Fm.bits f)))] w fun e w' => e = .returned (.tuple #[.float .f64 (Fm.bits f), .bool true]) ∧ Below w.heap.size w w') := fun w hG =>
    (C.read _ w hG hsz).mono fun e w' h => by
      obtain ⟨⟨u, ok, h1, h2⟩, h3⟩ := h
      rw [HT.out] at h1
      obtain ⟨rfl, rfl⟩ := Fm.read_unique h1 IR
      exact ⟨h2, h3⟩
  clear hG IR HT hsz hbW hf
  unfold Gives at *
  generalize strOf (Fm.txt (Fm.bits f)) = st at *
  generalize Fm.bits f = x at *
  by_cases h : 60 < s.size
  · have HL := Lib.hid hl
    clear hl C
    go_enter Tryd.func12, Tryd.ntmps12
    go_wp2_with fail
    refine (HC.out.runs _ HG.out).mono ?_
    rintro e w3 ⟨rfl, hb3⟩
    go_wp2
    go_ret
    exact ⟨rfl, hb3⟩
  · clear hl
    have fb : ∀ w m, (callFunc 24 #[.float .f64 m]).run Tryd.prog w = .ok (.value (.int .u64 (m : Int))) w := fun w m => fbits w m
    have RS := Lib.hid (fun w hG => C.read s w hG (by omega))
    have RR := Lib.hid (fun w => rread_any s w (by omega))
    have TX : Hid (∀ u, Fm.IsRead (textL s) u true → ∀ w, G w → Calls Tryd.prog 19 #[.float .f64 u] w fun e w' => e = .returned (.string s) ∧ Below w.heap.size w w') := fun u hu w hG => by
      rcases hu with ⟨_, h1, h2, h3⟩ | ⟨h1, _⟩
      · have := C.text u w hG h1
        rw [Fm.bits_has h2, h3, strOf_text] at this
        exact this
      · cases h1
    clear C
    go_enter Tryd.func12, Tryd.ntmps12
    go_wp2_with fail
    refine (RS.out w HG.out).mono ?_
    rintro e w1 ⟨⟨u, ok, h1, rfl⟩, b1⟩
    have H1 := Lib.hid h1
    clear h1
    go_wp2_with fail
    refine (RR.out w1).mono ?_
    rintro e w2 ⟨⟨u2, ok2, h2, rfl⟩, b2⟩
    obtain ⟨rfl, rfl⟩ := Fm.read_unique H1.out h2
    clear h2
    replace b1 := b1.trans (b2.mono b1.size)
    clear b2
    go_wp2_with fail
    refine (Q3.out w2 (HC.out.keep _ _ HG.out b1)).mono ?_
    rintro e w3 ⟨rfl, bb⟩
    replace b1 := b1.trans (bb.mono b1.size)
    clear bb
    go_wp2_with fail
    refine (RD.out w3 (HC.out.keep _ _ HG.out b1)).mono ?_
    rintro e w4 ⟨rfl, bb⟩
    replace b1 := b1.trans (bb.mono b1.size)
    clear bb
    go_wp2_with fail
    refine (Q3.out w4 (HC.out.keep _ _ HG.out b1)).mono ?_
    rintro e w5 ⟨rfl, bb⟩
    replace b1 := b1.trans (bb.mono b1.size)
    clear bb
    go_wp2_with fail
    refine (R3.out w5).mono ?_
    rintro e w6 ⟨rfl, bb⟩
    replace b1 := b1.trans (bb.mono b1.size)
    clear bb
    go_wp2_with fail
    refine (Q2.out w6 (HC.out.keep _ _ HG.out b1)).mono ?_
    rintro e wz ⟨rfl, bb⟩
    replace b1 := b1.trans (bb.mono b1.size)
    clear bb
    cases ok
    · go_wp2_with fail
      refine (HC.out.runs wz (HC.out.keep _ _ HG.out b1)).mono ?_
      rintro e wy ⟨rfl, by1⟩
      replace b1 := b1.trans (by1.mono b1.size)
      clear by1
      go_wp2
      go_ret
      exact ⟨rfl, b1⟩
    · go_wp2_with fail
      refine (TX.out u H1.out wz (HC.out.keep _ _ HG.out b1)).mono ?_
      rintro e wx ⟨rfl, bx⟩
      replace b1 := b1.trans (bx.mono b1.size)
      clear bx
      go_wp2_with fail
      refine (HC.out.runs wx (HC.out.keep _ _ HG.out b1)).mono ?_
      rintro e wy ⟨rfl, by1⟩
      replace b1 := b1.trans (by1.mono b1.size)
      clear by1
      go_wp2
      go_ret
      exact ⟨rfl, b1⟩
end
end Go.Proofs.YtmdpeifpgnkbiaaDoor
