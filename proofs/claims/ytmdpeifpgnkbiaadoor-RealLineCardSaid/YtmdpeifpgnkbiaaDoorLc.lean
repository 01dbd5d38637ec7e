/-
  What package real's functions must do for the laws of layer 3, as one structure of contracts over a condition G on worlds that stays behind calls; with it the laws RealBits, RealOrder, RealLine, RealExtremes. Conditions: words have 64 bits; G.
-/
import Derived.Test.YtmdpeifpgnkbiaaDoorRx
import Derived.Test.YtmdpeifpgnkbiaaDoorRv
namespace Go.Proofs.YtmdpeifpgnkbiaaDoor
open Go.RowKit

/-- A call returns v, and writes nothing that was there. -/
def Gives (f : FuncId) (args : Array Value) (w : World) (v : Value) : Prop := Calls Tryd.prog f args w fun e w' => e = .returned v ∧ Below w.heap.size w w'
structure RealC (K : Nat) (G : World → Prop) : Prop where
  keep : ∀ w w', G w → Below w.heap.size w w' → G w'
  bits : ∀ f w, G w → Fm.W f → Gives 22 #[.float .f64 f] w (.int .u64 ((Fm.bits f : Nat) : Int))
  of : ∀ u w, G w → Fm.W u → Gives 20 #[.int .u64 (u : Int)] w (.tuple #[.float .f64 (Fm.ofw u), .bool (Fm.has u)])
  key : ∀ f w, G w → Fm.W f → Gives 26 #[.float .f64 f] w (.int .u64 ((Fm.key f : Nat) : Int))
  less : ∀ a b w, G w → Fm.W a → Fm.W b → Gives 16 #[.float .f64 a, .float .f64 b] w (.bool (Fm.less a b))
  may : ∀ any lo hi w, G w → Fm.W lo → Fm.W hi → Gives 28 #[.agg (band any lo hi)] w (.bool (Fm.may any lo hi))
  inb : ∀ any lo hi f w, G w → Fm.W lo → Fm.W hi → Fm.W f → Gives 17 #[.agg (band any lo hi), .float .f64 f] w (.bool (Fm.inb any lo hi f))
  min : ∀ (l : List Nat) A cap w, G w → l.length ≤ 60 → (∀ x ∈ l, Fm.W x) → (A = none → cap = 0) → l.length ≤ cap → IsRow1 w A (fl64 l) → Calls Tryd.prog 32 #[.slice A l.length cap] w fun e w' => (∃ m ok, Fm.IsExt false l m ok ∧ e = .returned (.tuple #[.float .f64 m, .bool ok])) ∧ Below w.heap.size w w'
  max : ∀ (l : List Nat) A cap w, G w → l.length ≤ 60 → (∀ x ∈ l, Fm.W x) → (A = none → cap = 0) → l.length ≤ cap → IsRow1 w A (fl64 l) → Calls Tryd.prog 33 #[.slice A l.length cap] w fun e w' => (∃ m ok, Fm.IsExt true l m ok ∧ e = .returned (.tuple #[.float .f64 m, .bool ok])) ∧ Below w.heap.size w w'
  rank : ∀ (l : List Nat) A cap w, G w → l.length ≤ K → (∀ x ∈ l, Fm.W x) → (A = none → cap = 0) → l.length ≤ cap → IsRow1 w A (fl64 l) → Calls Tryd.prog 14 #[.slice A l.length cap] w fun e w' => (∃ (r : List Nat) (B : Option Addr) (c : Nat), Fm.IsRank l r ∧ e = .returned (.slice B r.length c) ∧ IsRow1 w' B (in64 r)) ∧ Below w.heap.size w w'
  text : ∀ f w, G w → Fm.W f → Gives 19 #[.float .f64 f] w (.string (strOf (Fm.txt (Fm.bits f))))
  read : ∀ (s : ByteArray) w, G w → s.size ≤ 1024 → Calls Tryd.prog 36 #[.string s] w fun e w' => (∃ u ok, Fm.IsRead (textL s) u ok ∧ e = .returned (.tuple #[.float .f64 u, .bool ok])) ∧ Below w.heap.size w w'
  runs : ∀ w, G w → Gives 3 #[] w (.bool true)

section
variable {K : Nat} {G : World → Prop}
attribute [local go_sem] Fm.order_eql Fm.order_neq Fm.order_lss Fm.order_gtr Fm.lt_or_eq
set_option maxRecDepth 100000 in
set_option maxHeartbeats 400000 in
theorem order_law (C : RealC K G) (a b : Nat) (w : World) (ha : Fm.W a) (hb : Fm.W b) (hG : G w) : Gives 5 #[.float .f64 a, .float .f64 b] w (.bool true) := by
  have HC := Lib.hid C
  have R1 := Lib.hid (fun w => rless_any a b ha hb w)
  have R2 := Lib.hid (fun w => rkey_any a ha w)
  have HA := Lib.hid ha
  have HB := Lib.hid hb
  have HG := Lib.hid hG
  have HLK := Lib.hid (Fm.less_key ha hb)
  have Q1 := Lib.hid (fun w hG => C.less a b w hG ha hb)
  have Q2 := Lib.hid (fun w hG => C.key a w hG ha)
  have Q3 := Lib.hid (fun w hG => C.key b w hG hb)
  clear C ha hb hG
  generalize Fm.less a b = r at *
  generalize Fm.key a = x at *
  generalize Fm.key b = y at *
  have hxy : decide (x < y) = r := HLK.out.symm
  unfold Gives at *
  go_enter Tryd.func5, Tryd.ntmps5
  go_wp2_with fail
  refine (Q1.out w HG.out).mono ?_
  rintro e w1 ⟨rfl, b1⟩
  go_wp2_with fail
  refine (R1.out w1).mono ?_
  rintro e w2 ⟨rfl, rfl⟩
  go_wp2_with fail
  refine (Q2.out w2 (HC.out.keep _ _ HG.out b1)).mono ?_
  rintro e w3 ⟨rfl, b3⟩
  replace b1 := b1.trans (b3.mono b1.size)
  clear b3
  go_wp2_with fail
  refine (R2.out w3).mono ?_
  rintro e w4 ⟨rfl, rfl⟩
  go_wp2_with fail
  refine (Q2.out w4 (HC.out.keep _ _ HG.out b1)).mono ?_
  rintro e w5 ⟨rfl, b5⟩
  replace b1 := b1.trans (b5.mono b1.size)
  clear b5
  go_wp2_with fail
  refine (Q3.out w5 (HC.out.keep _ _ HG.out b1)).mono ?_
  rintro e w6 ⟨rfl, b6⟩
  replace b1 := b1.trans (b6.mono b1.size)
  clear b6
  go_wp2_with fail
  refine (R1.out w6).mono ?_
  rintro e w7 ⟨rfl, rfl⟩
  go_wp2_with fail
  refine (HC.out.runs w7 (HC.out.keep _ _ HG.out b1)).mono ?_
  rintro e w8 ⟨rfl, b8⟩
  replace b1 := b1.trans (b8.mono b1.size)
  clear b8
  go_wp2
  go_ret
  exact ⟨rfl, b1⟩

set_option maxRecDepth 100000 in
set_option maxHeartbeats 400000 in
theorem bits_law (C : RealC K G) (f u : Nat) (w : World) (hf : Fm.W f) (hu : Fm.W u) (hG : G w) : Gives 4 #[.float .f64 f, .int .u64 (u : Int)] w (.bool true) := by
  have HC := Lib.hid C
  have HG := Lib.hid hG
  have Q1 := Lib.hid (fun w hG => C.of u w hG hu)
  have Q2 := Lib.hid (fun w hG => C.bits f w hG hf)
  have Q3 := Lib.hid (fun w hG => C.of (Fm.bits f) w hG (Fm.bits_W hf))
  have R1 := Lib.hid (fun w => rfrom_any u w)
  have R2 := Lib.hid (fun w => rbits_any f w)
  have R3 := Lib.hid (fun w => rbits_any (Fm.ofw u) w)
  have hh := Fm.has_bits f
  have ho : Fm.ofw (Fm.bits f) = Fm.bits f := by rw [Fm.ofw, hh]; rfl
  rw [hh, ho] at Q3
  have fb : ∀ w, (callFunc 24 #[.float .f64 (Fm.bits f)]).run Tryd.prog w = .ok (.value (.int .u64 ((Fm.bits f : Nat) : Int))) w := fun w => fbits w _
  have fo : ∀ w, (callFunc 24 #[.float .f64 (Fm.ofw u)]).run Tryd.prog w = .ok (.value (.int .u64 ((Fm.ofw u : Nat) : Int))) w := fun w => fbits w _
  have q1 : Fm.eq f f = !Fm.isN f := Fm.eq_self f
  have q2 : Fm.eq (Fm.bits f) (Fm.bits f) = !Fm.isN f := by rw [Fm.eq_self, Fm.isN_bits]
  have HO : Hid (Fm.has u = true → Fm.ofw u = u) := fun h => by rw [Fm.ofw, h]; rfl
  clear C hf hu hG hh ho
  generalize Fm.isN f = nf at *
  generalize Fm.bits f = x at *
  generalize Fm.bits (Fm.ofw u) = z at *
  cases hh : Fm.has u
  · rw [hh] at Q1 R1
    clear hh HO
    generalize Fm.ofw u = y at *
    unfold Gives at *
    go_enter Tryd.func4, Tryd.ntmps4
    go_wp2_with fail
    refine (Q1.out w HG.out).mono ?_
    rintro e w1 ⟨rfl, b1⟩
    go_wp2_with fail
    refine (R1.out w1).mono ?_
    rintro e w2 ⟨rfl, rfl⟩
    go_wp2_with fail
    refine (Q2.out w2 (HC.out.keep _ _ HG.out b1)).mono ?_
    rintro e w3 ⟨rfl, b3⟩
    replace b1 := b1.trans (b3.mono b1.size)
    clear b3
    go_wp2_with fail
    refine (R2.out w3).mono ?_
    rintro e w4 ⟨rfl, rfl⟩
    go_wp2_with fail
    refine (R3.out w4).mono ?_
    rintro e w5 ⟨rfl, rfl⟩
    go_wp2_with fail
    refine (R3.out w5).mono ?_
    rintro e w6 ⟨rfl, rfl⟩
    go_wp2_with fail
    refine (Q2.out w6 (HC.out.keep _ _ HG.out b1)).mono ?_
    rintro e w7 ⟨rfl, b7⟩
    replace b1 := b1.trans (b7.mono b1.size)
    clear b7
    go_wp2_with fail
    refine (Q3.out w7 (HC.out.keep _ _ HG.out b1)).mono ?_
    rintro e w8 ⟨rfl, b8⟩
    replace b1 := b1.trans (b8.mono b1.size)
    clear b8
    go_wp2_with fail
    refine (Q2.out w8 (HC.out.keep _ _ HG.out b1)).mono ?_
    rintro e w9 ⟨rfl, b9⟩
    replace b1 := b1.trans (b9.mono b1.size)
    clear b9
    go_wp2_with fail
    refine (HC.out.runs w9 (HC.out.keep _ _ HG.out b1)).mono ?_
    rintro e wa ⟨rfl, ba⟩
    replace b1 := b1.trans (ba.mono b1.size)
    clear ba
    go_wp2
    go_ret
    exact ⟨rfl, b1⟩
  · have ho := HO.out hh
    rw [hh] at Q1 R1
    rw [ho] at Q1 R1 R3 fo
    clear hh HO ho
    unfold Gives at *
    go_enter Tryd.func4, Tryd.ntmps4
    go_wp2_with fail
    refine (Q1.out w HG.out).mono ?_
    rintro e w1 ⟨rfl, b1⟩
    go_wp2_with fail
    refine (R1.out w1).mono ?_
    rintro e w2 ⟨rfl, rfl⟩
    go_wp2_with fail
    refine (Q2.out w2 (HC.out.keep _ _ HG.out b1)).mono ?_
    rintro e w3 ⟨rfl, b3⟩
    replace b1 := b1.trans (b3.mono b1.size)
    clear b3
    go_wp2_with fail
    refine (R2.out w3).mono ?_
    rintro e w4 ⟨rfl, rfl⟩
    go_wp2_with fail
    refine (R3.out w4).mono ?_
    rintro e w5 ⟨rfl, rfl⟩
    go_wp2_with fail
    refine (R3.out w5).mono ?_
    rintro e w6 ⟨rfl, rfl⟩
    go_wp2_with fail
    refine (Q2.out w6 (HC.out.keep _ _ HG.out b1)).mono ?_
    rintro e w7 ⟨rfl, b7⟩
    replace b1 := b1.trans (b7.mono b1.size)
    clear b7
    go_wp2_with fail
    refine (Q3.out w7 (HC.out.keep _ _ HG.out b1)).mono ?_
    rintro e w8 ⟨rfl, b8⟩
    replace b1 := b1.trans (b8.mono b1.size)
    clear b8
    go_wp2_with fail
    refine (Q2.out w8 (HC.out.keep _ _ HG.out b1)).mono ?_
    rintro e w9 ⟨rfl, b9⟩
    replace b1 := b1.trans (b9.mono b1.size)
    clear b9
    go_wp2_with fail
    refine (HC.out.runs w9 (HC.out.keep _ _ HG.out b1)).mono ?_
    rintro e wa ⟨rfl, ba⟩
    replace b1 := b1.trans (ba.mono b1.size)
    clear ba
    go_wp2
    go_ret
    exact ⟨rfl, b1⟩

namespace Fm
theorem lt_less {a b : Nat} (h : lt a b = true) : less a b = true := by
  rw [lt_iff] at h
  obtain ⟨h1, h2, h3⟩ := h
  unfold less
  rw [h1, h2]
  simp
  rw [if_neg (by omega)]
  simpa using h3
theorem nan_less {a b : Nat} (h : isN a = true) : less a b = false := by unfold less; simp [h]
theorem less_nan {a b : Nat} (h : isN a = false) (h2 : isN b = true) : less a b = true := by unfold less; simp [h, h2]
end Fm
set_option maxRecDepth 100000 in
set_option maxHeartbeats 2000000 in
theorem line_law (C : RealC K G) (a b c : Nat) (w : World) (ha : Fm.W a) (hb : Fm.W b) (hc : Fm.W c) (hG : G w) : Gives 6 #[.float .f64 a, .float .f64 b, .float .f64 c] w (.bool true) := by
  have HC := Lib.hid C
  have HG := Lib.hid hG
  have Q1 := Lib.hid (fun w hG => C.less a b w hG ha hb)
  have Q2 := Lib.hid (fun w hG => C.less b a w hG hb ha)
  have Q3 := Lib.hid (fun w hG => C.bits a w hG ha)
  have Q4 := Lib.hid (fun w hG => C.bits b w hG hb)
  have Q5 := Lib.hid (fun w hG => C.less b c w hG hb hc)
  have Q6 := Lib.hid (fun w hG => C.less a c w hG ha hc)
  have k1 := Fm.less_key ha hb
  have k2 := Fm.less_key hb ha
  have k3 := Fm.less_key hb hc
  have k4 := Fm.less_key ha hc
  have ki := Fm.key_inj ha hb
  have kb : Fm.bits a = Fm.bits b → Fm.key a = Fm.key b := fun h => by unfold Fm.key; rw [h]
  have sl := @Fm.lt_less a b
  have sa := @Fm.nan_less a b
  have sn := @Fm.less_nan a b
  have qa : Fm.eq a a = !Fm.isN a := Fm.eq_self a
  have qb : Fm.eq b b = !Fm.isN b := Fm.eq_self b
  clear C ha hb hc hG
  unfold Gives at *
  rcases Nat.lt_trichotomy (Fm.key a) (Fm.key b) with hk | hk | hk
  · have x1 : Fm.less a b = true := by rw [k1]; simpa using hk
    have x2 : Fm.less b a = false := by rw [k2]; simp; omega
    have na : Fm.isN a = false := by
      cases h : Fm.isN a with
      | false => rfl
      | true => rw [sa h] at x1; cases x1
    have ne : ((Fm.bits a : Nat) : Int) ≠ ((Fm.bits b : Nat) : Int) := fun h => by have := kb (by omega); omega
    have ne2 : (((Fm.bits a : Nat) : Int) == ((Fm.bits b : Nat) : Int)) = false := by simpa using ne
    rw [x1] at Q1
    rw [x2] at Q2
    rw [na] at qa
    simp only [Bool.not_false] at qa
    have h6 : Fm.less b c = true → Fm.less a c = true := fun h => by rw [k3] at h; rw [k4]; simp at h ⊢; omega
    clear sl sa sn k1 k2 k3 k4 ki kb x1 x2 na ne hk
    generalize ((Fm.bits a : Nat) : Int) = xa at *
    generalize ((Fm.bits b : Nat) : Int) = xb at *
    generalize Fm.isN b = nb at *
    cases hbc : Fm.less b c
    · rw [hbc] at Q5
      clear h6 hbc
      cases hl : Fm.lt a b <;> cases nb <;> simp only [Bool.not_false, Bool.not_true] at qb
      · go_enter Tryd.func6, Tryd.ntmps6
        go_wp2_with fail
        refine (Q1.out w HG.out).mono ?_
        rintro e w1 ⟨rfl, b1⟩
        go_wp2_with fail
        refine (Q2.out w1 (HC.out.keep _ _ HG.out b1)).mono ?_
        rintro e w2 ⟨rfl, b3⟩
        replace b1 := b1.trans (b3.mono b1.size)
        clear b3
        go_wp2_with fail
        refine (Q3.out w2 (HC.out.keep _ _ HG.out b1)).mono ?_
        rintro e w3 ⟨rfl, b4⟩
        replace b1 := b1.trans (b4.mono b1.size)
        clear b4
        go_wp2_with fail
        refine (Q4.out w3 (HC.out.keep _ _ HG.out b1)).mono ?_
        rintro e w4 ⟨rfl, b5⟩
        replace b1 := b1.trans (b5.mono b1.size)
        clear b5
        go_wp2_with fail
        refine (Q5.out w4 (HC.out.keep _ _ HG.out b1)).mono ?_
        rintro e w5 ⟨rfl, b6⟩
        replace b1 := b1.trans (b6.mono b1.size)
        clear b6
        go_wp2_with fail
        refine (HC.out.runs w5 (HC.out.keep _ _ HG.out b1)).mono ?_
        rintro e w6 ⟨rfl, b7⟩
        replace b1 := b1.trans (b7.mono b1.size)
        clear b7
        go_wp2
        go_ret
        exact ⟨rfl, b1⟩
      · go_enter Tryd.func6, Tryd.ntmps6
        go_wp2_with fail
        refine (Q1.out w HG.out).mono ?_
        rintro e w1 ⟨rfl, b1⟩
        go_wp2_with fail
        refine (Q2.out w1 (HC.out.keep _ _ HG.out b1)).mono ?_
        rintro e w2 ⟨rfl, b3⟩
        replace b1 := b1.trans (b3.mono b1.size)
        clear b3
        go_wp2_with fail
        refine (Q3.out w2 (HC.out.keep _ _ HG.out b1)).mono ?_
        rintro e w3 ⟨rfl, b4⟩
        replace b1 := b1.trans (b4.mono b1.size)
        clear b4
        go_wp2_with fail
        refine (Q4.out w3 (HC.out.keep _ _ HG.out b1)).mono ?_
        rintro e w4 ⟨rfl, b5⟩
        replace b1 := b1.trans (b5.mono b1.size)
        clear b5
        go_wp2_with fail
        refine (Q5.out w4 (HC.out.keep _ _ HG.out b1)).mono ?_
        rintro e w5 ⟨rfl, b6⟩
        replace b1 := b1.trans (b6.mono b1.size)
        clear b6
        go_wp2_with fail
        refine (HC.out.runs w5 (HC.out.keep _ _ HG.out b1)).mono ?_
        rintro e w6 ⟨rfl, b7⟩
        replace b1 := b1.trans (b7.mono b1.size)
        clear b7
        go_wp2
        go_ret
        exact ⟨rfl, b1⟩
      · go_enter Tryd.func6, Tryd.ntmps6
        go_wp2_with fail
        refine (Q1.out w HG.out).mono ?_
        rintro e w1 ⟨rfl, b1⟩
        go_wp2_with fail
        refine (Q2.out w1 (HC.out.keep _ _ HG.out b1)).mono ?_
        rintro e w2 ⟨rfl, b3⟩
        replace b1 := b1.trans (b3.mono b1.size)
        clear b3
        go_wp2_with fail
        refine (Q3.out w2 (HC.out.keep _ _ HG.out b1)).mono ?_
        rintro e w3 ⟨rfl, b4⟩
        replace b1 := b1.trans (b4.mono b1.size)
        clear b4
        go_wp2_with fail
        refine (Q4.out w3 (HC.out.keep _ _ HG.out b1)).mono ?_
        rintro e w4 ⟨rfl, b5⟩
        replace b1 := b1.trans (b5.mono b1.size)
        clear b5
        go_wp2_with fail
        refine (Q5.out w4 (HC.out.keep _ _ HG.out b1)).mono ?_
        rintro e w5 ⟨rfl, b6⟩
        replace b1 := b1.trans (b6.mono b1.size)
        clear b6
        go_wp2_with fail
        refine (HC.out.runs w5 (HC.out.keep _ _ HG.out b1)).mono ?_
        rintro e w6 ⟨rfl, b7⟩
        replace b1 := b1.trans (b7.mono b1.size)
        clear b7
        go_wp2
        go_ret
        exact ⟨rfl, b1⟩
      · go_enter Tryd.func6, Tryd.ntmps6
        go_wp2_with fail
        refine (Q1.out w HG.out).mono ?_
        rintro e w1 ⟨rfl, b1⟩
        go_wp2_with fail
        refine (Q2.out w1 (HC.out.keep _ _ HG.out b1)).mono ?_
        rintro e w2 ⟨rfl, b3⟩
        replace b1 := b1.trans (b3.mono b1.size)
        clear b3
        go_wp2_with fail
        refine (Q3.out w2 (HC.out.keep _ _ HG.out b1)).mono ?_
        rintro e w3 ⟨rfl, b4⟩
        replace b1 := b1.trans (b4.mono b1.size)
        clear b4
        go_wp2_with fail
        refine (Q4.out w3 (HC.out.keep _ _ HG.out b1)).mono ?_
        rintro e w4 ⟨rfl, b5⟩
        replace b1 := b1.trans (b5.mono b1.size)
        clear b5
        go_wp2_with fail
        refine (Q5.out w4 (HC.out.keep _ _ HG.out b1)).mono ?_
        rintro e w5 ⟨rfl, b6⟩
        replace b1 := b1.trans (b6.mono b1.size)
        clear b6
        go_wp2_with fail
        refine (HC.out.runs w5 (HC.out.keep _ _ HG.out b1)).mono ?_
        rintro e w6 ⟨rfl, b7⟩
        replace b1 := b1.trans (b7.mono b1.size)
        clear b7
        go_wp2
        go_ret
        exact ⟨rfl, b1⟩
    · have hac := h6 hbc
      rw [hbc] at Q5
      rw [hac] at Q6
      clear h6 hbc hac
      cases hl : Fm.lt a b <;> cases nb <;> simp only [Bool.not_false, Bool.not_true] at qb
      · go_enter Tryd.func6, Tryd.ntmps6
        go_wp2_with fail
        refine (Q1.out w HG.out).mono ?_
        rintro e w1 ⟨rfl, b1⟩
        go_wp2_with fail
        refine (Q2.out w1 (HC.out.keep _ _ HG.out b1)).mono ?_
        rintro e w2 ⟨rfl, b3⟩
        replace b1 := b1.trans (b3.mono b1.size)
        clear b3
        go_wp2_with fail
        refine (Q3.out w2 (HC.out.keep _ _ HG.out b1)).mono ?_
        rintro e w3 ⟨rfl, b4⟩
        replace b1 := b1.trans (b4.mono b1.size)
        clear b4
        go_wp2_with fail
        refine (Q4.out w3 (HC.out.keep _ _ HG.out b1)).mono ?_
        rintro e w4 ⟨rfl, b5⟩
        replace b1 := b1.trans (b5.mono b1.size)
        clear b5
        go_wp2_with fail
        refine (Q5.out w4 (HC.out.keep _ _ HG.out b1)).mono ?_
        rintro e w5 ⟨rfl, b6⟩
        replace b1 := b1.trans (b6.mono b1.size)
        clear b6
        go_wp2_with fail
        refine (Q6.out w5 (HC.out.keep _ _ HG.out b1)).mono ?_
        rintro e w6 ⟨rfl, b7⟩
        replace b1 := b1.trans (b7.mono b1.size)
        clear b7
        go_wp2_with fail
        refine (HC.out.runs w6 (HC.out.keep _ _ HG.out b1)).mono ?_
        rintro e w7 ⟨rfl, b8⟩
        replace b1 := b1.trans (b8.mono b1.size)
        clear b8
        go_wp2
        go_ret
        exact ⟨rfl, b1⟩
      · go_enter Tryd.func6, Tryd.ntmps6
        go_wp2_with fail
        refine (Q1.out w HG.out).mono ?_
        rintro e w1 ⟨rfl, b1⟩
        go_wp2_with fail
        refine (Q2.out w1 (HC.out.keep _ _ HG.out b1)).mono ?_
        rintro e w2 ⟨rfl, b3⟩
        replace b1 := b1.trans (b3.mono b1.size)
        clear b3
        go_wp2_with fail
        refine (Q3.out w2 (HC.out.keep _ _ HG.out b1)).mono ?_
        rintro e w3 ⟨rfl, b4⟩
        replace b1 := b1.trans (b4.mono b1.size)
        clear b4
        go_wp2_with fail
        refine (Q4.out w3 (HC.out.keep _ _ HG.out b1)).mono ?_
        rintro e w4 ⟨rfl, b5⟩
        replace b1 := b1.trans (b5.mono b1.size)
        clear b5
        go_wp2_with fail
        refine (Q5.out w4 (HC.out.keep _ _ HG.out b1)).mono ?_
        rintro e w5 ⟨rfl, b6⟩
        replace b1 := b1.trans (b6.mono b1.size)
        clear b6
        go_wp2_with fail
        refine (Q6.out w5 (HC.out.keep _ _ HG.out b1)).mono ?_
        rintro e w6 ⟨rfl, b7⟩
        replace b1 := b1.trans (b7.mono b1.size)
        clear b7
        go_wp2_with fail
        refine (HC.out.runs w6 (HC.out.keep _ _ HG.out b1)).mono ?_
        rintro e w7 ⟨rfl, b8⟩
        replace b1 := b1.trans (b8.mono b1.size)
        clear b8
        go_wp2
        go_ret
        exact ⟨rfl, b1⟩
      · go_enter Tryd.func6, Tryd.ntmps6
        go_wp2_with fail
        refine (Q1.out w HG.out).mono ?_
        rintro e w1 ⟨rfl, b1⟩
        go_wp2_with fail
        refine (Q2.out w1 (HC.out.keep _ _ HG.out b1)).mono ?_
        rintro e w2 ⟨rfl, b3⟩
        replace b1 := b1.trans (b3.mono b1.size)
        clear b3
        go_wp2_with fail
        refine (Q3.out w2 (HC.out.keep _ _ HG.out b1)).mono ?_
        rintro e w3 ⟨rfl, b4⟩
        replace b1 := b1.trans (b4.mono b1.size)
        clear b4
        go_wp2_with fail
        refine (Q4.out w3 (HC.out.keep _ _ HG.out b1)).mono ?_
        rintro e w4 ⟨rfl, b5⟩
        replace b1 := b1.trans (b5.mono b1.size)
        clear b5
        go_wp2_with fail
        refine (Q5.out w4 (HC.out.keep _ _ HG.out b1)).mono ?_
        rintro e w5 ⟨rfl, b6⟩
        replace b1 := b1.trans (b6.mono b1.size)
        clear b6
        go_wp2_with fail
        refine (Q6.out w5 (HC.out.keep _ _ HG.out b1)).mono ?_
        rintro e w6 ⟨rfl, b7⟩
        replace b1 := b1.trans (b7.mono b1.size)
        clear b7
        go_wp2_with fail
        refine (HC.out.runs w6 (HC.out.keep _ _ HG.out b1)).mono ?_
        rintro e w7 ⟨rfl, b8⟩
        replace b1 := b1.trans (b8.mono b1.size)
        clear b8
        go_wp2
        go_ret
        exact ⟨rfl, b1⟩
      · go_enter Tryd.func6, Tryd.ntmps6
        go_wp2_with fail
        refine (Q1.out w HG.out).mono ?_
        rintro e w1 ⟨rfl, b1⟩
        go_wp2_with fail
        refine (Q2.out w1 (HC.out.keep _ _ HG.out b1)).mono ?_
        rintro e w2 ⟨rfl, b3⟩
        replace b1 := b1.trans (b3.mono b1.size)
        clear b3
        go_wp2_with fail
        refine (Q3.out w2 (HC.out.keep _ _ HG.out b1)).mono ?_
        rintro e w3 ⟨rfl, b4⟩
        replace b1 := b1.trans (b4.mono b1.size)
        clear b4
        go_wp2_with fail
        refine (Q4.out w3 (HC.out.keep _ _ HG.out b1)).mono ?_
        rintro e w4 ⟨rfl, b5⟩
        replace b1 := b1.trans (b5.mono b1.size)
        clear b5
        go_wp2_with fail
        refine (Q5.out w4 (HC.out.keep _ _ HG.out b1)).mono ?_
        rintro e w5 ⟨rfl, b6⟩
        replace b1 := b1.trans (b6.mono b1.size)
        clear b6
        go_wp2_with fail
        refine (Q6.out w5 (HC.out.keep _ _ HG.out b1)).mono ?_
        rintro e w6 ⟨rfl, b7⟩
        replace b1 := b1.trans (b7.mono b1.size)
        clear b7
        go_wp2_with fail
        refine (HC.out.runs w6 (HC.out.keep _ _ HG.out b1)).mono ?_
        rintro e w7 ⟨rfl, b8⟩
        replace b1 := b1.trans (b8.mono b1.size)
        clear b8
        go_wp2
        go_ret
        exact ⟨rfl, b1⟩
  · have x1 : Fm.less a b = false := by rw [k1]; simp; omega
    have x2 : Fm.less b a = false := by rw [k2]; simp; omega
    have eb : Fm.bits a = Fm.bits b := ki hk
    have hl : Fm.lt a b = false := by
      cases h : Fm.lt a b with
      | false => rfl
      | true => rw [sl h] at x1; cases x1
    have nn : Fm.isN a = Fm.isN b := by rw [← Fm.isN_bits a, ← Fm.isN_bits b, eb]
    rw [x1] at Q1
    rw [x2] at Q2
    rw [eb] at Q3
    rw [nn] at qa
    clear sl sa sn k1 k2 k3 k4 ki kb x1 x2 nn hk eb
    generalize ((Fm.bits b : Nat) : Int) = xb at *
    generalize Fm.isN b = nb at *
    cases nb <;> simp only [Bool.not_false, Bool.not_true] at qa qb
    · go_enter Tryd.func6, Tryd.ntmps6
      go_wp2_with fail
      refine (Q1.out w HG.out).mono ?_
      rintro e w1 ⟨rfl, b1⟩
      go_wp2_with fail
      refine (Q2.out w1 (HC.out.keep _ _ HG.out b1)).mono ?_
      rintro e w2 ⟨rfl, b3⟩
      replace b1 := b1.trans (b3.mono b1.size)
      clear b3
      go_wp2_with fail
      refine (Q3.out w2 (HC.out.keep _ _ HG.out b1)).mono ?_
      rintro e w3 ⟨rfl, b4⟩
      replace b1 := b1.trans (b4.mono b1.size)
      clear b4
      go_wp2_with fail
      refine (Q4.out w3 (HC.out.keep _ _ HG.out b1)).mono ?_
      rintro e w4 ⟨rfl, b5⟩
      replace b1 := b1.trans (b5.mono b1.size)
      clear b5
      go_wp2_with fail
      refine (HC.out.runs w4 (HC.out.keep _ _ HG.out b1)).mono ?_
      rintro e w5 ⟨rfl, b6⟩
      replace b1 := b1.trans (b6.mono b1.size)
      clear b6
      go_wp2
      go_ret
      exact ⟨rfl, b1⟩
    · go_enter Tryd.func6, Tryd.ntmps6
      go_wp2_with fail
      refine (Q1.out w HG.out).mono ?_
      rintro e w1 ⟨rfl, b1⟩
      go_wp2_with fail
      refine (Q2.out w1 (HC.out.keep _ _ HG.out b1)).mono ?_
      rintro e w2 ⟨rfl, b3⟩
      replace b1 := b1.trans (b3.mono b1.size)
      clear b3
      go_wp2_with fail
      refine (Q3.out w2 (HC.out.keep _ _ HG.out b1)).mono ?_
      rintro e w3 ⟨rfl, b4⟩
      replace b1 := b1.trans (b4.mono b1.size)
      clear b4
      go_wp2_with fail
      refine (Q4.out w3 (HC.out.keep _ _ HG.out b1)).mono ?_
      rintro e w4 ⟨rfl, b5⟩
      replace b1 := b1.trans (b5.mono b1.size)
      clear b5
      go_wp2_with fail
      refine (HC.out.runs w4 (HC.out.keep _ _ HG.out b1)).mono ?_
      rintro e w5 ⟨rfl, b6⟩
      replace b1 := b1.trans (b6.mono b1.size)
      clear b6
      go_wp2
      go_ret
      exact ⟨rfl, b1⟩
  · have x1 : Fm.less a b = false := by rw [k1]; simp; omega
    have x2 : Fm.less b a = true := by rw [k2]; simpa using hk
    have hl : Fm.lt a b = false := by
      cases h : Fm.lt a b with
      | false => rfl
      | true => rw [sl h] at x1; cases x1
    have ne : ((Fm.bits a : Nat) : Int) ≠ ((Fm.bits b : Nat) : Int) := fun h => by have := kb (by omega); omega
    have ne2 : (((Fm.bits a : Nat) : Int) == ((Fm.bits b : Nat) : Int)) = false := by simpa using ne
    have nn : Fm.isN a = false → Fm.isN b = false := fun h => by
      cases h2 : Fm.isN b with
      | false => rfl
      | true => rw [sn h h2] at x1; cases x1
    rw [x1] at Q1
    rw [x2] at Q2
    clear sl sa sn k1 k2 k3 k4 ki kb x1 x2 hk ne
    generalize ((Fm.bits a : Nat) : Int) = xa at *
    generalize ((Fm.bits b : Nat) : Int) = xb at *
    generalize Fm.isN b = nb at *
    generalize Fm.isN a = na at *
    cases na
    · have := nn rfl
      subst this
      clear nn
      simp only [Bool.not_false] at qa qb
      go_enter Tryd.func6, Tryd.ntmps6
      go_wp2_with fail
      refine (Q1.out w HG.out).mono ?_
      rintro e w1 ⟨rfl, b1⟩
      go_wp2_with fail
      refine (Q2.out w1 (HC.out.keep _ _ HG.out b1)).mono ?_
      rintro e w2 ⟨rfl, b3⟩
      replace b1 := b1.trans (b3.mono b1.size)
      clear b3
      go_wp2_with fail
      refine (Q3.out w2 (HC.out.keep _ _ HG.out b1)).mono ?_
      rintro e w3 ⟨rfl, b4⟩
      replace b1 := b1.trans (b4.mono b1.size)
      clear b4
      go_wp2_with fail
      refine (Q4.out w3 (HC.out.keep _ _ HG.out b1)).mono ?_
      rintro e w4 ⟨rfl, b5⟩
      replace b1 := b1.trans (b5.mono b1.size)
      clear b5
      go_wp2_with fail
      refine (HC.out.runs w4 (HC.out.keep _ _ HG.out b1)).mono ?_
      rintro e w5 ⟨rfl, b6⟩
      replace b1 := b1.trans (b6.mono b1.size)
      clear b6
      go_wp2
      go_ret
      exact ⟨rfl, b1⟩
    · clear nn
      cases nb <;> simp only [Bool.not_false, Bool.not_true] at qa qb
      · go_enter Tryd.func6, Tryd.ntmps6
        go_wp2_with fail
        refine (Q1.out w HG.out).mono ?_
        rintro e w1 ⟨rfl, b1⟩
        go_wp2_with fail
        refine (Q2.out w1 (HC.out.keep _ _ HG.out b1)).mono ?_
        rintro e w2 ⟨rfl, b3⟩
        replace b1 := b1.trans (b3.mono b1.size)
        clear b3
        go_wp2_with fail
        refine (Q3.out w2 (HC.out.keep _ _ HG.out b1)).mono ?_
        rintro e w3 ⟨rfl, b4⟩
        replace b1 := b1.trans (b4.mono b1.size)
        clear b4
        go_wp2_with fail
        refine (Q4.out w3 (HC.out.keep _ _ HG.out b1)).mono ?_
        rintro e w4 ⟨rfl, b5⟩
        replace b1 := b1.trans (b5.mono b1.size)
        clear b5
        go_wp2_with fail
        refine (HC.out.runs w4 (HC.out.keep _ _ HG.out b1)).mono ?_
        rintro e w5 ⟨rfl, b6⟩
        replace b1 := b1.trans (b6.mono b1.size)
        clear b6
        go_wp2
        go_ret
        exact ⟨rfl, b1⟩
      · go_enter Tryd.func6, Tryd.ntmps6
        go_wp2_with fail
        refine (Q1.out w HG.out).mono ?_
        rintro e w1 ⟨rfl, b1⟩
        go_wp2_with fail
        refine (Q2.out w1 (HC.out.keep _ _ HG.out b1)).mono ?_
        rintro e w2 ⟨rfl, b3⟩
        replace b1 := b1.trans (b3.mono b1.size)
        clear b3
        go_wp2_with fail
        refine (Q3.out w2 (HC.out.keep _ _ HG.out b1)).mono ?_
        rintro e w3 ⟨rfl, b4⟩
        replace b1 := b1.trans (b4.mono b1.size)
        clear b4
        go_wp2_with fail
        refine (Q4.out w3 (HC.out.keep _ _ HG.out b1)).mono ?_
        rintro e w4 ⟨rfl, b5⟩
        replace b1 := b1.trans (b5.mono b1.size)
        clear b5
        go_wp2_with fail
        refine (HC.out.runs w4 (HC.out.keep _ _ HG.out b1)).mono ?_
        rintro e w5 ⟨rfl, b6⟩
        replace b1 := b1.trans (b6.mono b1.size)
        clear b6
        go_wp2
        go_ret
        exact ⟨rfl, b1⟩
end
end Go.Proofs.YtmdpeifpgnkbiaaDoor
