/-
  What package real's own Text and Read do; the table of names lies in its variable (NTab). Conditions: words have 64 bits; lengths fit; NTab.
-/
import Derived.Test.YtmdpeifpgnkbiaaDoorQd
namespace Go.Proofs.YtmdpeifpgnkbiaaDoor
open Go.RowKit

/-- The table of names, loaded. -/
def nmA : Array Value := #[.int .u64 9221120237041090561, .string ⟨#[110, 97, 110]⟩, .int .u64 9218868437227405312, .string ⟨#[43, 105, 110, 102]⟩, .int .u64 18442240474082181120, .string ⟨#[45, 105, 110, 102]⟩, .int .u64 0, .string ⟨#[43, 48]⟩, .int .u64 9223372036854775808, .string ⟨#[45, 48]⟩]
/-- The table of names lies in its variable. -/
def NTab (w : World) : Prop := 1 < w.heap.size ∧ ∀ j, j < 10 → w.cell? ⟨1, j, none⟩ = nmA[j]?
theorem NTab.below {w w' : World} (h : NTab w) (hb : Below w.heap.size w w') : NTab w' :=
  ⟨Nat.lt_of_lt_of_le h.1 hb.size, fun j hj => (hb.cell (p := ⟨1, j, none⟩) h.1).trans (h.2 j hj)⟩
theorem bl_step {w w' : World} (h : Below w.heap.size w w') (o : Obj) : Below w.heap.size w (w'.alloc o) := h.alloc h.size o
theorem nm_at0 (w : World) : (Instr.index 56 (.agg nmA) (.int .i64 0)).run Tryd.prog w = .ok (.agg #[.int .u64 9221120237041090561, .string ⟨#[110, 97, 110]⟩]) w := by kernel_rfl
theorem nm_at1 (w : World) : (Instr.index 56 (.agg nmA) (.int .i64 1)).run Tryd.prog w = .ok (.agg #[.int .u64 9218868437227405312, .string ⟨#[43, 105, 110, 102]⟩]) w := by kernel_rfl
theorem nm_at2 (w : World) : (Instr.index 56 (.agg nmA) (.int .i64 2)).run Tryd.prog w = .ok (.agg #[.int .u64 18442240474082181120, .string ⟨#[45, 105, 110, 102]⟩]) w := by kernel_rfl
theorem nm_at3 (w : World) : (Instr.index 56 (.agg nmA) (.int .i64 3)).run Tryd.prog w = .ok (.agg #[.int .u64 0, .string ⟨#[43, 48]⟩]) w := by kernel_rfl
theorem nm_at4 (w : World) : (Instr.index 56 (.agg nmA) (.int .i64 4)).run Tryd.prog w = .ok (.agg #[.int .u64 9223372036854775808, .string ⟨#[45, 48]⟩]) w := by kernel_rfl

section
set_option maxRecDepth 100000 in
set_option maxHeartbeats 1000000 in
theorem text_any (f : Nat) (hf : Fm.W f) (w : World) (hT : NTab w) : Calls Tryd.prog 19 #[.float .f64 f] w fun e w' => e = .returned (.string (strOf (Fm.txt (Fm.bits f)))) ∧ Below w.heap.size w w' := by
  have BB := bits_any f w
  have hu := Fm.bits_W hf
  clear hf
  have c0 : w.cell? ⟨1, 0, none⟩ = some (.int .u64 9221120237041090561) := hT.2 0 (by omega)
  have c1 : w.cell? ⟨1, 1, none⟩ = some (.string ⟨#[110, 97, 110]⟩) := hT.2 1 (by omega)
  have c2 : w.cell? ⟨1, 2, none⟩ = some (.int .u64 9218868437227405312) := hT.2 2 (by omega)
  have c3 : w.cell? ⟨1, 3, none⟩ = some (.string ⟨#[43, 105, 110, 102]⟩) := hT.2 3 (by omega)
  have c4 : w.cell? ⟨1, 4, none⟩ = some (.int .u64 18442240474082181120) := hT.2 4 (by omega)
  have c5 : w.cell? ⟨1, 5, none⟩ = some (.string ⟨#[45, 105, 110, 102]⟩) := hT.2 5 (by omega)
  have c6 : w.cell? ⟨1, 6, none⟩ = some (.int .u64 0) := hT.2 6 (by omega)
  have c7 : w.cell? ⟨1, 7, none⟩ = some (.string ⟨#[43, 48]⟩) := hT.2 7 (by omega)
  have c8 : w.cell? ⟨1, 8, none⟩ = some (.int .u64 9223372036854775808) := hT.2 8 (by omega)
  have c9 : w.cell? ⟨1, 9, none⟩ = some (.string ⟨#[45, 48]⟩) := hT.2 9 (by omega)
  have ix0 := nm_at0
  have ix1 := nm_at1
  have ix2 := nm_at2
  have ix3 := nm_at3
  have ix4 := nm_at4
  unfold nmA at ix0 ix1 ix2 ix3 ix4
  clear hT
  generalize Fm.bits f = u at *
  rcases Fm.txt_cases u with ⟨rfl, e⟩ | ⟨rfl, e⟩ | ⟨rfl, e⟩ | ⟨rfl, e⟩ | ⟨rfl, e⟩ | ⟨hp, e⟩
  · have HE := Lib.hid e
    clear e hu
    go_enter Tryd.func19, Tryd.ntmps19
    go_wp2_with fail
    refine BB.mono ?_
    rintro e w' ⟨rfl, rfl⟩
    clear BB
    go_wp2
    refine wp_loop_rounds 1 ?_
    rw [rounds_succ]
    go_wp2
    go_ret
    exact ⟨by rw [HE.out]; rfl, bl_step (Below.refl _ _) _⟩
  · have HE := Lib.hid e
    clear e hu
    go_enter Tryd.func19, Tryd.ntmps19
    go_wp2_with fail
    refine BB.mono ?_
    rintro e w' ⟨rfl, rfl⟩
    clear BB
    go_wp2
    refine wp_loop_rounds 2 ?_
    rw [rounds_succ]
    go_wp2
    rw [rounds_succ]
    go_wp2
    go_ret
    exact ⟨by rw [HE.out]; rfl, bl_step (bl_step (Below.refl _ _) _) _⟩
  · have HE := Lib.hid e
    clear e hu
    go_enter Tryd.func19, Tryd.ntmps19
    go_wp2_with fail
    refine BB.mono ?_
    rintro e w' ⟨rfl, rfl⟩
    clear BB
    go_wp2
    refine wp_loop_rounds 3 ?_
    rw [rounds_succ]
    go_wp2
    rw [rounds_succ]
    go_wp2
    rw [rounds_succ]
    go_wp2
    go_ret
    exact ⟨by rw [HE.out]; rfl, bl_step (bl_step (bl_step (Below.refl _ _) _) _) _⟩
  · have HE := Lib.hid e
    clear e hu
    go_enter Tryd.func19, Tryd.ntmps19
    go_wp2_with fail
    refine BB.mono ?_
    rintro e w' ⟨rfl, rfl⟩
    clear BB
    go_wp2
    refine wp_loop_rounds 4 ?_
    rw [rounds_succ]
    go_wp2
    rw [rounds_succ]
    go_wp2
    rw [rounds_succ]
    go_wp2
    rw [rounds_succ]
    go_wp2
    go_ret
    exact ⟨by rw [HE.out]; rfl, bl_step (bl_step (bl_step (bl_step (Below.refl _ _) _) _) _) _⟩
  · have HE := Lib.hid e
    clear e hu
    go_enter Tryd.func19, Tryd.ntmps19
    go_wp2_with fail
    refine BB.mono ?_
    rintro e w' ⟨rfl, rfl⟩
    clear BB
    go_wp2
    refine wp_loop_rounds 5 ?_
    rw [rounds_succ]
    go_wp2
    rw [rounds_succ]
    go_wp2
    rw [rounds_succ]
    go_wp2
    rw [rounds_succ]
    go_wp2
    rw [rounds_succ]
    go_wp2
    go_ret
    exact ⟨by rw [HE.out]; rfl, bl_step (bl_step (bl_step (bl_step (bl_step (Below.refl _ _) _) _) _) _) _⟩
  · have HE := Lib.hid e
    obtain ⟨p1, p2, p3, p4, p5⟩ := hp
    have n0 : ((9221120237041090561 : Int) == (u : Int)) = false := by rw [beq_eq_false_iff_ne]; omega
    have n1 : ((9218868437227405312 : Int) == (u : Int)) = false := by rw [beq_eq_false_iff_ne]; omega
    have n2 : ((18442240474082181120 : Int) == (u : Int)) = false := by rw [beq_eq_false_iff_ne]; omega
    have n3 : ((0 : Int) == (u : Int)) = false := by rw [beq_eq_false_iff_ne]; omega
    have n4 : ((9223372036854775808 : Int) == (u : Int)) = false := by rw [beq_eq_false_iff_ne]; omega
    have HX := hex_any u hu
    have HHX := Lib.hid HX
    clear e hu p1 p2 p3 p4 p5 HX
    go_enter Tryd.func19, Tryd.ntmps19
    go_wp2_with fail
    refine BB.mono ?_
    rintro e w' ⟨rfl, rfl⟩
    clear BB
    go_wp2
    refine wp_loop_rounds 6 ?_
    rw [rounds_succ]
    go_wp2
    rw [rounds_succ]
    go_wp2
    rw [rounds_succ]
    go_wp2
    rw [rounds_succ]
    go_wp2
    rw [rounds_succ]
    go_wp2
    rw [rounds_succ]
    go_wp2_with fail
    refine (HHX.out _).mono ?_
    rintro e w2 ⟨rfl, b2⟩
    have b3 := (show Below w'.heap.size w' _ from bl_step (bl_step (bl_step (bl_step (bl_step (Below.refl _ _) _) _) _) _) _).trans (b2.mono (show Below w'.heap.size w' _ from bl_step (bl_step (bl_step (bl_step (bl_step (Below.refl _ _) _) _) _) _) _).size)
    clear b2
    go_wp2
    go_ret
    exact ⟨by rw [HE.out]; rfl, b3⟩

theorem unhex_b (s : ByteArray) (w W : World) (hb : Below w.heap.size w W) : Calls Tryd.prog 49 #[.string s] W fun e w' => Below w.heap.size w w' ∧ ((¬ ((textL s).length = 16 ∧ ∀ c ∈ textL s, Fm.nib c < 16) ∧ e = .returned (.tuple #[.int .u64 0, .bool false])) ∨
      (((textL s).length = 16 ∧ ∀ c ∈ textL s, Fm.nib c < 16) ∧ e = .returned (.tuple #[.int .u64 ((Fm.valOf 0 (textL s) : Nat) : Int), .bool true]))) :=
  (unhex_any s W).mono fun _ _ ⟨h1, h2⟩ => ⟨h1 ▸ hb, h2⟩
theorem no_str' {s : ByteArray} {c : List UInt8} {l : List Nat} (hc : c.map UInt8.toNat = l) (h : textL s ≠ l) : (c == s.toList) = false := by
  rw [beq_eq_false_iff_ne]
  intro e
  have h1 := no_str hc h
  rw [beq_eq_false_iff_ne] at h1
  exact h1 e.symm
theorem is_str' {s : ByteArray} {c : List UInt8} {l : List Nat} (hc : c.map UInt8.toNat = l) (h : textL s = l) : (c == s.toList) = true := by
  have h1 := is_str hc h
  rw [beq_iff_eq] at h1 ⊢
  exact h1.symm
set_option maxRecDepth 100000 in
set_option maxHeartbeats 2000000 in
theorem read_any (s : ByteArray) (w : World) (hT : NTab w) : Calls Tryd.prog 36 #[.string s] w fun e w' => (∃ u ok, Fm.IsRead (textL s) u ok ∧ e = .returned (.tuple #[.float .f64 u, .bool ok])) ∧ Below w.heap.size w w' := by
  have c0 : w.cell? ⟨1, 0, none⟩ = some (.int .u64 9221120237041090561) := hT.2 0 (by omega)
  have c1 : w.cell? ⟨1, 1, none⟩ = some (.string ⟨#[110, 97, 110]⟩) := hT.2 1 (by omega)
  have c2 : w.cell? ⟨1, 2, none⟩ = some (.int .u64 9218868437227405312) := hT.2 2 (by omega)
  have c3 : w.cell? ⟨1, 3, none⟩ = some (.string ⟨#[43, 105, 110, 102]⟩) := hT.2 3 (by omega)
  have c4 : w.cell? ⟨1, 4, none⟩ = some (.int .u64 18442240474082181120) := hT.2 4 (by omega)
  have c5 : w.cell? ⟨1, 5, none⟩ = some (.string ⟨#[45, 105, 110, 102]⟩) := hT.2 5 (by omega)
  have c6 : w.cell? ⟨1, 6, none⟩ = some (.int .u64 0) := hT.2 6 (by omega)
  have c7 : w.cell? ⟨1, 7, none⟩ = some (.string ⟨#[43, 48]⟩) := hT.2 7 (by omega)
  have c8 : w.cell? ⟨1, 8, none⟩ = some (.int .u64 9223372036854775808) := hT.2 8 (by omega)
  have c9 : w.cell? ⟨1, 9, none⟩ = some (.string ⟨#[45, 48]⟩) := hT.2 9 (by omega)
  have ix0 := nm_at0
  have ix1 := nm_at1
  have ix2 := nm_at2
  have ix3 := nm_at3
  have ix4 := nm_at4
  unfold nmA at ix0 ix1 ix2 ix3 ix4
  by_cases h0 : textL s = Fm.tNan
  · have HR : Hid (Fm.IsRead (textL s) 9221120237041090561 true) := .inl ⟨rfl, by unfold Fm.W; decide, by decide, by rw [h0]; rfl⟩
    have q0 : (([110, 97, 110] : List UInt8) == s.toList) = true := is_str' rfl h0
    have OF : Hid (∀ W, Calls Tryd.prog 20 #[.int .u64 9221120237041090561] W fun e w' => e = .returned (.tuple #[.float .f64 9221120237041090561, .bool true]) ∧ w' = W) := fun W => of_any 9221120237041090561 W
    clear hT h0
    go_enter Tryd.func36, Tryd.ntmps36
    go_wp2
    refine wp_loop_rounds 1 ?_
    rw [rounds_succ]
    go_wp2_with fail
    refine (OF.out _).mono ?_
    rintro e w' ⟨rfl, rfl⟩
    go_wp2
    go_ret2
    exact ⟨⟨_, _, HR.out, rfl⟩, bl_step (Below.refl _ _) _⟩
  by_cases h1 : textL s = Fm.tPinf
  · have HR : Hid (Fm.IsRead (textL s) 9218868437227405312 true) := .inl ⟨rfl, by unfold Fm.W; decide, by decide, by rw [h1]; rfl⟩
    have q0 : (([110, 97, 110] : List UInt8) == s.toList) = false := no_str' rfl h0
    have q1 : (([43, 105, 110, 102] : List UInt8) == s.toList) = true := is_str' rfl h1
    have OF : Hid (∀ W, Calls Tryd.prog 20 #[.int .u64 9218868437227405312] W fun e w' => e = .returned (.tuple #[.float .f64 9218868437227405312, .bool true]) ∧ w' = W) := fun W => of_any 9218868437227405312 W
    clear hT h0 h1
    go_enter Tryd.func36, Tryd.ntmps36
    go_wp2
    refine wp_loop_rounds 2 ?_
    rw [rounds_succ]
    go_wp2
    rw [rounds_succ]
    go_wp2_with fail
    refine (OF.out _).mono ?_
    rintro e w' ⟨rfl, rfl⟩
    go_wp2
    go_ret2
    exact ⟨⟨_, _, HR.out, rfl⟩, bl_step (bl_step (Below.refl _ _) _) _⟩
  by_cases h2 : textL s = Fm.tMinf
  · have HR : Hid (Fm.IsRead (textL s) 18442240474082181120 true) := .inl ⟨rfl, by unfold Fm.W; decide, by decide, by rw [h2]; rfl⟩
    have q0 : (([110, 97, 110] : List UInt8) == s.toList) = false := no_str' rfl h0
    have q1 : (([43, 105, 110, 102] : List UInt8) == s.toList) = false := no_str' rfl h1
    have q2 : (([45, 105, 110, 102] : List UInt8) == s.toList) = true := is_str' rfl h2
    have OF : Hid (∀ W, Calls Tryd.prog 20 #[.int .u64 18442240474082181120] W fun e w' => e = .returned (.tuple #[.float .f64 18442240474082181120, .bool true]) ∧ w' = W) := fun W => of_any 18442240474082181120 W
    clear hT h0 h1 h2
    go_enter Tryd.func36, Tryd.ntmps36
    go_wp2
    refine wp_loop_rounds 3 ?_
    rw [rounds_succ]
    go_wp2
    rw [rounds_succ]
    go_wp2
    rw [rounds_succ]
    go_wp2_with fail
    refine (OF.out _).mono ?_
    rintro e w' ⟨rfl, rfl⟩
    go_wp2
    go_ret2
    exact ⟨⟨_, _, HR.out, rfl⟩, bl_step (bl_step (bl_step (Below.refl _ _) _) _) _⟩
  by_cases h3 : textL s = Fm.tPz
  · have HR : Hid (Fm.IsRead (textL s) 0 true) := .inl ⟨rfl, by unfold Fm.W; decide, by decide, by rw [h3]; rfl⟩
    have q0 : (([110, 97, 110] : List UInt8) == s.toList) = false := no_str' rfl h0
    have q1 : (([43, 105, 110, 102] : List UInt8) == s.toList) = false := no_str' rfl h1
    have q2 : (([45, 105, 110, 102] : List UInt8) == s.toList) = false := no_str' rfl h2
    have q3 : (([43, 48] : List UInt8) == s.toList) = true := is_str' rfl h3
    have OF : Hid (∀ W, Calls Tryd.prog 20 #[.int .u64 0] W fun e w' => e = .returned (.tuple #[.float .f64 0, .bool true]) ∧ w' = W) := fun W => of_any 0 W
    clear hT h0 h1 h2 h3
    go_enter Tryd.func36, Tryd.ntmps36
    go_wp2
    refine wp_loop_rounds 4 ?_
    rw [rounds_succ]
    go_wp2
    rw [rounds_succ]
    go_wp2
    rw [rounds_succ]
    go_wp2
    rw [rounds_succ]
    go_wp2_with fail
    refine (OF.out _).mono ?_
    rintro e w' ⟨rfl, rfl⟩
    go_wp2
    go_ret2
    exact ⟨⟨_, _, HR.out, rfl⟩, bl_step (bl_step (bl_step (bl_step (Below.refl _ _) _) _) _) _⟩
  by_cases h4 : textL s = Fm.tMz
  · have HR : Hid (Fm.IsRead (textL s) 9223372036854775808 true) := .inl ⟨rfl, by unfold Fm.W; decide, by decide, by rw [h4]; rfl⟩
    have q0 : (([110, 97, 110] : List UInt8) == s.toList) = false := no_str' rfl h0
    have q1 : (([43, 105, 110, 102] : List UInt8) == s.toList) = false := no_str' rfl h1
    have q2 : (([45, 105, 110, 102] : List UInt8) == s.toList) = false := no_str' rfl h2
    have q3 : (([43, 48] : List UInt8) == s.toList) = false := no_str' rfl h3
    have q4 : (([45, 48] : List UInt8) == s.toList) = true := is_str' rfl h4
    have OF : Hid (∀ W, Calls Tryd.prog 20 #[.int .u64 9223372036854775808] W fun e w' => e = .returned (.tuple #[.float .f64 9223372036854775808, .bool true]) ∧ w' = W) := fun W => of_any 9223372036854775808 W
    clear hT h0 h1 h2 h3 h4
    go_enter Tryd.func36, Tryd.ntmps36
    go_wp2
    refine wp_loop_rounds 5 ?_
    rw [rounds_succ]
    go_wp2
    rw [rounds_succ]
    go_wp2
    rw [rounds_succ]
    go_wp2
    rw [rounds_succ]
    go_wp2
    rw [rounds_succ]
    go_wp2_with fail
    refine (OF.out _).mono ?_
    rintro e w' ⟨rfl, rfl⟩
    go_wp2
    go_ret2
    exact ⟨⟨_, _, HR.out, rfl⟩, bl_step (bl_step (bl_step (bl_step (bl_step (Below.refl _ _) _) _) _) _) _⟩
  have q0 : (([110, 97, 110] : List UInt8) == s.toList) = false := no_str' rfl h0
  have q1 : (([43, 105, 110, 102] : List UInt8) == s.toList) = false := no_str' rfl h1
  have q2 : (([45, 105, 110, 102] : List UInt8) == s.toList) = false := no_str' rfl h2
  have q3 : (([43, 48] : List UInt8) == s.toList) = false := no_str' rfl h3
  have q4 : (([45, 48] : List UInt8) == s.toList) = false := no_str' rfl h4
  have HNO := Lib.hid (Fm.read_none h0 h1 h2 h3 h4)
  have HT := Lib.hid hT
  clear h0 h1 h2 h3 h4 hT
  go_enter Tryd.func36, Tryd.ntmps36
  go_wp2
  refine wp_loop_rounds 6 ?_
  rw [rounds_succ]
  go_wp2
  rw [rounds_succ]
  go_wp2
  rw [rounds_succ]
  go_wp2
  rw [rounds_succ]
  go_wp2
  rw [rounds_succ]
  go_wp2
  rw [rounds_succ]
  go_wp2_with fail
  refine (unhex_b s w _ (bl_step (bl_step (bl_step (bl_step (bl_step (Below.refl _ _) _) _) _) _) _)).mono ?_
  rintro e w1 ⟨b1, hr⟩
  have HT1 := Lib.hid (HT.out.below b1)
  clear HT c0 c1 c2 c3 c4 c5 c6 c7 c8 c9 ix0 ix1 ix2 ix3 ix4
  rcases hr with ⟨hu, rfl⟩ | ⟨hu, rfl⟩
  · have HR : Hid (Fm.IsRead (textL s) 0 false) := .inr ⟨rfl, rfl, HNO.out (fun b hb h8 => absurd ⟨by rw [(Fm.hex_unhex hb).2.2, h8], Fm.unhex_nib _ _ hb⟩ hu)⟩
    clear HNO hu
    go_wp2
    go_ret2
    exact ⟨⟨_, _, HR.out, rfl⟩, b1⟩
  · obtain ⟨b, hub, h8⟩ := Fm.unhex_of (textL s) 8 hu.1 hu.2
    have hv : Fm.valOf 0 (textL s) = Vm.be b := Fm.valOf_unhex _ 0 b hub
    have hby := (Fm.hex_unhex hub).2.1
    have hhx := (Fm.hex_unhex hub).1
    obtain ⟨hwb, hW⟩ := Fm.word_be h8 hby
    have hHv : ∀ v, Fm.W v → Vm.word v = b → v = Vm.be b := fun v hv e => by rw [← e, Vm.be_word v hv]
    have hun : ∀ b', Fm.unhex (textL s) = some b' → b' = b := fun b' hb => by rw [hub] at hb; exact (Option.some.inj hb).symm
    have H1 : Hid (Fm.has (Vm.be b) = false → Fm.IsRead (textL s) 0 false) := fun hh => .inr ⟨rfl, rfl, HNO.out (fun b' hb _ v hv hv2 _ e => by
      rw [hun b' hb] at e
      rw [hHv v hv e, hh] at hv2; cases hv2)⟩
    have H2 : Hid (Fm.has (Vm.be b) = true → textL s = Fm.txt (Vm.be b) → Fm.IsRead (textL s) (Vm.be b) true) := fun hh e => .inl ⟨rfl, hW, hh, e.symm⟩
    have H3 : Hid (Fm.has (Vm.be b) = true → textL s ≠ Fm.txt (Vm.be b) → Fm.IsRead (textL s) 0 false) := fun hh ne => .inr ⟨rfl, rfl, HNO.out (fun b' hb _ v hv hv2 pl e => by
      rw [hun b' hb] at e
      have e2 := hHv v hv e
      have e3 := Fm.txt_plain pl
      rw [e, hhx, e2] at e3
      exact ne e3.symm)⟩
    rw [hv]
    clear HNO hub hun hHv hwb hby hhx hu hv h8
    generalize Vm.be b = u at *
    have OF := of_any u
    cases hh : Fm.has u
    · have HR := Lib.hid (H1.out hh)
      rw [hh] at OF
      have HOF := Lib.hid OF
      clear H1 H2 H3 hh OF
      go_wp2_with fail
      refine (HOF.out _).mono ?_
      rintro e w3 ⟨rfl, rfl⟩
      go_wp2
      go_ret2
      exact ⟨⟨_, _, HR.out, rfl⟩, b1⟩
    · rw [hh] at OF
      have ho : Fm.ofw u = u := by rw [Fm.ofw, hh]; rfl
      rw [ho] at OF
      have HOF := Lib.hid OF
      have TX := text_any u hW w1 HT1.out
      rw [Fm.bits_has hh] at TX
      have HTX := Lib.hid TX
      clear OF TX H1
      by_cases ht : textL s = Fm.txt u
      · have HR := Lib.hid (H2.out hh ht)
        have hst : ((strOf (Fm.txt u)).toList == s.toList) = true := by
          rw [← ht, strOf_text]; simp
        clear H2 H3 hh ho ht
        generalize strOf (Fm.txt u) = st at *
        go_wp2_with fail
        refine (HOF.out _).mono ?_
        rintro e w3 ⟨rfl, rfl⟩
        go_wp2_with fail
        refine (HTX.out).mono ?_
        rintro e w4 ⟨rfl, b4⟩
        have b5 := b1.trans (b4.mono b1.size)
        clear b4 b1
        go_wp2
        go_ret2
        exact ⟨⟨_, _, HR.out, rfl⟩, b5⟩
      · have HR := Lib.hid (H3.out hh ht)
        have hst : ((strOf (Fm.txt u)).toList == s.toList) = false := by
          rw [beq_eq_false_iff_ne]
          intro e
          apply ht
          have e2 : strOf (Fm.txt u) = s := by
            rw [ByteArray.toList_eq, ByteArray.toList_eq] at e
            exact WideShapes.bytes_inj e
          rw [← e2]
          exact textL_strOf (Fm.txt_byte u)
        clear H2 H3 hh ho ht
        generalize strOf (Fm.txt u) = st at *
        go_wp2_with fail
        refine (HOF.out _).mono ?_
        rintro e w3 ⟨rfl, rfl⟩
        go_wp2_with fail
        refine (HTX.out).mono ?_
        rintro e w4 ⟨rfl, b4⟩
        have b5 := b1.trans (b4.mono b1.size)
        clear b4 b1
        go_wp2
        go_ret2
        exact ⟨⟨_, _, HR.out, rfl⟩, b5⟩
end
end Go.Proofs.YtmdpeifpgnkbiaaDoor
