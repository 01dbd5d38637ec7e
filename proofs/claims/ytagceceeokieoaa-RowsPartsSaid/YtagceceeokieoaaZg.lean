/-
  Stage 9's calls told of slices of ints in memory (SlZ); RowsRuns as a contract. Conditions: lengths fit.
-/
import Derived.Test.YtagceceeokieoaaZf
namespace Go.Proofs.Ytagceceeokieoaa
open Go.RowKit Go.Sort

/-- A slice of ints in memory: it reads as these, at most K. -/
structure SlZ (w : World) (l : List Int) (A : Option Addr) (n c K : Nat) : Prop where
  len : l.length = n
  nil : A = none → c = 0
  is : IsZ w A l
  small : n ≤ K
  fits : K ≤ 1048576
theorem SlZ.below {w w' : World} {l : List Int} {A : Option Addr} {n c K : Nat} (h : SlZ w l A n c K) (hb : Below w.heap.size w w') : SlZ w' l A n c K := ⟨h.len, h.nil, h.is.below hb, h.small, h.fits⟩
theorem SlZ.le {w : World} {l : List Int} {A : Option Addr} {n c K K' : Nat} (h : SlZ w l A n c K) (hk : K ≤ K') (hf : K' ≤ 1048576) : SlZ w l A n c K' := ⟨h.len, h.nil, h.is, Nat.le_trans h.small hk, hf⟩
theorem SlZ.lit (w : World) (l : List Int) (m g : Nat) (cs : Array Value) (h : cs = (zs l).toArray) (hm : l.length = m) (hg : g = w.heap.size) (hl : m ≤ 1048576) : SlZ (w.alloc (.cells cs 3)) l (some ⟨g, 0, none⟩) m m m := by
  subst h
  subst hm
  subst hg
  refine ⟨rfl, (fun e => by cases e), fun _ => ⟨_, _, rfl, fun j hj => ?_⟩, Nat.le_refl _, hl⟩
  rw [Nat.zero_add]
  have e : (w.alloc (.cells (zs l).toArray 3)).heap[w.heap.size]? = some (.cells (zs l).toArray 3 (0, 0)) := Array.getElem?_push_size
  unfold World.cell?
  simp only [e]
  simp [zs, List.getD, List.getElem?_eq_getElem hj]
/-- A row of ints handed back. -/
def GaveZ (w : World) (P : List Int → Prop) (K : Nat) (e : Ending) (w' : World) : Prop := ∃ (out : List Int) (A : Option Addr) (n c : Nat), e = .returned (.slice A n c) ∧ P out ∧ SlZ w' out A n c K ∧ Below w.heap.size w w'
theorem GaveZ.of {w w' : World} {l : List Int} {e : Ending} {K : Nat} (h : ∃ out, IsRise l out ∧ MadeZ w out e w') (hl : l.length ≤ K) (hK : K ≤ 1048576) : GaveZ w (IsRise l) K e w' := by
  obtain ⟨out, hr, v, rfl, ho, hb⟩ := h
  obtain ⟨A, c, rfl, _, hn, hz, _⟩ := own_z ho
  exact ⟨out, A, out.length, c, rfl, hr, ⟨rfl, hn, hz, Nat.le_trans hr.len hl, hK⟩, hb⟩

section
variable {w : World} {xs ys : List Int} {A B : Option Addr} {nx ny ca cb K K' : Nat}
theorem or_s (h1 : SlZ w xs A nx ca K) (h2 : SlZ w ys B ny cb K') (hK : K + K' ≤ 1048576) : Calls Try.prog 10 #[.slice A nx ca, .slice B ny cb] w fun e w' => GaveZ w (IsRise (xs ++ ys)) (K + K') e w' :=
  (or_any xs ys A B nx ny ca cb w h1.len h2.len (by have := h1.small; omega) (by have := h2.small; omega) h1.nil h2.nil h1.is h2.is).mono fun _ _ h => GaveZ.of h (by rw [List.length_append, h1.len, h2.len]; have := h1.small; have := h2.small; omega) hK
theorem make_s (h1 : SlZ w xs A nx ca K) : Calls Try.prog 14 #[.slice A nx ca] w fun e w' => GaveZ w (IsRise xs) K e w' :=
  (make_any xs A nx ca w h1.len (by have := h1.small; have := h1.fits; omega) h1.nil h1.is).mono fun _ _ h => GaveZ.of h (by rw [h1.len]; exact h1.small) h1.fits
theorem rising_s (h1 : SlZ w xs A nx ca K) : Calls Try.prog 13 #[.slice A nx ca] w fun e w' => GaveZ w (IsRise xs) K e w' :=
  (rising_any xs A nx ca w h1.len (by have := h1.small; have := h1.fits; omega) h1.is).mono fun _ _ h => GaveZ.of h (by rw [h1.len]; exact h1.small) h1.fits
theorem put_s (x : Int) (h1 : SlZ w xs A nx ca K) (hK : K + 1 ≤ 1048576) : Calls Try.prog 16 #[.slice A nx ca, .int .i64 x] w fun e w' => GaveZ w (IsRise (xs ++ [x])) (K + 1) e w' :=
  (put_any xs x A nx ca w h1.len (by have := h1.small; omega) h1.nil h1.is).mono fun _ _ h => GaveZ.of h (by rw [List.length_append, h1.len]; have := h1.small; simp; omega) hK
theorem pick_le (xs ys : List Int) (inn : Bool) : (pickZ ys inn xs).length ≤ xs.length := List.length_filter_le _ _
theorem and_s (h1 : SlZ w xs A nx ca K) (h2 : SlZ w ys B ny cb K') : Calls Try.prog 19 #[.slice A nx ca, .slice B ny cb] w fun e w' => GaveZ w (IsRise (pickZ ys true xs)) K e w' :=
  (and_any xs ys A B nx ny ca cb w h1.len h2.len (by have := h1.small; have := h1.fits; omega) (by have := h2.small; have := h2.fits; omega) h1.nil h2.nil h1.is h2.is).mono fun _ _ h => GaveZ.of h (by have := pick_le xs ys true; rw [h1.len] at this; have := h1.small; omega) h1.fits
theorem not_s (h1 : SlZ w xs A nx ca K) (h2 : SlZ w ys B ny cb K') : Calls Try.prog 21 #[.slice A nx ca, .slice B ny cb] w fun e w' => GaveZ w (IsRise (pickZ ys false xs)) K e w' :=
  (not_any xs ys A B nx ny ca cb w h1.len h2.len (by have := h1.small; have := h1.fits; omega) (by have := h2.small; have := h2.fits; omega) h1.nil h2.nil h1.is h2.is).mono fun _ _ h => GaveZ.of h (by have := pick_le xs ys false; rw [h1.len] at this; have := h1.small; omega) h1.fits
theorem both_s (inn : Bool) (h1 : SlZ w xs A nx ca K) (h2 : SlZ w ys B ny cb K') : Calls Try.prog 20 #[.slice A nx ca, .slice B ny cb, .bool inn] w fun e w' => GaveZ w (IsRise (pickZ ys inn xs)) K e w' :=
  (both_any xs ys inn A B nx ny ca cb w h1.len h2.len (by have := h1.small; have := h1.fits; omega) (by have := h2.small; have := h2.fits; omega) h1.is h2.is).mono fun _ _ h => GaveZ.of h (by have := pick_le xs ys inn; rw [h1.len] at this; have := h1.small; omega) h1.fits
theorem cut_s (x : Int) (h1 : SlZ w xs A nx ca K) : Calls Try.prog 17 #[.slice A nx ca, .int .i64 x] w fun e w' => GaveZ w (IsRise (pickZ [x] false xs)) K e w' :=
  (cut_any xs x A nx ca w h1.len (by have := h1.small; have := h1.fits; omega) h1.nil h1.is).mono fun _ _ h => GaveZ.of h (by have := pick_le xs [x] false; rw [h1.len] at this; have := h1.small; omega) h1.fits
theorem rcut_s (x : Int) (h1 : SlZ w xs A nx ca K) : Calls Try.prog 18 #[.slice A nx ca, .int .i64 x] w fun e w' => GaveZ w (IsRise (pickZ [x] false xs)) K e w' :=
  (rcut_any xs x A nx ca w h1.len (by have := h1.small; have := h1.fits; omega) h1.is).mono fun _ _ h => GaveZ.of h (by have := pick_le xs [x] false; rw [h1.len] at this; have := h1.small; omega) h1.fits
theorem has_s (x : Int) (b : Bool) (h1 : SlZ w xs A nx ca K) (hb : decide (x ∈ xs) = b) : Calls Try.prog 12 #[.slice A nx ca, .int .i64 x] w fun e w' => e = .returned (.bool b) ∧ Below w.heap.size w w' :=
  (has_any xs x A nx ca w h1.len (by have := h1.small; have := h1.fits; omega) h1.is).mono fun _ _ ⟨h, e⟩ => ⟨by rw [h, hb], by rw [e]; exact Below.refl _ _⟩
theorem rhas_s (x : Int) (b : Bool) (h1 : SlZ w xs A nx ca K) (hb : decide (x ∈ xs) = b) : Calls Try.prog 15 #[.slice A nx ca, .int .i64 x] w fun e w' => e = .returned (.bool b) ∧ Below w.heap.size w w' :=
  (hasz_any xs x A nx ca w h1.len (by have := h1.small; have := h1.fits; omega) h1.is).mono fun _ _ ⟨h, e⟩ => ⟨by rw [h, hb], by rw [← e]; exact Below.refl _ _⟩
theorem is_s (b : Bool) (h1 : SlZ w xs A nx ca K) (hb : decide (xs.Pairwise (· < ·)) = b) : Calls Try.prog 11 #[.slice A nx ca] w fun e w' => e = .returned (.bool b) ∧ Below w.heap.size w w' :=
  (is_any xs A nx ca w h1.len (by have := h1.small; have := h1.fits; omega) h1.is).mono fun _ _ ⟨h, q, e⟩ => ⟨by rw [h, hb], by rw [e]; exact below_drewN' (Below.refl _ _) q⟩
theorem same_s (b : Bool) (h1 : SlZ w xs A nx ca K) (h2 : SlZ w ys B ny cb K') (hb : decide (xs = ys) = b) : Calls Try.prog 9 #[.slice A nx ca, .slice B ny cb] w fun e w' => e = .returned (.bool b) ∧ Below w.heap.size w w' :=
  (same_any xs ys A B nx ny ca cb w h1.len h2.len (by have := h1.small; have := h1.fits; omega) (by have := h2.small; have := h2.fits; omega) h1.is h2.is).mono fun _ _ ⟨h, q, e⟩ => ⟨by rw [h, hb], by rw [e]; exact below_drewN' (Below.refl _ _) q⟩
end

set_option maxRecDepth 100000 in
set_option maxHeartbeats 1000000 in
theorem runs9_any (w : World) : Calls Try.prog 3 #[] w fun e w' => e = .returned (.bool true) ∧ Below w.heap.size w w' := by
  have BW := Lib.hid (Below.refl w.heap.size w)
  have bl : Below (World.heap w).size w (World.alloc w (.cells #[.int .i64 3, .int .i64 1] 3)) := (Below.refl _ _).alloc (Nat.le_refl _) _
  replace BW := Lib.hid (BW.out.trans (bl.mono BW.out.size))
  have S1 := Lib.hid (SlZ.lit w [3, 1] 2 (w.heap.size) #[.int .i64 3, .int .i64 1] rfl rfl (by simp) (by omega))
  clear bl
  have bl : Below (World.heap (World.alloc w (.cells #[.int .i64 3, .int .i64 1] 3))).size (World.alloc w (.cells #[.int .i64 3, .int .i64 1] 3)) (World.alloc (World.alloc w (.cells #[.int .i64 3, .int .i64 1] 3)) (.cells #[.int .i64 2, .int .i64 1] 3)) := (Below.refl _ _).alloc (Nat.le_refl _) _
  replace S1 := Lib.hid (S1.out.below bl)
  replace BW := Lib.hid (BW.out.trans (bl.mono BW.out.size))
  have S2 := Lib.hid (SlZ.lit (World.alloc w (.cells #[.int .i64 3, .int .i64 1] 3)) [2, 1] 2 (w.heap.size + 1) #[.int .i64 2, .int .i64 1] rfl rfl (by simp) (by omega))
  clear bl
  go_enter Try.func3, Try.ntmps3
  have C1 := Lib.hid (or_s S1.out S2.out (by omega))
  go_wp2_with fail
  refine C1.out.mono ?_
  rintro e w1 ⟨lT, AT, nT, cT, rfl, rT, sT, bb⟩
  clear C1
  replace S1 := Lib.hid (S1.out.below bb)
  replace S2 := Lib.hid (S2.out.below bb)
  replace BW := Lib.hid (BW.out.trans (bb.mono BW.out.size))
  have T := Lib.hid sT
  have RT := Lib.hid rT
  clear sT rT bb
  have ET : Hid (lT = [1, 2, 3]) := (RT.out).eq (IsRise.self (by decide)) (fun y => by simp; omega)
  have bl : Below (World.heap w1).size w1 (World.alloc w1 (.cells #[.int .i64 1, .int .i64 2, .int .i64 3] 3)) := (Below.refl _ _).alloc (Nat.le_refl _) _
  replace S1 := Lib.hid (S1.out.below bl)
  replace S2 := Lib.hid (S2.out.below bl)
  replace T := Lib.hid (T.out.below bl)
  replace BW := Lib.hid (BW.out.trans (bl.mono BW.out.size))
  have S4 := Lib.hid (SlZ.lit w1 [1, 2, 3] 3 (w1.heap.size) #[.int .i64 1, .int .i64 2, .int .i64 3] rfl rfl (by simp) (by omega))
  clear bl
  have C2 := Lib.hid (same_s true T.out S4.out (decide_eq_true ET.out))
  go_wp2_with fail
  refine C2.out.mono ?_
  rintro e w2 ⟨rfl, bb⟩
  clear C2
  replace S1 := Lib.hid (S1.out.below bb)
  replace S2 := Lib.hid (S2.out.below bb)
  replace T := Lib.hid (T.out.below bb)
  replace S4 := Lib.hid (S4.out.below bb)
  replace BW := Lib.hid (BW.out.trans (bb.mono BW.out.size))
  clear bb
  have bl : Below (World.heap w2).size w2 (World.alloc w2 (.cells #[.int .i64 1, .int .i64 2] 3)) := (Below.refl _ _).alloc (Nat.le_refl _) _
  replace S1 := Lib.hid (S1.out.below bl)
  replace S2 := Lib.hid (S2.out.below bl)
  replace T := Lib.hid (T.out.below bl)
  replace S4 := Lib.hid (S4.out.below bl)
  replace BW := Lib.hid (BW.out.trans (bl.mono BW.out.size))
  have S7 := Lib.hid (SlZ.lit w2 [1, 2] 2 (w2.heap.size) #[.int .i64 1, .int .i64 2] rfl rfl (by simp) (by omega))
  clear bl
  have C3 := Lib.hid (is_s true S7.out (by decide))
  go_wp2_with fail
  refine C3.out.mono ?_
  rintro e w3 ⟨rfl, bb⟩
  clear C3
  replace S1 := Lib.hid (S1.out.below bb)
  replace S2 := Lib.hid (S2.out.below bb)
  replace T := Lib.hid (T.out.below bb)
  replace S4 := Lib.hid (S4.out.below bb)
  replace S7 := Lib.hid (S7.out.below bb)
  replace BW := Lib.hid (BW.out.trans (bb.mono BW.out.size))
  clear bb
  have bl : Below (World.heap w3).size w3 (World.alloc w3 (.cells #[.int .i64 1, .int .i64 1] 3)) := (Below.refl _ _).alloc (Nat.le_refl _) _
  replace S1 := Lib.hid (S1.out.below bl)
  replace S2 := Lib.hid (S2.out.below bl)
  replace T := Lib.hid (T.out.below bl)
  replace S4 := Lib.hid (S4.out.below bl)
  replace S7 := Lib.hid (S7.out.below bl)
  replace BW := Lib.hid (BW.out.trans (bl.mono BW.out.size))
  have S11 := Lib.hid (SlZ.lit w3 [1, 1] 2 (w3.heap.size) #[.int .i64 1, .int .i64 1] rfl rfl (by simp) (by omega))
  clear bl
  have C4 := Lib.hid (is_s false S11.out (by decide))
  go_wp2_with fail
  refine C4.out.mono ?_
  rintro e w4 ⟨rfl, bb⟩
  clear C4
  replace S1 := Lib.hid (S1.out.below bb)
  replace S2 := Lib.hid (S2.out.below bb)
  replace T := Lib.hid (T.out.below bb)
  replace S4 := Lib.hid (S4.out.below bb)
  replace S7 := Lib.hid (S7.out.below bb)
  replace S11 := Lib.hid (S11.out.below bb)
  replace BW := Lib.hid (BW.out.trans (bb.mono BW.out.size))
  clear bb
  have bl : Below (World.heap w4).size w4 (World.alloc w4 (.cells #[.int .i64 4] 3)) := (Below.refl _ _).alloc (Nat.le_refl _) _
  replace S1 := Lib.hid (S1.out.below bl)
  replace S2 := Lib.hid (S2.out.below bl)
  replace T := Lib.hid (T.out.below bl)
  replace S4 := Lib.hid (S4.out.below bl)
  replace S7 := Lib.hid (S7.out.below bl)
  replace S11 := Lib.hid (S11.out.below bl)
  replace BW := Lib.hid (BW.out.trans (bl.mono BW.out.size))
  have S16 := Lib.hid (SlZ.lit w4 [4] 1 (w4.heap.size) #[.int .i64 4] rfl rfl (by simp) (by omega))
  clear bl
  have C5 := Lib.hid (has_s 4 true S16.out (by decide))
  go_wp2_with fail
  refine C5.out.mono ?_
  rintro e w5 ⟨rfl, bb⟩
  clear C5
  replace S1 := Lib.hid (S1.out.below bb)
  replace S2 := Lib.hid (S2.out.below bb)
  replace T := Lib.hid (T.out.below bb)
  replace S4 := Lib.hid (S4.out.below bb)
  replace S7 := Lib.hid (S7.out.below bb)
  replace S11 := Lib.hid (S11.out.below bb)
  replace S16 := Lib.hid (S16.out.below bb)
  replace BW := Lib.hid (BW.out.trans (bb.mono BW.out.size))
  clear bb
  go_wp2
  go_ret
  exact ⟨rfl, BW.out⟩
end Go.Proofs.Ytagceceeokieoaa
