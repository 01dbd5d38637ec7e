/-
  IndexRuns as a contract. Conditions: the library's table lies in its variable.
-/
import Derived.Test.YtlfcjjlgkcfkdaaGreatDoorDl
namespace Go.Proofs.YtlfcjjlgkcfkdaaGreatDoor
open Go.RowKit Go.Maps Go.Sort La

def rA : Lab := (⟨#[97]⟩, ⟨#[120]⟩)
def rB : Lab := (⟨#[98]⟩, ⟨#[121]⟩)
def rC : Lab := (⟨#[98]⟩, ⟨#[122]⟩)
def rM1 : Mat := ⟨2, ⟨#[97]⟩, ⟨#[120]⟩⟩
def rM2 : Mat := ⟨1, ⟨#[97]⟩, ⟨#[]⟩⟩
def T10 : List Ent := [(1, [rA]), (2, [rB])]
theorem r10a : isSet [rA] = true := by decide +kernel
theorem r10b : isSet [rB] = true := by decide +kernel
theorem r10c : isSet [rC] = true := by decide +kernel
theorem r10f1 : found T10 [rM1] = [2] := by decide +kernel
theorem r10f2 : found T10 [rM2] = [2] := by decide +kernel
theorem wf1 : (Lit.int .i64 1).wf = true := by decide +kernel
theorem wf2 : (Lit.int .i64 2).wf = true := by decide +kernel
theorem r10ne : rA ≠ rB := fun e => by
  have := congrArg (fun y : Lab => y.1.data) e
  exact absurd this (by decide)
theorem r10len (y : Lab) : y ∈ [rA, rB] ↔ who T10 y ≠ [] := by
  rw [who_ne]
  constructor
  · intro h
    rcases List.mem_cons.1 h with rfl | h
    · exact ⟨(1, [rA]), by simp [T10], by simp⟩
    · obtain rfl : y = rB := by simpa using h
      exact ⟨(2, [rB]), by simp [T10], by simp⟩
  · rintro ⟨p, hp, hy⟩
    simp only [T10, List.mem_cons, List.not_mem_nil, or_false] at hp
    rcases hp with rfl | rfl
    · have : y = rA := by simpa using hy
      simp [this]
    · have : y = rB := by simpa using hy
      simp [this]
theorem small_one {y : Lab} (h : y.1.size ≤ 1000 ∧ y.2.size ≤ 1000) : Small [y] := fun z hz => by
  obtain rfl : z = y := by simpa using hz
  have h1 := h.1
  have h2 := h.2
  omega
theorem smallM_one {y : Mat} (h : y.n.size ≤ 1000 ∧ y.v.size ≤ 1000) : SmallM [y] := fun z hz => by
  obtain rfl : z = y := by simpa using hz
  exact h
/-- An index is one's own: its maps lie above. -/
theorem idx_below {W W' : World} {b1 b2 base : Nat} (t : Turns (S2 b1 b2) W W') (h : base ≤ b1 ∧ base ≤ b2) (hb : base ≤ W.heap.size) : Below base W W' := t.below (fun q hq => by rcases hq with rfl | rfl; exact h.1; exact h.2) hb

set_option maxRecDepth 100000 in
set_option maxHeartbeats 4000000 in
theorem runs10_any {w : World} (hT : DTab w) : Calls Tryz.prog 3 #[] w fun e w' => e = .returned (.bool true) ∧ Below w.heap.size w w' := by
  have C1 := Lib.hid (inew_any w)
  have HT := Lib.hid hT
  clear hT
  go_enter Tryz.func3, Tryz.ntmps3
  go_wp2_with fail
  refine C1.out.mono ?_
  rintro e w1 ⟨x, b1, b2, rfl, i1, bs, bb⟩
  have I := Lib.hid i1
  have BS := Lib.hid bs
  have BW := Lib.hid bb
  clear i1 bs bb C1
  have bl : Below (World.heap w1).size w1 (World.alloc w1 (.cells #[.string ⟨#[97]⟩, .string ⟨#[120]⟩] 26)) := (Below.refl _ _).alloc (Nat.le_refl _) _
  have LI : IsLabs (World.alloc w1 (.cells #[.string ⟨#[97]⟩, .string ⟨#[120]⟩] 26)) (some ⟨(World.heap w1).size, 0, none⟩) [rA] := lit_lab w1 rA
  have AD := Lib.hid (iadd_any (I.out.below bl) 1 [rA] (some ⟨(World.heap w1).size, 0, none⟩) 1 1 wf1 rfl (by omega) (small_one (by decide)) (fun e => by cases e) LI (by decide) (by omega))
  replace BW := Lib.hid (BW.out.trans (bl.mono BW.out.size))
  clear bl LI
  go_wp2_with fail
  refine AD.out.mono ?_
  rintro e w2 ⟨ok, rfl, hok, i2, t2⟩
  obtain rfl : ok = true := hok.2 ⟨r10a, by simp⟩
  replace I : Hid (IdxAt w2 x b1 b2 7 [(1, [rA])]) := i2
  replace BW : Hid (Below w.heap.size w w2) := BW.out.trans (idx_below t2 BS.out.2 BW.out.size)
  clear hok i2 t2 AD
  have bl : Below (World.heap w2).size w2 (World.alloc w2 (.cells #[.string ⟨#[98]⟩, .string ⟨#[121]⟩] 26)) := (Below.refl _ _).alloc (Nat.le_refl _) _
  have LI : IsLabs (World.alloc w2 (.cells #[.string ⟨#[98]⟩, .string ⟨#[121]⟩] 26)) (some ⟨(World.heap w2).size, 0, none⟩) [rB] := lit_lab w2 rB
  have AD := Lib.hid (iadd_any (I.out.below bl) 2 [rB] (some ⟨(World.heap w2).size, 0, none⟩) 1 1 wf2 rfl (by omega) (small_one (by decide)) (fun e => by cases e) LI (by decide) (by omega))
  replace BW := Lib.hid (BW.out.trans (bl.mono BW.out.size))
  clear bl LI
  go_wp2_with fail
  refine AD.out.mono ?_
  rintro e w3 ⟨ok, rfl, hok, i2, t2⟩
  obtain rfl : ok = true := hok.2 ⟨r10b, by simp⟩
  replace I : Hid (IdxAt w3 x b1 b2 14 T10) := i2
  replace BW : Hid (Below w.heap.size w w3) := BW.out.trans (idx_below t2 BS.out.2 BW.out.size)
  clear hok i2 t2 AD
  have bl : Below (World.heap w3).size w3 (World.alloc w3 (.cells #[.string ⟨#[98]⟩, .string ⟨#[122]⟩] 26)) := (Below.refl _ _).alloc (Nat.le_refl _) _
  have LI : IsLabs (World.alloc w3 (.cells #[.string ⟨#[98]⟩, .string ⟨#[122]⟩] 26)) (some ⟨(World.heap w3).size, 0, none⟩) [rC] := lit_lab w3 rC
  have AD := Lib.hid (iadd_any (I.out.below bl) 2 [rC] (some ⟨(World.heap w3).size, 0, none⟩) 1 1 wf2 rfl (by omega) (small_one (by decide)) (fun e => by cases e) LI (by decide) (by omega))
  replace BW := Lib.hid (BW.out.trans (bl.mono BW.out.size))
  clear bl LI
  go_wp2_with fail
  refine AD.out.mono ?_
  rintro e w4 ⟨ok, rfl, hok, i2, t2⟩
  obtain rfl : ok = false := by
    cases ok
    · rfl
    · exact absurd (hok.1 rfl).2 (by simp [T10])
  replace I : Hid (IdxAt w4 x b1 b2 21 T10) := i2
  replace BW : Hid (Below w.heap.size w w4) := BW.out.trans (idx_below t2 BS.out.2 BW.out.size)
  clear hok i2 t2 AD
  have bl : Below (World.heap w4).size w4 (World.alloc w4 (.cells #[.int .i64 2, .string ⟨#[97]⟩, .string ⟨#[120]⟩] 32)) := (Below.refl _ _).alloc (Nat.le_refl _) _
  have LM : IsMats (World.alloc w4 (.cells #[.int .i64 2, .string ⟨#[97]⟩, .string ⟨#[120]⟩] 32)) (some ⟨(World.heap w4).size, 0, none⟩) [rM1] := lit_mat w4 rM1
  have FD := Lib.hid (ifind_any (I.out.below bl) [rM1] (some ⟨(World.heap w4).size, 0, none⟩) 1 1 rfl (by omega) (smallM_one (by decide)) LM (HT.out.below (BW.out.trans (bl.mono BW.out.size))))
  replace I := Lib.hid (I.out.below bl)
  replace BW := Lib.hid (BW.out.trans (bl.mono BW.out.size))
  clear bl LM
  go_wp2_with fail
  refine FD.out.mono ?_
  rintro e u1 ⟨o1, A1, n1, c1, rfl, r1, s1, bb⟩
  have bl : Below (World.heap u1).size u1 (World.alloc u1 (.cells #[.int .i64 2] 3)) := (Below.refl _ _).alloc (Nat.le_refl _) _
  have S2 := SlZ.lit u1 [2] 1 (World.heap u1).size #[.int .i64 2] rfl rfl rfl (by omega)
  have SM := Lib.hid (same_s true (s1.below bl) S2 (decide_eq_true (r1.eq (IsRise.self (List.pairwise_singleton _ _)) (fun y => by rw [r10f1]))))
  replace I := Lib.hid ((I.out.below bb).below bl)
  replace BW := Lib.hid ((BW.out.trans (bb.mono BW.out.size)).trans (bl.mono (BW.out.trans (bb.mono BW.out.size)).size))
  clear r1 s1 bb bl S2 FD
  go_wp2_with fail
  refine SM.out.mono ?_
  rintro e v1 ⟨rfl, bb⟩
  replace I := Lib.hid (I.out.below bb)
  replace BW := Lib.hid (BW.out.trans (bb.mono BW.out.size))
  clear bb SM
  have bl : Below (World.heap v1).size v1 (World.alloc v1 (.cells #[.int .i64 1, .string ⟨#[97]⟩, .string ⟨#[]⟩] 32)) := (Below.refl _ _).alloc (Nat.le_refl _) _
  have LM : IsMats (World.alloc v1 (.cells #[.int .i64 1, .string ⟨#[97]⟩, .string ⟨#[]⟩] 32)) (some ⟨(World.heap v1).size, 0, none⟩) [rM2] := lit_mat v1 rM2
  have FD := Lib.hid (ifind_any (I.out.below bl) [rM2] (some ⟨(World.heap v1).size, 0, none⟩) 1 1 rfl (by omega) (smallM_one (by decide)) LM (HT.out.below (BW.out.trans (bl.mono BW.out.size))))
  replace I := Lib.hid (I.out.below bl)
  replace BW := Lib.hid (BW.out.trans (bl.mono BW.out.size))
  clear bl LM
  go_wp2_with fail
  refine FD.out.mono ?_
  rintro e u2 ⟨o1, A1, n1, c1, rfl, r1, s1, bb⟩
  have bl : Below (World.heap u2).size u2 (World.alloc u2 (.cells #[.int .i64 2] 3)) := (Below.refl _ _).alloc (Nat.le_refl _) _
  have S2 := SlZ.lit u2 [2] 1 (World.heap u2).size #[.int .i64 2] rfl rfl rfl (by omega)
  have SM := Lib.hid (same_s true (s1.below bl) S2 (decide_eq_true (r1.eq (IsRise.self (List.pairwise_singleton _ _)) (fun y => by rw [r10f2]))))
  replace I := Lib.hid ((I.out.below bb).below bl)
  replace BW := Lib.hid ((BW.out.trans (bb.mono BW.out.size)).trans (bl.mono (BW.out.trans (bb.mono BW.out.size)).size))
  clear r1 s1 bb bl S2 FD
  go_wp2_with fail
  refine SM.out.mono ?_
  rintro e v2 ⟨rfl, bb⟩
  replace I := Lib.hid (I.out.below bb)
  replace BW := Lib.hid (BW.out.trans (bb.mono BW.out.size))
  clear bb SM
  have LE := Lib.hid (ilen_any I.out [rA, rB] (by simp [r10ne]) r10len)
  go_wp2_with fail
  refine LE.out.mono ?_
  rintro e w9 ⟨rfl, rfl⟩
  clear LE I HT
  go_wp2
  go_ret
  exact ⟨rfl, BW.out⟩
end Go.Proofs.YtlfcjjlgkcfkdaaGreatDoor
