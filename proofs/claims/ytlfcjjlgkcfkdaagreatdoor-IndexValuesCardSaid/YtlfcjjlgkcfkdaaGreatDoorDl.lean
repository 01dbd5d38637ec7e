/-
  What the law's built does: an index and a list beside it, by steps. Conditions: at most 60 steps.
-/
import Derived.Test.YtlfcjjlgkcfkdaaGreatDoorDk
namespace Go.Proofs.YtlfcjjlgkcfkdaaGreatDoor
open Go.RowKit Go.Maps Go.Sort La

/-- A step in memory: drop or add, an id, the value of the drawn labels' slice. -/
abbrev StpC := Bool × Int × Value
def stc (S : List StpC) : List Value := S.flatMap fun p => [.bool p.1, .int .i64 p.2.1, p.2.2]
def stn (S : List StpC) (j : Nat) : StpC := S.getD j (false, 0, .slice none 0 0)
theorem stn_eq {S : List StpC} {j : Nat} (h : j < S.length) : stn S j = S[j] := by simp [stn, List.getD, List.getElem?_eq_getElem h]
theorem stn_mem {S : List StpC} {j : Nat} (h : j < S.length) : stn S j ∈ S := by rw [stn_eq h]; exact List.getElem_mem h
/-- A step's id is a number; its labels can be read. -/
def GoodT (w : World) (p : StpC) : Prop := (Lit.int .i64 p.2.1).wf = true ∧ ∃ A zs c, p.2.2 = .slice A zs.length c ∧ IsInts w A zs
/-- Steps that may be read. -/
structure StepsR (w : World) (A : Option Addr) (S : List StpC) : Prop where
  cell : 0 < S.length → ∃ b off, A = some ⟨b, off, none⟩ ∧ ∀ j, j < S.length → w.cell? ⟨b, off + j * 3, none⟩ = some (.bool (stn S j).1) ∧ w.cell? ⟨b, off + j * 3 + 1, none⟩ = some (.int .i64 (stn S j).2.1) ∧ w.cell? ⟨b, off + j * 3 + 2, none⟩ = some (stn S j).2.2
  good : ∀ p ∈ S, GoodT w p
theorem StepsR.below {w w' : World} {A : Option Addr} {S : List StpC} (h : StepsR w A S) (hb : Below w.heap.size w w') : StepsR w' A S := by
  refine ⟨fun hp => ?_, fun p hp => ?_⟩
  · obtain ⟨b, off, e, hc⟩ := h.cell hp
    refine ⟨b, off, e, fun j hj => ?_⟩
    obtain ⟨h1, h2, h3⟩ := hc j hj
    exact ⟨(hb.cell (World.block_lt_of_cell? w _ h1)).trans h1, (hb.cell (World.block_lt_of_cell? w _ h2)).trans h2, (hb.cell (World.block_lt_of_cell? w _ h3)).trans h3⟩
  · obtain ⟨h1, A', zs, c, h2, h3⟩ := h.good p hp
    exact ⟨h1, A', zs, c, h2, h3.below hb⟩
/-- What built hands back. -/
def BuiltRes (w : World) (e : Ending) (w' : World) : Prop :=
  ∃ (x b1 b2 N : Nat) (L : List AltC) (v : Value), e = .returned (.tuple #[.pointer (some ⟨x, 0, none⟩), v, .bool true]) ∧ IdxAt w' x b1 b2 N (L.map ent) ∧ AltsO w' w.heap.size v L ∧ L.length ≤ 60 ∧ N ≤ 420 ∧ (w.heap.size ≤ b1 ∧ w.heap.size ≤ b2) ∧ Below w.heap.size w w'
set_option maxRecDepth 100000 in
set_option maxHeartbeats 4000000 in
theorem built_any {w : World} {A : Option Addr} {n c : Nat} {S : List StpC} (h : StepsR w A S) (hn : S.length = n) (hn6 : n ≤ 60) :
    Calls Tryz.prog 14 #[.slice A n c] w (BuiltRes w) := by
  have H := Lib.hid h
  have HN := Lib.hid hn
  have C1 := Lib.hid (inew_any w)
  have hz : decide ((n : Int) > 60) = false := decide_eq_false (by omega)
  clear h hn
  go_enter Tryz.func14, Tryz.ntmps14
  go_wp2_with fail
  refine C1.out.mono ?_
  rintro e w1 ⟨x, b1, b2, rfl, i1, bs, bb⟩
  have I0 : Hid (IdxAt w1 x b1 b2 (7 * 0) (([] : List AltC).map ent) ∧ AltsO w1 w.heap.size (.slice none 0 0) [] ∧ Below w.heap.size w w1) := ⟨i1, ⟨World.ownsRow_nil _ _ _ _, (fun p hp => by cases hp), fun p hp => by cases hp⟩, bb⟩
  have BS := Lib.hid bs
  clear i1 bs bb C1
  go_wp2
  go_loopw [6, 7, 8] (fun v o i wr => ∃ (y : Value) (k : Nat) (L : List AltC), y = v ∧ k ≤ n ∧ o = .bool true ∧ i = .int .i64 (k : Int) ∧ Hid (IdxAt wr x b1 b2 (7 * k) (L.map ent) ∧ AltsO wr w.heap.size y L ∧ Below w.heap.size w wr ∧ L.length ≤ k)) (fun _ _ i _ => n - (intOf i).toNat)
  case atStart => exact ⟨_, 0, [], rfl, by omega, rfl, rfl, I0.out.1, I0.out.2.1, I0.out.2.2, Nat.le_refl _⟩
  case round =>
    clear I0
    obtain ⟨y, k, L, rfl, hk, rfl, rfl, HI⟩ := hrel
    by_cases hkn : k < n
    · have hkz : (k : Int) < (n : Int) := by omega
      have hk' : k < S.length := by rw [HN.out]; exact hkn
      have HS := H.out.below HI.out.2.2.1
      obtain ⟨b, off, rfl, hc⟩ := HS.cell (by omega)
      obtain ⟨d0, d1, d2⟩ := hc k hk'
      obtain ⟨wf, zA, zs, zc, ez, hz8⟩ := HS.good _ (stn_mem hk')
      rw [ez] at d2
      have WL : Hid (IntKind.i64.wrap ((k : Int) + 1) = (k : Int) + 1) := by show _ = _; rw [IntKind.wrap_i64]; omega
      obtain ⟨d, hd⟩ : ∃ y, (stn S k).1 = y := ⟨_, rfl⟩
      obtain ⟨id, hi⟩ : ∃ y, (stn S k).2.1 = y := ⟨_, rfl⟩
      rw [hd] at d0
      rw [hi] at d1 wf
      obtain ⟨zn, hzn⟩ : ∃ zn, zs.length = zn := ⟨_, rfl⟩
      rw [hzn] at d2
      have CS := Lib.hid (step_any HI.out.1 HI.out.2.1 HI.out.2.2.1.size BS.out.2.1 BS.out.2.2 d id wf zs zA zn zc hzn hz8 (by have := HI.out.2.2.2; omega) (by omega))
      have BK := Lib.hid HI.out.2.2
      clear hc HS wf ez hz8 hd hi hzn HI
      go_wp2_with fail
      refine CS.out.mono ?_
      rintro e w4 ⟨L4, v4, rfl, i4, o4, l4, b4⟩
      have I4 : Hid (IdxAt w4 x b1 b2 (7 * (k + 1)) (L4.map ent) ∧ AltsO w4 w.heap.size v4 L4 ∧ Below w.heap.size w w4 ∧ L4.length ≤ k + 1) := ⟨(show 7 * (k + 1) = 7 * k + 7 by omega) ▸ i4, o4, BK.out.1.trans b4, by have := BK.out.2; omega⟩
      clear i4 o4 l4 b4 BK CS d0 d1 d2
      go_wp2_with (rw [WL.out])
      go_roundw
      case rel => exact ⟨v4, k + 1, L4, rfl, by omega, rfl, by go_num, I4⟩
      case measure => simp [intOf]; omega
    · obtain rfl : k = n := by omega
      have hkz : ¬ (k : Int) < (k : Int) := by omega
      have R := Lib.hid HI.out
      clear HI
      go_wp2
      go_ret3
      exact ⟨x, b1, b2, 7 * k, L, y, rfl, R.out.1, R.out.2.1, by have := R.out.2.2.2; omega, by omega, BS.out.2, R.out.2.2.1⟩
end Go.Proofs.YtlfcjjlgkcfkdaaGreatDoor
