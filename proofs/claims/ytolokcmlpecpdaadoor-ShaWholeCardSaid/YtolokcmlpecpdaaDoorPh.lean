/-
  The two closed sentences, as contracts: the digest of "abc" and that of no bytes are those of FIPS 180-4, in every world in which the table of constants lies in its variable.
-/
import Derived.Test.YtolokcmlpecpdaaDoorPf
import Derived.ChangeKeysEq
import Derived.Lib.SlBytesConst
namespace Go.Proofs.YtolokcmlpecpdaaDoor
open Go.RowKit

/-- '==' of an array of integers and itself. -/
theorem run_items_self {k : IntKind} {e : TypeId} (he : Tryd.prog.underlying e = some (.int k)) (hc : Tryd.prog.cellsOf e = 1) (xs : Array Value) (w : World) : ∀ (is : List Nat), (∀ j ∈ is, ∃ z, xs[j]? = some (.int k z)) → (Op.eqItems 9999 e (Tryd.prog.cellsOf e) xs xs is).run Tryd.prog w = .ok true w
  | [], _ => by simp [Op.eqItems]
  | j :: is, h => by
    obtain ⟨z, hz⟩ := h j (by simp)
    have hp : (part e xs (j * Tryd.prog.cellsOf e)).run Tryd.prog w = .ok (.int k z) w := by
      rw [hc, Nat.mul_one]
      simp [part, isAgg, run_underlying he, hz]
    have hq := run_equalIn_int (P := Tryd.prog) w 9998 e k k z z he
    simp only [Op.eqItems, Sem.run_bind, hp, hq, Result.andThen_ok]
    simpa using run_items_self he hc xs w is fun i hi => h i (by simp [hi])
theorem run_equal_self {k : IntKind} {t e : TypeId} {n : Nat} {i : TypeInfo} (ht : Tryd.prog.underlying t = some (.array n e)) (he : Tryd.prog.underlying e = some (.int k)) (hi : Tryd.prog.info? e = some i) (hc : Tryd.prog.cellsOf e = 1) (xs : Array Value) (hx : ∀ j, j < n → ∃ z, xs[j]? = some (.int k z)) (w : World) :
    (Op.equalIn 10000 t (.agg xs) (.agg xs)).run Tryd.prog w = .ok true w := by
  rw [show (10000 : Nat) = 9999 + 1 from rfl, run_equalIn_array w 9999 xs xs ht hi]
  exact run_items_self he hc xs w _ fun j hj => hx j (by simpa using hj)
theorem Tryd.one5 : Tryd.prog.cellsOf 5 = 1 := by kernel_rfl
theorem Tryd.oneW : Tryd.prog.cellsOf 28 = 1 := by kernel_rfl
theorem eq_bytes (l : List Nat) (hl : l.length = 32) (w : World) : (Op.equalIn 10000 22 (.agg (by8 l).toArray) (.agg (by8 l).toArray)).run Tryd.prog w = .ok true w := by
  obtain ⟨i0, hi, _⟩ := info_parts Tryd.info5
  refine run_equal_self Tryd.underlying22 Tryd.underlying5 hi Tryd.one5 _ (fun j hj => ⟨((l.getD j 0 : Nat) : Int), ?_⟩) w
  simp [by8, List.getElem?_eq_getElem (show j < l.length by omega)]
theorem lit_marked (w : World) (l : List Nat) (hb : ∀ x ∈ l, x < 256) (cs : Array Value) (h : cs = (by8 l).toArray) (fr : Nat × Nat) : IsBytes (w.alloc (.cells cs 5 fr)) (some ⟨w.heap.size, 0, none⟩) l := by
  subst h
  refine ⟨Vm.getD_lt hb, fun _ => ⟨w.heap.size, 0, rfl, fun j hj => ?_⟩⟩
  rw [cell_of_row _ w.heap.size (0 + j) _ 5 fr (heap_alloc_new w _)]
  simp [by8, List.getElem?_eq_getElem hj]

def Sm.abcD : List Nat := [186, 120, 22, 191, 143, 1, 207, 234, 65, 65, 64, 222, 93, 174, 34, 35, 176, 3, 97, 163, 150, 23, 122, 156, 180, 16, 255, 97, 242, 0, 21, 173]
def Sm.noneD : List Nat := [227, 176, 196, 66, 152, 252, 28, 20, 154, 251, 244, 200, 153, 111, 185, 36, 39, 174, 65, 228, 100, 155, 147, 76, 164, 149, 153, 27, 120, 82, 184, 85]
theorem Sm.abc : Sm.dig (Sm.blocks (Sm.pad [97, 98, 99]) ((Sm.pad [97, 98, 99]).length / 64)) 32 = Sm.abcD := by decide +kernel
theorem Sm.none : Sm.dig (Sm.blocks (Sm.pad []) ((Sm.pad []).length / 64)) 32 = Sm.noneD := by decide +kernel
theorem Sm.abcA : (by8 Sm.abcD).toArray = #[.int .u8 186, .int .u8 120, .int .u8 22, .int .u8 191, .int .u8 143, .int .u8 1, .int .u8 207, .int .u8 234, .int .u8 65, .int .u8 65, .int .u8 64, .int .u8 222, .int .u8 93, .int .u8 174, .int .u8 34, .int .u8 35, .int .u8 176, .int .u8 3, .int .u8 97, .int .u8 163, .int .u8 150, .int .u8 23, .int .u8 122, .int .u8 156, .int .u8 180, .int .u8 16, .int .u8 255, .int .u8 97, .int .u8 242, .int .u8 0, .int .u8 21, .int .u8 173] := rfl
theorem Sm.noneA : (by8 Sm.noneD).toArray = #[.int .u8 227, .int .u8 176, .int .u8 196, .int .u8 66, .int .u8 152, .int .u8 252, .int .u8 28, .int .u8 20, .int .u8 154, .int .u8 251, .int .u8 244, .int .u8 200, .int .u8 153, .int .u8 111, .int .u8 185, .int .u8 36, .int .u8 39, .int .u8 174, .int .u8 65, .int .u8 228, .int .u8 100, .int .u8 155, .int .u8 147, .int .u8 76, .int .u8 164, .int .u8 149, .int .u8 153, .int .u8 27, .int .u8 120, .int .u8 82, .int .u8 184, .int .u8 85] := rfl

set_option maxRecDepth 100000 in
set_option maxHeartbeats 1000000 in
theorem runs_any (w : World) (hKT : KTab w 0) : Calls Tryd.prog 3 #[] w fun e w' => e = .returned (.bool true) ∧ Below w.heap.size w w' := by
  have HK := Lib.hid hKT
  clear hKT
  have b0 : Below w.heap.size w (w.alloc (.cells #[.int .u8 97, .int .u8 98, .int .u8 99] 5 (3, 4))) := (Below.refl _ _).alloc (Nat.le_refl _) _
  have I0 := Lib.hid (lit_marked w [97, 98, 99] (by decide) #[.int .u8 97, .int .u8 98, .int .u8 99] rfl (3, 4))
  have cv := Lib.run_convert_bytes_const w 24 5 #[.int .u8 97, .int .u8 98, .int .u8 99] 3 3 Tryd.underlying24 Tryd.underlying5
  go_enter Tryd.func3, Tryd.ntmps3
  go_wp2_with fail
  refine (of_any [97, 98, 99] _ _ _ (by decide) (fun h => by cases h) I0.out (HK.out.below b0)).mono ?_
  rintro e w1 ⟨rfl, b1⟩
  have B := b0.trans (b1.mono b0.size)
  clear b0 b1 I0
  have q := eq_bytes Sm.abcD rfl w1
  rw [Sm.abc]
  rw [Sm.abcA] at q ⊢
  go_wp2
  go_ret
  exact ⟨rfl, B⟩
set_option maxRecDepth 100000 in
set_option maxHeartbeats 1000000 in
theorem none_any (w : World) (hKT : KTab w 0) : Calls Tryd.prog 4 #[] w fun e w' => e = .returned (.bool true) ∧ Below w.heap.size w w' := by
  have HK := Lib.hid hKT
  clear hKT
  go_enter Tryd.func4, Tryd.ntmps4
  go_wp2_with fail
  refine (of_any [] none 0 w (by decide) (fun _ => rfl) ⟨fun j => by simp, fun h => absurd h (by decide)⟩ HK.out).mono ?_
  rintro e w1 ⟨rfl, b1⟩
  have q := eq_bytes Sm.noneD rfl w1
  rw [Sm.none]
  rw [Sm.noneA] at q ⊢
  go_wp2_with fail
  refine (runs_any w1 (HK.out.below b1)).mono ?_
  rintro e w2 ⟨rfl, b2⟩
  have B := b1.trans (b2.mono b1.size)
  clear b1 b2 q
  go_wp2
  go_ret
  exact ⟨rfl, B⟩
end Go.Proofs.YtolokcmlpecpdaaDoor
