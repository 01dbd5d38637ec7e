/-
  What the reference's Pad does, for all bytes: it returns a new slice of the padded bytes (Sm.pad), and writes nothing that was there. Condition: at most 2^40 bytes.
-/
import Derived.Test.YtolokcmlpecpdaaDoorPw
import Derived.Test.YtolokcmlpecpdaaDoorVm
import Derived.Test.YtolokcmlpecpdaaDoorSm
namespace Go.Proofs.YtolokcmlpecpdaaDoor
open Go.RowKit

namespace Sm
/-- How many noughts stand in the padding of n bytes. -/
def zeros (n : Nat) : Nat := (119 - n % 64) % 64
def pad (l : List Nat) : List Nat := l ++ [128] ++ List.replicate (zeros l.length) 0 ++ Vm.word (8 * l.length)
theorem zeros_end {n z : Nat} (hz : z ≤ zeros n) : (n + 1 + z) % 64 = 56 ↔ z = zeros n := by unfold zeros at *; omega
end Sm

def PadInv (w : World) (l : List Nat) (v : Value) (wr : World) : Prop :=
  ∃ z, z ≤ Sm.zeros l.length ∧ wr.ownsRow w.heap.size 5 1 v (l.length + 1 + z) (by8 (l ++ [128] ++ List.replicate z 0)) ∧ Below w.heap.size w wr

/-- The length of a slice value. -/
def lenV : Value → Nat
  | .slice _ n _ => n
  | _ => 0
theorem by8_snoc (l : List Nat) (k : Nat) : by8 (l ++ [k]) = by8 l ++ [.int .u8 (k : Int)] := by simp [by8]
theorem own_len2 {w : World} {base n : Nat} {v : Value} {xs : List Value} (h : w.ownsRow base 5 1 v n xs) : lenV v = n := by
  rcases h.2 with ⟨rfl, rfl⟩ | ⟨g, cap, cur, rfl, _⟩ <;> rfl
theorem pad_start {w wr w1 : World} {l : List Nat} {v v' : Value} {o : Obj} (hown : wr.ownsRow w.heap.size 5 1 v l.length (by8 l)) (hb : Below w.heap.size w wr)
    (hown' : w1.ownsRow w.heap.size 5 1 v' (l.length + 1) (by8 l ++ [.int .u8 128])) (hg : (wr.alloc o).grownBy w1 v.ownBlock) : PadInv w l v' w1 := by
  refine ⟨0, by omega, ?_, (hb.alloc hb.size o).grown hg (by have := hb.size; simp; omega) (own_ge hown)⟩
  have e : by8 (l ++ [128] ++ List.replicate 0 0) = by8 l ++ [.int .u8 128] := by simp [by8]
  rw [e]; exact hown'
theorem pad_step {w wr w1 : World} {l : List Nat} {z : Nat} {v v' : Value} {o : Obj} (hz : z + 1 ≤ Sm.zeros l.length) (hown : wr.ownsRow w.heap.size 5 1 v (l.length + 1 + z) (by8 (l ++ [128] ++ List.replicate z 0))) (hb : Below w.heap.size w wr)
    (hown' : w1.ownsRow w.heap.size 5 1 v' (l.length + 1 + z + 1) (by8 (l ++ [128] ++ List.replicate z 0) ++ [.int .u8 0])) (hg : (wr.alloc o).grownBy w1 v.ownBlock) : PadInv w l v' w1 := by
  refine ⟨z + 1, hz, ?_, (hb.alloc hb.size o).grown hg (by have := hb.size; simp; omega) (own_ge hown)⟩
  have e : by8 (l ++ [128] ++ List.replicate (z + 1) 0) = by8 (l ++ [128] ++ List.replicate z 0) ++ [.int .u8 0] := by
    rw [List.replicate_succ', ← List.append_assoc, by8_snoc]; rfl
  rw [e]; exact hown'

theorem rpw (n : Nat) (m : Int) (hm : (n : Int) = m) (w : World) : Calls Tryd.prog 29 #[.int .u64 m] w (MadeBytes w (Vm.word n)) := by subst hm; exact rpword_any n w
theorem Sm.word_byte (n : Nat) : ∀ x ∈ Vm.word n, x < 256 := by
  intro x hx
  simp only [Vm.word, List.mem_cons, List.not_mem_nil, or_false] at hx
  omega

set_option maxRecDepth 100000 in
set_option maxHeartbeats 400000 in
theorem rpad_any (l : List Nat) (A : Option Addr) (cap : Nat) (w : World) (hl : l.length ≤ 1099511627776) (hA : A = none → cap = 0) (hb : IsBytes w A l) :
    Calls Tryd.prog 21 #[.slice A l.length cap] w (MadeBytes w (Sm.pad l)) := by
  obtain ⟨i0, hi, hz0, hz1, hz2⟩ := info_parts Tryd.info5
  have HA := Lib.hid hA
  have HB := Lib.hid hb
  clear hA hb
  have HZ : Hid (Sm.zeros l.length ≤ 63) := by show Sm.zeros l.length ≤ 63; unfold Sm.zeros; omega
  generalize hL : l.length = L at *
  have HL := Lib.hid hL
  clear hL
  go_enter Tryd.func21, Tryd.ntmps21
  go_wp2_with (at_builtin; refine wpList_app _ rfl _ _ rfl w.heap.size (.slice none 0 0) [] l 0 _ rfl HL.out rfl (World.ownsRow_nil _ _ _ _) _ _ rfl HA.out HB.out (by omega) (Nat.le_refl _) ?_)
  intro v0 w0 o0 g0
  have b0 : Below w.heap.size w w0 := (Below.refl _ _).grown g0 (Nat.le_refl _) (fun k h => by cases h)
  go_wp2_with (at_builtin; refine wpList_append_own _ rfl _ _ 24 rfl w.heap.size 5 i0 (.int .u8 0) 1 1 Tryd.underlying24 hi hz0 hz1 hz2 rfl (by decide) _ _ _ rfl (o0.alloc _) ⟨w0.heap.size, 0, none⟩ 1 1 [.int .u8 128] rfl rfl (cell_one_new _ _ _) (one8 _) (by unfold maxLen; omega) (by omega) (bel_size b0) ?_)
  intro v1 w1 o1 g1 _
  have R : PadInv w l v1 w1 := pad_start (by rw [HL.out]; exact o0) b0 (by rw [HL.out]; exact o1) g1
  clear o0 g0 b0 o1 g1
  go_wp2
  go_loopw [3] (fun v wr => PadInv w l v wr) (fun v _ => L + 65 - lenV v)
  case atStart => exact R
  case round =>
    obtain ⟨z, hz, hown, hb⟩ := hrel
    rw [HL.out] at hz hown
    obtain ⟨A1, c1, rfl, hc1⟩ := own_form hown
    generalize hxs : l ++ [128] ++ List.replicate z 0 = xs at hown
    have HXS := Lib.hid hxs
    clear hxs
    have hze := Sm.zeros_end (n := L) (z := z) hz
    have HZ2 := HZ.out
    generalize hn : L + 1 + z = n at *
    have HN := Lib.hid hn
    have hnb : n ≤ L + 64 := by omega
    clear hn
    by_cases he : z = Sm.zeros L
    · have t0 : ((n : Int) % 64 != 56) = false := by
        have := hze.2 he
        simp; omega
      have HE := Lib.hid he
      have HZZ := Lib.hid hz
      clear hze he hz HZ2
      go_wp2_with fail
      refine (rpw (8 * L) _ (by omega) _).mono ?_
      rintro e w2 ⟨v2, rfl, o2, b2⟩
      replace hown := own_keep hown b2
      have o2' : w2.ownsRow wr.heap.size 5 1 v2 8 (by8 (Vm.word (8 * L))) := o2
      obtain ⟨g2, k2, rfl, _, _, _⟩ := own_head o2' (by omega)
      have I2 := own_is o2' (Sm.word_byte (8 * L))
      have bb := hb.trans (b2.mono hb.size)
      have HX := Lib.hid (own_len hown)
      go_wp2_with (at_builtin; refine wpList_app _ rfl _ _ rfl w.heap.size _ xs (Vm.word (8 * L)) _ 8 HX.out rfl rfl hown _ _ rfl (fun h => by cases h) I2 (by omega) bb.size ?_)
      intro v3 w3 o3 g3
      have b3 := bb.grown g3 bb.size (own_ge hown)
      have R3 : MadeBytes w (Sm.pad l) (.returned v3) w3 := by
        refine ⟨v3, rfl, ?_, b3⟩
        have e : Sm.pad l = xs ++ Vm.word (8 * L) := by rw [← HXS.out, Sm.pad, HL.out, HE.out]
        rw [e, List.length_append, HX.out]; exact o3
      clear o2 o2' I2 hown hb bb o3 g3 b3 b2
      go_wp2
      go_ret
      exact R3
    · have t0 : ((n : Int) % 64 != 56) = true := by
        have : n % 64 ≠ 56 := fun h => he (hze.1 h)
        simp; omega
      have hz1' : z + 1 ≤ Sm.zeros L := by omega
      have HZ1 := Lib.hid hz1'
      clear hze he hz hz1' HZ2
      go_wp2_with (at_builtin; refine wpList_append_own _ rfl _ _ 24 rfl w.heap.size 5 i0 (.int .u8 0) 1 1 Tryd.underlying24 hi hz0 hz1 hz2 rfl (by decide) _ _ _ rfl (hown.alloc _) ⟨wr.heap.size, 0, none⟩ 1 1 [.int .u8 0] rfl rfl (cell_one_new _ _ _) (one8 _) (by unfold maxLen; omega) (by omega) (bel_size hb) ?_)
      intro v2 w2 o2 g2 _
      have hl2 := own_len2 o2
      have R2 : PadInv w l v2 w2 := pad_step (z := z) (by rw [HL.out]; exact HZ1.out) (by rw [HL.out, HN.out, HXS.out]; exact hown) hb (by rw [HL.out, HN.out, HXS.out]; exact o2) g2
      have HL2 := Lib.hid hl2
      clear o2 g2 hown hb hl2
      go_wp2
      go_roundw
      case rel => exact R2
      case measure => rw [HL2.out]; simp [lenV]; omega

end Go.Proofs.YtolokcmlpecpdaaDoor
