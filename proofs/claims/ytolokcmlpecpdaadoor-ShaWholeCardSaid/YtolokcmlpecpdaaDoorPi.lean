/-
  Arguments opened: a slice of bytes, an array of eight words, one of 64 bytes; and what the law ShaOf does, for all bytes: it returns true. Conditions: the tables of constants lie in their variables.
-/
import Derived.Test.YtolokcmlpecpdaaDoorPg
import Derived.Test.YtolokcmlpecpdaaDoorPh
namespace Go.Proofs.YtolokcmlpecpdaaDoor
open Go.ChangeShapes Go.WideShapes Go.ChangeAt Go.WideMaps Go.WideElems Go.RowKit

theorem Tryd.laidOut : laidOutB Tryd.prog = true := by kernel_rfl

section
variable {H : Type} {enc : TypeId × Value → H} {W : World} {base : Nat} {v : Value} {d : DataW H} {p : List MemPlace}

theorem open_bytes (hv : Value.okWide Tryd.prog W .any base 24 v) (h : DataW.Trod enc Tryd.prog W 0 (fun _ => true) true 24 v d p) :
    ∃ (a : Option Addr) (cap : Nat) (l : List Nat), v = .slice a l.length cap ∧ l.length ≤ cap ∧ (a = none → cap = 0) ∧ l.length ≤ maxLen ∧ IsBytes W a l := by
  obtain ⟨a, len, cap, rfl⟩ := okWide_slice Tryd.underlying24 hv
  obtain ⟨fuel, hf⟩ := h
  rcases open_ints Tryd.underlying24 Tryd.underlying5 (by kernel_rfl) hf with ⟨hcs, _⟩ | ⟨x, n, c, zs, hcs, _, hl, hm, hz, _, hcell, hwz⟩
  · simp [Value.cells] at hcs
    obtain ⟨rfl, rfl, rfl⟩ := hcs
    exact ⟨none, 0, [], rfl, Nat.le_refl _, fun _ => rfl, by simp, fun j => by simp, fun hp => absurd hp (by simp)⟩
  · simp [Value.cells] at hcs
    obtain ⟨rfl, rfl, rfl⟩ := hcs
    have hz : zs.length = cap := by simpa using hz
    have hb : ∀ j, 0 ≤ zs.getD j 0 ∧ zs.getD j 0 < 256 := fun j => by
      by_cases hj : j < zs.length
      · have := bounds_u8 (hwz _ (List.getElem_mem hj))
        simp only [List.getD, List.getElem?_eq_getElem hj, Option.getD_some]; omega
      · simp [List.getD, List.getElem?_eq_none (show zs.length ≤ j by omega)]
    have hlen : ((zs.take len).map Int.toNat).length = len := by simp; omega
    refine ⟨some x, cap, (zs.take len).map Int.toNat, by rw [hlen], by omega, (fun e => by cases e), by omega, fun j => ?_, fun hp => ?_⟩
    · by_cases hj : j < len
      · have hjz : j < zs.length := by omega
        have := hb j
        simp only [List.getD, List.getElem?_eq_getElem hjz, Option.getD_some] at this
        simp [hj, List.getElem?_eq_getElem hjz]; omega
      · simp [List.getElem?_take, hj]
    · have hc := hcell 0 (by omega)
      obtain ⟨b, off, spot⟩ := x
      have hspot : spot = none := by simpa [Addr.add] using World.cell?_spot hc
      subst hspot
      refine ⟨b, off, rfl, fun j hj => ?_⟩
      have hj' : j < len := by omega
      have hjz : j < zs.length := by omega
      have hcj := hcell j hjz
      have e : (⟨b, off, none⟩ : Addr).add j = ⟨b, off + j, none⟩ := by unfold Addr.add; split <;> simp_all
      have := hb j
      rw [e] at hcj
      rw [hcj]
      simp only [List.getD, List.getElem?_eq_getElem hjz, Option.getD_some] at this ⊢
      simp [hj', List.getElem?_eq_getElem hjz]; omega

/-- An array of integers that came in, by value. -/
theorem open_arr {t e : TypeId} {n : Nat} {k : IntKind} (ht : Tryd.prog.underlying t = some (.array n e)) (he : Tryd.prog.underlying e = some (.int k)) (c1 : Tryd.prog.cellsOf e = 1) (cn : Tryd.prog.cellsOf t = n)
    (hv : Value.okWide Tryd.prog W .any base t v) (h : DataW.Trod enc Tryd.prog W 0 (fun _ => true) true t v d p) :
    ∃ cs : Array Value, v = .agg cs ∧ cs.size = n ∧ ∀ j, j < n → ∃ z, cs[j]? = some (.int k z) ∧ (Lit.int k z).wf = true := by
  simp only [Value.okWide, ht] at hv
  obtain ⟨cs, rfl, hs, _⟩ := hv
  obtain ⟨fuel, hf⟩ := h
  have hf' : DataW.trod enc Tryd.prog W 0 (fun _ => true) true fuel t cs.toList = some (d, p) := hf
  obtain ⟨xs, m1, rfl, hx1, hlen, hn, hel⟩ := DataW.trod_array ht hf'
  refine ⟨cs, rfl, hs.trans cn, fun j hj => ?_⟩
  have h0 := hel j hj
  rw [c1, Nat.mul_one, List.getElem?_eq_getElem (show j < xs.length by omega)] at h0
  obtain ⟨z, e1, e2, wf⟩ := DataW.trod_int he h0
  refine ⟨z, ?_, wf⟩
  have h3 : (cs.toList.drop j)[0]? = some (Value.int k z) := by
    have := congrArg (fun l : List Value => l[0]?) e1
    simpa using this
  simpa using h3

theorem open_block (hv : Value.okWide Tryd.prog W .any base 30 v) (h : DataW.Trod enc Tryd.prog W 0 (fun _ => true) true 30 v d p) :
    ∃ b : List Nat, b.length = 64 ∧ (∀ j, b.getD j 0 < 256) ∧ v = .agg (by8 b).toArray := by
  obtain ⟨cs, rfl, hs, hc⟩ := open_arr Tryd.underlying30 Tryd.underlying5 Tryd.one5 (by kernel_rfl) hv h
  refine ⟨cs.toList.map fun u => match u with | .int _ z => z.toNat | _ => 0, by simpa using hs, fun j => ?_, ?_⟩
  · by_cases hj : j < 64
    · obtain ⟨z, h1, h2⟩ := hc j hj
      have := bounds_u8 h2
      simp [List.getD, h1]; omega
    · simp [List.getD, Array.getElem?_eq_none (show cs.size ≤ j by omega)]
  · congr 1
    apply Array.ext
    · simp [by8]
    · intro j h1 h2
      obtain ⟨z, h3, h4⟩ := hc j (by omega)
      have := bounds_u8 h4
      have h5 : cs[j] = .int .u8 z := by
        rw [Array.getElem?_eq_getElem h1] at h3; exact Option.some.inj h3
      simp [by8, h5]; omega

theorem open_state (hv : Value.okWide Tryd.prog W .any base 29 v) (h : DataW.Trod enc Tryd.prog W 0 (fun _ => true) true 29 v d p) : ∃ s : Sm.St, v = .agg (st8 s) := by
  obtain ⟨cs, rfl, hs, hc⟩ := open_arr Tryd.underlying29 Tryd.underlying28 Tryd.oneW (by kernel_rfl) hv h
  have hw : ∀ j, j < 8 → ∃ x : BitVec 32, cs[j]? = some (.int .u32 (wi x)) := fun j hj => by
    obtain ⟨z, h1, h2⟩ := hc j hj
    have := bounds_u32 h2
    refine ⟨BitVec.ofNat 32 z.toNat, ?_⟩
    rw [h1, wi, BitVec.toNat_ofNat, Nat.mod_eq_of_lt (by omega)]
    congr 2; omega
  obtain ⟨x0, h0⟩ := hw 0 (by decide)
  obtain ⟨x1, h1⟩ := hw 1 (by decide)
  obtain ⟨x2, h2⟩ := hw 2 (by decide)
  obtain ⟨x3, h3⟩ := hw 3 (by decide)
  obtain ⟨x4, h4⟩ := hw 4 (by decide)
  obtain ⟨x5, h5⟩ := hw 5 (by decide)
  obtain ⟨x6, h6⟩ := hw 6 (by decide)
  obtain ⟨x7, h7⟩ := hw 7 (by decide)
  refine ⟨⟨x0, x1, x2, x3, x4, x5, x6, x7⟩, ?_⟩
  congr 1
  obtain ⟨l⟩ := cs
  match l, hs with
  | [y0, y1, y2, y3, y4, y5, y6, y7], _ =>
    simp at h0 h1 h2 h3 h4 h5 h6 h7
    simp [st8, h0, h1, h2, h3, h4, h5, h6, h7]
end

set_option maxRecDepth 100000 in
set_option maxHeartbeats 1000000 in
theorem ofs_any (l : List Nat) (A : Option Addr) (cap : Nat) (w : World) (hl : l.length ≤ maxLen) (hA : A = none → cap = 0) (hb : IsBytes w A l) (hK : KTab w 0 ∧ KTab w 1) :
    Calls Tryd.prog 7 #[.slice A l.length cap] w fun e w' => e = .returned (.bool true) ∧ Below w.heap.size w w' := by
  have HA := Lib.hid hA
  have HB := Lib.hid hb
  have HK := Lib.hid hK
  clear hA hb hK
  by_cases h : 300 < l.length
  · have HL := Lib.hid hl
    clear hl
    go_enter Tryd.func7, Tryd.ntmps7
    go_wp2_with fail
    refine (runs_any _ HK.out.1).mono ?_
    rintro e w3 ⟨rfl, hb3⟩
    go_wp2
    go_ret
    exact ⟨rfl, hb3⟩
  · clear hl
    go_enter Tryd.func7, Tryd.ntmps7
    go_wp2_with fail
    refine (of_any l A cap w (by omega) HA.out HB.out HK.out.1).mono ?_
    rintro e w1 ⟨rfl, b1⟩
    have HQ := eq_bytes (Sm.dig (Sm.blocks (Sm.pad l) ((Sm.pad l).length / 64)) 32) (Sm.dig_len _ _)
    have RO := rof_any l A cap w1 (by omega) HA.out (isBytes_below HB.out b1) (HK.out.2.below b1)
    generalize (by8 (Sm.dig (Sm.blocks (Sm.pad l) ((Sm.pad l).length / 64)) 32)).toArray = dc at *
    go_wp2_with fail
    refine RO.mono ?_
    clear RO
    rintro e w2 ⟨rfl, b2⟩
    have b3 := b1.trans (b2.mono b1.size)
    clear b1 b2
    go_wp2_with fail
    refine (runs_any _ (HK.out.1.below b3)).mono ?_
    rintro e w3 ⟨rfl, b4⟩
    have b5 := b3.trans (b4.mono b3.size)
    clear b3 b4
    go_wp2
    go_ret
    exact ⟨rfl, b5⟩
end Go.Proofs.YtolokcmlpecpdaaDoor
