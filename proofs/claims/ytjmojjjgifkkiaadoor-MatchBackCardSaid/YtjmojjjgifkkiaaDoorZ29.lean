/-
  Arguments of stage 4 opened: slices of labels, of strings, of ints, of bytes. No condition.
  What sordinekeep.Labels does: it draws a label set, whatever the numbers. Conditions: none but the length's.
  What strings.Compare, Make's comparison and math/bits.Len (of a small number) do. Conditions: the number is below 7.
  What vint.Get and the reference's Get do, for all bytes: they tell 'dec' of them, and leave memory as it is.
-/
import Derived.Test.YtjmojjjgifkkiaaDoorProg
import Derived.Test.YtjmojjjgifkkiaaDoorZ23
import Derived.Test.YtjmojjjgifkkiaaDoorZ27
import Derived.Test.YtjmojjjgifkkiaaDoorZ02
import Derived.Test.YtjmojjjgifkkiaaDoorZ24
import Derived.Test.YtjmojjjgifkkiaaDoorZ25
import Derived.Test.YtjmojjjgifkkiaaDoorZ26
import Derived.Test.YtjmojjjgifkkiaaDoorZ28
import Derived.Deep.Slices
import Derived.Deep.SlicePairs
import Derived.OpenShut
import Derived.Lib.QuietBelow
import Derived.Laws.Externs
import Derived.Below
import Derived.Laws.AppendOwn
import Derived.Lib.LazyBuf
import Derived.BigQuiet
import Derived.Laws.StructEq
import Derived.Lib.Bytealg
import Derived.Laws.ResultCell
import Derived.Laws.OwnMore
import Derived.Lib.AppendStr
import Derived.WalkKit
import Derived.WalkSpells
import Derived.WalkLawsBesides
import Derived.Lib.Hide
import Derived.Laws.BytesArg
import Derived.Shelf.Bytes.SlSmallAll
import Derived.Laws.AppendOwnNone
import Derived.KernelRfl
import Derived.Deep.RegionHeld3
namespace Go.Proofs.YtjmojjjgifkkiaaDoor
open Go.ChangeShapes Go.WideShapes Go.RowKit La

section
variable {H : Type} {enc : TypeId × Value → H} {W : World} {base : Nat} {v : Value} {d : DataW H} {p : List MemPlace}

set_option maxRecDepth 100000 in
theorem open_bytes (hv : Value.okWide Tryd.prog W .any base 38 v) (h : DataW.Trod enc Tryd.prog W 0 (fun _ => true) true 38 v d p) :
    ∃ (a : Option Addr) (cap : Nat) (l : List Nat), v = .slice a l.length cap ∧ l.length ≤ cap ∧ (a = none → cap = 0) ∧ l.length ≤ maxLen ∧ IsBytes W a l := by
  obtain ⟨a, len, cap, rfl⟩ := okWide_slice Tryd.underlying38 hv
  obtain ⟨fuel, hf⟩ := h
  rcases open_ints Tryd.underlying38 Tryd.underlying5 (by kernel_rfl) hf with ⟨hcs, _⟩ | ⟨x, n, c, zs, hcs, _, hl, hm, hz, _, hcell, hwz⟩
  · simp [Value.cells] at hcs
    obtain ⟨rfl, rfl, rfl⟩ := hcs
    exact ⟨none, 0, [], rfl, Nat.le_refl _, fun _ => rfl, by simp, fun j => by simp, fun hp => absurd hp (by simp)⟩
  · simp [Value.cells] at hcs
    obtain ⟨rfl, rfl, rfl⟩ := hcs
    have hz : zs.length = cap := by simpa using hz
    have hb : ∀ j, 0 ≤ zs.getD j 0 ∧ zs.getD j 0 < 256 := fun j => by
      by_cases hj : j < zs.length
      · have := bounds_u8 (hwz _ (List.getElem_mem hj))
        simp only [List.getD, List.getElem?_eq_getElem hj, Option.getD_some]; omega
      · simp [List.getD, List.getElem?_eq_none (show zs.length ≤ j by omega)]
    have hlen : ((zs.take len).map Int.toNat).length = len := by simp; omega
    refine ⟨some x, cap, (zs.take len).map Int.toNat, by rw [hlen], by omega, (fun e => by cases e), by omega, fun j => ?_, fun hp => ?_⟩
    · by_cases hj : j < len
      · have hjz : j < zs.length := by omega
        have := hb j
        simp only [List.getD, List.getElem?_eq_getElem hjz, Option.getD_some] at this
        simp [hj, List.getElem?_eq_getElem hjz]; omega
      · simp [List.getElem?_take, hj]
    · have hc := hcell 0 (by omega)
      obtain ⟨b, off, spot⟩ := x
      have hspot : spot = none := by simpa [Addr.add] using World.cell?_spot hc
      subst hspot
      refine ⟨b, off, rfl, fun j hj => ?_⟩
      have hj' : j < len := by omega
      have hjz : j < zs.length := by omega
      have hcj := hcell j hjz
      have e : (⟨b, off, none⟩ : Addr).add j = ⟨b, off + j, none⟩ := by unfold Addr.add; split <;> simp_all
      have := hb j
      rw [e] at hcj
      rw [hcj]
      simp only [List.getD, List.getElem?_eq_getElem hjz, Option.getD_some] at this ⊢
      simp [hj', List.getElem?_eq_getElem hjz]; omega
set_option maxRecDepth 100000 in
theorem addr_addN (b off j : Nat) : (⟨b, off, none⟩ : Addr).add j = ⟨b, off + j, none⟩ := by unfold Addr.add; split <;> simp_all
def strV : Value → ByteArray
  | .string s => s
  | _ => ⟨#[]⟩
def intV : Value → Int
  | .int _ n => n
  | _ => 0
/-- The slice at address a reads as these ints. -/
def IsInts (w : World) (a : Option Addr) (zs : List Int) : Prop :=
  0 < zs.length → ∃ b off, a = some ⟨b, off, none⟩ ∧ ∀ j, j < zs.length → w.cell? ⟨b, off + j, none⟩ = some (.int .i64 (zs.getD j 0))
set_option maxRecDepth 100000 in
theorem IsInts.below {w w' : World} {a : Option Addr} {zs : List Int} (h : IsInts w a zs) (hb : Below w.heap.size w w') : IsInts w' a zs := by
  intro hp
  obtain ⟨b, off, e, hc⟩ := h hp
  exact ⟨b, off, e, fun j hj => (hb.cell (World.block_lt_of_cell? w _ (hc j hj))).trans (hc j hj)⟩
set_option maxRecDepth 100000 in
theorem open_labs (hv : Value.okWide Tryd.prog W .any base 24 v) (h : DataW.Trod enc Tryd.prog W 0 (fun _ => true) true 24 v d p) :
    ∃ (a : Option Addr) (cap : Nat) (ls : List Lab), v = .slice a ls.length cap ∧ ls.length ≤ cap ∧ (a = none → cap = 0) ∧ IsLabs W a ls := by
  obtain ⟨a, len, cap, rfl⟩ := okWide_slice Tryd.underlying24 hv
  obtain ⟨fuel, hf⟩ := h
  rcases Go.Deep.open_slice_pairs Tryd.underlying24 Tryd.underlying23 (by kernel_rfl) rfl rfl (by kernel_rfl) (by kernel_rfl) hf with ⟨hcs, _⟩ | ⟨x, n, c, m, k, V0, V1, D0, D1, P0, P1, hcs, _, hl, hm, hmm, _, hx⟩
  · simp [Value.cells] at hcs
    obtain ⟨rfl, rfl, rfl⟩ := hcs
    exact ⟨none, 0, [], rfl, Nat.le_refl _, fun _ => rfl, fun hp => absurd hp (by simp)⟩
  · simp [Value.cells] at hcs
    obtain ⟨rfl, rfl, rfl⟩ := hcs
    obtain rfl : m = cap := by simpa using hmm
    have each : ∀ i, i < len → V0 i = .string (strV (V0 i)) ∧ V1 i = .string (strV (V1 i)) := fun i hi => by
      obtain ⟨_, _, h3, h4⟩ := hx i (by omega)
      obtain ⟨s0, e0, _⟩ := DataW.trod_string Tryd.underlying9 h3
      obtain ⟨s1, e1, _⟩ := DataW.trod_string Tryd.underlying9 h4
      simp only [List.cons.injEq, and_true] at e0 e1
      rw [e0, e1]
      exact ⟨rfl, rfl⟩
    have hlen : ((List.range len).map fun i => ((strV (V0 i), strV (V1 i)) : Lab)).length = len := by simp
    refine ⟨some x, m, (List.range len).map fun i => (strV (V0 i), strV (V1 i)), by rw [hlen], by omega, (fun e => by cases e), fun hp => ?_⟩
    rw [hlen] at hp
    have hc := (hx 0 (by omega)).1
    obtain ⟨b, off, spot⟩ := x
    have hspot : spot = none := by simpa [Addr.add] using World.cell?_spot hc
    subst hspot
    refine ⟨b, off, rfl, fun j hj => ?_⟩
    have hj' : j < len := by rw [hlen] at hj; exact hj
    obtain ⟨h1, h2, _, _⟩ := hx j (by omega)
    have e := each j hj'
    rw [addr_addN, e.1] at h1
    rw [addr_addN, e.2, ← Nat.add_assoc] at h2
    rw [h1, h2]
    simp [nth, hj']
set_option maxRecDepth 100000 in
theorem open_intsL (hv : Value.okWide Tryd.prog W .any base 34 v) (h : DataW.Trod enc Tryd.prog W 0 (fun _ => true) true 34 v d p) :
    ∃ (a : Option Addr) (cap : Nat) (zs : List Int), v = .slice a zs.length cap ∧ zs.length ≤ cap ∧ (a = none → cap = 0) ∧ IsInts W a zs := by
  obtain ⟨a, len, cap, rfl⟩ := okWide_slice Tryd.underlying34 hv
  obtain ⟨fuel, hf⟩ := h
  rcases Go.Deep.open_slice1 Tryd.underlying34 (by kernel_rfl) hf with ⟨hcs, _⟩ | ⟨x, n, c, m, k, V, D, Pl, hcs, _, hl, hm, hmm, _, hx⟩
  · simp [Value.cells] at hcs
    obtain ⟨rfl, rfl, rfl⟩ := hcs
    exact ⟨none, 0, [], rfl, Nat.le_refl _, fun _ => rfl, fun hp => absurd hp (by simp)⟩
  · simp [Value.cells] at hcs
    obtain ⟨rfl, rfl, rfl⟩ := hcs
    obtain rfl : m = cap := by simpa using hmm
    have each : ∀ i, i < len → V i = .int .i64 (intV (V i)) := fun i hi => by
      obtain ⟨s0, e0, _⟩ := DataW.trod_int Tryd.underlying3 (hx i (by omega)).2
      simp only [List.cons.injEq, and_true] at e0
      rw [e0]
      rfl
    have hlen : ((List.range len).map fun i => intV (V i)).length = len := by simp
    refine ⟨some x, m, (List.range len).map fun i => intV (V i), by rw [hlen], by omega, (fun e => by cases e), fun hp => ?_⟩
    rw [hlen] at hp
    have hc := (hx 0 (by omega)).1
    obtain ⟨b, off, spot⟩ := x
    have hspot : spot = none := by simpa [Addr.add] using World.cell?_spot hc
    subst hspot
    refine ⟨b, off, rfl, fun j hj => ?_⟩
    have hj' : j < len := by rw [hlen] at hj; exact hj
    have hcj := (hx j (by omega)).1
    rw [addr_addN, each j hj'] at hcj
    rw [hcj]
    simp [hj']
end

end Go.Proofs.YtjmojjjgifkkiaaDoor
namespace Go.Proofs.YtjmojjjgifkkiaaDoor
open Go.RowKit La

/-- Labels that may stand in one set. -/
structure Apart (acc : List Lab) : Prop where
  ok : ∀ x ∈ acc, name x.1 = true ∧ value x.2 = true
  di : acc.Pairwise fun x y => x.1 ≠ y.1
theorem apart_nil : Apart [] := ⟨(fun x hx => by cases hx), List.Pairwise.nil⟩
theorem value_size {s : ByteArray} (h : value s = true) : 1 ≤ s.size ∧ s.size ≤ 24 := by simpa [value] using h
theorem name_size {s : ByteArray} (h : name s = true) : 1 ≤ s.size ∧ s.size ≤ 12 := by
  simp only [name, decide_eq_true_eq] at h
  exact ⟨h.1, h.2.1⟩
theorem getL_empty {acc : List Lab} (h : ∀ x ∈ acc, value x.2 = true) {n : ByteArray} (he : (getL acc n).toList = []) : ∀ x ∈ acc, x.1 ≠ n := by
  induction acc with
  | nil => intro x hx; cases hx
  | cons y r ih =>
    rw [getL] at he
    split at he
    · have h1 := value_size (h y (by simp))
      rw [ByteArray.toList_eq] at he
      have h2 : y.2.data.size = 0 := by have := congrArg List.length he; simpa using this
      have h3 : y.2.size = y.2.data.size := rfl
      omega
    · rename_i hne
      intro x hx
      rcases List.mem_cons.1 hx with rfl | hx
      · intro e; exact hne (beq_iff.2 e)
      · exact ih (fun z hz => h z (by simp [hz])) he x hx
theorem Apart.snoc {acc : List Lab} (h : Apart acc) {x y : ByteArray} (hx : name x = true) (hy : value y = true) (he : (getL acc x).toList = []) : Apart (acc ++ [(x, y)]) := by
  refine ⟨fun z hz => ?_, ?_⟩
  · rcases List.mem_append.1 hz with hz | hz
    · exact h.ok z hz
    · simp at hz; subst hz; exact ⟨hx, hy⟩
  · rw [List.pairwise_append]
    refine ⟨h.di, List.pairwise_singleton _ _, fun a ha b hb => ?_⟩
    simp at hb; subst hb
    exact getL_empty (fun z hz => (h.ok z hz).2) he a ha
theorem Apart.sorted {acc : List Lab} (h : Apart acc) (h1 : 1 ≤ acc.length) (h6 : acc.length ≤ 6) : ∃ r : List Lab, r.Perm acc ∧ isSet r = true := by
  let le : Lab → Lab → Bool := fun a b => !lt b.1 a.1
  have tr : ∀ a b c, le a b = true → le b c = true → le a c = true := by
    intro a b c x y
    simp only [le, Bool.not_eq_true'] at x y ⊢
    cases e : lt c.1 a.1 with
    | false => rfl
    | true =>
      cases e2 : lt b.1 c.1 with
      | true => have := lt_trans e2 e; rw [x] at this; cases this
      | false => have := lt_total e2 y; rw [← this, x] at e; cases e
  have tot : ∀ a b, (le a b || le b a) = true := by
    intro a b
    simp only [le]
    cases e : lt b.1 a.1 with
    | false => rfl
    | true => rw [lt_asymm e]; rfl
  have hp := List.mergeSort_perm acc le
  have hs := List.pairwise_mergeSort tr tot acc
  refine ⟨acc.mergeSort le, hp, isSet_iff.2 ⟨by rw [hp.length_eq]; exact h1, by rw [hp.length_eq]; exact h6, fun k hk => ?_⟩⟩
  have hd : (acc.mergeSort le).Pairwise fun x y => x.1 ≠ y.1 := hp.symm.pairwise h.di (fun {x y} e => Ne.symm e)
  have ok := h.ok _ (hp.mem_iff.1 (nth_mem hk))
  rw [okAt, ok.1, ok.2]
  by_cases hk0 : k = 0
  · simp [hk0]
  · have hk1 : k - 1 < (acc.mergeSort le).length := by omega
    have g1 := List.pairwise_iff_getElem.1 hs (k - 1) k hk1 hk (by omega)
    have g2 := List.pairwise_iff_getElem.1 hd (k - 1) k hk1 hk (by omega)
    rw [nth_eq hk, nth_eq hk1]
    simp only [le, Bool.not_eq_true'] at g1
    cases e : lt ((acc.mergeSort le)[k - 1]).1 ((acc.mergeSort le)[k]).1 with
    | true => simp
    | false => exact absurd (lt_total e g1) g2
theorem Apart.made {acc : List Lab} (h : Apart acc) (h1 : 1 ≤ acc.length) (h6 : acc.length ≤ 6) {o : Option (List Lab)} (ho : IsMk acc o) : ∃ l, o = some l ∧ isSet l = true := by
  cases o with
  | none =>
    obtain ⟨r, hp, hs⟩ := h.sorted h1 h6
    have := ho r hp
    rw [hs] at this; cases this
  | some l => exact ⟨l, rfl, ho.2⟩
theorem Apart.small {acc : List Lab} (h : Apart acc) : Small acc := fun x hx => by
  have a := name_size (h.ok x hx).1
  have b := value_size (h.ok x hx).2
  omega
/-- What the loop keeps. -/
structure KpI (w : World) (acc : List Lab) (v : Value) (wr : World) : Prop where
  own : wr.ownsRow w.heap.size 23 2 v acc.length (lc acc)
  bel : Below w.heap.size w wr
  ap : Apart acc

set_option maxRecDepth 100000 in
set_option maxHeartbeats 4000000 in
theorem keep_any (zs : List Int) (A : Option Addr) (cap : Nat) (w : World) (ha : IsInts w A zs) :
    Calls Tryd.prog 25 #[.slice A zs.length cap] w fun e w' => (∃ (l : List Lab) (v : Value), isSet l = true ∧ e = .returned v ∧ w'.ownsRow w.heap.size 23 2 v l.length (lc l)) ∧ Below w.heap.size w w' := by
  have HA := Lib.hid ha
  clear ha
  obtain ⟨N, hN⟩ : ∃ N, zs.length = N := ⟨_, rfl⟩
  rw [hN]
  have HN := Lib.hid hN
  clear hN
  go_enter Tryd.func25, Tryd.ntmps25
  go_wp2
  go_loopw [3, 4] (fun v i wr => ∃ (acc : List Lab) (k n : Nat), acc.length = n ∧ n ≤ k ∧ k ≤ N ∧ k ≤ 5 ∧ i = .int .i64 (k : Int) ∧ Hid (KpI w acc v wr)) (fun _ i _ => N - (intOf i).toNat)
  case atStart => exact ⟨[], 0, 0, rfl, by omega, by omega, by omega, rfl, World.ownsRow_nil _ _ _ _, Below.refl _ _, apart_nil⟩
  case round =>
    obtain ⟨acc, k, n, hn, hnk, hkN, hk5, rfl, HI⟩ := hrel
    by_cases hgo : k < N ∧ k < 5
    · obtain ⟨g1, g2⟩ := hgo
      have g1z : (k : Int) < (N : Int) := by omega
      have g2z : (k : Int) < 5 := by omega
      obtain ⟨b, off, rfl, _⟩ := (HA.out.below HI.out.bel) (by rw [HN.out]; omega)
      have HC0 : Hid (∀ W, Below w.heap.size w W → W.cell? ⟨b, off + k, none⟩ = some (.int .i64 (zs.getD k 0))) := fun W hW => by
        obtain ⟨b', off', e, hc⟩ := (HA.out.below hW) (by rw [HN.out]; omega)
        injection e with e; injection e with e1 e2
        subst e1 e2
        exact hc k (by rw [HN.out]; exact g1)
      obtain ⟨z, hz⟩ : ∃ z, zs.getD k 0 = z := ⟨_, rfl⟩
      rw [hz] at HC0
      have HC := HC0
      clear HC0 hz
      obtain ⟨q, hq⟩ : ∃ q : Int, IntKind.i64.wrap (z.tdiv 5) = q := ⟨_, rfl⟩
      obtain ⟨A3, c3, rfl, _, hA3, i3, _⟩ := own_formL HI.out.own
      have I3 := Lib.hid i3
      have HA3 := Lib.hid hA3
      clear i3 hA3
      go_wp2_with fail
      refine wp_region_held_drew (S := fun W => Below w.heap.size w W) (by kernel_rfl) (HI.out.bel.drew) (fun hHeld => ?_)
      refine held_take 0 18 (v := (.slice (some ⟨b, off, none⟩) N cap)) rfl rfl (by kernel_rfl) (by kernel_rfl) (by kernel_rfl) (by rfl) (fun _ _ _ h => h) (by assumption) ?_ ?_
      · intro W hW
        go_simp
      simp only [List.setIfInBounds_toArray, List.set_cons_zero, List.set_cons_succ]
      refine held_take 1 19 (v := (.int .i64 (k : Int))) rfl rfl (by kernel_rfl) (by kernel_rfl) (by kernel_rfl) (by rfl) (fun _ _ _ h => h) (by assumption) ?_ ?_
      · intro W hW
        go_simp
      simp only [List.setIfInBounds_toArray, List.set_cons_zero, List.set_cons_succ]
      refine held_take 2 20 (v := (.pointer (some ⟨b, off + k, none⟩))) rfl rfl (by kernel_rfl) (by kernel_rfl) (by kernel_rfl) (by rfl) (fun _ _ _ h => h) (by assumption) ?_ ?_
      · intro W hW
        go_simp
      simp only [List.setIfInBounds_toArray, List.set_cons_zero, List.set_cons_succ]
      refine held_take 3 21 (v := (.int .i64 z)) rfl rfl (by kernel_rfl) (by kernel_rfl) (by kernel_rfl) (by rfl) (fun _ _ _ h => h) (by assumption) ?_ ?_
      · intro W hW
        have c1 := HC.out W hW
        go_simp
      simp only [List.setIfInBounds_toArray, List.set_cons_zero, List.set_cons_succ]
      refine held_take 6 24 (v := (.slice (some ⟨b, off, none⟩) N cap)) rfl rfl (by kernel_rfl) (by kernel_rfl) (by kernel_rfl) (by rfl) (fun _ _ _ h => h) (by assumption) ?_ ?_
      · intro W hW
        go_simp
      simp only [List.setIfInBounds_toArray, List.set_cons_zero, List.set_cons_succ]
      refine held_take 7 25 (v := (.int .i64 (k : Int))) rfl rfl (by kernel_rfl) (by kernel_rfl) (by kernel_rfl) (by rfl) (fun _ _ _ h => h) (by assumption) ?_ ?_
      · intro W hW
        go_simp
      simp only [List.setIfInBounds_toArray, List.set_cons_zero, List.set_cons_succ]
      refine held_take 8 26 (v := (.pointer (some ⟨b, off + k, none⟩))) rfl rfl (by kernel_rfl) (by kernel_rfl) (by kernel_rfl) (by rfl) (fun _ _ _ h => h) (by assumption) ?_ ?_
      · intro W hW
        go_simp
      simp only [List.setIfInBounds_toArray, List.set_cons_zero, List.set_cons_succ]
      refine held_take 9 27 (v := (.int .i64 z)) rfl rfl (by kernel_rfl) (by kernel_rfl) (by kernel_rfl) (by rfl) (fun _ _ _ h => h) (by assumption) ?_ ?_
      · intro W hW
        have c1 := HC.out W hW
        go_simp
      simp only [List.setIfInBounds_toArray, List.set_cons_zero, List.set_cons_succ]
      refine held_take 10 28 (v := (.int .i64 q)) rfl rfl (by kernel_rfl) (by kernel_rfl) (by kernel_rfl) (by rfl) (fun _ _ _ h => h) (by assumption) ?_ ?_
      · intro W hW
        go_simp
      simp only [List.setIfInBounds_toArray, List.set_cons_zero, List.set_cons_succ]
      refine held_two 4 14 rfl rfl (by kernel_rfl) (by rfl) (by rfl) ?_ ?_
      · refine wp_call (f := 49) (args := #[.int .i64 z, .int .i64 0, .int .i64 4]) rfl (by go_simp) ?_
        refine (within4 z _).mono ?_
        rintro e w' ⟨⟨i1, hi1, rfl⟩, hw'⟩
        subst hw'
        refine ⟨_, rfl, by assumption, ?_⟩
        simp only [List.setIfInBounds_toArray, List.set_cons_zero, List.set_cons_succ]
        refine held_two 5 14 rfl rfl (by kernel_rfl) (by rfl) (by rfl) ?_ ?_
        · refine wp_call (f := 48) (args := #[.int .i64 (i1 : Int)]) rfl (by go_simp) ?_
          refine (kname_any i1 hi1 _).mono ?_
          rintro e w' ⟨⟨x, hx, rfl⟩, hw'⟩
          subst hw'
          refine ⟨_, rfl, by assumption, ?_⟩
          simp only [List.setIfInBounds_toArray, List.set_cons_zero, List.set_cons_succ]
          refine held_two 11 14 rfl rfl (by kernel_rfl) (by rfl) (by rfl) ?_ ?_
          · refine wp_call (f := 49) (args := #[.int .i64 q, .int .i64 0, .int .i64 6]) rfl (by go_simp) ?_
            refine (within6 q _).mono ?_
            rintro e w' ⟨⟨i2, hi2, rfl⟩, hw'⟩
            subst hw'
            refine ⟨_, rfl, by assumption, ?_⟩
            simp only [List.setIfInBounds_toArray, List.set_cons_zero, List.set_cons_succ]
            refine held_two 12 14 rfl rfl (by kernel_rfl) (by rfl) (by rfl) ?_ ?_
            · refine wp_call (f := 50) (args := #[.int .i64 (i2 : Int)]) rfl (by go_simp) ?_
              refine (kvalue_any i2 hi2 _).mono ?_
              rintro e w' ⟨⟨y, hy, rfl⟩, hw'⟩
              subst hw'
              refine ⟨_, rfl, by assumption, ?_⟩
              simp only [List.setIfInBounds_toArray, List.set_cons_zero, List.set_cons_succ]
              refine held_take 13 31 (v := (.agg #[.string x, .string y])) rfl rfl (by kernel_rfl) (by kernel_rfl) (by kernel_rfl) (by rfl) (fun _ _ _ h => h) (by assumption) ?_ ?_
              · intro W hW
                go_simp
              simp only [List.setIfInBounds_toArray, List.set_cons_zero, List.set_cons_succ]
              refine held_op 14 rfl (by kernel_rfl) (by rfl) ?_
              have dA : Below w.heap.size w (wr.drew.alloc (.cells #[.string ⟨#[]⟩, .string ⟨#[]⟩] 23)) := HI.out.bel.drew.alloc HI.out.bel.size _
              refine wp_run (v := .pointer (some ⟨wr.heap.size, 0, none⟩)) (w' := wr.drew.alloc (.cells #[.string ⟨#[]⟩, .string ⟨#[]⟩] 23)) rfl (by go_simp) ⟨dA, ?_⟩
              simp only [List.setIfInBounds_toArray, List.set_cons_zero, List.set_cons_succ]
              have dB : Below w.heap.size w (wr.drew.alloc (.cells #[.string x, .string y] 23)) := HI.out.bel.drew.alloc HI.out.bel.size _
              refine held_op 15 rfl (by kernel_rfl) (by rfl) ?_
              refine wp_skip (w' := wr.drew.alloc (.cells #[.string x, .string y] 23)) rfl (by go_simp) ⟨dB, ?_⟩
              refine wpAnyH_done (by kernel_rfl) ?_ _
              clear dB dA hHeld
              have bl : Below wr.heap.size wr (wr.drew.alloc (.cells #[.string x, .string y] 23)) := ((Below.refl _ _).drew).alloc (Nat.le_refl _) _
              have CG := Lib.hid (rget_labs acc x A3 c3 (wr.drew.alloc (.cells #[.string x, .string y] 23)) (by omega) (I3.out.below bl))
              have O4 := Lib.hid (own_keepL HI.out.own bl)
              have D4 : Hid (Below w.heap.size w (wr.drew.alloc (.cells #[.string x, .string y] 23))) := HI.out.bel.trans (bl.mono HI.out.bel.size)
              have AP := Lib.hid HI.out.ap
              obtain ⟨G, hG⟩ : ∃ G, getL acc x = G := ⟨_, rfl⟩
              rw [hG, hn] at CG
              rw [hn] at O4
              have HG := Lib.hid hG
              clear bl hG HI HC hq
              go_wp2_with fail
              refine CG.out.mono ?_
              rintro e w' ⟨rfl, hw'⟩
              subst hw'
              clear CG
              by_cases he : G.toList = []
              · have AP2 := Lib.hid (AP.out.snoc hx hy (by rw [HG.out]; exact he))
                have hed : (G.toList == []) = true := by simp [he]
                have D5 := Lib.hid (D4.out.alloc D4.out.size (.cells #[.string x, .string y] 23))
                have O5 := Lib.hid (O4.out.alloc (.cells #[.string x, .string y] 23))
                have LIT := Lib.hid (lit_lab (wr.drew.alloc (.cells #[.string x, .string y] 23)) (x, y))
                have hsz : (wr.drew.alloc (.cells #[.string x, .string y] 23)).heap.size = wr.heap.size + 1 := by simp
                rw [hsz] at LIT
                clear hsz D4 O4
                go_wp2_with (at_builtin; refine wpList_appL rfl _ _ rfl w.heap.size _ n acc rfl O5.out (some ⟨wr.heap.size + 1, 0, none⟩) 1 1 [(x, y)] rfl rfl (fun e => by cases e) LIT.out (by omega) D5.out.size ?_)
                intro v6 w6 o6 g6
                have I2 : Hid (KpI w (acc ++ [(x, y)]) v6 w6) := ⟨by rw [List.length_append, hn]; exact o6, D5.out.grown g6 D5.out.size (own_geL O5.out), AP2.out⟩
                clear o6 g6 O5 D5 LIT
                go_wp2
                go_roundw
                case rel => exact ⟨acc ++ [(x, y)], k + 1, n + 1, by simp [hn], by omega, by omega, by omega, by go_num, I2⟩
                case measure => simp [intOf]; omega
              · have hed : (G.toList == []) = false := by simp [he]
                have I2 : Hid (KpI w acc (.slice A3 n c3) (wr.drew.alloc (.cells #[.string x, .string y] 23))) := ⟨by rw [hn]; exact O4.out, D4.out, AP.out⟩
                go_wp2
                go_roundw
                case rel => exact ⟨acc, k + 1, n, hn, by omega, by omega, by omega, by go_num, I2⟩
                case measure => simp [intOf]; omega
            · have dA : Below w.heap.size w (wr.drew.alloc (.cells #[.string ⟨#[]⟩, .string ⟨#[]⟩] 23)) := HI.out.bel.drew.alloc HI.out.bel.size _
              refine wp_run (v := .pointer (some ⟨wr.heap.size, 0, none⟩)) (w' := wr.drew.alloc (.cells #[.string ⟨#[]⟩, .string ⟨#[]⟩] 23)) rfl (by go_simp) ⟨dA, ?_⟩
              simp only [List.setIfInBounds_toArray, List.set_cons_zero, List.set_cons_succ]
              refine held_op 12 rfl (by kernel_rfl) (by rfl) ?_
              refine wp_call (f := 50) (args := #[.int .i64 (i2 : Int)]) rfl (by go_simp) ?_
              refine (kvalue_any i2 hi2 _).mono ?_
              rintro e w' ⟨⟨y, hy, rfl⟩, hw'⟩
              subst hw'
              refine ⟨_, rfl, by assumption, ?_⟩
              simp only [List.setIfInBounds_toArray, List.set_cons_zero, List.set_cons_succ]
              refine held_take 13 31 (v := (.agg #[.string x, .string y])) rfl rfl (by kernel_rfl) (by kernel_rfl) (by kernel_rfl) (by rfl) (fun _ _ _ h => h) (by assumption) ?_ ?_
              · intro W hW
                go_simp
              simp only [List.setIfInBounds_toArray, List.set_cons_zero, List.set_cons_succ]
              have dB : Below w.heap.size w (wr.drew.alloc (.cells #[.string x, .string y] 23)) := HI.out.bel.drew.alloc HI.out.bel.size _
              refine held_op 15 rfl (by kernel_rfl) (by rfl) ?_
              refine wp_skip (w' := wr.drew.alloc (.cells #[.string x, .string y] 23)) rfl (by go_simp) ⟨dB, ?_⟩
              refine wpAnyH_done (by kernel_rfl) ?_ _
              clear dB dA hHeld
              have bl : Below wr.heap.size wr (wr.drew.alloc (.cells #[.string x, .string y] 23)) := ((Below.refl _ _).drew).alloc (Nat.le_refl _) _
              have CG := Lib.hid (rget_labs acc x A3 c3 (wr.drew.alloc (.cells #[.string x, .string y] 23)) (by omega) (I3.out.below bl))
              have O4 := Lib.hid (own_keepL HI.out.own bl)
              have D4 : Hid (Below w.heap.size w (wr.drew.alloc (.cells #[.string x, .string y] 23))) := HI.out.bel.trans (bl.mono HI.out.bel.size)
              have AP := Lib.hid HI.out.ap
              obtain ⟨G, hG⟩ : ∃ G, getL acc x = G := ⟨_, rfl⟩
              rw [hG, hn] at CG
              rw [hn] at O4
              have HG := Lib.hid hG
              clear bl hG HI HC hq
              go_wp2_with fail
              refine CG.out.mono ?_
              rintro e w' ⟨rfl, hw'⟩
              subst hw'
              clear CG
              by_cases he : G.toList = []
              · have AP2 := Lib.hid (AP.out.snoc hx hy (by rw [HG.out]; exact he))
                have hed : (G.toList == []) = true := by simp [he]
                have D5 := Lib.hid (D4.out.alloc D4.out.size (.cells #[.string x, .string y] 23))
                have O5 := Lib.hid (O4.out.alloc (.cells #[.string x, .string y] 23))
                have LIT := Lib.hid (lit_lab (wr.drew.alloc (.cells #[.string x, .string y] 23)) (x, y))
                have hsz : (wr.drew.alloc (.cells #[.string x, .string y] 23)).heap.size = wr.heap.size + 1 := by simp
                rw [hsz] at LIT
                clear hsz D4 O4
                go_wp2_with (at_builtin; refine wpList_appL rfl _ _ rfl w.heap.size _ n acc rfl O5.out (some ⟨wr.heap.size + 1, 0, none⟩) 1 1 [(x, y)] rfl rfl (fun e => by cases e) LIT.out (by omega) D5.out.size ?_)
                intro v6 w6 o6 g6
                have I2 : Hid (KpI w (acc ++ [(x, y)]) v6 w6) := ⟨by rw [List.length_append, hn]; exact o6, D5.out.grown g6 D5.out.size (own_geL O5.out), AP2.out⟩
                clear o6 g6 O5 D5 LIT
                go_wp2
                go_roundw
                case rel => exact ⟨acc ++ [(x, y)], k + 1, n + 1, by simp [hn], by omega, by omega, by omega, by go_num, I2⟩
                case measure => simp [intOf]; omega
              · have hed : (G.toList == []) = false := by simp [he]
                have I2 : Hid (KpI w acc (.slice A3 n c3) (wr.drew.alloc (.cells #[.string x, .string y] 23))) := ⟨by rw [hn]; exact O4.out, D4.out, AP.out⟩
                go_wp2
                go_roundw
                case rel => exact ⟨acc, k + 1, n, hn, by omega, by omega, by omega, by go_num, I2⟩
                case measure => simp [intOf]; omega
          · have dA : Below w.heap.size w (wr.drew.alloc (.cells #[.string ⟨#[]⟩, .string ⟨#[]⟩] 23)) := HI.out.bel.drew.alloc HI.out.bel.size _
            refine wp_run (v := .pointer (some ⟨wr.heap.size, 0, none⟩)) (w' := wr.drew.alloc (.cells #[.string ⟨#[]⟩, .string ⟨#[]⟩] 23)) rfl (by go_simp) ⟨dA, ?_⟩
            simp only [List.setIfInBounds_toArray, List.set_cons_zero, List.set_cons_succ]
            refine held_op 11 rfl (by kernel_rfl) (by rfl) ?_
            refine wp_call (f := 49) (args := #[.int .i64 q, .int .i64 0, .int .i64 6]) rfl (by go_simp) ?_
            refine (within6 q _).mono ?_
            rintro e w' ⟨⟨i2, hi2, rfl⟩, hw'⟩
            subst hw'
            refine ⟨_, rfl, by assumption, ?_⟩
            simp only [List.setIfInBounds_toArray, List.set_cons_zero, List.set_cons_succ]
            refine held_op 12 rfl (by kernel_rfl) (by rfl) ?_
            refine wp_call (f := 50) (args := #[.int .i64 (i2 : Int)]) rfl (by go_simp) ?_
            refine (kvalue_any i2 hi2 _).mono ?_
            rintro e w' ⟨⟨y, hy, rfl⟩, hw'⟩
            subst hw'
            refine ⟨_, rfl, by assumption, ?_⟩
            simp only [List.setIfInBounds_toArray, List.set_cons_zero, List.set_cons_succ]
            refine held_take 13 31 (v := (.agg #[.string x, .string y])) rfl rfl (by kernel_rfl) (by kernel_rfl) (by kernel_rfl) (by rfl) (fun _ _ _ h => h) (by assumption) ?_ ?_
            · intro W hW
              go_simp
            simp only [List.setIfInBounds_toArray, List.set_cons_zero, List.set_cons_succ]
            have dB : Below w.heap.size w (wr.drew.alloc (.cells #[.string x, .string y] 23)) := HI.out.bel.drew.alloc HI.out.bel.size _
            refine held_op 15 rfl (by kernel_rfl) (by rfl) ?_
            refine wp_skip (w' := wr.drew.alloc (.cells #[.string x, .string y] 23)) rfl (by go_simp) ⟨dB, ?_⟩
            refine wpAnyH_done (by kernel_rfl) ?_ _
            clear dB dA hHeld
            have bl : Below wr.heap.size wr (wr.drew.alloc (.cells #[.string x, .string y] 23)) := ((Below.refl _ _).drew).alloc (Nat.le_refl _) _
            have CG := Lib.hid (rget_labs acc x A3 c3 (wr.drew.alloc (.cells #[.string x, .string y] 23)) (by omega) (I3.out.below bl))
            have O4 := Lib.hid (own_keepL HI.out.own bl)
            have D4 : Hid (Below w.heap.size w (wr.drew.alloc (.cells #[.string x, .string y] 23))) := HI.out.bel.trans (bl.mono HI.out.bel.size)
            have AP := Lib.hid HI.out.ap
            obtain ⟨G, hG⟩ : ∃ G, getL acc x = G := ⟨_, rfl⟩
            rw [hG, hn] at CG
            rw [hn] at O4
            have HG := Lib.hid hG
            clear bl hG HI HC hq
            go_wp2_with fail
            refine CG.out.mono ?_
            rintro e w' ⟨rfl, hw'⟩
            subst hw'
            clear CG
            by_cases he : G.toList = []
            · have AP2 := Lib.hid (AP.out.snoc hx hy (by rw [HG.out]; exact he))
              have hed : (G.toList == []) = true := by simp [he]
              have D5 := Lib.hid (D4.out.alloc D4.out.size (.cells #[.string x, .string y] 23))
              have O5 := Lib.hid (O4.out.alloc (.cells #[.string x, .string y] 23))
              have LIT := Lib.hid (lit_lab (wr.drew.alloc (.cells #[.string x, .string y] 23)) (x, y))
              have hsz : (wr.drew.alloc (.cells #[.string x, .string y] 23)).heap.size = wr.heap.size + 1 := by simp
              rw [hsz] at LIT
              clear hsz D4 O4
              go_wp2_with (at_builtin; refine wpList_appL rfl _ _ rfl w.heap.size _ n acc rfl O5.out (some ⟨wr.heap.size + 1, 0, none⟩) 1 1 [(x, y)] rfl rfl (fun e => by cases e) LIT.out (by omega) D5.out.size ?_)
              intro v6 w6 o6 g6
              have I2 : Hid (KpI w (acc ++ [(x, y)]) v6 w6) := ⟨by rw [List.length_append, hn]; exact o6, D5.out.grown g6 D5.out.size (own_geL O5.out), AP2.out⟩
              clear o6 g6 O5 D5 LIT
              go_wp2
              go_roundw
              case rel => exact ⟨acc ++ [(x, y)], k + 1, n + 1, by simp [hn], by omega, by omega, by omega, by go_num, I2⟩
              case measure => simp [intOf]; omega
            · have hed : (G.toList == []) = false := by simp [he]
              have I2 : Hid (KpI w acc (.slice A3 n c3) (wr.drew.alloc (.cells #[.string x, .string y] 23))) := ⟨by rw [hn]; exact O4.out, D4.out, AP.out⟩
              go_wp2
              go_roundw
              case rel => exact ⟨acc, k + 1, n, hn, by omega, by omega, by omega, by go_num, I2⟩
              case measure => simp [intOf]; omega
        · have dA : Below w.heap.size w (wr.drew.alloc (.cells #[.string ⟨#[]⟩, .string ⟨#[]⟩] 23)) := HI.out.bel.drew.alloc HI.out.bel.size _
          refine wp_run (v := .pointer (some ⟨wr.heap.size, 0, none⟩)) (w' := wr.drew.alloc (.cells #[.string ⟨#[]⟩, .string ⟨#[]⟩] 23)) rfl (by go_simp) ⟨dA, ?_⟩
          simp only [List.setIfInBounds_toArray, List.set_cons_zero, List.set_cons_succ]
          refine held_op 5 rfl (by kernel_rfl) (by rfl) ?_
          refine wp_call (f := 48) (args := #[.int .i64 (i1 : Int)]) rfl (by go_simp) ?_
          refine (kname_any i1 hi1 _).mono ?_
          rintro e w' ⟨⟨x, hx, rfl⟩, hw'⟩
          subst hw'
          refine ⟨_, rfl, by assumption, ?_⟩
          simp only [List.setIfInBounds_toArray, List.set_cons_zero, List.set_cons_succ]
          refine held_op 11 rfl (by kernel_rfl) (by rfl) ?_
          refine wp_call (f := 49) (args := #[.int .i64 q, .int .i64 0, .int .i64 6]) rfl (by go_simp) ?_
          refine (within6 q _).mono ?_
          rintro e w' ⟨⟨i2, hi2, rfl⟩, hw'⟩
          subst hw'
          refine ⟨_, rfl, by assumption, ?_⟩
          simp only [List.setIfInBounds_toArray, List.set_cons_zero, List.set_cons_succ]
          refine held_op 12 rfl (by kernel_rfl) (by rfl) ?_
          refine wp_call (f := 50) (args := #[.int .i64 (i2 : Int)]) rfl (by go_simp) ?_
          refine (kvalue_any i2 hi2 _).mono ?_
          rintro e w' ⟨⟨y, hy, rfl⟩, hw'⟩
          subst hw'
          refine ⟨_, rfl, by assumption, ?_⟩
          simp only [List.setIfInBounds_toArray, List.set_cons_zero, List.set_cons_succ]
          refine held_take 13 31 (v := (.agg #[.string x, .string y])) rfl rfl (by kernel_rfl) (by kernel_rfl) (by kernel_rfl) (by rfl) (fun _ _ _ h => h) (by assumption) ?_ ?_
          · intro W hW
            go_simp
          simp only [List.setIfInBounds_toArray, List.set_cons_zero, List.set_cons_succ]
          have dB : Below w.heap.size w (wr.drew.alloc (.cells #[.string x, .string y] 23)) := HI.out.bel.drew.alloc HI.out.bel.size _
          refine held_op 15 rfl (by kernel_rfl) (by rfl) ?_
          refine wp_skip (w' := wr.drew.alloc (.cells #[.string x, .string y] 23)) rfl (by go_simp) ⟨dB, ?_⟩
          refine wpAnyH_done (by kernel_rfl) ?_ _
          clear dB dA hHeld
          have bl : Below wr.heap.size wr (wr.drew.alloc (.cells #[.string x, .string y] 23)) := ((Below.refl _ _).drew).alloc (Nat.le_refl _) _
          have CG := Lib.hid (rget_labs acc x A3 c3 (wr.drew.alloc (.cells #[.string x, .string y] 23)) (by omega) (I3.out.below bl))
          have O4 := Lib.hid (own_keepL HI.out.own bl)
          have D4 : Hid (Below w.heap.size w (wr.drew.alloc (.cells #[.string x, .string y] 23))) := HI.out.bel.trans (bl.mono HI.out.bel.size)
          have AP := Lib.hid HI.out.ap
          obtain ⟨G, hG⟩ : ∃ G, getL acc x = G := ⟨_, rfl⟩
          rw [hG, hn] at CG
          rw [hn] at O4
          have HG := Lib.hid hG
          clear bl hG HI HC hq
          go_wp2_with fail
          refine CG.out.mono ?_
          rintro e w' ⟨rfl, hw'⟩
          subst hw'
          clear CG
          by_cases he : G.toList = []
          · have AP2 := Lib.hid (AP.out.snoc hx hy (by rw [HG.out]; exact he))
            have hed : (G.toList == []) = true := by simp [he]
            have D5 := Lib.hid (D4.out.alloc D4.out.size (.cells #[.string x, .string y] 23))
            have O5 := Lib.hid (O4.out.alloc (.cells #[.string x, .string y] 23))
            have LIT := Lib.hid (lit_lab (wr.drew.alloc (.cells #[.string x, .string y] 23)) (x, y))
            have hsz : (wr.drew.alloc (.cells #[.string x, .string y] 23)).heap.size = wr.heap.size + 1 := by simp
            rw [hsz] at LIT
            clear hsz D4 O4
            go_wp2_with (at_builtin; refine wpList_appL rfl _ _ rfl w.heap.size _ n acc rfl O5.out (some ⟨wr.heap.size + 1, 0, none⟩) 1 1 [(x, y)] rfl rfl (fun e => by cases e) LIT.out (by omega) D5.out.size ?_)
            intro v6 w6 o6 g6
            have I2 : Hid (KpI w (acc ++ [(x, y)]) v6 w6) := ⟨by rw [List.length_append, hn]; exact o6, D5.out.grown g6 D5.out.size (own_geL O5.out), AP2.out⟩
            clear o6 g6 O5 D5 LIT
            go_wp2
            go_roundw
            case rel => exact ⟨acc ++ [(x, y)], k + 1, n + 1, by simp [hn], by omega, by omega, by omega, by go_num, I2⟩
            case measure => simp [intOf]; omega
          · have hed : (G.toList == []) = false := by simp [he]
            have I2 : Hid (KpI w acc (.slice A3 n c3) (wr.drew.alloc (.cells #[.string x, .string y] 23))) := ⟨by rw [hn]; exact O4.out, D4.out, AP.out⟩
            go_wp2
            go_roundw
            case rel => exact ⟨acc, k + 1, n, hn, by omega, by omega, by omega, by go_num, I2⟩
            case measure => simp [intOf]; omega
      · have dA : Below w.heap.size w (wr.drew.alloc (.cells #[.string ⟨#[]⟩, .string ⟨#[]⟩] 23)) := HI.out.bel.drew.alloc HI.out.bel.size _
        refine wp_run (v := .pointer (some ⟨wr.heap.size, 0, none⟩)) (w' := wr.drew.alloc (.cells #[.string ⟨#[]⟩, .string ⟨#[]⟩] 23)) rfl (by go_simp) ⟨dA, ?_⟩
        simp only [List.setIfInBounds_toArray, List.set_cons_zero, List.set_cons_succ]
        refine held_op 4 rfl (by kernel_rfl) (by rfl) ?_
        refine wp_call (f := 49) (args := #[.int .i64 z, .int .i64 0, .int .i64 4]) rfl (by go_simp) ?_
        refine (within4 z _).mono ?_
        rintro e w' ⟨⟨i1, hi1, rfl⟩, hw'⟩
        subst hw'
        refine ⟨_, rfl, by assumption, ?_⟩
        simp only [List.setIfInBounds_toArray, List.set_cons_zero, List.set_cons_succ]
        refine held_op 5 rfl (by kernel_rfl) (by rfl) ?_
        refine wp_call (f := 48) (args := #[.int .i64 (i1 : Int)]) rfl (by go_simp) ?_
        refine (kname_any i1 hi1 _).mono ?_
        rintro e w' ⟨⟨x, hx, rfl⟩, hw'⟩
        subst hw'
        refine ⟨_, rfl, by assumption, ?_⟩
        simp only [List.setIfInBounds_toArray, List.set_cons_zero, List.set_cons_succ]
        refine held_op 11 rfl (by kernel_rfl) (by rfl) ?_
        refine wp_call (f := 49) (args := #[.int .i64 q, .int .i64 0, .int .i64 6]) rfl (by go_simp) ?_
        refine (within6 q _).mono ?_
        rintro e w' ⟨⟨i2, hi2, rfl⟩, hw'⟩
        subst hw'
        refine ⟨_, rfl, by assumption, ?_⟩
        simp only [List.setIfInBounds_toArray, List.set_cons_zero, List.set_cons_succ]
        refine held_op 12 rfl (by kernel_rfl) (by rfl) ?_
        refine wp_call (f := 50) (args := #[.int .i64 (i2 : Int)]) rfl (by go_simp) ?_
        refine (kvalue_any i2 hi2 _).mono ?_
        rintro e w' ⟨⟨y, hy, rfl⟩, hw'⟩
        subst hw'
        refine ⟨_, rfl, by assumption, ?_⟩
        simp only [List.setIfInBounds_toArray, List.set_cons_zero, List.set_cons_succ]
        refine held_take 13 31 (v := (.agg #[.string x, .string y])) rfl rfl (by kernel_rfl) (by kernel_rfl) (by kernel_rfl) (by rfl) (fun _ _ _ h => h) (by assumption) ?_ ?_
        · intro W hW
          go_simp
        simp only [List.setIfInBounds_toArray, List.set_cons_zero, List.set_cons_succ]
        have dB : Below w.heap.size w (wr.drew.alloc (.cells #[.string x, .string y] 23)) := HI.out.bel.drew.alloc HI.out.bel.size _
        refine held_op 15 rfl (by kernel_rfl) (by rfl) ?_
        refine wp_skip (w' := wr.drew.alloc (.cells #[.string x, .string y] 23)) rfl (by go_simp) ⟨dB, ?_⟩
        refine wpAnyH_done (by kernel_rfl) ?_ _
        clear dB dA hHeld
        have bl : Below wr.heap.size wr (wr.drew.alloc (.cells #[.string x, .string y] 23)) := ((Below.refl _ _).drew).alloc (Nat.le_refl _) _
        have CG := Lib.hid (rget_labs acc x A3 c3 (wr.drew.alloc (.cells #[.string x, .string y] 23)) (by omega) (I3.out.below bl))
        have O4 := Lib.hid (own_keepL HI.out.own bl)
        have D4 : Hid (Below w.heap.size w (wr.drew.alloc (.cells #[.string x, .string y] 23))) := HI.out.bel.trans (bl.mono HI.out.bel.size)
        have AP := Lib.hid HI.out.ap
        obtain ⟨G, hG⟩ : ∃ G, getL acc x = G := ⟨_, rfl⟩
        rw [hG, hn] at CG
        rw [hn] at O4
        have HG := Lib.hid hG
        clear bl hG HI HC hq
        go_wp2_with fail
        refine CG.out.mono ?_
        rintro e w' ⟨rfl, hw'⟩
        subst hw'
        clear CG
        by_cases he : G.toList = []
        · have AP2 := Lib.hid (AP.out.snoc hx hy (by rw [HG.out]; exact he))
          have hed : (G.toList == []) = true := by simp [he]
          have D5 := Lib.hid (D4.out.alloc D4.out.size (.cells #[.string x, .string y] 23))
          have O5 := Lib.hid (O4.out.alloc (.cells #[.string x, .string y] 23))
          have LIT := Lib.hid (lit_lab (wr.drew.alloc (.cells #[.string x, .string y] 23)) (x, y))
          have hsz : (wr.drew.alloc (.cells #[.string x, .string y] 23)).heap.size = wr.heap.size + 1 := by simp
          rw [hsz] at LIT
          clear hsz D4 O4
          go_wp2_with (at_builtin; refine wpList_appL rfl _ _ rfl w.heap.size _ n acc rfl O5.out (some ⟨wr.heap.size + 1, 0, none⟩) 1 1 [(x, y)] rfl rfl (fun e => by cases e) LIT.out (by omega) D5.out.size ?_)
          intro v6 w6 o6 g6
          have I2 : Hid (KpI w (acc ++ [(x, y)]) v6 w6) := ⟨by rw [List.length_append, hn]; exact o6, D5.out.grown g6 D5.out.size (own_geL O5.out), AP2.out⟩
          clear o6 g6 O5 D5 LIT
          go_wp2
          go_roundw
          case rel => exact ⟨acc ++ [(x, y)], k + 1, n + 1, by simp [hn], by omega, by omega, by omega, by go_num, I2⟩
          case measure => simp [intOf]; omega
        · have hed : (G.toList == []) = false := by simp [he]
          have I2 : Hid (KpI w acc (.slice A3 n c3) (wr.drew.alloc (.cells #[.string x, .string y] 23))) := ⟨by rw [hn]; exact O4.out, D4.out, AP.out⟩
          go_wp2
          go_roundw
          case rel => exact ⟨acc, k + 1, n, hn, by omega, by omega, by omega, by go_num, I2⟩
          case measure => simp [intOf]; omega
    · obtain ⟨A3, c3, rfl, _, hA3, i3, _⟩ := own_formL HI.out.own
      have I3 := Lib.hid i3
      have O3 := Lib.hid HI.out.own
      have D3 := Lib.hid HI.out.bel
      have AP := Lib.hid HI.out.ap
      rw [hn] at O3
      clear i3 hA3 HI HA
      have FIN : Hid (∀ (acc : List Lab) (n c : Nat) (A : Option Addr) (W : World), acc.length = n → 1 ≤ n → n ≤ 5 → Apart acc → Below w.heap.size w W → IsLabs W A acc →
          Calls Tryd.prog 51 #[.slice A n c] W fun e w' => ∃ l v, isSet l = true ∧ e = .returned (.tuple #[v, .bool true]) ∧ w'.ownsRow w.heap.size 23 2 v l.length (lc l) ∧ Below w.heap.size w w') := by
        intro acc n c A W h1 h2 h3 h4 h5 h6
        have C := makeset_any acc A c W (by omega) h4.small h6
        rw [h1] at C
        refine C.mono ?_
        rintro e w' ⟨⟨o, r, v, m, rfl, q⟩, b⟩
        obtain ⟨l, rfl, hs⟩ := h4.made (by omega) (by omega) m
        obtain ⟨rfl, o⟩ := q
        exact ⟨l, v, hs, rfl, own_baseL o h5.size, h5.trans (b.mono h5.size)⟩
      by_cases hkN2 : k < N
      · have g1z : (k : Int) < (N : Int) := by omega
        have g2z : ¬ (k : Int) < 5 := by omega
        by_cases hn0 : n = 0
        · have e0 : acc = [] := List.eq_nil_of_length_eq_zero (by omega)
          subst e0
          subst hn0
          have D5 := Lib.hid (D3.out.alloc D3.out.size (.cells #[.string ⟨#[115, 101, 118]⟩, .string ⟨#[97]⟩] 23))
          have O5 := Lib.hid (O3.out.alloc (.cells #[.string ⟨#[115, 101, 118]⟩, .string ⟨#[97]⟩] 23))
          have LIT := Lib.hid (lit_lab wr (⟨#[115, 101, 118]⟩, ⟨#[97]⟩))
          have AP2 : Hid (Apart [(⟨#[115, 101, 118]⟩, ⟨#[97]⟩)]) := AP.out.snoc (by decide +kernel) (by decide +kernel) (by decide +kernel)
          clear O3 D3 AP I3
        
          go_wp2_with (at_builtin; refine wpList_appL rfl _ _ rfl w.heap.size _ 0 [] rfl O5.out (some ⟨wr.heap.size, 0, none⟩) 1 1 [(⟨#[115, 101, 118]⟩, ⟨#[97]⟩)] rfl rfl (fun e => by cases e) LIT.out (by omega) D5.out.size ?_)
          intro v6 w6 o6 g6
          have d6 := D5.out.grown g6 D5.out.size (own_geL O5.out)
          obtain ⟨A6, c6, rfl, _, _, i6, _⟩ := own_formL o6
          have CF := Lib.hid (FIN.out _ 1 c6 A6 w6 rfl (by omega) (by omega) AP2.out d6 i6)
          clear o6 g6 O5 D5 LIT d6 i6 FIN
          go_wp2_with fail
          refine CF.out.mono ?_
          rintro e w7 ⟨l, v, hs, rfl, o7, b7⟩
          have HS := Lib.hid hs
          have O7 := Lib.hid o7
          have B7 := Lib.hid b7
          clear CF hs o7 b7
          go_wp2
          go_ret
          exact ⟨⟨l, v, HS.out, rfl, O7.out⟩, B7.out⟩
        · have hn0z : ((n : Int) == 0) = false := by simp; omega
          have CF := Lib.hid (FIN.out acc n c3 A3 wr hn (by omega) (by omega) AP.out D3.out I3.out)
          clear FIN O3 D3 AP I3
          go_wp2_with fail
          refine CF.out.mono ?_
          rintro e w7 ⟨l, v, hs, rfl, o7, b7⟩
          have HS := Lib.hid hs
          have O7 := Lib.hid o7
          have B7 := Lib.hid b7
          clear CF hs o7 b7
          go_wp2
          go_ret
          exact ⟨⟨l, v, HS.out, rfl, O7.out⟩, B7.out⟩
      · have g1z : ¬ (k : Int) < (N : Int) := by omega
        by_cases hn0 : n = 0
        · have e0 : acc = [] := List.eq_nil_of_length_eq_zero (by omega)
          subst e0
          subst hn0
          have D5 := Lib.hid (D3.out.alloc D3.out.size (.cells #[.string ⟨#[115, 101, 118]⟩, .string ⟨#[97]⟩] 23))
          have O5 := Lib.hid (O3.out.alloc (.cells #[.string ⟨#[115, 101, 118]⟩, .string ⟨#[97]⟩] 23))
          have LIT := Lib.hid (lit_lab wr (⟨#[115, 101, 118]⟩, ⟨#[97]⟩))
          have AP2 : Hid (Apart [(⟨#[115, 101, 118]⟩, ⟨#[97]⟩)]) := AP.out.snoc (by decide +kernel) (by decide +kernel) (by decide +kernel)
          clear O3 D3 AP I3
        
          go_wp2_with (at_builtin; refine wpList_appL rfl _ _ rfl w.heap.size _ 0 [] rfl O5.out (some ⟨wr.heap.size, 0, none⟩) 1 1 [(⟨#[115, 101, 118]⟩, ⟨#[97]⟩)] rfl rfl (fun e => by cases e) LIT.out (by omega) D5.out.size ?_)
          intro v6 w6 o6 g6
          have d6 := D5.out.grown g6 D5.out.size (own_geL O5.out)
          obtain ⟨A6, c6, rfl, _, _, i6, _⟩ := own_formL o6
          have CF := Lib.hid (FIN.out _ 1 c6 A6 w6 rfl (by omega) (by omega) AP2.out d6 i6)
          clear o6 g6 O5 D5 LIT d6 i6 FIN
          go_wp2_with fail
          refine CF.out.mono ?_
          rintro e w7 ⟨l, v, hs, rfl, o7, b7⟩
          have HS := Lib.hid hs
          have O7 := Lib.hid o7
          have B7 := Lib.hid b7
          clear CF hs o7 b7
          go_wp2
          go_ret
          exact ⟨⟨l, v, HS.out, rfl, O7.out⟩, B7.out⟩
        · have hn0z : ((n : Int) == 0) = false := by simp; omega
          have CF := Lib.hid (FIN.out acc n c3 A3 wr hn (by omega) (by omega) AP.out D3.out I3.out)
          clear FIN O3 D3 AP I3
          go_wp2_with fail
          refine CF.out.mono ?_
          rintro e w7 ⟨l, v, hs, rfl, o7, b7⟩
          have HS := Lib.hid hs
          have O7 := Lib.hid o7
          have B7 := Lib.hid b7
          clear CF hs o7 b7
          go_wp2
          go_ret
          exact ⟨⟨l, v, HS.out, rfl, O7.out⟩, B7.out⟩

end Go.Proofs.YtjmojjjgifkkiaaDoor
namespace Go.Proofs.YtjmojjjgifkkiaaDoor
open Go.RowKit La Go.Sort

/-- Which of two strings stands first, as a number. -/
def cmpS (a b : ByteArray) : Int := Lib.compareBytes a.data.toList b.data.toList
theorem cmpS_lt (a b : ByteArray) : decide (cmpS a b < 0) = lt a b := by
  unfold cmpS lt
  rw [cmp_neg, ByteArray.toList_eq, ByteArray.toList_eq]

set_option maxRecDepth 100000 in
theorem cmpstr_any (a b : ByteArray) (w : World) : Calls Tryd.prog 92 #[.string a, .string b] w fun e w' => e = .returned (.int .i64 (cmpS a b)) ∧ w' = w := by
  go_enter Tryd.func92, Tryd.ntmps92
  go_wp2
  rw [run_callFunc_extern Tryd.func108 (by kernel_rfl) (by kernel_rfl) (by kernel_rfl) (e := Extern.BytealgCompare.compare) (by kernel_rfl), Lib.run_compareString]
  simp only [Result.andThen]
  rw [Oper.upon_value]
  go_wp2
  go_ret
  exact ⟨rfl, rfl⟩
set_option maxRecDepth 100000 in
theorem compare_any (a b : ByteArray) (w : World) : Calls Tryd.prog 75 #[.string a, .string b] w fun e w' => e = .returned (.int .i64 (cmpS a b)) ∧ w' = w := by
  have C := Lib.hid (cmpstr_any a b w)
  go_enter Tryd.func75, Tryd.ntmps75
  go_wp2_with fail
  refine C.out.mono ?_
  rintro e w' ⟨rfl, rfl⟩
  go_wp2
  go_ret
  exact ⟨rfl, rfl⟩
/-- A table of three pieces, behind a name. -/
def lits (a b c : List UInt8) : ByteArray := ⟨(List.append (List.append a b) c).toArray⟩
theorem fold_lits (a b c : List UInt8) : (⟨(List.append (List.append a b) c).toArray⟩ : ByteArray) = lits a b c := rfl
end Go.Proofs.YtjmojjjgifkkiaaDoor
namespace Go.Proofs.YtjmojjjgifkkiaaDoor
open Go.RowKit

def getRes : Option (Nat × Nat) → Value
  | none => .tuple #[.int .u64 0, .int .i64 0, .bool false]
  | some (n, k) => .tuple #[.int .u64 (n : Int), .int .i64 (k : Int), .bool true]

def GetInv (l : List Nat) (n i : Value) : Prop := ∃ k m acc : Nat, k ≤ 10 ∧ k ≤ l.length ∧ i = .int .i64 (k : Int) ∧ n = .int .u64 (m : Int) ∧ Vm.GetRel l k m acc

theorem shortest_any (c i : Int) (w : World) : Calls Tryd.prog 78 #[.int .u8 c, .int .i64 i] w fun e w' => e = .returned (.bool (c != 0 || i == 0)) ∧ w = w' := by
  by_cases h : c = 0
  · subst h
    go_enter Tryd.func78, Tryd.ntmps78
    go_wp2
    go_ret
    exact ⟨by simp, rfl⟩
  · have h1 : (c != 0) = true := by simpa using h
    go_enter Tryd.func78, Tryd.ntmps78
    go_wp2
    go_ret
    exact ⟨by simp [h], rfl⟩

theorem overflows_any (c i : Int) (w : World) : Calls Tryd.prog 79 #[.int .u8 c, .int .i64 i] w fun e w' => e = .returned (.bool (i == 9 && decide (1 < c))) ∧ w = w' := by
  by_cases h : i = 9
  · subst h
    go_enter Tryd.func79, Tryd.ntmps79
    go_wp2
    go_ret
    exact ⟨by simp, rfl⟩
  · have h1 : (i == 9) = false := by simpa using h
    go_enter Tryd.func79, Tryd.ntmps79
    go_wp2
    go_ret
    exact ⟨by simp [h], rfl⟩

theorem or_val {m x k : Nat} (hm : m < 128 ^ k) (hf : m + x * 128 ^ k < 18446744073709551616) : bits .or .u64 (m : Int) (IntKind.u64.wrap ((x : Int) * 2 ^ (7 * k))) = ((m + x * 128 ^ k : Nat) : Int) := by
  have e : (x : Int) * 2 ^ (7 * k) = ((x * 128 ^ k : Nat) : Int) := by rw [Vm.pow128]; simp
  have e2 : IntKind.u64.wrap ((x * 128 ^ k : Nat) : Int) = ((x * 128 ^ k : Nat) : Int) := by rw [IntKind.wrap_u64]; omega
  rw [e, e2, u64_or_nat _ _ (by omega) (by omega), Vm.or_add hm]
theorem or_some {l : List Nat} {k m acc c : Nat} (h : Vm.GetRel l k m acc) (hk : k < 10) (h1 : 128 ≤ c) (h2 : c < 256) :
    ∃ m' : Nat, Vm.Fits m' ∧ (k ≤ 8 → m' = m + (c - 128) * 128 ^ k) ∧ bits .or .u64 (m : Int) (IntKind.u64.wrap ((c : Int) % 128 * 2 ^ (7 * k))) = (m' : Int) := by
  have ec : (c : Int) % 128 = ((c - 128 : Nat) : Int) := by omega
  rw [ec]
  obtain ⟨e, f⟩ := h.2.1 (by omega)
  rw [← e] at f
  by_cases h8 : k ≤ 8
  · have g := Vm.small_fits (x := c - 128) h8 (by omega) f
    exact ⟨m + (c - 128) * 128 ^ k, by unfold Vm.Fits; omega, fun _ => rfl, or_val f (by omega)⟩
  · have lo := bits_lo_u64 .or (m : Int) (IntKind.u64.wrap (((c - 128 : Nat) : Int) * 2 ^ (7 * k)))
    have hi := bits_hi_u64 .or (m : Int) (IntKind.u64.wrap (((c - 128 : Nat) : Int) * 2 ^ (7 * k)))
    generalize bits .or .u64 (m : Int) (IntKind.u64.wrap (((c - 128 : Nat) : Int) * 2 ^ (7 * k))) = z at lo hi
    exact ⟨z.toNat, by unfold Vm.Fits; omega, fun h => absurd h h8, by omega⟩
theorem get_step {l : List Nat} {k m acc c : Nat} (h : Vm.GetRel l k m acc) (hk : k < 10) (hl : k < l.length) (hc : l.getD k 0 = c) (h1 : 128 ≤ c) (h2 : c < 256) :
    GetInv l (.int .u64 (bits .or .u64 (m : Int) (IntKind.u64.wrap ((c : Int) % 128 * 2 ^ (7 * k))))) (.int .i64 ((k : Int) + 1)) := by
  obtain ⟨m', hf, he, hv⟩ := or_some h hk h1 h2
  rw [hv]
  subst hc
  exact ⟨k + 1, m', _, by omega, by omega, rfl, rfl, Vm.getRel_step h hk hl h1 h2 m' hf he⟩
theorem get_good {l : List Nat} {k m acc c : Nat} (h : Vm.GetRel l k m acc) (hk : k < 10) (hl : k < l.length) (hc : l.getD k 0 = c) (h1 : c < 128) (hb : ¬ ((c = 0 ∧ k ≠ 0) ∨ (k = 9 ∧ 1 < c))) :
    Ending.returned (.tuple #[.int .u64 (bits .or .u64 (m : Int) (IntKind.u64.wrap ((c : Int) % 128 * 2 ^ (7 * k)))), .int .i64 ((k : Int) + 1), .bool true]) = .returned (getRes (Vm.dec l)) := by
  have ec : (c : Int) % 128 = (c : Int) := by omega
  obtain ⟨e, f⟩ := h.2.1 (by omega)
  rw [← e] at f
  have g : m + c * 128 ^ k < 18446744073709551616 := by
    by_cases h8 : k ≤ 8
    · have := Vm.small_fits (x := c) h8 h1 f; omega
    · obtain rfl : k = 9 := by omega
      exact Vm.nine_fits (by omega) f
  rw [ec, or_val f g]
  subst hc
  rw [Vm.getRel_good h hk hl h1 hb]
  simp [getRes]

set_option maxRecDepth 100000 in
set_option maxHeartbeats 400000 in
theorem get_any (l : List Nat) (a : Option Addr) (cap : Nat) (w : World) (hl : l.length ≤ maxLen) (hb : IsBytes w a l) :
    Calls Tryd.prog 52 #[.slice a l.length cap] w fun e w' => e = .returned (getRes (Vm.dec l)) ∧ w = w' := by
  unfold maxLen at hl
  obtain ⟨hlt, hbb⟩ := hb
  have HB := Lib.hid hbb
  have HL := Lib.hid hlt
  clear hbb hlt
  go_enter Tryd.func52, Tryd.ntmps52
  go_wp2
  go_loop [5, 6] (fun n i => GetInv l n i) (fun _ i => 10 - (intOf i).toNat)
  case atStart => exact ⟨0, 0, 0, by omega, by omega, rfl, rfl, Vm.getRel_start l⟩
  case round =>
    obtain ⟨k, m, acc, hk, hkl, rfl, rfl, hrel⟩ := hrel
    have HR := Lib.hid hrel
    clear hrel
    by_cases h : k < l.length ∧ k < 10
    · obtain ⟨h1, h2⟩ := h
      obtain ⟨b, off, rfl, hc⟩ := HB.out (by omega)
      have hcell := hc k h1
      clear hc
      have hc2 := HL.out k
      generalize hcv : l.getD k 0 = c at hcell hc2
      have HC := Lib.hid hcv
      clear hcv
      by_cases h3 : 128 ≤ c
      · have R := get_step HR.out h2 h1 HC.out h3 hc2
        go_wp2
        go_round
        case rel => exact R
        case measure => simp [intOf]; omega
      · by_cases h4 : (c = 0 ∧ k ≠ 0) ∨ (k = 9 ∧ 1 < c)
        · have R : Hid (getRes (Vm.dec l) = getRes none) := by rw [Vm.getRel_bad HR.out h2 h1 (by rw [HC.out]; omega) (by rw [HC.out]; exact h4)]; rfl
          rcases h4 with ⟨h5, h6⟩ | ⟨h5, h6⟩
          · have hs : (((c : Int) != 0 || (k : Int) == 0)) = false := by simp; omega
            clear h5 h6
            go_wp2_with (go_at_call 78; refine (shortest_any _ _ _).mono ?_; rw [hs]; rintro e w' ⟨rfl, rfl⟩)
            go_ret3
            exact ⟨by rw [R.out]; rfl, rfl⟩
          · have hs : (((c : Int) != 0 || (k : Int) == 0)) = true := by simp; omega
            have ho : ((k : Int) == 9 && decide (1 < (c : Int))) = true := by simp; omega
            clear h5 h6
            go_wp2_with (first | (go_at_call 78; refine (shortest_any _ _ _).mono ?_; rw [hs]; rintro e w' ⟨rfl, rfl⟩) | (go_at_call 79; refine (overflows_any _ _ _).mono ?_; rw [ho]; rintro e w' ⟨rfl, rfl⟩))
            go_ret3
            exact ⟨by rw [R.out]; rfl, rfl⟩
        · have R := Lib.hid (get_good HR.out h2 h1 HC.out (by omega) h4)
          have hs : (((c : Int) != 0 || (k : Int) == 0)) = true := by simp; omega
          have ho : ((k : Int) == 9 && decide (1 < (c : Int))) = false := by simp; omega
          clear h4
          go_wp2_with (first | (go_at_call 78; refine (shortest_any _ _ _).mono ?_; rw [hs]; rintro e w' ⟨rfl, rfl⟩) | (go_at_call 79; refine (overflows_any _ _ _).mono ?_; rw [ho]; rintro e w' ⟨rfl, rfl⟩))
          go_ret3
          exact ⟨R.out, rfl⟩
    · have R : Hid (getRes (Vm.dec l) = getRes none) := by rw [Vm.getRel_out HR.out (by omega)]; rfl
      by_cases h1 : k < l.length
      · have h2 : ¬ k < 10 := by omega
        go_wp2
        go_ret3
        exact ⟨by rw [R.out]; rfl, rfl⟩
      · have hd : decide ((k : Int) < (l.length : Int)) = false := by simp; omega
        go_wp2
        go_ret3
        exact ⟨by rw [R.out]; rfl, rfl⟩

theorem get_late {l : List Nat} {k m acc c : Nat} (h : Vm.GetRel l k m acc) (hk : k < 10) (hl : k < l.length) (hc : l.getD k 0 = c) (h2 : c < 256) (h9 : k = 9 ∧ 1 < c % 128) : Vm.dec l = none := by
  subst hc
  by_cases h1 : l.getD k 0 < 128
  · exact Vm.getRel_bad h hk hl h1 (.inr ⟨h9.1, by omega⟩)
  · exact Vm.getRel_out (Vm.getRel_step h hk hl (by omega) h2 0 (by unfold Vm.Fits; omega) (fun h8 => by omega)) (.inl (by omega))

set_option maxRecDepth 100000 in
set_option maxHeartbeats 400000 in
theorem rget_any (l : List Nat) (a : Option Addr) (cap : Nat) (w : World) (hl : l.length ≤ maxLen) (hb : IsBytes w a l) :
    Calls Tryd.prog 54 #[.slice a l.length cap] w fun e w' => e = .returned (getRes (Vm.dec l)) ∧ w = w' := by
  unfold maxLen at hl
  obtain ⟨hlt, hbb⟩ := hb
  have HB := Lib.hid hbb
  have HL := Lib.hid hlt
  clear hbb hlt
  go_enter Tryd.func54, Tryd.ntmps54
  go_wp2
  go_loop [5, 6] (fun n i => GetInv l n i) (fun _ i => 10 - (intOf i).toNat)
  case atStart => exact ⟨0, 0, 0, by omega, by omega, rfl, rfl, Vm.getRel_start l⟩
  case round =>
    obtain ⟨k, m, acc, hk, hkl, rfl, rfl, hrel⟩ := hrel
    have HR := Lib.hid hrel
    clear hrel
    by_cases h : k < l.length ∧ k < 10
    · obtain ⟨h1, h2⟩ := h
      obtain ⟨b, off, rfl, hc⟩ := HB.out (by omega)
      have hcell := hc k h1
      clear hc
      have hc2 := HL.out k
      generalize hcv : l.getD k 0 = c at hcell hc2
      have HC := Lib.hid hcv
      clear hcv
      by_cases h9 : k = 9 ∧ 1 < c % 128
      · have R : Hid (getRes (Vm.dec l) = getRes none) := by rw [get_late HR.out h2 h1 HC.out hc2 h9]; rfl
        have e9 : ((k : Int) == 9) = true := by simp; omega
        have d9 : (1 : Int) < (c : Int) % 128 := by omega
        clear h9
        go_wp2
        go_ret3
        exact ⟨by rw [R.out]; rfl, rfl⟩
      · by_cases h3 : 128 ≤ c
        · have R := get_step HR.out h2 h1 HC.out h3 hc2
          by_cases hk9 : k = 9
          · have e9 : ((k : Int) == 9) = true := by simp; omega
            have d9 : ¬ (1 : Int) < (c : Int) % 128 := by omega
            clear h9 hk9
            go_wp2
            go_round
            case rel => exact R
            case measure => simp [intOf]; omega
          · have e9 : ((k : Int) == 9) = false := by simp; omega
            clear h9 hk9
            go_wp2
            go_round
            case rel => exact R
            case measure => simp [intOf]; omega
        · have d9 : ¬ ((k : Int) = 9 ∧ (1 : Int) < (c : Int) % 128) := by omega
          obtain ⟨b9, e9, f9⟩ : ∃ b9, ((k : Int) == 9) = b9 ∧ (b9 = true → ¬ (1 : Int) < (c : Int) % 128) := ⟨_, rfl, fun h => by have := beq_iff_eq.1 h; omega⟩
          by_cases h4 : c = 0 ∧ k ≠ 0
          · have R : Hid (getRes (Vm.dec l) = getRes none) := by rw [Vm.getRel_bad HR.out h2 h1 (by rw [HC.out]; omega) (by rw [HC.out]; exact .inl h4)]; rfl
            have z0 : ((c : Int) % 128 == 0) = true := by simp; omega
            have z1 : (0 : Int) < (k : Int) := by omega
            clear h4 h9 d9
            cases b9
            · clear f9
              go_wp2
              go_ret3
              exact ⟨by rw [R.out]; rfl, rfl⟩
            · have g9 := f9 rfl
              clear f9
              go_wp2
              go_ret3
              exact ⟨by rw [R.out]; rfl, rfl⟩
          · have R := Lib.hid (get_good HR.out h2 h1 HC.out (by omega) (by omega))
            obtain ⟨b0, z0, f0⟩ : ∃ b0, ((c : Int) % 128 == 0) = b0 ∧ (b0 = true → ¬ (0 : Int) < (k : Int)) := ⟨_, rfl, fun h => by have := beq_iff_eq.1 h; omega⟩
            clear h4 h9 d9
            cases b9
            · clear f9
              cases b0
              · clear f0
                go_wp2
                go_ret3
                exact ⟨R.out, rfl⟩
              · have g0 := f0 rfl
                clear f0
                go_wp2
                go_ret3
                exact ⟨R.out, rfl⟩
            · have g9 := f9 rfl
              clear f9
              cases b0
              · clear f0
                go_wp2
                go_ret3
                exact ⟨R.out, rfl⟩
              · exact absurd (f0 rfl) (by have := beq_iff_eq.1 e9; omega)
    · have R : Hid (getRes (Vm.dec l) = getRes none) := by rw [Vm.getRel_out HR.out (by omega)]; rfl
      by_cases h1 : k < l.length
      · have h2 : ¬ k < 10 := by omega
        go_wp2
        go_ret3
        exact ⟨by rw [R.out]; rfl, rfl⟩
      · have hd : decide ((k : Int) < (l.length : Int)) = false := by simp; omega
        go_wp2
        go_ret3
        exact ⟨by rw [R.out]; rfl, rfl⟩


end Go.Proofs.YtjmojjjgifkkiaaDoor
