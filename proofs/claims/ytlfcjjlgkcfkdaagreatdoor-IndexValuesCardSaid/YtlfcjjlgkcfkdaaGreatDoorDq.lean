/-
  IndexValues as a contract. Conditions: the library's table lies in its variable.
-/
import Derived.Test.YtlfcjjlgkcfkdaaGreatDoorDp
namespace Go.Proofs.YtlfcjjlgkcfkdaaGreatDoor
open Go.RowKit Go.Maps Go.Sort La

/-! ### names and their values -/
def nsq : List ByteArray := [⟨#[115, 101, 118]⟩, ⟨#[106, 111, 98]⟩, ⟨#[104, 111, 115, 116]⟩, ⟨#[95, 120]⟩, ⟨#[90, 111, 110, 101, 57]⟩, ⟨#[110, 111, 110, 101]⟩]
theorem lt6 {P : Nat → Prop} (h0 : P 0) (h1 : P 1) (h2 : P 2) (h3 : P 3) (h4 : P 4) (h5 : P 5) {k : Nat} (hk : k < 6) : P k := by
  obtain rfl | rfl | rfl | rfl | rfl | rfl : k = 0 ∨ k = 1 ∨ k = 2 ∨ k = 3 ∨ k = 4 ∨ k = 5 := by omega
  all_goals assumption
theorem ns_new {k : Nat} (hk : k < 6) : ¬ snth nsq k ∈ nsq.take k := fun hm => by
  have h := lt6 (P := fun k => ((nsq.take k).any fun t => t.data == (snth nsq k).data) = false) (by decide +kernel) (by decide +kernel) (by decide +kernel) (by decide +kernel) (by decide +kernel) (by decide +kernel) hk
  exact List.any_eq_false.1 h _ hm (by simp)
theorem nilL : (⟨#[]⟩ : ByteArray).toList = [] := by rw [ByteArray.toList_eq]
theorem ns_take {k : Nat} (hk : k < 6) : nsq.take (k + 1) = nsq.take k ++ [snth nsq k] := lt6 (P := fun k => nsq.take (k + 1) = nsq.take k ++ [snth nsq k]) rfl rfl rfl rfl rfl rfl hk
theorem nms_in {s : ByteArray} (h : s ∈ nms) : s ∈ nsq.take 6 := by
  have e : nsq.take 6 = nms ++ [⟨#[110, 111, 110, 101]⟩] := rfl
  rw [e]
  exact List.mem_append_left _ h
structure ValsI (T : List Ent) (k m : Nat) (F : List Lab) : Prop where
  len : F.length = m
  nd : F.Nodup
  mem : ∀ y, y ∈ F ↔ (y.1 ∈ nsq.take k ∧ who T y ≠ [])
  le : m ≤ 420 * k
theorem ValsI.step {T : List Ent} {k m nv : Nat} {F : List Lab} {vs : List ByteArray} (h : ValsI T k m F) (hk : k < 6) (hs : vs.Pairwise fun a b => lt a b = true) (hm : ∀ u, u ∈ vs ↔ who T (snth nsq k, u) ≠ []) (hn : vs.length = nv) (h4 : nv ≤ 420) : ValsI T (k + 1) (m + nv) (F ++ vs.map fun u => (snth nsq k, u)) := by
  refine ⟨by rw [List.length_append, List.length_map, h.len, hn], List.nodup_append.2 ⟨h.nd, ?_, ?_⟩, fun y => ?_, by have := h.le; omega⟩
  · refine List.pairwise_map.2 (hs.imp fun {a b} hab e => ?_)
    have e2 : a = b := congrArg Prod.snd e
    rw [e2, lt_irrefl] at hab
    cases hab
  · intro a ha b hb e
    obtain ⟨u, _, rfl⟩ := List.mem_map.1 hb
    have h1 := ((h.mem a).1 ha).1
    rw [e] at h1
    exact ns_new hk h1
  · rw [List.mem_append, h.mem y, ns_take hk, List.mem_append, List.mem_map]
    constructor
    · rintro (⟨h1, h2⟩ | ⟨u, hu, rfl⟩)
      · exact ⟨.inl h1, h2⟩
      · exact ⟨.inr (by simp), (hm u).1 hu⟩
    · rintro ⟨h1 | h1, h2⟩
      · exact .inl ⟨h1, h2⟩
      · have e : y.1 = snth nsq k := by simpa using h1
        exact .inr ⟨y.2, (hm y.2).2 (by rw [← e]; exact h2), by rw [← e]⟩
/-- Who has a name. -/
def hasN (R : List Ent) (nm : ByteArray) : List Int := (R.filter fun p => decide ((getL p.2 nm).toList ≠ [])).map Prod.fst
theorem hasN_in {R : List Ent} {p : Ent} {nm : ByteArray} (h : ¬ (getL p.2 nm).toList = []) : hasN (R ++ [p]) nm = hasN R nm ++ [p.1] := by
  unfold hasN
  rw [List.filter_append, List.map_append]
  congr 1
  simp [h]
theorem hasN_out {R : List Ent} {p : Ent} {nm : ByteArray} (h : (getL p.2 nm).toList = []) : hasN (R ++ [p]) nm = hasN R nm := by
  unfold hasN
  rw [List.filter_append, List.map_append]
  simp [h]
theorem has_vals {T : List Ent} (hset : ∀ p ∈ T, isSet p.2 = true) {nm : ByteArray} {vs : List ByteArray} (hm : ∀ u, u ∈ vs ↔ who T (nm, u) ≠ []) (z : Int) : z ∈ (vs.flatMap fun u => who T (nm, u)) ↔ z ∈ hasN T nm := by
  rw [List.mem_flatMap]
  unfold hasN
  rw [List.mem_map]
  constructor
  · rintro ⟨u, hu, hz⟩
    obtain ⟨ls, h1, h2⟩ := mem_who.1 hz
    refine ⟨(z, ls), List.mem_filter.2 ⟨h1, decide_eq_true fun e => ?_⟩, rfl⟩
    have e2 : getL ls nm = u := (getL_is (hset _ h1) (set_size (hset _ h1) _ h2)).2 h2
    have e3 : u = ⟨#[]⟩ := by rw [← e2]; exact toL_inj (e.trans nilL.symm)
    have h3 : 1 ≤ u.size := set_size (hset _ h1) _ h2
    rw [e3] at h3
    exact absurd h3 (by decide)
  · rintro ⟨⟨z', ls⟩, h1, rfl⟩
    rw [List.mem_filter] at h1
    rcases set_getL (hset _ h1.1) nm with ⟨e, _⟩ | ⟨hg, _⟩
    · exact absurd (by show (getL ls nm).toList = []; rw [e]; exact nilL) (of_decide_eq_true h1.2)
    · have hz : z' ∈ who T (nm, getL ls nm) := mem_who.2 ⟨ls, h1.1, hg⟩
      exact ⟨getL ls nm, (hm _).2 (fun e => by rw [e] at hz; cases hz), hz⟩
theorem who_small {T : List Ent} (hset : ∀ p ∈ T, isSet p.2 = true) {y : Lab} (h : who T y ≠ []) : smallL y := by
  obtain ⟨p, hp, hy⟩ := who_ne.1 h
  exact set_small (hset p hp) y hy
theorem snth_mem {vs : List ByteArray} {j : Nat} (h : j < vs.length) : snth vs j ∈ vs := by
  have : snth vs j = vs[j] := by simp [snth, List.getD, List.getElem?_eq_getElem h]
  rw [this]
  exact List.getElem_mem h
theorem vals_take {vs : List ByteArray} {j : Nat} (h : j < vs.length) : vs.take (j + 1) = vs.take j ++ [snth vs j] := by
  have : snth vs j = vs[j] := by simp [snth, List.getD, List.getElem?_eq_getElem h]
  rw [this, List.take_succ_eq_append_getElem h]
theorem vals_lt {vs : List ByteArray} (hs : vs.Pairwise fun a b => lt a b = true) {i : Nat} (h : i + 1 < vs.length) : Op.bytesLess (snth vs (i + 1)).toList (snth vs i).toList = false ∧ ((snth vs (i + 1)).toList == (snth vs i).toList) = false := by
  have e1 : snth vs (i + 1) = vs[i + 1] := by simp [snth, List.getD, List.getElem?_eq_getElem h]
  have hi : i < vs.length := by omega
  have e2 : snth vs i = vs[i] := by simp [snth, List.getD, List.getElem?_eq_getElem hi]
  have hl := List.pairwise_iff_getElem.1 hs i (i + 1) hi h (by omega)
  rw [← e1, ← e2] at hl
  refine ⟨lt_asymm hl, ?_⟩
  rw [beq_dec]
  refine decide_eq_false fun e => ?_
  rw [e, lt_irrefl] at hl
  cases hl
theorem SlZ.none (W : World) (K : Nat) (hK : K ≤ 1048576) : SlZ W [] none 0 0 K := ⟨rfl, fun _ => rfl, fun h => absurd h (by simp), Nat.zero_le _, hK⟩

set_option maxRecDepth 100000 in
set_option maxHeartbeats 8000000 in
theorem values10_law {w : World} {A : Option Addr} {n c : Nat} {S : List StpC} (h : StepsR w A S) (hn : S.length = n) (hT : DTab w) :
    Calls Tryz.prog 5 #[.slice A n c] w fun e w' => e = .returned (.bool true) ∧ Below w.heap.size w w' := by
  have HT := Lib.hid hT
  by_cases h6 : 60 < n
  · have hz : decide ((n : Int) > 60) = true := decide_eq_true (by omega)
    have C := Lib.hid (runs10_any hT)
    clear h hn hT
    go_enter Tryz.func5, Tryz.ntmps5
    go_wp2_with fail
    refine C.out.mono ?_
    rintro e w1 ⟨rfl, bb⟩
    have Q := Lib.hid bb
    clear bb C
    go_wp2
    go_ret
    exact ⟨rfl, Q.out⟩
  · have hz : decide ((n : Int) > 60) = false := decide_eq_false (by omega)
    have C := Lib.hid (built_any (A := A) (c := c) h hn (by omega))
    clear h hT
    go_enter Tryz.func5, Tryz.ntmps5
    go_wp2_with fail
    refine C.out.mono ?_
    rintro e w1 ⟨x, b1, b2, N, L, v, rfl, i1, o1, l1, hN, hbs, bb⟩
    have OK := Lib.hid o1.okl
    obtain ⟨A1, c1, rfl, _, r1⟩ := o1.read
    obtain ⟨nL, hnL⟩ : ∃ k, L.length = k := ⟨_, rfl⟩
    rw [hnL] at r1 l1 ⊢
    have LN := Lib.hid hnL
    have QB : Below w1.heap.size w1 (w1.alloc (.cells #[.string ⟨#[115, 101, 118]⟩, .string ⟨#[106, 111, 98]⟩, .string ⟨#[104, 111, 115, 116]⟩, .string ⟨#[95, 120]⟩, .string ⟨#[90, 111, 110, 101, 57]⟩, .string ⟨#[110, 111, 110, 101]⟩] 9)) := (Below.refl _ _).alloc (Nat.le_refl _) _
    have hb : (w1.alloc (.cells #[.string ⟨#[115, 101, 118]⟩, .string ⟨#[106, 111, 98]⟩, .string ⟨#[104, 111, 115, 116]⟩, .string ⟨#[95, 120]⟩, .string ⟨#[90, 111, 110, 101, 57]⟩, .string ⟨#[110, 111, 110, 101]⟩] 9)).heap[w1.heap.size]? = some (.cells #[.string ⟨#[115, 101, 118]⟩, .string ⟨#[106, 111, 98]⟩, .string ⟨#[104, 111, 115, 116]⟩, .string ⟨#[95, 120]⟩, .string ⟨#[90, 111, 110, 101, 57]⟩, .string ⟨#[110, 111, 110, 101]⟩] 9 (0, 0)) := World.alloc_heap_new w1 _
    have SZ : (w1.alloc (.cells #[.string ⟨#[115, 101, 118]⟩, .string ⟨#[106, 111, 98]⟩, .string ⟨#[104, 111, 115, 116]⟩, .string ⟨#[95, 120]⟩, .string ⟨#[90, 111, 110, 101, 57]⟩, .string ⟨#[110, 111, 110, 101]⟩] 9)).heap.size = w1.heap.size + 1 := by simp
    have NC : Hid (∀ W, Below (w1.alloc (.cells #[.string ⟨#[115, 101, 118]⟩, .string ⟨#[106, 111, 98]⟩, .string ⟨#[104, 111, 115, 116]⟩, .string ⟨#[95, 120]⟩, .string ⟨#[90, 111, 110, 101, 57]⟩, .string ⟨#[110, 111, 110, 101]⟩] 9)).heap.size (w1.alloc (.cells #[.string ⟨#[115, 101, 118]⟩, .string ⟨#[106, 111, 98]⟩, .string ⟨#[104, 111, 115, 116]⟩, .string ⟨#[95, 120]⟩, .string ⟨#[90, 111, 110, 101, 57]⟩, .string ⟨#[110, 111, 110, 101]⟩] 9)) W → ∀ i, i < 6 → W.cell? ⟨w1.heap.size, i, none⟩ = some (.string (snth nsq i))) := fun W hW i hi =>
      (hW.cell (p := ⟨_, i, none⟩) (by rw [SZ]; exact Nat.lt_succ_self _)).trans (row_cell hb (lt6 (P := fun i => (#[Value.string ⟨#[115, 101, 118]⟩, .string ⟨#[106, 111, 98]⟩, .string ⟨#[104, 111, 115, 116]⟩, .string ⟨#[95, 120]⟩, .string ⟨#[90, 111, 110, 101, 57]⟩, .string ⟨#[110, 111, 110, 101]⟩] : Array Value)[i]? = some (.string (snth nsq i))) rfl rfl rfl rfl rfl rfl hi))
    have I2 := Lib.hid (i1.below QB)
    have R2 := Lib.hid (r1.below QB)
    have B2 : Hid (Below w.heap.size w (w1.alloc (.cells #[.string ⟨#[115, 101, 118]⟩, .string ⟨#[106, 111, 98]⟩, .string ⟨#[104, 111, 115, 116]⟩, .string ⟨#[95, 120]⟩, .string ⟨#[90, 111, 110, 101, 57]⟩, .string ⟨#[110, 111, 110, 101]⟩] 9))) := bb.trans (QB.mono bb.size)
    obtain ⟨w2, hw2⟩ : ∃ w2, w1.alloc (.cells #[.string ⟨#[115, 101, 118]⟩, .string ⟨#[106, 111, 98]⟩, .string ⟨#[104, 111, 115, 116]⟩, .string ⟨#[95, 120]⟩, .string ⟨#[90, 111, 110, 101, 57]⟩, .string ⟨#[110, 111, 110, 101]⟩] 9) = w2 := ⟨_, rfl⟩
    rw [hw2] at NC I2 R2 B2
    clear i1 o1 r1 bb hbs C hnL QB hb SZ
    go_wp2
    clear hw2
    obtain ⟨g, hg⟩ : ∃ g, w1.heap.size = g := ⟨_, rfl⟩
    rw [hg] at NC
    rw [hg]
    clear hg
    go_loopw [7, 8] (fun nn i wr => ∃ (k m : Nat) (F : List Lab), k ≤ 6 ∧ nn = .int .i64 (m : Int) ∧ i = .int .i64 (k : Int) ∧ Hid (ValsI (L.map ent) k m F ∧ Below w2.heap.size w2 wr)) (fun _ i _ => 6 - (intOf i).toNat)
    case atStart => exact ⟨0, 0, [], by omega, rfl, rfl, ⟨rfl, List.Pairwise.nil, fun y => by simp, by omega⟩, Below.refl _ _⟩
    case round =>
      obtain ⟨k, m, F, hk, rfl, rfl, HI⟩ := hrel
      by_cases hkn : k < 6
      · have hkz : (k : Int) < 6 := by omega
        have n0 := NC.out _ HI.out.2 k hkn
        have WK : Hid (IntKind.i64.wrap ((k : Int) + 1) = (k : Int) + 1) := wrap1 (by omega)
        have NK : Hid (∀ W, Below w2.heap.size w2 W → W.cell? ⟨g, k, none⟩ = some (.string (snth nsq k))) := fun W hW => NC.out W hW k hkn
        have ML := HI.out.1.le
        have STP : Hid (∀ (nv : Nat) (vs : List ByteArray), vs.Pairwise (fun a b => lt a b = true) → (∀ u, u ∈ vs ↔ who (L.map ent) (snth nsq k, u) ≠ []) → vs.length = nv → nv ≤ 420 → ∃ F2, ValsI (L.map ent) (k + 1) (m + nv) F2) := fun nv vs h1 h2 h3 h4 => ⟨_, HI.out.1.step hkn h1 h2 h3 h4⟩
        obtain ⟨nm, hnm⟩ : ∃ y, snth nsq k = y := ⟨_, rfl⟩
        rw [hnm] at NK STP n0
        have CV := Lib.hid (ivalues_any (I2.out.below HI.out.2) nm)
        have BO := Lib.hid HI.out.2
        clear HI hnm
        go_wp2_with fail
        refine CV.out.mono ?_
        rintro e w3 ⟨vs, Av, nv, cv, rfl, hnv, _, ivs, hpw, hvm, hnN, bb⟩
        have B3 : Hid (Below w2.heap.size w2 w3) := BO.out.trans (bb.mono BO.out.size)
        have I3 := Lib.hid (I2.out.below B3.out)
        have R3 := Lib.hid (R2.out.below B3.out)
        have IV := Lib.hid ivs
        have PW := Lib.hid hpw
        have VM := Lib.hid hvm
        have NV := Lib.hid hnv
        have nv4 : nv ≤ 420 := by omega
        clear hnv ivs hpw hvm bb CV BO n0
        go_wp2
        go_loopw [7, 10, 11] (fun nn v jj wr => ∃ (j m2 : Nat) (o : List Int) (Ao : Option Addr) (no co : Nat), j ≤ nv ∧ nn = .int .i64 (m2 : Int) ∧ v = .slice Ao no co ∧ jj = .int .i64 (j : Int) ∧ Hid (SlZ wr o Ao no co (1000 * j) ∧ IsRise ((vs.take j).flatMap fun u => who (L.map ent) (nm, u)) o ∧ Below w3.heap.size w3 wr ∧ m2 = m + j)) (fun _ _ jj _ => nv - (intOf jj).toNat)
        case atStart => exact ⟨0, m, [], none, 0, 0, by omega, rfl, rfl, rfl, SlZ.none _ _ (by omega), ⟨List.Pairwise.nil, fun y => by simp⟩, Below.refl _ _, rfl⟩
        case round =>
          obtain ⟨j, m2, o, Ao, no, co, hj, rfl, rfl, rfl, HJ⟩ := hrel
          by_cases hjn : j < nv
          · have hjz : (j : Int) < (nv : Int) := by omega
            have hjL : j < vs.length := by rw [NV.out]; exact hjn
            obtain ⟨bv, ov, rfl, _⟩ := IV.out (by omega)
            have VC : Hid (∀ W, Below w3.heap.size w3 W → ∀ q, q < vs.length → W.cell? ⟨bv, ov + q, none⟩ = some (.string (snth vs q))) := fun W hW q hq => by
              obtain ⟨b', off', e, hc⟩ := (IV.out.below hW) (by omega)
              injection e with e; injection e with e1 e2
              subst e1 e2
              exact hc q hq
            have VT := Lib.hid (vals_take hjL)
            have UM0 := (VM.out _).1 (snth_mem hjL)
            have VJ : Hid (∀ W, Below w3.heap.size w3 W → W.cell? ⟨bv, ov + j, none⟩ = some (.string (snth vs j))) := fun W hW => VC.out W hW j hjL
            have PREV : Hid (∀ j1, j1 + 1 = j → Op.bytesLess (snth vs j).toList (snth vs j1).toList = false ∧ ((snth vs j).toList == (snth vs j1).toList) = false) := fun j1 e => by
              subst e
              exact vals_lt PW.out hjL
            obtain ⟨u, hu⟩ : ∃ y, snth vs j = y := ⟨_, rfl⟩
            rw [hu] at VT UM0 VJ PREV
            have US : Hid (smallL (nm, u)) := who_small I3.out.set UM0
            have UM := Lib.hid UM0
            have NW : Hid (∀ W, Below w3.heap.size w3 W → W.cell? ⟨g, k, none⟩ = some (.string nm)) := fun W hW => NK.out W (B3.out.trans (hW.mono B3.out.size))
            have BJ := Lib.hid HJ.out.2.2.1
            have HM2 := Lib.hid HJ.out.2.2.2
            have SO := Lib.hid HJ.out.1
            have RO := Lib.hid HJ.out.2.1
            have WJ : Hid (IntKind.i64.wrap ((j : Int) + 1) = (j : Int) + 1) := wrap1 (by omega)
            have m2b : m2 ≤ 3000 := by have := HM2.out; omega
            have WM : Hid (IntKind.i64.wrap ((m2 : Int) + 1) = (m2 : Int) + 1) := wrap1 (by have := HM2.out; omega)
            clear HJ UM0 hu
            go_wp2_with fail
            refine wp_region_held_drew (S := fun W => Below wr.heap.size wr W) (by kernel_rfl) ((Below.refl _ _).drew) (fun hHeld => ?_)
            refine held_take 0 46 (v := (.pointer (some ⟨x, 0, none⟩))) rfl rfl (by kernel_rfl) (by kernel_rfl) (by kernel_rfl) (by rfl) (fun _ _ _ h => h) (by assumption) ?_ ?_
            · intro W hW
              go_simp
            simp only [List.setIfInBounds_toArray, List.set_cons_zero, List.set_cons_succ]
            refine held_take 1 47 (v := (.slice (some ⟨g, 0, none⟩) 6 6)) rfl rfl (by kernel_rfl) (by kernel_rfl) (by kernel_rfl) (by rfl) (fun _ _ _ h => h) (by assumption) ?_ ?_
            · intro W hW
              go_simp
            simp only [List.setIfInBounds_toArray, List.set_cons_zero, List.set_cons_succ]
            refine held_take 2 48 (v := (.int .i64 (k : Int))) rfl rfl (by kernel_rfl) (by kernel_rfl) (by kernel_rfl) (by rfl) (fun _ _ _ h => h) (by assumption) ?_ ?_
            · intro W hW
              go_simp
            simp only [List.setIfInBounds_toArray, List.set_cons_zero, List.set_cons_succ]
            refine held_take 3 49 (v := (.pointer (some ⟨g, k, none⟩))) rfl rfl (by kernel_rfl) (by kernel_rfl) (by kernel_rfl) (by rfl) (fun _ _ _ h => h) (by assumption) ?_ ?_
            · intro W hW
              go_simp
            simp only [List.setIfInBounds_toArray, List.set_cons_zero, List.set_cons_succ]
            refine held_take 4 50 (v := (.string nm)) rfl rfl (by kernel_rfl) (by kernel_rfl) (by kernel_rfl) (by rfl) (fun _ _ _ h => h) (by assumption) ?_ ?_
            · intro W hW
              have d := BJ.out.trans (hW.mono BJ.out.size)
              have q := NW.out W d
              go_simp
            simp only [List.setIfInBounds_toArray, List.set_cons_zero, List.set_cons_succ]
            refine held_take 5 51 (v := (.slice (some ⟨bv, ov, none⟩) nv cv)) rfl rfl (by kernel_rfl) (by kernel_rfl) (by kernel_rfl) (by rfl) (fun _ _ _ h => h) (by assumption) ?_ ?_
            · intro W hW
              go_simp
            simp only [List.setIfInBounds_toArray, List.set_cons_zero, List.set_cons_succ]
            refine held_take 6 52 (v := (.int .i64 (j : Int))) rfl rfl (by kernel_rfl) (by kernel_rfl) (by kernel_rfl) (by rfl) (fun _ _ _ h => h) (by assumption) ?_ ?_
            · intro W hW
              go_simp
            simp only [List.setIfInBounds_toArray, List.set_cons_zero, List.set_cons_succ]
            refine held_take 7 53 (v := (.pointer (some ⟨bv, ov + j, none⟩))) rfl rfl (by kernel_rfl) (by kernel_rfl) (by kernel_rfl) (by rfl) (fun _ _ _ h => h) (by assumption) ?_ ?_
            · intro W hW
              go_simp
            simp only [List.setIfInBounds_toArray, List.set_cons_zero, List.set_cons_succ]
            refine held_take 8 54 (v := (.string u)) rfl rfl (by kernel_rfl) (by kernel_rfl) (by kernel_rfl) (by rfl) (fun _ _ _ h => h) (by assumption) ?_ ?_
            · intro W hW
              have d := BJ.out.trans (hW.mono BJ.out.size)
              have q := VJ.out W d
              go_simp
            simp only [List.setIfInBounds_toArray, List.set_cons_zero, List.set_cons_succ]
            have dJ := BJ.out.trans (hHeld.mono BJ.out.size)
            have CC55 := iposting_any (I3.out.below dJ) nm u US.out
            refine held_call 9 55 (f := 19) (args := #[(.pointer (some ⟨x, 0, none⟩)), .string nm, .string u]) rfl rfl (by kernel_rfl) (by rfl) (by go_simp) ?_
            refine CC55.mono ?_
            rintro e u1 ⟨p, A5, n5, c5, rfl, r5, s5, bb5⟩
            have d1 : Below wr.heap.size wr u1 := hHeld.trans (bb5.mono hHeld.size)
            refine ⟨_, rfl, d1, ?_⟩
            simp only [List.setIfInBounds_toArray, List.set_cons_zero, List.set_cons_succ]
            refine held_take 10 12 (v := (.slice A5 n5 c5)) rfl rfl (by kernel_rfl) (by kernel_rfl) (by kernel_rfl) (by rfl) (fun _ _ _ h => h) (by assumption) ?_ ?_
            · intro W hW
              go_simp
            simp only [List.setIfInBounds_toArray, List.set_cons_zero, List.set_cons_succ]
            refine wpAnyH_done (by kernel_rfl) ?_ _
            have S5 := Lib.hid s5
            have R5 := Lib.hid r5
            have SO1 := Lib.hid (SO.out.below d1)
            have B1 : Hid (Below w3.heap.size w3 u1) := BJ.out.trans (d1.mono BJ.out.size)
            have n5p : n5 ≠ 0 := fun e => by
              have h1 := s5.len
              rw [e] at h1
              have h2 := List.eq_nil_of_length_eq_zero h1
              obtain ⟨z, l, hz⟩ := List.exists_cons_of_ne_nil UM.out
              have h3 := (r5.2 z).2 (by rw [hz]; simp)
              rw [h2] at h3
              cases h3
            have hn5 : ((n5 : Int) == 0) = false := by simp; omega
            have hn5d : decide ((n5 : Int) = 0) = false := decide_eq_false (by omega)
            have CI : Hid (∀ W, IsZ W A5 p → Calls Tryz.prog 21 #[.slice A5 n5 c5] W fun e w' => e = .returned (.bool true) ∧ ∃ q, w' = W.drewN q) := fun W hW => (zis_any p A5 n5 c5 W s5.len (by have := s5.small; omega) hW).mono fun _ _ h => ⟨by rw [h.1, decide_eq_true r5.1], h.2⟩
            have LP := Lib.hid s5.is
            have v0 := VJ.out u1 B1.out
            have VC1 := Lib.hid (VC.out u1 B1.out)
            clear hHeld dJ CC55 bb5 d1 s5 r5 BJ SO VC
            rename World => u1
            by_cases hj0 : j = 0
            · have hgt : decide ((j : Int) > 0) = false := decide_eq_false (by omega)
              go_wp2_with fail
              go_quiet ((go_at_call 21; exact Calls.quiet_of (CI.out _ LP.out)))
              have bq : Below u1.heap.size u1 (u1.drewN nq) := below_drewN (Below.refl _ _) nq
              have CO := Lib.hid (or_s (SO1.out.below bq) (S5.out.below bq) (by omega))
              have BX : Hid (Below w3.heap.size w3 (u1.drewN nq)) := below_drewN B1.out nq
              clear bq CI LP SO1 S5 B1 v0
              generalize u1.drewN nq = wx at CO BX ⊢
              go_wp2_with fail
              refine CO.out.mono ?_
              rintro e w6 ⟨o6, A6, n6, c6, rfl, r6, s6, bb⟩
              have Z : Hid (SlZ w6 o6 A6 n6 c6 (1000 * (j + 1)) ∧ IsRise ((vs.take (j + 1)).flatMap fun u => who (L.map ent) (nm, u)) o6 ∧ Below w3.heap.size w3 w6 ∧ m2 + 1 = m + (j + 1)) := ⟨s6.le (by omega) (by omega), r6.congr fun z => by
                rw [List.mem_append, RO.out.2 z, R5.out.2 z, VT.out, List.flatMap_append, List.mem_append]
                simp, BX.out.trans (bb.mono BX.out.size), by have := HM2.out; omega⟩
              clear r6 s6 bb CO BX
              go_wp2_with (first | rw [WM.out, WJ.out] | rw [WM.out] | rw [WJ.out])
              go_roundw
              case rel => exact ⟨j + 1, m2 + 1, o6, A6, n6, c6, by omega, by go_num, rfl, by go_num, Z⟩
              case measure => simp [intOf]; omega
            · have hgt : decide ((j : Int) > 0) = true := decide_eq_true (by omega)
              have hjp : 0 < j := by omega
              obtain ⟨j1, hj1⟩ : ∃ j1, j1 + 1 = j := ⟨j - 1, by omega⟩
              have hw3 : IntKind.i64.wrap ((j : Int) - 1) = (j1 : Int) := by rw [IntKind.wrap_i64]; omega
              have hj1n : (j1 : Int) < (nv : Int) := by omega
              obtain ⟨g1, g2⟩ := PREV.out j1 hj1
              have v1 := VC1.out j1 (by omega)
              go_wp2_with fail
              go_quiet ((go_at_call 21; exact Calls.quiet_of (CI.out _ LP.out)))
              have bq : Below u1.heap.size u1 (u1.drewN nq) := below_drewN (Below.refl _ _) nq
              have CO := Lib.hid (or_s (SO1.out.below bq) (S5.out.below bq) (by omega))
              have BX : Hid (Below w3.heap.size w3 (u1.drewN nq)) := below_drewN B1.out nq
              clear bq CI LP SO1 S5 B1 v0
              generalize u1.drewN nq = wx at CO BX ⊢
              go_wp2_with fail
              refine CO.out.mono ?_
              rintro e w6 ⟨o6, A6, n6, c6, rfl, r6, s6, bb⟩
              have Z : Hid (SlZ w6 o6 A6 n6 c6 (1000 * (j + 1)) ∧ IsRise ((vs.take (j + 1)).flatMap fun u => who (L.map ent) (nm, u)) o6 ∧ Below w3.heap.size w3 w6 ∧ m2 + 1 = m + (j + 1)) := ⟨s6.le (by omega) (by omega), r6.congr fun z => by
                rw [List.mem_append, RO.out.2 z, R5.out.2 z, VT.out, List.flatMap_append, List.mem_append]
                simp, BX.out.trans (bb.mono BX.out.size), by have := HM2.out; omega⟩
              clear r6 s6 bb CO BX
              go_wp2_with (first | rw [WM.out, WJ.out] | rw [WM.out] | rw [WJ.out])
              go_roundw
              case rel => exact ⟨j + 1, m2 + 1, o6, A6, n6, c6, by omega, by go_num, rfl, by go_num, Z⟩
              case measure => simp [intOf]; omega
          · obtain rfl : j = nv := by omega
            have hjz : ¬ (j : Int) < (j : Int) := by omega
            obtain ⟨F2, hF2⟩ := STP.out j vs PW.out VM.out NV.out nv4
            have V2 := Lib.hid hF2
            have HM2 := Lib.hid HJ.out.2.2.2
            have SO := Lib.hid HJ.out.1
            have RO0 := HJ.out.2.1
            rw [List.take_of_length_le (by rw [NV.out]; exact Nat.le_refl _)] at RO0
            have RO : Hid (IsRise (hasN (L.map ent) nm) o) := RO0.congr (has_vals I3.out.set VM.out)
            have BJ := Lib.hid HJ.out.2.2.1
            clear hF2 HJ RO0 STP PW VM NV IV
            rename World => w5
            have R5 := Lib.hid (R3.out.below BJ.out)
            have B5 : Hid (Below w2.heap.size w2 w5) := B3.out.trans (BJ.out.mono B3.out.size)
            clear R3 BJ
            go_wp2
            have I0 : Hid (World.ownsRow w5 w5.heap.size 3 1 (.slice none 0 0) 0 (zs (hasN ((L.map ent).take 0) nm)) ∧ Below w5.heap.size w5 w5) := ⟨World.ownsRow_nil _ _ _ _, Below.refl _ _⟩
            go_loopw [13, 14] (fun v jj wr => ∃ (y : Value) (q q2 : Nat), y = v ∧ q ≤ nL ∧ q2 ≤ q ∧ jj = .int .i64 (q : Int) ∧ Hid (World.ownsRow wr w5.heap.size 3 1 y q2 (zs (hasN ((L.map ent).take q) nm)) ∧ Below w5.heap.size w5 wr)) (fun _ jj _ => nL - (intOf jj).toNat)
            case atStart => exact ⟨_, 0, 0, rfl, by omega, by omega, rfl, I0⟩
            case round =>
              clear I0
              obtain ⟨y, q, q2, rfl, hq, hq2, rfl, HQ⟩ := hrel
              by_cases hqn : q < nL
              · have hqz : (q : Int) < (nL : Int) := by omega
                have hqL : q < L.length := by rw [LN.out]; exact hqn
                obtain ⟨b, off, rfl, e0, e1, _⟩ := (R5.out.below HQ.out.2).at hqn
                obtain ⟨AQ, cq, eq1, _, hlq⟩ := (R5.out.below HQ.out.2).good _ (anth_mem hqL)
                have SQ := I2.out.set (ent (anth L q)) (List.mem_map.2 ⟨_, anth_mem hqL, rfl⟩)
                have EQ := ent_take hqL
                have e3 : ent (anth L q) = ((anth L q).1, (anth L q).2.2) := rfl
                rw [e3] at SQ EQ
                rw [eq1] at e1
                obtain ⟨iq, hiq⟩ : ∃ y, (anth L q).1 = y := ⟨_, rfl⟩
                obtain ⟨lq, hlq2⟩ : ∃ y, (anth L q).2.2 = y := ⟨_, rfl⟩
                rw [hiq] at EQ e0
                rw [hlq2] at SQ EQ hlq e1
                obtain ⟨nq2, hnq⟩ : ∃ y, lq.length = y := ⟨_, rfl⟩
                have CG : Hid (∀ W, IsLabs W AQ lq → Calls Tryz.prog 17 #[.slice AQ lq.length cq, .string nm] W fun e w' => e = .returned (.string (getL lq nm)) ∧ w' = W) := fun W hW => (rget_labs lq nm AQ cq W (by have := (isSet_iff.1 SQ).2.1; omega) hW).mono fun _ _ h => ⟨h.1, h.2.symm⟩
                have LQ := Lib.hid hlq
                have GI : Hid (((getL lq nm).toList = [] → hasN ((L.map ent).take (q + 1)) nm = hasN ((L.map ent).take q) nm) ∧ (¬ (getL lq nm).toList = [] → hasN ((L.map ent).take (q + 1)) nm = hasN ((L.map ent).take q) nm ++ [iq])) := ⟨fun h => by rw [EQ]; exact hasN_out h, fun h => by rw [EQ]; exact hasN_in h⟩
                obtain ⟨G, hG⟩ : ∃ G, getL lq nm = G := ⟨_, rfl⟩
                rw [hG] at CG GI
                rw [hnq] at CG e1
                have x0 := NK.out _ (B5.out.trans (HQ.out.2.mono B5.out.size))
                have WQ : Hid (IntKind.i64.wrap ((q : Int) + 1) = (q : Int) + 1) := wrap1 (by omega)
                clear hqL eq1 hlq SQ EQ e3 hiq hlq2 hnq hG
                by_cases he : G.toList = []
                · have hed : (G.toList == []) = true := by simp [he]
                  have hed2 : (G.toList != []) = false := by simp [he]
                  have NM := Lib.hid (GI.out.1 he)
                  clear he
                  go_wp2_with fail
                  go_quiet ((go_at_call 17; exact Calls.quiet_of_same (CG.out _ LQ.out)))
                  have I3 : Hid (World.ownsRow (wr.drewN nq) w5.heap.size 3 1 y q2 (zs (hasN ((L.map ent).take (q + 1)) nm)) ∧ Below w5.heap.size w5 (wr.drewN nq)) := ⟨by rw [NM.out]; exact HQ.out.1, below_drewN HQ.out.2 nq⟩
                  clear CG LQ GI NM HQ e0 e1 x0 hed hed2
                  go_wp2_with (rw [WQ.out])
                  go_roundw
                  case rel => exact ⟨_, q + 1, q2, rfl, by omega, by omega, by go_num, I3⟩
                  case measure => simp [intOf]; omega
                · have hed : (G.toList == []) = false := by simp [he]
                  have hed2 : (G.toList != []) = true := by simp [he]
                  have NM := Lib.hid (GI.out.2 he)
                  clear he
                  go_wp2_with fail
                  go_quiet ((go_at_call 17; exact Calls.quiet_of_same (CG.out _ LQ.out)))
                  have I3 : Hid (World.ownsRow (wr.drewN nq) w5.heap.size 3 1 y q2 (zs (hasN ((L.map ent).take q) nm)) ∧ Below w5.heap.size w5 (wr.drewN nq)) := ⟨HQ.out.1, below_drewN HQ.out.2 nq⟩
                  have e0' : (wr.drewN nq).cell? ⟨b, off + q * 3, none⟩ = some (.int .i64 iq) := e0
                  clear CG LQ GI HQ e0 e1 x0 hed hed2
                  generalize wr.drewN nq = wx at I3 e0' ⊢
                  have O1 := Lib.hid (I3.out.1.alloc (.cells #[.int .i64 iq] 3))
                  have B7 : Hid (Below w5.heap.size w5 (wx.alloc (.cells #[.int .i64 iq] 3))) := I3.out.2.alloc I3.out.2.size _
                  have LZ := Lib.hid (lit_z wx iq)
                  clear I3
                  go_wp2_with (at_builtin; refine wpList_appZ rfl _ _ rfl w5.heap.size y q2 _ rfl O1.out (some ⟨wx.heap.size, 0, none⟩) 1 1 [iq] rfl rfl (fun e => by cases e) LZ.out (by omega) B7.out.size ?_; intro v6 w6 o6 g6)
                  have I6 : Hid (World.ownsRow w6 w5.heap.size 3 1 v6 (q2 + 1) (zs (hasN ((L.map ent).take (q + 1)) nm)) ∧ Below w5.heap.size w5 w6) := ⟨by rw [NM.out]; exact o6, B7.out.grown g6 B7.out.size (fun q hq => own_geZ O1.out q hq)⟩
                  clear o6 g6 O1 B7 LZ e0' NM
                  go_wp2_with (rw [WQ.out])
                  go_roundw
                  case rel => exact ⟨_, q + 1, q2 + 1, rfl, by omega, by omega, by go_num, I6⟩
                  case measure => simp [intOf]; omega
              · obtain rfl : q = nL := by omega
                have hqz : ¬ (q : Int) < (q : Int) := by omega
                obtain ⟨A7, c7, rfl, s7⟩ := GaveZ.of_own (K := 1000) HQ.out.1 (by omega) (by omega)
                have ER : (L.map ent).take q = L.map ent := List.take_of_length_le (by rw [List.length_map, LN.out]; exact Nat.le_refl _)
                rw [ER] at s7
                have C7 := Lib.hid (rising_s s7)
                have BQ := Lib.hid HQ.out.2
                clear s7 HQ ER
                go_wp2_with fail
                refine C7.out.mono ?_
                rintro e w6 ⟨o6, A6, n6, c6, rfl, r6, s6, bb⟩
                have B6 : Hid (Below w5.heap.size w5 w6) := BQ.out.trans (bb.mono BQ.out.size)
                have CS := Lib.hid (same_s true (SO.out.below B6.out) s6 (decide_eq_true (RO.out.eq r6 fun _ => Iff.rfl)))
                clear s6 r6 bb C7 BQ
                go_wp2_with fail
                refine CS.out.mono ?_
                rintro e w8 ⟨rfl, bb⟩
                have B8 : Hid (Below w2.heap.size w2 w8) := B5.out.trans ((B6.out.trans (bb.mono B6.out.size)).mono B5.out.size)
                have Z : Hid (ValsI (L.map ent) (k + 1) m2 F2) := HM2.out ▸ V2.out
                clear bb CS B6 V2
                go_wp2_with (rw [WK.out])
                go_roundw
                case rel => exact ⟨k + 1, m2, F2, by omega, rfl, by go_num, Z.out, B8.out⟩
                case measure => simp [intOf]; omega
      · obtain rfl : k = 6 := by omega
        have hkz : ¬ ((6 : Nat) : Int) < 6 := by omega
        have IE := Lib.hid (I2.out.below HI.out.2)
        have BE : Hid (Below w.heap.size w wr) := B2.out.trans (HI.out.2.mono B2.out.size)
        have CL := ilen_any IE.out F HI.out.1.nd fun y => (HI.out.1.mem y).trans ⟨fun h => h.2, fun h => ⟨by
          obtain ⟨p, hp, hy⟩ := who_ne.1 h
          obtain ⟨p', hp', e⟩ := List.mem_map.1 hp
          have e2 : p'.2.2 = p.2 := congrArg Prod.snd e
          exact nms_in (nm5_mem (OK.out p' hp' y (by rw [e2]; exact hy)).1), h⟩⟩
        rw [HI.out.1.len] at CL
        have CLH := Lib.hid CL
        have CR := Lib.hid (runs10_any (HT.out.below BE.out))
        clear HI CL OK I2 R2 B2
        go_wp2_with fail
        refine CLH.out.mono ?_
        rintro e w' ⟨rfl, rfl⟩
        clear CLH
        go_wp2_with fail
        refine CR.out.mono ?_
        rintro e w7 ⟨rfl, bb⟩
        have B7 : Hid (Below w.heap.size w w7) := BE.out.trans (bb.mono BE.out.size)
        clear bb CR
        go_wp2
        go_ret
        exact ⟨rfl, B7.out⟩
end Go.Proofs.YtlfcjjlgkcfkdaaGreatDoor
