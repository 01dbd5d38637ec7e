/-
  IndexRaw as a contract. Conditions: the library's table lies in its variable.
-/
import Derived.Test.YtlfcjjlgkcfkdaaGreatDoorDr
import Derived.Test.YtlfcjjlgkcfkdaaGreatDoorY04
namespace Go.Proofs.YtlfcjjlgkcfkdaaGreatDoor
open Go.RowKit Go.Maps Go.Sort La

theorem who_one {id : Int} {ls : List Lab} (y : Lab) : y ∈ ls ↔ who [(id, ls)] y ≠ [] := by
  rw [who_ne]
  constructor
  · intro h; exact ⟨(id, ls), by simp, h⟩
  · rintro ⟨p, hp, h⟩
    obtain rfl : p = (id, ls) := by simpa using hp
    exact h
theorem set_nodup2 {ls : List Lab} (h : isSet ls = true) : ls.Nodup := (set_pw h).imp fun {a b} hab e => by
  rw [e, lt_irrefl] at hab
  cases hab
theorem rise_nil2 {w : World} {l out : List Int} {A : Option Addr} {n c K : Nat} (h : IsRise l out) (s : SlZ w out A n c K) (hn : ∀ z, ¬ z ∈ l) : n = 0 := by
  have := h.nil_of hn
  have h2 := s.len
  rw [this] at h2
  exact h2.symm
theorem rise_one {w : World} {id : Int} {out : List Int} {A : Option Addr} {n c K : Nat} (h : IsRise [id] out) (s : SlZ w out A n c K) : n = 1 := by
  have e := h.eq (IsRise.self (List.pairwise_singleton _ _)) fun _ => Iff.rfl
  have h2 := s.len
  rw [e] at h2
  exact h2.symm
set_option maxRecDepth 100000 in
set_option maxHeartbeats 8000000 in
theorem raw10_law {w : World} (id : Int) (hid : (Lit.int .i64 id).wf = true) (ls : List Lab) (A : Option Addr) (nl cl : Nat) (hn : ls.length = nl) (hA : A = none → cl = 0) (hl : IsLabs w A ls) (t : Mat) (hT : DTab w) :
    Calls Tryz.prog 8 #[.int .i64 id, .slice A nl cl, (.agg #[.int .i64 t.k, .string t.n, .string t.v])] w fun e w' => e = .returned (.bool true) ∧ Below w.heap.size w w' := by
  have QB : Below w.heap.size w (w.alloc (.cells #[.int .i64 t.k, .string t.n, .string t.v] 32)) := (Below.refl _ _).alloc (Nat.le_refl _) _
  have hb : (w.alloc (.cells #[.int .i64 t.k, .string t.n, .string t.v] 32)).heap[w.heap.size]? = some (.cells #[.int .i64 t.k, .string t.n, .string t.v] 32 (0, 0)) := World.alloc_heap_new w _
  have SZ : (w.alloc (.cells #[.int .i64 t.k, .string t.n, .string t.v] 32)).heap.size = w.heap.size + 1 := by simp
  have BOX : Hid (∀ W, Below (w.alloc (.cells #[.int .i64 t.k, .string t.n, .string t.v] 32)).heap.size (w.alloc (.cells #[.int .i64 t.k, .string t.n, .string t.v] 32)) W → W.cell? ⟨w.heap.size, 0, none⟩ = some (.int .i64 t.k) ∧ W.cell? ⟨w.heap.size, 1, none⟩ = some (.string t.n) ∧ W.cell? ⟨w.heap.size, 2, none⟩ = some (.string t.v)) := fun W hW =>
    ⟨(hW.cell (p := ⟨_, 0, none⟩) (by rw [SZ]; exact Nat.lt_succ_self _)).trans (row_cell hb rfl), (hW.cell (p := ⟨_, 1, none⟩) (by rw [SZ]; exact Nat.lt_succ_self _)).trans (row_cell hb rfl), (hW.cell (p := ⟨_, 2, none⟩) (by rw [SZ]; exact Nat.lt_succ_self _)).trans (row_cell hb rfl)⟩
  have C0 := weight2_any ls A cl (w.alloc (.cells #[.int .i64 t.k, .string t.n, .string t.v] 32)) (hl.below QB)
  rw [hn] at C0
  have CW := Lib.hid C0
  have L0 := Lib.hid (hl.below QB)
  have HT := Lib.hid hT
  have BQ := Lib.hid QB
  have LN := Lib.hid hn
  have HA := Lib.hid hA
  have WF := Lib.hid hid
  obtain ⟨w0, hw0⟩ : ∃ w0, w.alloc (.cells #[.int .i64 t.k, .string t.n, .string t.v] 32) = w0 := ⟨_, rfl⟩
  rw [hw0] at BOX CW L0 BQ
  obtain ⟨pb, hpb⟩ : ∃ p, w.heap.size = p := ⟨_, rfl⟩
  rw [hpb] at BOX
  clear C0 QB hb SZ hl hT hn hA hid
  go_enter Tryz.func8, Tryz.ntmps8
  go_wp2_with fail
  refine CW.out.mono ?_
  rintro e w1 ⟨⟨r, rfl, hr⟩, bb⟩
  have FW := Lib.hid hr
  have B1 := Lib.hid bb
  have BW1 : Hid (Below w.heap.size w w1) := BQ.out.trans (bb.mono BQ.out.size)
  have L1 := Lib.hid (L0.out.below bb)
  clear hw0 hr bb CW L0
  by_cases hr2 : 200 < r
  · have hrd : decide ((r : Int) > 200) = true := decide_eq_true (by omega)
    have C := Lib.hid (runs10_any (HT.out.below BW1.out))
    go_wp2_with fail
    refine C.out.mono ?_
    rintro e w2 ⟨rfl, bb⟩
    have Q : Hid (Below w.heap.size w w2) := BW1.out.trans (bb.mono BW1.out.size)
    clear bb C
    go_wp2
    go_ret
    exact ⟨rfl, Q.out⟩
  · have hrd : decide ((r : Int) > 200) = false := decide_eq_false (by omega)
    obtain ⟨q0, q1, q2⟩ := BOX.out _ B1.out
    have bl : Below w1.heap.size w1 (w1.alloc (.cells #[.int .i64 t.k, .string t.n, .string t.v] 32)) := (Below.refl _ _).alloc (Nat.le_refl _) _
    have CM : Hid (Calls Tryz.prog 27 #[.slice (some ⟨w1.heap.size, 0, none⟩) 1 1, .int .i64 60] (w1.alloc (.cells #[.int .i64 t.k, .string t.n, .string t.v] 32)) fun e w' => (∃ r : Nat, e = .returned (.int .i64 (r : Int)) ∧ (r ≤ 60 → FewB [t])) ∧ Below (w1.alloc (.cells #[.int .i64 t.k, .string t.n, .string t.v] 32)).heap.size (w1.alloc (.cells #[.int .i64 t.k, .string t.n, .string t.v] 32)) w') := mweight2_any [t] _ 1 _ (lit_mat w1 t)
    have FW2 : Hid (FewA ls) := FW.out (by omega)
    have B1a : Hid (Below w0.heap.size w0 (w1.alloc (.cells #[.int .i64 t.k, .string t.n, .string t.v] 32))) := B1.out.trans (bl.mono B1.out.size)
    have BW1a : Hid (Below w.heap.size w (w1.alloc (.cells #[.int .i64 t.k, .string t.n, .string t.v] 32))) := BW1.out.trans (bl.mono BW1.out.size)
    have L1a := Lib.hid (L1.out.below bl)
    clear bl FW B1 BW1 L1 BQ
    go_wp2_with fail
    refine CM.out.mono ?_
    rintro e w2 ⟨⟨r2, rfl, hr2'⟩, bb⟩
    have FM := Lib.hid hr2'
    have B2 : Hid (Below w0.heap.size w0 w2) := B1a.out.trans (bb.mono B1a.out.size)
    have BW2 : Hid (Below w.heap.size w w2) := BW1a.out.trans (bb.mono BW1a.out.size)
    have L2 := Lib.hid (L1a.out.below bb)
    clear hr2' bb CM B1a BW1a L1a q0 q1 q2
    by_cases hr3 : 60 < r2
    · have hrd3 : decide ((r2 : Int) > 60) = true := decide_eq_true (by omega)
      have C := Lib.hid (runs10_any (HT.out.below BW2.out))
      go_wp2_with fail
      refine C.out.mono ?_
      rintro e w3 ⟨rfl, bb⟩
      have Q : Hid (Below w.heap.size w w3) := BW2.out.trans (bb.mono BW2.out.size)
      clear bb C
      go_wp2
      go_ret
      exact ⟨rfl, Q.out⟩
    · have hrd3 : decide ((r2 : Int) > 60) = false := decide_eq_false (by omega)
      have SM : Hid (SmallM [t]) := (FM.out (by omega)).small
      have MB : Hid (∀ W, Below w2.heap.size w2 W → W.cell? ⟨pb, 0, none⟩ = some (.int .i64 t.k) ∧ W.cell? ⟨pb, 1, none⟩ = some (.string t.n) ∧ W.cell? ⟨pb, 2, none⟩ = some (.string t.v)) := fun W hW => BOX.out W (B2.out.trans (hW.mono B2.out.size))
      have CN := Lib.hid (inew_any w2)
      clear FM BOX B2
      go_wp2_with fail
      refine CN.out.mono ?_
      rintro e w3 ⟨x, b1, b2, rfl, i3, ⟨_, bb1, bb2⟩, bb⟩
      have BB : Hid (w2.heap.size ≤ b1 ∧ w2.heap.size ≤ b2) := ⟨bb1, bb2⟩
      have B3 := Lib.hid bb
      have hl3 : ls.length ≤ 300 := FW2.out.1
      have CA := Lib.hid (iadd_any i3 id ls A nl cl WF.out LN.out (by have := LN.out; omega) FW2.out.small HA.out (L2.out.below bb) (by decide) (by omega))
      clear i3 bb1 bb2 bb CN
      go_wp2_with fail
      refine CA.out.mono ?_
      rintro e w4 ⟨ok, rfl, hok, i4, t4⟩
      have B4 : Hid (Below w2.heap.size w2 w4) := B3.out.trans (idx_below t4 BB.out B3.out.size)
      have CI := isset_any ls A cl w4 (by omega) FW2.out.small (L2.out.below B4.out)
      rw [LN.out] at CI
      clear t4 CA B3
      cases ok
      · have NS : isSet ls = false := by
          cases hs : isSet ls
          · rfl
          · exact absurd (hok.2 ⟨hs, by simp⟩) (by simp)
        rw [NS] at CI
        have CIH := Lib.hid CI
        have I4 : Hid (IdxAt w4 x b1 b2 7 []) := i4
        clear CI hok i4 NS
        go_wp2_with fail
        refine CIH.out.mono ?_
        rintro e w5 ⟨rfl, bb⟩
        have I5 := Lib.hid (I4.out.below bb)
        have B5 : Hid (Below w2.heap.size w2 w5) := B4.out.trans (bb.mono B4.out.size)
        have CD := Lib.hid (iids_any I5.out)
        clear bb CIH I4 B4
        go_wp2_with fail
        refine CD.out.mono ?_
        rintro e w6 ⟨o6, A6, n6, c6, rfl, r6, s6, bb⟩
        obtain rfl : n6 = 0 := rise_nil2 r6 s6 (by simp)
        have I6 := Lib.hid (I5.out.below bb)
        have B6 : Hid (Below w2.heap.size w2 w6) := B5.out.trans (bb.mono B5.out.size)
        have CL := Lib.hid (ilen_any I6.out [] List.nodup_nil (fun y => by simp [who]))
        clear r6 s6 bb CD I5 B5
        go_wp2_with fail
        refine CL.out.mono ?_
        rintro e w' ⟨rfl, hw'⟩
        have hw2 := hw'.symm
        subst hw2
        clear CL
        obtain ⟨L, hL⟩ : ∃ L : List AltC, L = [] := ⟨_, rfl⟩
        have I : Hid (IdxAt w6 x b1 b2 7 (L.map ent)) := by rw [hL]; exact I6.out
        have RL : Hid (AltsR w6 none 0 0 L) := by rw [hL]; exact ⟨rfl, fun _ => rfl, RowIs.nil _ _, fun p hp => by cases hp⟩
        have HI : Hid (∀ q : Bool, (q = true ↔ id ∈ (L.map ent).map Prod.fst) → q = false) := fun q hq => by
          rw [hL] at hq
          cases q
          · rfl
          · exact absurd (hq.1 rfl) (by simp)
        have EL : Hid (less (L.map ent) id = []) := by rw [hL]; rfl
        have WT : Hid (Below w2.heap.size w2 w6 ∧ Below w.heap.size w w6) := ⟨B6.out, BW2.out.trans (B6.out.mono BW2.out.size)⟩
        obtain ⟨wt, hwt⟩ : ∃ wt, w6 = wt := ⟨_, rfl⟩
        obtain ⟨A9, hA9⟩ : ∃ A9 : Option Addr, none = A9 := ⟨_, rfl⟩
        rw [hwt] at I RL WT
        rw [hA9] at RL
        rw [hwt]
        clear hL I6 B6 hwt
        go_wp2_with fail
        rw [hA9]
        clear hA9
        have MBT : Hid (∀ W, Below wt.heap.size wt W → W.cell? ⟨pb, 0, none⟩ = some (.int .i64 t.k) ∧ W.cell? ⟨pb, 1, none⟩ = some (.string t.n) ∧ W.cell? ⟨pb, 2, none⟩ = some (.string t.v)) := fun W hW => MB.out W (WT.out.1.trans (hW.mono WT.out.1.size))
        have TT : Hid (∀ W, Below wt.heap.size wt W → DTab W) := fun W hW => HT.out.below (WT.out.2.trans (hW.mono WT.out.2.size))
        have CF : Hid (∀ (W : World) (g : Nat), Below wt.heap.size wt W → IsMats W (some ⟨g, 0, none⟩) [t] → Calls Tryz.prog 12 #[.pointer (some ⟨x, 0, none⟩), .slice (some ⟨g, 0, none⟩) 1 1] W (GaveZ W (IsRise (found (L.map ent) [t])) 1000)) := fun W g hW hm => ifind_any (I.out.below hW) [t] (some ⟨g, 0, none⟩) 1 1 rfl (by omega) SM.out hm (TT.out W hW)
        have CT : Hid (∀ (W : World) (g : Nat), Below wt.heap.size wt W → IsMats W (some ⟨g, 0, none⟩) [t] → Calls Tryz.prog 24 #[(.slice A9 0 0), .slice (some ⟨g, 0, none⟩) 1 1] W (GaveZ W (IsRise (found (L.map ent) [t])) 1000)) := fun W g hW hm => those_any (RL.out.below hW) (by omega) (alts_sizes I.out) [t] (some ⟨g, 0, none⟩) 1 1 rfl (by omega) SM.out hm
        have bA : Below wt.heap.size wt (wt.drew.alloc (.cells #[.int .i64 t.k, .string t.n, .string t.v] 32)) := ((Below.refl _ _).drew).alloc (Nat.le_refl _) _
        have lA : IsMats (wt.drew.alloc (.cells #[.int .i64 t.k, .string t.n, .string t.v] 32)) (some ⟨wt.heap.size, 0, none⟩) [t] := lit_mat wt.drew t
        have bAA : Below (wt.drew.alloc (.cells #[.int .i64 t.k, .string t.n, .string t.v] 32)).heap.size (wt.drew.alloc (.cells #[.int .i64 t.k, .string t.n, .string t.v] 32)) ((wt.drew.alloc (.cells #[.int .i64 t.k, .string t.n, .string t.v] 32)).alloc (.cells #[.int .i64 t.k, .string t.n, .string t.v] 32)) := (Below.refl _ _).alloc (Nat.le_refl _) _
        have bB : Below wt.heap.size wt ((wt.drew.alloc (.cells #[.int .i64 t.k, .string t.n, .string t.v] 32)).alloc (.cells #[.int .i64 t.k, .string t.n, .string t.v] 32)) := bA.trans (bAA.mono bA.size)
        have hszA : (wt.drew.alloc (.cells #[.int .i64 t.k, .string t.n, .string t.v] 32)).heap.size = wt.heap.size + 1 := by simp
        have lB : IsMats ((wt.drew.alloc (.cells #[.int .i64 t.k, .string t.n, .string t.v] 32)).alloc (.cells #[.int .i64 t.k, .string t.n, .string t.v] 32)) (some ⟨wt.heap.size + 1, 0, none⟩) [t] := by
          have := lit_mat (wt.drew.alloc (.cells #[.int .i64 t.k, .string t.n, .string t.v] 32)) t
          rw [hszA] at this
          exact this
        have lAB : IsMats ((wt.drew.alloc (.cells #[.int .i64 t.k, .string t.n, .string t.v] 32)).alloc (.cells #[.int .i64 t.k, .string t.n, .string t.v] 32)) (some ⟨wt.heap.size, 0, none⟩) [t] := lA.below bAA
        refine wp_region_held_drew (S := fun W => Below wt.heap.size wt W) (by kernel_rfl) ((Below.refl _ _).drew) (fun hHeld => ?_)
        refine held_take 0 65 (v := (.pointer (some ⟨x, 0, none⟩))) rfl rfl (by kernel_rfl) (by kernel_rfl) (by kernel_rfl) (by rfl) (fun _ _ _ h => h) (by assumption) ?_ ?_
        · intro W hW
          go_simp
        simp only [List.setIfInBounds_toArray, List.set_cons_zero, List.set_cons_succ]
        refine held_take 1 66 (v := (.agg #[.int .i64 t.k, .string t.n, .string t.v])) rfl rfl (by kernel_rfl) (by kernel_rfl) (by kernel_rfl) (by rfl) (fun _ _ _ h => h) (by assumption) ?_ ?_
        · intro W hW
          obtain ⟨q0, q1, q2⟩ := MBT.out W hW
          go_simp
        simp only [List.setIfInBounds_toArray, List.set_cons_zero, List.set_cons_succ]
        refine held_take 4 69 (v := (.slice A9 0 0)) rfl rfl (by kernel_rfl) (by kernel_rfl) (by kernel_rfl) (by rfl) (fun _ _ _ h => h) (by assumption) ?_ ?_
        · intro W hW
          go_simp
        simp only [List.setIfInBounds_toArray, List.set_cons_zero, List.set_cons_succ]
        refine held_take 5 70 (v := (.agg #[.int .i64 t.k, .string t.n, .string t.v])) rfl rfl (by kernel_rfl) (by kernel_rfl) (by kernel_rfl) (by rfl) (fun _ _ _ h => h) (by assumption) ?_ ?_
        · intro W hW
          obtain ⟨q0, q1, q2⟩ := MBT.out W hW
          go_simp
        simp only [List.setIfInBounds_toArray, List.set_cons_zero, List.set_cons_succ]
        refine held_two 2 6 rfl rfl (by kernel_rfl) (by rfl) (by rfl) ?_ ?_
        · refine wp_run (v := .slice (some ⟨wt.heap.size, 0, none⟩) 1 1) (w' := (wt.drew.alloc (.cells #[.int .i64 t.k, .string t.n, .string t.v] 32))) rfl (by go_simp) ⟨bA, ?_⟩
          simp only [List.setIfInBounds_toArray, List.set_cons_zero, List.set_cons_succ]
          refine held_two 3 6 rfl rfl (by kernel_rfl) (by rfl) (by rfl) ?_ ?_
          · refine wp_call (f := 12) (args := #[.pointer (some ⟨x, 0, none⟩), .slice (some ⟨wt.heap.size, 0, none⟩) 1 1]) rfl (by go_simp) ?_
            refine (CF.out (wt.drew.alloc (.cells #[.int .i64 t.k, .string t.n, .string t.v] 32)) wt.heap.size bA lA).mono ?_
            rintro e u1 ⟨p1, F1, f1, fc1, rfl, r1, s1, bb1⟩
            have d1 : Below wt.heap.size wt u1 := bA.trans (bb1.mono bA.size)
            refine ⟨_, rfl, d1, ?_⟩
            simp only [List.setIfInBounds_toArray, List.set_cons_zero, List.set_cons_succ]
            have bU : Below u1.heap.size u1 (u1.alloc (.cells #[.int .i64 t.k, .string t.n, .string t.v] 32)) := (Below.refl _ _).alloc (Nat.le_refl _) _
            have dU : Below wt.heap.size wt (u1.alloc (.cells #[.int .i64 t.k, .string t.n, .string t.v] 32)) := d1.trans (bU.mono d1.size)
            have lU : IsMats (u1.alloc (.cells #[.int .i64 t.k, .string t.n, .string t.v] 32)) (some ⟨u1.heap.size, 0, none⟩) [t] := lit_mat u1 t
            refine held_op 6 rfl (by kernel_rfl) (by rfl) ?_
            refine wp_run (v := .slice (some ⟨u1.heap.size, 0, none⟩) 1 1) (w' := (u1.alloc (.cells #[.int .i64 t.k, .string t.n, .string t.v] 32))) rfl (by go_simp) ⟨dU, ?_⟩
            simp only [List.setIfInBounds_toArray, List.set_cons_zero, List.set_cons_succ]
            refine held_call 7 72 (f := 24) (args := #[(.slice A9 0 0), .slice (some ⟨u1.heap.size, 0, none⟩) 1 1]) rfl rfl (by kernel_rfl) (by rfl) (by go_simp) ?_
            refine (CT.out (u1.alloc (.cells #[.int .i64 t.k, .string t.n, .string t.v] 32)) u1.heap.size dU lU).mono ?_
            rintro e u2 ⟨p2, F2, f2, fc2, rfl, r2, s2, bb2⟩
            have d2 : Below wt.heap.size wt u2 := dU.trans (bb2.mono dU.size)
            refine ⟨_, rfl, d2, ?_⟩
            simp only [List.setIfInBounds_toArray, List.set_cons_zero, List.set_cons_succ]
            refine held_call 8 73 (f := 11) (args := #[.slice F1 f1 fc1, .slice F2 f2 fc2]) rfl rfl (by kernel_rfl) (by rfl) (by go_simp) ?_
            refine (same_s true ((s1.below bU).below bb2) s2 (decide_eq_true (r1.eq r2 fun _ => Iff.rfl))).mono ?_
            rintro e u3 ⟨rfl, bb3⟩
            have d3 : Below wt.heap.size wt u3 := d2.trans (bb3.mono d2.size)
            refine ⟨_, rfl, d3, ?_⟩
            simp only [List.setIfInBounds_toArray, List.set_cons_zero, List.set_cons_succ]
            refine held_take 9 74 (v := (.bool false)) rfl rfl (by kernel_rfl) (by kernel_rfl) (by kernel_rfl) (by rfl) (fun _ _ _ h => h) (by assumption) ?_ ?_
            · intro W hW
              go_simp
            simp only [List.setIfInBounds_toArray, List.set_cons_zero, List.set_cons_succ]
            refine wpAnyH_done (by kernel_rfl) ?_ _
            have I7 := Lib.hid (I.out.below d3)
            have W7 : Hid (Below w2.heap.size w2 u3 ∧ Below w.heap.size w u3) := ⟨WT.out.1.trans (d3.mono WT.out.1.size), WT.out.2.trans (d3.mono WT.out.2.size)⟩
            have CD := Lib.hid (idrop_any I7.out id WF.out (by omega))
            clear r1 s1 bb1 d1 r2 s2 bb2 d2 bb3 d3 hHeld bA lA bAA bB hszA lB lAB CF CT TT MBT I RL WT
            rename World => u3
            go_wp2_with fail
            refine CD.out.mono ?_
            rintro e v1 ⟨ok2, rfl, hok2, i8, t8⟩
            obtain rfl : ok2 = false := HI.out _ hok2
            rw [EL.out] at i8
            have I8 : Hid (IdxAt v1 x b1 b2 14 []) := i8
            have tb := idx_below t8 (base := w2.heap.size) BB.out W7.out.1.size
            have W8 : Hid (Below w2.heap.size w2 v1) := W7.out.1.trans tb
            clear hok2 i8 t8 tb CD I7 W7 EL HI
            have CD := Lib.hid (idrop_any I8.out id WF.out (by omega))
            go_wp2_with fail
            refine CD.out.mono ?_
            rintro e v2 ⟨ok3, rfl, hok3, i9, t9⟩
            obtain rfl : ok3 = false := by
              cases ok3
              · rfl
              · exact absurd (hok3.1 rfl) (by simp)
            have I9 : Hid (IdxAt v2 x b1 b2 21 []) := i9
            have tb := idx_below t9 (base := w2.heap.size) BB.out W8.out.size
            have W9 : Hid (Below w2.heap.size w2 v2) := W8.out.trans tb
            have CL := Lib.hid (ilen_any I9.out [] List.nodup_nil (fun y => by simp [who]))
            have CD2 := Lib.hid (iids_any I9.out)
            clear hok3 i9 t9 tb CD I8 W8
            go_wp2_with fail
            refine CL.out.mono ?_
            rintro e w' ⟨rfl, rfl⟩
            clear CL
            go_wp2_with fail
            refine CD2.out.mono ?_
            rintro e v3 ⟨o6, A6, n6, c6, rfl, r6, s6, bb⟩
            obtain rfl : n6 = 0 := rise_nil2 r6 s6 (by simp)
            have WE : Hid (Below w.heap.size w v3) := BW2.out.trans ((W9.out.trans (bb.mono W9.out.size)).mono BW2.out.size)
            have CR := Lib.hid (runs10_any (HT.out.below WE.out))
            clear r6 s6 bb CD2 I9 W9
            go_wp2_with fail
            refine CR.out.mono ?_
            rintro e v4 ⟨rfl, bb⟩
            have Q : Hid (Below w.heap.size w v4) := WE.out.trans (bb.mono WE.out.size)
            clear bb CR
            go_wp2
            go_ret
            exact ⟨rfl, Q.out⟩
          · refine wp_run (v := .slice (some ⟨wt.heap.size + 1, 0, none⟩) 1 1) (w' := ((wt.drew.alloc (.cells #[.int .i64 t.k, .string t.n, .string t.v] 32)).alloc (.cells #[.int .i64 t.k, .string t.n, .string t.v] 32))) rfl (by go_simp) ⟨bB, ?_⟩
            simp only [List.setIfInBounds_toArray, List.set_cons_zero, List.set_cons_succ]
            refine held_call 3 68 (f := 12) (args := #[.pointer (some ⟨x, 0, none⟩), .slice (some ⟨wt.heap.size, 0, none⟩) 1 1]) rfl rfl (by kernel_rfl) (by rfl) (by go_simp) ?_
            refine (CF.out ((wt.drew.alloc (.cells #[.int .i64 t.k, .string t.n, .string t.v] 32)).alloc (.cells #[.int .i64 t.k, .string t.n, .string t.v] 32)) wt.heap.size bB lAB).mono ?_
            rintro e u1 ⟨p1, F1, f1, fc1, rfl, r1, s1, bb1⟩
            have d1 : Below wt.heap.size wt u1 := bB.trans (bb1.mono bB.size)
            refine ⟨_, rfl, d1, ?_⟩
            simp only [List.setIfInBounds_toArray, List.set_cons_zero, List.set_cons_succ]
            refine held_call 7 72 (f := 24) (args := #[(.slice A9 0 0), .slice (some ⟨wt.heap.size + 1, 0, none⟩) 1 1]) rfl rfl (by kernel_rfl) (by rfl) (by go_simp) ?_
            refine (CT.out u1 (wt.heap.size + 1) d1 (lB.below bb1)).mono ?_
            rintro e u2 ⟨p2, F2, f2, fc2, rfl, r2, s2, bb2⟩
            have d2 : Below wt.heap.size wt u2 := d1.trans (bb2.mono d1.size)
            refine ⟨_, rfl, d2, ?_⟩
            simp only [List.setIfInBounds_toArray, List.set_cons_zero, List.set_cons_succ]
            refine held_call 8 73 (f := 11) (args := #[.slice F1 f1 fc1, .slice F2 f2 fc2]) rfl rfl (by kernel_rfl) (by rfl) (by go_simp) ?_
            refine (same_s true (s1.below bb2) s2 (decide_eq_true (r1.eq r2 fun _ => Iff.rfl))).mono ?_
            rintro e u3 ⟨rfl, bb3⟩
            have d3 : Below wt.heap.size wt u3 := d2.trans (bb3.mono d2.size)
            refine ⟨_, rfl, d3, ?_⟩
            simp only [List.setIfInBounds_toArray, List.set_cons_zero, List.set_cons_succ]
            refine held_take 9 74 (v := (.bool false)) rfl rfl (by kernel_rfl) (by kernel_rfl) (by kernel_rfl) (by rfl) (fun _ _ _ h => h) (by assumption) ?_ ?_
            · intro W hW
              go_simp
            simp only [List.setIfInBounds_toArray, List.set_cons_zero, List.set_cons_succ]
            refine wpAnyH_done (by kernel_rfl) ?_ _
            have I7 := Lib.hid (I.out.below d3)
            have W7 : Hid (Below w2.heap.size w2 u3 ∧ Below w.heap.size w u3) := ⟨WT.out.1.trans (d3.mono WT.out.1.size), WT.out.2.trans (d3.mono WT.out.2.size)⟩
            have CD := Lib.hid (idrop_any I7.out id WF.out (by omega))
            clear r1 s1 bb1 d1 r2 s2 bb2 d2 bb3 d3 hHeld bA lA bAA bB hszA lB lAB CF CT TT MBT I RL WT
            rename World => u3
            go_wp2_with fail
            refine CD.out.mono ?_
            rintro e v1 ⟨ok2, rfl, hok2, i8, t8⟩
            obtain rfl : ok2 = false := HI.out _ hok2
            rw [EL.out] at i8
            have I8 : Hid (IdxAt v1 x b1 b2 14 []) := i8
            have tb := idx_below t8 (base := w2.heap.size) BB.out W7.out.1.size
            have W8 : Hid (Below w2.heap.size w2 v1) := W7.out.1.trans tb
            clear hok2 i8 t8 tb CD I7 W7 EL HI
            have CD := Lib.hid (idrop_any I8.out id WF.out (by omega))
            go_wp2_with fail
            refine CD.out.mono ?_
            rintro e v2 ⟨ok3, rfl, hok3, i9, t9⟩
            obtain rfl : ok3 = false := by
              cases ok3
              · rfl
              · exact absurd (hok3.1 rfl) (by simp)
            have I9 : Hid (IdxAt v2 x b1 b2 21 []) := i9
            have tb := idx_below t9 (base := w2.heap.size) BB.out W8.out.size
            have W9 : Hid (Below w2.heap.size w2 v2) := W8.out.trans tb
            have CL := Lib.hid (ilen_any I9.out [] List.nodup_nil (fun y => by simp [who]))
            have CD2 := Lib.hid (iids_any I9.out)
            clear hok3 i9 t9 tb CD I8 W8
            go_wp2_with fail
            refine CL.out.mono ?_
            rintro e w' ⟨rfl, rfl⟩
            clear CL
            go_wp2_with fail
            refine CD2.out.mono ?_
            rintro e v3 ⟨o6, A6, n6, c6, rfl, r6, s6, bb⟩
            obtain rfl : n6 = 0 := rise_nil2 r6 s6 (by simp)
            have WE : Hid (Below w.heap.size w v3) := BW2.out.trans ((W9.out.trans (bb.mono W9.out.size)).mono BW2.out.size)
            have CR := Lib.hid (runs10_any (HT.out.below WE.out))
            clear r6 s6 bb CD2 I9 W9
            go_wp2_with fail
            refine CR.out.mono ?_
            rintro e v4 ⟨rfl, bb⟩
            have Q : Hid (Below w.heap.size w v4) := WE.out.trans (bb.mono WE.out.size)
            clear bb CR
            go_wp2
            go_ret
            exact ⟨rfl, Q.out⟩
        · refine wp_run (v := .slice (some ⟨wt.heap.size, 0, none⟩) 1 1) (w' := (wt.drew.alloc (.cells #[.int .i64 t.k, .string t.n, .string t.v] 32))) rfl (by go_simp) ⟨bA, ?_⟩
          simp only [List.setIfInBounds_toArray, List.set_cons_zero, List.set_cons_succ]
          refine held_op 2 rfl (by kernel_rfl) (by rfl) ?_
          refine wp_run (v := .slice (some ⟨wt.heap.size + 1, 0, none⟩) 1 1) (w' := ((wt.drew.alloc (.cells #[.int .i64 t.k, .string t.n, .string t.v] 32)).alloc (.cells #[.int .i64 t.k, .string t.n, .string t.v] 32))) rfl (by go_simp) ⟨bB, ?_⟩
          simp only [List.setIfInBounds_toArray, List.set_cons_zero, List.set_cons_succ]
          refine held_call 3 68 (f := 12) (args := #[.pointer (some ⟨x, 0, none⟩), .slice (some ⟨wt.heap.size + 1, 0, none⟩) 1 1]) rfl rfl (by kernel_rfl) (by rfl) (by go_simp) ?_
          refine (CF.out ((wt.drew.alloc (.cells #[.int .i64 t.k, .string t.n, .string t.v] 32)).alloc (.cells #[.int .i64 t.k, .string t.n, .string t.v] 32)) (wt.heap.size + 1) bB lB).mono ?_
          rintro e u1 ⟨p1, F1, f1, fc1, rfl, r1, s1, bb1⟩
          have d1 : Below wt.heap.size wt u1 := bB.trans (bb1.mono bB.size)
          refine ⟨_, rfl, d1, ?_⟩
          simp only [List.setIfInBounds_toArray, List.set_cons_zero, List.set_cons_succ]
          refine held_call 7 72 (f := 24) (args := #[(.slice A9 0 0), .slice (some ⟨wt.heap.size, 0, none⟩) 1 1]) rfl rfl (by kernel_rfl) (by rfl) (by go_simp) ?_
          refine (CT.out u1 wt.heap.size d1 (lAB.below bb1)).mono ?_
          rintro e u2 ⟨p2, F2, f2, fc2, rfl, r2, s2, bb2⟩
          have d2 : Below wt.heap.size wt u2 := d1.trans (bb2.mono d1.size)
          refine ⟨_, rfl, d2, ?_⟩
          simp only [List.setIfInBounds_toArray, List.set_cons_zero, List.set_cons_succ]
          refine held_call 8 73 (f := 11) (args := #[.slice F1 f1 fc1, .slice F2 f2 fc2]) rfl rfl (by kernel_rfl) (by rfl) (by go_simp) ?_
          refine (same_s true (s1.below bb2) s2 (decide_eq_true (r1.eq r2 fun _ => Iff.rfl))).mono ?_
          rintro e u3 ⟨rfl, bb3⟩
          have d3 : Below wt.heap.size wt u3 := d2.trans (bb3.mono d2.size)
          refine ⟨_, rfl, d3, ?_⟩
          simp only [List.setIfInBounds_toArray, List.set_cons_zero, List.set_cons_succ]
          refine held_take 9 74 (v := (.bool false)) rfl rfl (by kernel_rfl) (by kernel_rfl) (by kernel_rfl) (by rfl) (fun _ _ _ h => h) (by assumption) ?_ ?_
          · intro W hW
            go_simp
          simp only [List.setIfInBounds_toArray, List.set_cons_zero, List.set_cons_succ]
          refine wpAnyH_done (by kernel_rfl) ?_ _
          have I7 := Lib.hid (I.out.below d3)
          have W7 : Hid (Below w2.heap.size w2 u3 ∧ Below w.heap.size w u3) := ⟨WT.out.1.trans (d3.mono WT.out.1.size), WT.out.2.trans (d3.mono WT.out.2.size)⟩
          have CD := Lib.hid (idrop_any I7.out id WF.out (by omega))
          clear r1 s1 bb1 d1 r2 s2 bb2 d2 bb3 d3 hHeld bA lA bAA bB hszA lB lAB CF CT TT MBT I RL WT
          rename World => u3
          go_wp2_with fail
          refine CD.out.mono ?_
          rintro e v1 ⟨ok2, rfl, hok2, i8, t8⟩
          obtain rfl : ok2 = false := HI.out _ hok2
          rw [EL.out] at i8
          have I8 : Hid (IdxAt v1 x b1 b2 14 []) := i8
          have tb := idx_below t8 (base := w2.heap.size) BB.out W7.out.1.size
          have W8 : Hid (Below w2.heap.size w2 v1) := W7.out.1.trans tb
          clear hok2 i8 t8 tb CD I7 W7 EL HI
          have CD := Lib.hid (idrop_any I8.out id WF.out (by omega))
          go_wp2_with fail
          refine CD.out.mono ?_
          rintro e v2 ⟨ok3, rfl, hok3, i9, t9⟩
          obtain rfl : ok3 = false := by
            cases ok3
            · rfl
            · exact absurd (hok3.1 rfl) (by simp)
          have I9 : Hid (IdxAt v2 x b1 b2 21 []) := i9
          have tb := idx_below t9 (base := w2.heap.size) BB.out W8.out.size
          have W9 : Hid (Below w2.heap.size w2 v2) := W8.out.trans tb
          have CL := Lib.hid (ilen_any I9.out [] List.nodup_nil (fun y => by simp [who]))
          have CD2 := Lib.hid (iids_any I9.out)
          clear hok3 i9 t9 tb CD I8 W8
          go_wp2_with fail
          refine CL.out.mono ?_
          rintro e w' ⟨rfl, rfl⟩
          clear CL
          go_wp2_with fail
          refine CD2.out.mono ?_
          rintro e v3 ⟨o6, A6, n6, c6, rfl, r6, s6, bb⟩
          obtain rfl : n6 = 0 := rise_nil2 r6 s6 (by simp)
          have WE : Hid (Below w.heap.size w v3) := BW2.out.trans ((W9.out.trans (bb.mono W9.out.size)).mono BW2.out.size)
          have CR := Lib.hid (runs10_any (HT.out.below WE.out))
          clear r6 s6 bb CD2 I9 W9
          go_wp2_with fail
          refine CR.out.mono ?_
          rintro e v4 ⟨rfl, bb⟩
          have Q : Hid (Below w.heap.size w v4) := WE.out.trans (bb.mono WE.out.size)
          clear bb CR
          go_wp2
          go_ret
          exact ⟨rfl, Q.out⟩
      · have IS : isSet ls = true := (hok.1 rfl).1
        rw [IS] at CI
        have CIH := Lib.hid CI
        have ISH := Lib.hid IS
        have I4 : Hid (IdxAt w4 x b1 b2 7 [(id, ls)]) := i4
        clear CI hok i4 IS
        go_wp2_with fail
        refine CIH.out.mono ?_
        rintro e w5 ⟨rfl, bb⟩
        have I5 := Lib.hid (I4.out.below bb)
        have B5 : Hid (Below w2.heap.size w2 w5) := B4.out.trans (bb.mono B4.out.size)
        have CD := Lib.hid (iids_any I5.out)
        clear bb CIH I4 B4
        go_wp2_with fail
        refine CD.out.mono ?_
        rintro e w6 ⟨o6, A6, n6, c6, rfl, r6, s6, bb⟩
        obtain rfl : n6 = 1 := rise_one r6 s6
        have I6 := Lib.hid (I5.out.below bb)
        have B6 : Hid (Below w2.heap.size w2 w6) := B5.out.trans (bb.mono B5.out.size)
        have CL := ilen_any I6.out ls (set_nodup2 ISH.out) (fun y => who_one y)
        rw [LN.out] at CL
        have CLH := Lib.hid CL
        clear r6 s6 bb CD I5 B5 CL
        go_wp2_with fail
        refine CLH.out.mono ?_
        rintro e w' ⟨rfl, hw'⟩
        have hw2 := hw'.symm
        subst hw2
        clear CLH
        have LITB : Below w6.heap.size w6 (w6.alloc (.cells #[.int .i64 id, .slice A nl cl, .float .f64 0] 44)) := (Below.refl _ _).alloc (Nat.le_refl _) _
        have RL0 : RowIs (w6.alloc (.cells #[.int .i64 id, .slice A nl cl, .float .f64 0] 44)) (some ⟨w6.heap.size, 0, none⟩) (alc [(id, Value.slice A nl cl, ls)]) := fun _ => by
          have hb : (w6.alloc (.cells #[.int .i64 id, .slice A nl cl, .float .f64 0] 44)).heap[w6.heap.size]? = some (.cells #[.int .i64 id, .slice A nl cl, .float .f64 0] 44 (0, 0)) := World.alloc_heap_new w6 _
          refine ⟨w6.heap.size, 0, rfl, fun j u hu => ?_⟩
          rw [Nat.zero_add]
          refine row_cell hb ?_
          simpa [alc] using hu
        have N1 : World.ownsRow (w6.alloc (.cells #[.int .i64 id, .slice A nl cl, .float .f64 0] 44)) w6.heap.size 44 3 (.slice none 0 0) 0 [] := World.ownsRow_nil _ _ _ _
        obtain ⟨v9, w9, run9, o9, g9⟩ := run_appA (w := w6.alloc (.cells #[.int .i64 id, .slice A nl cl, .float .f64 0] 44)) w6.heap.size (.slice none 0 0) 0 [] N1 (some ⟨w6.heap.size, 0, none⟩) 1 1 (alc [(id, Value.slice A nl cl, ls)]) (by simp [alc]) (fun e => by cases e) RL0 (fun u hu => by
          simp [alc] at hu
          rcases hu with rfl | rfl | rfl <;> rfl) (by omega) LITB.size
        have b9 : Below w6.heap.size w6 w9 := LITB.grown g9 LITB.size (fun q hq => by cases hq)
        obtain ⟨A9, c9, hv9, hnil9, _, hrow9⟩ := own_row o9
        obtain ⟨L, hL⟩ : ∃ L : List AltC, L = [(id, Value.slice A nl cl, ls)] := ⟨_, rfl⟩
        have I : Hid (IdxAt w9 x b1 b2 7 (L.map ent)) := by rw [hL]; exact I6.out.below b9
        have B9 : Below w2.heap.size w2 w9 := B6.out.trans (b9.mono B6.out.size)
        have RL : Hid (AltsR w9 A9 1 c9 L) := by
          rw [hL]
          refine ⟨rfl, hnil9, hrow9, fun p hp => ?_⟩
          obtain rfl : p = (id, Value.slice A nl cl, ls) := by simpa using hp
          exact ⟨A, cl, by show Value.slice A nl cl = .slice A ls.length cl; rw [LN.out], HA.out, L2.out.below B9⟩
        have HI : Hid (∀ q : Bool, (q = true ↔ id ∈ (L.map ent).map Prod.fst) → q = true) := fun q hq => by
          rw [hL] at hq
          exact hq.2 (by simp [ent])
        have EL : Hid (less (L.map ent) id = []) := by
          show _ = _
          rw [hL]
          simp [less, ent]
        have WT : Hid (Below w2.heap.size w2 w9 ∧ Below w.heap.size w w9) := ⟨B9, BW2.out.trans (B9.mono BW2.out.size)⟩
        subst hv9
        clear hL I6 B6 LITB RL0 N1 o9 g9 b9 hnil9 hrow9 B9 ISH
        go_wp2_with (at_builtin; refine wpList_appRun rfl _ _ rfl rfl rfl rfl rfl run9 ?_)
        clear run9
        rename World => wt
        go_wp2_with fail
        have MBT : Hid (∀ W, Below wt.heap.size wt W → W.cell? ⟨pb, 0, none⟩ = some (.int .i64 t.k) ∧ W.cell? ⟨pb, 1, none⟩ = some (.string t.n) ∧ W.cell? ⟨pb, 2, none⟩ = some (.string t.v)) := fun W hW => MB.out W (WT.out.1.trans (hW.mono WT.out.1.size))
        have TT : Hid (∀ W, Below wt.heap.size wt W → DTab W) := fun W hW => HT.out.below (WT.out.2.trans (hW.mono WT.out.2.size))
        have CF : Hid (∀ (W : World) (g : Nat), Below wt.heap.size wt W → IsMats W (some ⟨g, 0, none⟩) [t] → Calls Tryz.prog 12 #[.pointer (some ⟨x, 0, none⟩), .slice (some ⟨g, 0, none⟩) 1 1] W (GaveZ W (IsRise (found (L.map ent) [t])) 1000)) := fun W g hW hm => ifind_any (I.out.below hW) [t] (some ⟨g, 0, none⟩) 1 1 rfl (by omega) SM.out hm (TT.out W hW)
        have CT : Hid (∀ (W : World) (g : Nat), Below wt.heap.size wt W → IsMats W (some ⟨g, 0, none⟩) [t] → Calls Tryz.prog 24 #[(.slice A9 1 c9), .slice (some ⟨g, 0, none⟩) 1 1] W (GaveZ W (IsRise (found (L.map ent) [t])) 1000)) := fun W g hW hm => those_any (RL.out.below hW) (by omega) (alts_sizes I.out) [t] (some ⟨g, 0, none⟩) 1 1 rfl (by omega) SM.out hm
        have bA : Below wt.heap.size wt (wt.drew.alloc (.cells #[.int .i64 t.k, .string t.n, .string t.v] 32)) := ((Below.refl _ _).drew).alloc (Nat.le_refl _) _
        have lA : IsMats (wt.drew.alloc (.cells #[.int .i64 t.k, .string t.n, .string t.v] 32)) (some ⟨wt.heap.size, 0, none⟩) [t] := lit_mat wt.drew t
        have bAA : Below (wt.drew.alloc (.cells #[.int .i64 t.k, .string t.n, .string t.v] 32)).heap.size (wt.drew.alloc (.cells #[.int .i64 t.k, .string t.n, .string t.v] 32)) ((wt.drew.alloc (.cells #[.int .i64 t.k, .string t.n, .string t.v] 32)).alloc (.cells #[.int .i64 t.k, .string t.n, .string t.v] 32)) := (Below.refl _ _).alloc (Nat.le_refl _) _
        have bB : Below wt.heap.size wt ((wt.drew.alloc (.cells #[.int .i64 t.k, .string t.n, .string t.v] 32)).alloc (.cells #[.int .i64 t.k, .string t.n, .string t.v] 32)) := bA.trans (bAA.mono bA.size)
        have hszA : (wt.drew.alloc (.cells #[.int .i64 t.k, .string t.n, .string t.v] 32)).heap.size = wt.heap.size + 1 := by simp
        have lB : IsMats ((wt.drew.alloc (.cells #[.int .i64 t.k, .string t.n, .string t.v] 32)).alloc (.cells #[.int .i64 t.k, .string t.n, .string t.v] 32)) (some ⟨wt.heap.size + 1, 0, none⟩) [t] := by
          have := lit_mat (wt.drew.alloc (.cells #[.int .i64 t.k, .string t.n, .string t.v] 32)) t
          rw [hszA] at this
          exact this
        have lAB : IsMats ((wt.drew.alloc (.cells #[.int .i64 t.k, .string t.n, .string t.v] 32)).alloc (.cells #[.int .i64 t.k, .string t.n, .string t.v] 32)) (some ⟨wt.heap.size, 0, none⟩) [t] := lA.below bAA
        refine wp_region_held_drew (S := fun W => Below wt.heap.size wt W) (by kernel_rfl) ((Below.refl _ _).drew) (fun hHeld => ?_)
        refine held_take 0 65 (v := (.pointer (some ⟨x, 0, none⟩))) rfl rfl (by kernel_rfl) (by kernel_rfl) (by kernel_rfl) (by rfl) (fun _ _ _ h => h) (by assumption) ?_ ?_
        · intro W hW
          go_simp
        simp only [List.setIfInBounds_toArray, List.set_cons_zero, List.set_cons_succ]
        refine held_take 1 66 (v := (.agg #[.int .i64 t.k, .string t.n, .string t.v])) rfl rfl (by kernel_rfl) (by kernel_rfl) (by kernel_rfl) (by rfl) (fun _ _ _ h => h) (by assumption) ?_ ?_
        · intro W hW
          obtain ⟨q0, q1, q2⟩ := MBT.out W hW
          go_simp
        simp only [List.setIfInBounds_toArray, List.set_cons_zero, List.set_cons_succ]
        refine held_take 4 69 (v := (.slice A9 1 c9)) rfl rfl (by kernel_rfl) (by kernel_rfl) (by kernel_rfl) (by rfl) (fun _ _ _ h => h) (by assumption) ?_ ?_
        · intro W hW
          go_simp
        simp only [List.setIfInBounds_toArray, List.set_cons_zero, List.set_cons_succ]
        refine held_take 5 70 (v := (.agg #[.int .i64 t.k, .string t.n, .string t.v])) rfl rfl (by kernel_rfl) (by kernel_rfl) (by kernel_rfl) (by rfl) (fun _ _ _ h => h) (by assumption) ?_ ?_
        · intro W hW
          obtain ⟨q0, q1, q2⟩ := MBT.out W hW
          go_simp
        simp only [List.setIfInBounds_toArray, List.set_cons_zero, List.set_cons_succ]
        refine held_two 2 6 rfl rfl (by kernel_rfl) (by rfl) (by rfl) ?_ ?_
        · refine wp_run (v := .slice (some ⟨wt.heap.size, 0, none⟩) 1 1) (w' := (wt.drew.alloc (.cells #[.int .i64 t.k, .string t.n, .string t.v] 32))) rfl (by go_simp) ⟨bA, ?_⟩
          simp only [List.setIfInBounds_toArray, List.set_cons_zero, List.set_cons_succ]
          refine held_two 3 6 rfl rfl (by kernel_rfl) (by rfl) (by rfl) ?_ ?_
          · refine wp_call (f := 12) (args := #[.pointer (some ⟨x, 0, none⟩), .slice (some ⟨wt.heap.size, 0, none⟩) 1 1]) rfl (by go_simp) ?_
            refine (CF.out (wt.drew.alloc (.cells #[.int .i64 t.k, .string t.n, .string t.v] 32)) wt.heap.size bA lA).mono ?_
            rintro e u1 ⟨p1, F1, f1, fc1, rfl, r1, s1, bb1⟩
            have d1 : Below wt.heap.size wt u1 := bA.trans (bb1.mono bA.size)
            refine ⟨_, rfl, d1, ?_⟩
            simp only [List.setIfInBounds_toArray, List.set_cons_zero, List.set_cons_succ]
            have bU : Below u1.heap.size u1 (u1.alloc (.cells #[.int .i64 t.k, .string t.n, .string t.v] 32)) := (Below.refl _ _).alloc (Nat.le_refl _) _
            have dU : Below wt.heap.size wt (u1.alloc (.cells #[.int .i64 t.k, .string t.n, .string t.v] 32)) := d1.trans (bU.mono d1.size)
            have lU : IsMats (u1.alloc (.cells #[.int .i64 t.k, .string t.n, .string t.v] 32)) (some ⟨u1.heap.size, 0, none⟩) [t] := lit_mat u1 t
            refine held_op 6 rfl (by kernel_rfl) (by rfl) ?_
            refine wp_run (v := .slice (some ⟨u1.heap.size, 0, none⟩) 1 1) (w' := (u1.alloc (.cells #[.int .i64 t.k, .string t.n, .string t.v] 32))) rfl (by go_simp) ⟨dU, ?_⟩
            simp only [List.setIfInBounds_toArray, List.set_cons_zero, List.set_cons_succ]
            refine held_call 7 72 (f := 24) (args := #[(.slice A9 1 c9), .slice (some ⟨u1.heap.size, 0, none⟩) 1 1]) rfl rfl (by kernel_rfl) (by rfl) (by go_simp) ?_
            refine (CT.out (u1.alloc (.cells #[.int .i64 t.k, .string t.n, .string t.v] 32)) u1.heap.size dU lU).mono ?_
            rintro e u2 ⟨p2, F2, f2, fc2, rfl, r2, s2, bb2⟩
            have d2 : Below wt.heap.size wt u2 := dU.trans (bb2.mono dU.size)
            refine ⟨_, rfl, d2, ?_⟩
            simp only [List.setIfInBounds_toArray, List.set_cons_zero, List.set_cons_succ]
            refine held_call 8 73 (f := 11) (args := #[.slice F1 f1 fc1, .slice F2 f2 fc2]) rfl rfl (by kernel_rfl) (by rfl) (by go_simp) ?_
            refine (same_s true ((s1.below bU).below bb2) s2 (decide_eq_true (r1.eq r2 fun _ => Iff.rfl))).mono ?_
            rintro e u3 ⟨rfl, bb3⟩
            have d3 : Below wt.heap.size wt u3 := d2.trans (bb3.mono d2.size)
            refine ⟨_, rfl, d3, ?_⟩
            simp only [List.setIfInBounds_toArray, List.set_cons_zero, List.set_cons_succ]
            refine held_take 9 74 (v := (.bool false)) rfl rfl (by kernel_rfl) (by kernel_rfl) (by kernel_rfl) (by rfl) (fun _ _ _ h => h) (by assumption) ?_ ?_
            · intro W hW
              go_simp
            simp only [List.setIfInBounds_toArray, List.set_cons_zero, List.set_cons_succ]
            refine wpAnyH_done (by kernel_rfl) ?_ _
            have I7 := Lib.hid (I.out.below d3)
            have W7 : Hid (Below w2.heap.size w2 u3 ∧ Below w.heap.size w u3) := ⟨WT.out.1.trans (d3.mono WT.out.1.size), WT.out.2.trans (d3.mono WT.out.2.size)⟩
            have CD := Lib.hid (idrop_any I7.out id WF.out (by omega))
            clear r1 s1 bb1 d1 r2 s2 bb2 d2 bb3 d3 hHeld bA lA bAA bB hszA lB lAB CF CT TT MBT I RL WT
            rename World => u3
            go_wp2_with fail
            refine CD.out.mono ?_
            rintro e v1 ⟨ok2, rfl, hok2, i8, t8⟩
            obtain rfl : ok2 = true := HI.out _ hok2
            rw [EL.out] at i8
            have I8 : Hid (IdxAt v1 x b1 b2 14 []) := i8
            have tb := idx_below t8 (base := w2.heap.size) BB.out W7.out.1.size
            have W8 : Hid (Below w2.heap.size w2 v1) := W7.out.1.trans tb
            clear hok2 i8 t8 tb CD I7 W7 EL HI
            have CD := Lib.hid (idrop_any I8.out id WF.out (by omega))
            go_wp2_with fail
            refine CD.out.mono ?_
            rintro e v2 ⟨ok3, rfl, hok3, i9, t9⟩
            obtain rfl : ok3 = false := by
              cases ok3
              · rfl
              · exact absurd (hok3.1 rfl) (by simp)
            have I9 : Hid (IdxAt v2 x b1 b2 21 []) := i9
            have tb := idx_below t9 (base := w2.heap.size) BB.out W8.out.size
            have W9 : Hid (Below w2.heap.size w2 v2) := W8.out.trans tb
            have CL := Lib.hid (ilen_any I9.out [] List.nodup_nil (fun y => by simp [who]))
            have CD2 := Lib.hid (iids_any I9.out)
            clear hok3 i9 t9 tb CD I8 W8
            go_wp2_with fail
            refine CL.out.mono ?_
            rintro e w' ⟨rfl, rfl⟩
            clear CL
            go_wp2_with fail
            refine CD2.out.mono ?_
            rintro e v3 ⟨o6, A6, n6, c6, rfl, r6, s6, bb⟩
            obtain rfl : n6 = 0 := rise_nil2 r6 s6 (by simp)
            have WE : Hid (Below w.heap.size w v3) := BW2.out.trans ((W9.out.trans (bb.mono W9.out.size)).mono BW2.out.size)
            have CR := Lib.hid (runs10_any (HT.out.below WE.out))
            clear r6 s6 bb CD2 I9 W9
            go_wp2_with fail
            refine CR.out.mono ?_
            rintro e v4 ⟨rfl, bb⟩
            have Q : Hid (Below w.heap.size w v4) := WE.out.trans (bb.mono WE.out.size)
            clear bb CR
            go_wp2
            go_ret
            exact ⟨rfl, Q.out⟩
          · refine wp_run (v := .slice (some ⟨wt.heap.size + 1, 0, none⟩) 1 1) (w' := ((wt.drew.alloc (.cells #[.int .i64 t.k, .string t.n, .string t.v] 32)).alloc (.cells #[.int .i64 t.k, .string t.n, .string t.v] 32))) rfl (by go_simp) ⟨bB, ?_⟩
            simp only [List.setIfInBounds_toArray, List.set_cons_zero, List.set_cons_succ]
            refine held_call 3 68 (f := 12) (args := #[.pointer (some ⟨x, 0, none⟩), .slice (some ⟨wt.heap.size, 0, none⟩) 1 1]) rfl rfl (by kernel_rfl) (by rfl) (by go_simp) ?_
            refine (CF.out ((wt.drew.alloc (.cells #[.int .i64 t.k, .string t.n, .string t.v] 32)).alloc (.cells #[.int .i64 t.k, .string t.n, .string t.v] 32)) wt.heap.size bB lAB).mono ?_
            rintro e u1 ⟨p1, F1, f1, fc1, rfl, r1, s1, bb1⟩
            have d1 : Below wt.heap.size wt u1 := bB.trans (bb1.mono bB.size)
            refine ⟨_, rfl, d1, ?_⟩
            simp only [List.setIfInBounds_toArray, List.set_cons_zero, List.set_cons_succ]
            refine held_call 7 72 (f := 24) (args := #[(.slice A9 1 c9), .slice (some ⟨wt.heap.size + 1, 0, none⟩) 1 1]) rfl rfl (by kernel_rfl) (by rfl) (by go_simp) ?_
            refine (CT.out u1 (wt.heap.size + 1) d1 (lB.below bb1)).mono ?_
            rintro e u2 ⟨p2, F2, f2, fc2, rfl, r2, s2, bb2⟩
            have d2 : Below wt.heap.size wt u2 := d1.trans (bb2.mono d1.size)
            refine ⟨_, rfl, d2, ?_⟩
            simp only [List.setIfInBounds_toArray, List.set_cons_zero, List.set_cons_succ]
            refine held_call 8 73 (f := 11) (args := #[.slice F1 f1 fc1, .slice F2 f2 fc2]) rfl rfl (by kernel_rfl) (by rfl) (by go_simp) ?_
            refine (same_s true (s1.below bb2) s2 (decide_eq_true (r1.eq r2 fun _ => Iff.rfl))).mono ?_
            rintro e u3 ⟨rfl, bb3⟩
            have d3 : Below wt.heap.size wt u3 := d2.trans (bb3.mono d2.size)
            refine ⟨_, rfl, d3, ?_⟩
            simp only [List.setIfInBounds_toArray, List.set_cons_zero, List.set_cons_succ]
            refine held_take 9 74 (v := (.bool false)) rfl rfl (by kernel_rfl) (by kernel_rfl) (by kernel_rfl) (by rfl) (fun _ _ _ h => h) (by assumption) ?_ ?_
            · intro W hW
              go_simp
            simp only [List.setIfInBounds_toArray, List.set_cons_zero, List.set_cons_succ]
            refine wpAnyH_done (by kernel_rfl) ?_ _
            have I7 := Lib.hid (I.out.below d3)
            have W7 : Hid (Below w2.heap.size w2 u3 ∧ Below w.heap.size w u3) := ⟨WT.out.1.trans (d3.mono WT.out.1.size), WT.out.2.trans (d3.mono WT.out.2.size)⟩
            have CD := Lib.hid (idrop_any I7.out id WF.out (by omega))
            clear r1 s1 bb1 d1 r2 s2 bb2 d2 bb3 d3 hHeld bA lA bAA bB hszA lB lAB CF CT TT MBT I RL WT
            rename World => u3
            go_wp2_with fail
            refine CD.out.mono ?_
            rintro e v1 ⟨ok2, rfl, hok2, i8, t8⟩
            obtain rfl : ok2 = true := HI.out _ hok2
            rw [EL.out] at i8
            have I8 : Hid (IdxAt v1 x b1 b2 14 []) := i8
            have tb := idx_below t8 (base := w2.heap.size) BB.out W7.out.1.size
            have W8 : Hid (Below w2.heap.size w2 v1) := W7.out.1.trans tb
            clear hok2 i8 t8 tb CD I7 W7 EL HI
            have CD := Lib.hid (idrop_any I8.out id WF.out (by omega))
            go_wp2_with fail
            refine CD.out.mono ?_
            rintro e v2 ⟨ok3, rfl, hok3, i9, t9⟩
            obtain rfl : ok3 = false := by
              cases ok3
              · rfl
              · exact absurd (hok3.1 rfl) (by simp)
            have I9 : Hid (IdxAt v2 x b1 b2 21 []) := i9
            have tb := idx_below t9 (base := w2.heap.size) BB.out W8.out.size
            have W9 : Hid (Below w2.heap.size w2 v2) := W8.out.trans tb
            have CL := Lib.hid (ilen_any I9.out [] List.nodup_nil (fun y => by simp [who]))
            have CD2 := Lib.hid (iids_any I9.out)
            clear hok3 i9 t9 tb CD I8 W8
            go_wp2_with fail
            refine CL.out.mono ?_
            rintro e w' ⟨rfl, rfl⟩
            clear CL
            go_wp2_with fail
            refine CD2.out.mono ?_
            rintro e v3 ⟨o6, A6, n6, c6, rfl, r6, s6, bb⟩
            obtain rfl : n6 = 0 := rise_nil2 r6 s6 (by simp)
            have WE : Hid (Below w.heap.size w v3) := BW2.out.trans ((W9.out.trans (bb.mono W9.out.size)).mono BW2.out.size)
            have CR := Lib.hid (runs10_any (HT.out.below WE.out))
            clear r6 s6 bb CD2 I9 W9
            go_wp2_with fail
            refine CR.out.mono ?_
            rintro e v4 ⟨rfl, bb⟩
            have Q : Hid (Below w.heap.size w v4) := WE.out.trans (bb.mono WE.out.size)
            clear bb CR
            go_wp2
            go_ret
            exact ⟨rfl, Q.out⟩
        · refine wp_run (v := .slice (some ⟨wt.heap.size, 0, none⟩) 1 1) (w' := (wt.drew.alloc (.cells #[.int .i64 t.k, .string t.n, .string t.v] 32))) rfl (by go_simp) ⟨bA, ?_⟩
          simp only [List.setIfInBounds_toArray, List.set_cons_zero, List.set_cons_succ]
          refine held_op 2 rfl (by kernel_rfl) (by rfl) ?_
          refine wp_run (v := .slice (some ⟨wt.heap.size + 1, 0, none⟩) 1 1) (w' := ((wt.drew.alloc (.cells #[.int .i64 t.k, .string t.n, .string t.v] 32)).alloc (.cells #[.int .i64 t.k, .string t.n, .string t.v] 32))) rfl (by go_simp) ⟨bB, ?_⟩
          simp only [List.setIfInBounds_toArray, List.set_cons_zero, List.set_cons_succ]
          refine held_call 3 68 (f := 12) (args := #[.pointer (some ⟨x, 0, none⟩), .slice (some ⟨wt.heap.size + 1, 0, none⟩) 1 1]) rfl rfl (by kernel_rfl) (by rfl) (by go_simp) ?_
          refine (CF.out ((wt.drew.alloc (.cells #[.int .i64 t.k, .string t.n, .string t.v] 32)).alloc (.cells #[.int .i64 t.k, .string t.n, .string t.v] 32)) (wt.heap.size + 1) bB lB).mono ?_
          rintro e u1 ⟨p1, F1, f1, fc1, rfl, r1, s1, bb1⟩
          have d1 : Below wt.heap.size wt u1 := bB.trans (bb1.mono bB.size)
          refine ⟨_, rfl, d1, ?_⟩
          simp only [List.setIfInBounds_toArray, List.set_cons_zero, List.set_cons_succ]
          refine held_call 7 72 (f := 24) (args := #[(.slice A9 1 c9), .slice (some ⟨wt.heap.size, 0, none⟩) 1 1]) rfl rfl (by kernel_rfl) (by rfl) (by go_simp) ?_
          refine (CT.out u1 wt.heap.size d1 (lAB.below bb1)).mono ?_
          rintro e u2 ⟨p2, F2, f2, fc2, rfl, r2, s2, bb2⟩
          have d2 : Below wt.heap.size wt u2 := d1.trans (bb2.mono d1.size)
          refine ⟨_, rfl, d2, ?_⟩
          simp only [List.setIfInBounds_toArray, List.set_cons_zero, List.set_cons_succ]
          refine held_call 8 73 (f := 11) (args := #[.slice F1 f1 fc1, .slice F2 f2 fc2]) rfl rfl (by kernel_rfl) (by rfl) (by go_simp) ?_
          refine (same_s true (s1.below bb2) s2 (decide_eq_true (r1.eq r2 fun _ => Iff.rfl))).mono ?_
          rintro e u3 ⟨rfl, bb3⟩
          have d3 : Below wt.heap.size wt u3 := d2.trans (bb3.mono d2.size)
          refine ⟨_, rfl, d3, ?_⟩
          simp only [List.setIfInBounds_toArray, List.set_cons_zero, List.set_cons_succ]
          refine held_take 9 74 (v := (.bool false)) rfl rfl (by kernel_rfl) (by kernel_rfl) (by kernel_rfl) (by rfl) (fun _ _ _ h => h) (by assumption) ?_ ?_
          · intro W hW
            go_simp
          simp only [List.setIfInBounds_toArray, List.set_cons_zero, List.set_cons_succ]
          refine wpAnyH_done (by kernel_rfl) ?_ _
          have I7 := Lib.hid (I.out.below d3)
          have W7 : Hid (Below w2.heap.size w2 u3 ∧ Below w.heap.size w u3) := ⟨WT.out.1.trans (d3.mono WT.out.1.size), WT.out.2.trans (d3.mono WT.out.2.size)⟩
          have CD := Lib.hid (idrop_any I7.out id WF.out (by omega))
          clear r1 s1 bb1 d1 r2 s2 bb2 d2 bb3 d3 hHeld bA lA bAA bB hszA lB lAB CF CT TT MBT I RL WT
          rename World => u3
          go_wp2_with fail
          refine CD.out.mono ?_
          rintro e v1 ⟨ok2, rfl, hok2, i8, t8⟩
          obtain rfl : ok2 = true := HI.out _ hok2
          rw [EL.out] at i8
          have I8 : Hid (IdxAt v1 x b1 b2 14 []) := i8
          have tb := idx_below t8 (base := w2.heap.size) BB.out W7.out.1.size
          have W8 : Hid (Below w2.heap.size w2 v1) := W7.out.1.trans tb
          clear hok2 i8 t8 tb CD I7 W7 EL HI
          have CD := Lib.hid (idrop_any I8.out id WF.out (by omega))
          go_wp2_with fail
          refine CD.out.mono ?_
          rintro e v2 ⟨ok3, rfl, hok3, i9, t9⟩
          obtain rfl : ok3 = false := by
            cases ok3
            · rfl
            · exact absurd (hok3.1 rfl) (by simp)
          have I9 : Hid (IdxAt v2 x b1 b2 21 []) := i9
          have tb := idx_below t9 (base := w2.heap.size) BB.out W8.out.size
          have W9 : Hid (Below w2.heap.size w2 v2) := W8.out.trans tb
          have CL := Lib.hid (ilen_any I9.out [] List.nodup_nil (fun y => by simp [who]))
          have CD2 := Lib.hid (iids_any I9.out)
          clear hok3 i9 t9 tb CD I8 W8
          go_wp2_with fail
          refine CL.out.mono ?_
          rintro e w' ⟨rfl, rfl⟩
          clear CL
          go_wp2_with fail
          refine CD2.out.mono ?_
          rintro e v3 ⟨o6, A6, n6, c6, rfl, r6, s6, bb⟩
          obtain rfl : n6 = 0 := rise_nil2 r6 s6 (by simp)
          have WE : Hid (Below w.heap.size w v3) := BW2.out.trans ((W9.out.trans (bb.mono W9.out.size)).mono BW2.out.size)
          have CR := Lib.hid (runs10_any (HT.out.below WE.out))
          clear r6 s6 bb CD2 I9 W9
          go_wp2_with fail
          refine CR.out.mono ?_
          rintro e v4 ⟨rfl, bb⟩
          have Q : Hid (Below w.heap.size w v4) := WE.out.trans (bb.mono WE.out.size)
          clear bb CR
          go_wp2
          go_ret
          exact ⟨rfl, Q.out⟩
end Go.Proofs.YtlfcjjlgkcfkdaaGreatDoor
