/-
  IndexPlays as a contract. Conditions: the library's table lies in its variable.
-/
import Derived.Test.YtlfcjjlgkcfkdaaGreatDoorDm
namespace Go.Proofs.YtlfcjjlgkcfkdaaGreatDoor
open Go.RowKit Go.Maps Go.Sort La

/-! ### who comes first -/
noncomputable def isF (T : List Ent) (id : Int) (y : Lab) : Bool := decide (∀ z ∈ who T y, id ≤ z)
noncomputable def firsts (T R : List Ent) : List Lab := R.flatMap fun p => p.2.filter (isF T p.1)
theorem firsts_nodup {T : List Ent} (hnd : (T.map Prod.fst).Nodup) (hset : ∀ p ∈ T, isSet p.2 = true) : (firsts T T).Nodup := by
  unfold firsts
  refine List.pairwise_flatMap.2 ⟨fun p hp => (set_nodup (hset p hp)).filter _, ?_⟩
  refine (List.pairwise_map.1 hnd).imp_of_mem fun {a b} ha hb hne x hx y hy e => ?_
  subst e
  rw [List.mem_filter] at hx hy
  have h1 := of_decide_eq_true hx.2 b.1 (mem_who.2 ⟨b.2, hb, hy.1⟩)
  have h2 := of_decide_eq_true hy.2 a.1 (mem_who.2 ⟨a.2, ha, hx.1⟩)
  exact hne (Int.le_antisymm h1 h2)
theorem least_of : ∀ (l : List Int), l ≠ [] → ∃ z ∈ l, ∀ u ∈ l, z ≤ u
  | [], h => absurd rfl h
  | [z], _ => ⟨z, by simp, by simp⟩
  | z :: u :: r, _ => by
    obtain ⟨m, hm, h⟩ := least_of (u :: r) (by simp)
    by_cases h0 : z ≤ m
    · exact ⟨z, by simp, fun v hv => by
        rcases List.mem_cons.1 hv with rfl | hv
        · exact Int.le_refl _
        · exact Int.le_trans h0 (h v hv)⟩
    · exact ⟨m, List.mem_cons_of_mem _ hm, fun v hv => by
        rcases List.mem_cons.1 hv with rfl | hv
        · omega
        · exact h v hv⟩
theorem firsts_mem {T : List Ent} {y : Lab} : y ∈ firsts T T ↔ who T y ≠ [] := by
  constructor
  · intro h
    obtain ⟨p, hp, hy⟩ := List.mem_flatMap.1 h
    exact who_ne.2 ⟨p, hp, (List.mem_filter.1 hy).1⟩
  · intro h
    obtain ⟨z, hz, hl⟩ := least_of _ h
    obtain ⟨ls, h1, h2⟩ := mem_who.1 hz
    exact List.mem_flatMap.2 ⟨(z, ls), h1, List.mem_filter.2 ⟨h2, decide_eq_true hl⟩⟩
theorem rise_first {T : List Ent} {y : Lab} {out : List Int} (h : IsRise (who T y) out) {id : Int} (hi : id ∈ who T y) : 0 < out.length ∧ (nz out 0 == id) = isF T id y := by
  have hio := (h.2 id).2 hi
  obtain ⟨h1, h2⟩ := h
  cases out with
  | nil => cases hio
  | cons a r =>
    refine ⟨by simp, ?_⟩
    show (a == id) = _
    have hp := (List.pairwise_cons.1 h1).1
    rw [Bool.eq_iff_iff, beq_iff_eq, isF, decide_eq_true_iff]
    constructor
    · rintro rfl z hz
      rcases List.mem_cons.1 ((h2 z).2 hz) with rfl | hz
      · exact Int.le_refl _
      · exact Int.le_of_lt (hp z hz)
    · intro hall
      have h3 := hall a ((h2 a).1 (by simp))
      rcases List.mem_cons.1 hio with e | e
      · exact e.symm
      · have := hp id e; omega
theorem who_in {T : List Ent} {p : Ent} {y : Lab} (h : y ∈ p.2) : who (T ++ [p]) y = who T y ++ [p.1] := by
  unfold who
  rw [List.filter_append, List.map_append]
  congr 1
  simp [h]
theorem who_out {T : List Ent} {p : Ent} {y : Lab} (h : ¬ y ∈ p.2) : who (T ++ [p]) y = who T y := by
  unfold who
  rw [List.filter_append, List.map_append]
  simp [h]
theorem firsts_snoc (T R : List Ent) (p : Ent) : firsts T (R ++ [p]) = firsts T R ++ p.2.filter (isF T p.1) := by
  unfold firsts
  simp
theorem ent_take {L : List AltC} {k : Nat} (hk : k < L.length) : (L.map ent).take (k + 1) = (L.map ent).take k ++ [ent (anth L k)] := by
  rw [List.take_succ_eq_append_getElem (by rw [List.length_map]; exact hk), anth_eq hk, List.getElem_map]
theorem filter_take {ls : List Lab} {j : Nat} (hj : j < ls.length) (f : Lab → Bool) : ((ls.take (j + 1)).filter f).length = ((ls.take j).filter f).length + if f (nth ls j) then 1 else 0 := by
  rw [List.take_succ_eq_append_getElem hj, List.filter_append, List.length_append, nth_eq hj]
  congr 1
  cases h : f ls[j] <;> simp [h]
theorem getL_is {ls : List Lab} (h : isSet ls = true) {y1 y2 : ByteArray} (hv : 1 ≤ y2.size) : getL ls y1 = y2 ↔ (y1, y2) ∈ ls := by
  rcases set_getL h y1 with ⟨e, hn⟩ | ⟨hm, hu⟩
  · constructor
    · intro e2
      rw [e] at e2
      rw [← e2] at hv
      exact absurd hv (by decide)
    · intro hy; exact absurd hy (hn y2)
  · constructor
    · intro e2; rw [e2] at hm; exact hm
    · intro hy; exact (hu y2 hy).symm
theorem set_size {ls : List Lab} (h : isSet ls = true) : ∀ y ∈ ls, 1 ≤ y.2.size := fun y hy => by
  obtain ⟨j, hj, e⟩ := List.getElem_of_mem hy
  have := okAt_size ((isSet_iff.1 h).2.2 j hj)
  rw [nth_eq hj, e] at this
  exact this.2.2
theorem who_none {L : List AltC} (h : ∀ p ∈ L, ∀ y ∈ p.2.2, okL y) {y : Lab} (hy : ¬ okL y) : ∀ z, ¬ z ∈ who (L.map ent) y := fun z hz => by
  obtain ⟨ls, h1, h2⟩ := mem_who.1 hz
  obtain ⟨p, hp, e⟩ := List.mem_map.1 h1
  have e2 : p.2.2 = ls := congrArg Prod.snd e
  exact hy (h p hp y (by rw [e2]; exact h2))
theorem wrap1 {k : Nat} (h : k ≤ 1000000) : IntKind.i64.wrap ((k : Int) + 1) = (k : Int) + 1 := by rw [IntKind.wrap_i64]; omega
theorem rise_nil {w : World} {l out : List Int} {A : Option Addr} {n c K : Nat} (h : IsRise l out) (s : SlZ w out A n c K) (hn : ∀ z, ¬ z ∈ l) : n = 0 := by
  have := h.nil_of hn
  have h2 := s.len
  rw [this] at h2
  exact h2.symm

set_option maxRecDepth 100000 in
set_option maxHeartbeats 8000000 in
theorem plays10_law {w : World} {A : Option Addr} {n c : Nat} {S : List StpC} (h : StepsR w A S) (hn : S.length = n) (hT : DTab w) :
    Calls Tryz.prog 4 #[.slice A n c] w fun e w' => e = .returned (.bool true) ∧ Below w.heap.size w w' := by
  have HT := Lib.hid hT
  by_cases h6 : 60 < n
  · have hz : decide ((n : Int) > 60) = true := decide_eq_true (by omega)
    have C := Lib.hid (runs10_any hT)
    clear h hn hT
    go_enter Tryz.func4, Tryz.ntmps4
    go_wp2_with fail
    refine C.out.mono ?_
    rintro e w1 ⟨rfl, bb⟩
    have Q := Lib.hid bb
    clear bb C
    go_wp2
    go_ret
    exact ⟨rfl, Q.out⟩
  · have hz : decide ((n : Int) > 60) = false := decide_eq_false (by omega)
    have C := Lib.hid (built_any (A := A) (c := c) h hn (by omega))
    clear h hT
    go_enter Tryz.func4, Tryz.ntmps4
    go_wp2_with fail
    refine C.out.mono ?_
    rintro e w1 ⟨x, b1, b2, N, L, v, rfl, i1, o1, l1, hN, hbs, bb⟩
    have OK := Lib.hid o1.okl
    obtain ⟨A1, c1, rfl, _, r1⟩ := o1.read
    obtain ⟨nL, hnL⟩ : ∃ k, L.length = k := ⟨_, rfl⟩
    rw [hnL] at r1 l1 ⊢
    have I1 := Lib.hid i1
    have R1 := Lib.hid r1
    have B1 := Lib.hid bb
    have LN := Lib.hid hnL
    have CI := Lib.hid (iids_any i1)
    clear i1 o1 r1 bb hbs C hnL
    go_wp2_with fail
    refine CI.out.mono ?_
    rintro e w2 ⟨o2, A2, n2, c2, rfl, r2, s2, bb⟩
    have CD := Lib.hid (ids_any (R1.out.below bb) (by omega))
    have I2 := Lib.hid (I1.out.below bb)
    have R2 := Lib.hid (R1.out.below bb)
    have B2 : Hid (Below w.heap.size w w2) := B1.out.trans (bb.mono B1.out.size)
    have SA := Lib.hid s2
    have RA := Lib.hid r2
    clear s2 r2 bb CI I1 R1 B1
    go_wp2_with fail
    refine CD.out.mono ?_
    rintro e w3 ⟨o3, A3, n3, c3, rfl, r3, s3, bb⟩
    have CS := Lib.hid (same_s true (SA.out.below bb) s3 (decide_eq_true (RA.out.eq r3 fun z => by rw [List.map_map]; exact Iff.rfl)))
    have I3 := Lib.hid (I2.out.below bb)
    have R3 := Lib.hid (R2.out.below bb)
    have B3 : Hid (Below w.heap.size w w3) := B2.out.trans (bb.mono B2.out.size)
    clear s3 r3 bb CD SA RA I2 R2 B2
    go_wp2_with fail
    refine CS.out.mono ?_
    rintro e w4 ⟨rfl, bb⟩
    have I4 := Lib.hid (I3.out.below bb)
    have R4 := Lib.hid (R3.out.below bb)
    have B4 : Hid (Below w.heap.size w w4) := B3.out.trans (bb.mono B3.out.size)
    clear bb CS I3 R3 B3
    go_wp2
    go_loopw [6, 7] (fun nn i wr => ∃ (k m : Nat), k ≤ nL ∧ nn = .int .i64 (m : Int) ∧ i = .int .i64 (k : Int) ∧ Hid (m = (firsts (L.map ent) ((L.map ent).take k)).length ∧ m ≤ 6 * k ∧ Below w4.heap.size w4 wr)) (fun _ i _ => nL - (intOf i).toNat)
    case atStart => exact ⟨0, 0, by omega, rfl, rfl, by simp [firsts], by omega, Below.refl _ _⟩
    case round =>
      obtain ⟨k, m, hk, rfl, rfl, HI⟩ := hrel
      by_cases hkn : k < nL
      · have hkz : (k : Int) < (nL : Int) := by omega
        have hkL : k < L.length := by rw [LN.out]; exact hkn
        obtain ⟨b, off, rfl, _, _, _⟩ := R4.out.at hkn
        have DC : Hid (∀ W, Below w4.heap.size w4 W → ∀ q, q < nL → W.cell? ⟨b, off + q * 3, none⟩ = some (.int .i64 (anth L q).1) ∧ W.cell? ⟨b, off + q * 3 + 1, none⟩ = some (anth L q).2.1) := fun W hW q hq => by
          obtain ⟨b', off', e, g0, g1, _⟩ := (R4.out.below hW).at hq
          injection e with e; injection e with e1 e2
          subst e1 e2
          exact ⟨g0, g1⟩
        obtain ⟨AL, cl, ea, _, hlb⟩ := R4.out.good _ (anth_mem hkL)
        have ST0 := I4.out.set (ent (anth L k)) (List.mem_map.2 ⟨_, anth_mem hkL, rfl⟩)
        have ET := ent_take hkL
        have IW : ∀ y ∈ (anth L k).2.2, (anth L k).1 ∈ who (L.map ent) y := fun y hy => mem_who.2 ⟨(anth L k).2.2, List.mem_map.2 ⟨_, anth_mem hkL, rfl⟩, hy⟩
        have D0 : Hid (∀ W, Below w4.heap.size w4 W → W.cell? ⟨b, off + k * 3, none⟩ = some (.int .i64 (anth L k).1) ∧ W.cell? ⟨b, off + k * 3 + 1, none⟩ = some (anth L k).2.1) := fun W hW => DC.out W hW k hkn
        rw [ea] at D0
        have e3 : ent (anth L k) = ((anth L k).1, (anth L k).2.2) := rfl
        rw [e3] at ST0 ET
        obtain ⟨id, hid⟩ : ∃ y, (anth L k).1 = y := ⟨_, rfl⟩
        obtain ⟨ls, hls⟩ : ∃ y, (anth L k).2.2 = y := ⟨_, rfl⟩
        rw [hid] at ET IW D0
        rw [hls] at ST0 ET IW hlb D0
        obtain ⟨nl, hnl⟩ : ∃ y, ls.length = y := ⟨_, rfl⟩
        rw [hnl] at D0
        have ST : Hid (isSet ls = true) := ST0
        have NL := Lib.hid hnl
        have nl6 : nl ≤ 6 := by have := (isSet_iff.1 ST0).2.1; omega
        have ETH := Lib.hid ET
        have IWH := Lib.hid IW
        have LB : Hid (∀ W, Below w4.heap.size w4 W → IsLabs W AL ls) := fun W hW => hlb.below hW
        have WK : Hid (IntKind.i64.wrap ((k : Int) + 1) = (k : Int) + 1) := wrap1 (by omega)
        have MK := Lib.hid HI.out.1
        have M6 := HI.out.2.1
        have BO := Lib.hid HI.out.2.2
        clear hkL ea hlb ST0 ET IW e3 hid hls hnl HI
        go_wp2
        go_loopw [6, 8] (fun nn kk W => ∃ (j m2 : Nat), j ≤ nl ∧ nn = .int .i64 (m2 : Int) ∧ kk = .int .i64 (j : Int) ∧ Hid (m2 = m + ((ls.take j).filter (isF (L.map ent) id)).length ∧ m2 ≤ m + j ∧ Below w4.heap.size w4 W)) (fun _ kk _ => nl - (intOf kk).toNat)
        case atStart => exact ⟨0, m, by omega, rfl, rfl, by simp, by omega, BO.out⟩
        case round =>
          obtain ⟨j, m2, hj, rfl, rfl, HJ⟩ := hrel
          obtain ⟨d0, d1⟩ := D0.out _ HJ.out.2.2
          by_cases hjn : j < nl
          · have hjz : (j : Int) < (nl : Int) := by omega
            have hjL : j < ls.length := by rw [NL.out]; exact hjn
            obtain ⟨bl, ol, rfl, _⟩ := LB.out w4 (Below.refl _ _) (by omega)
            have LC : Hid (∀ W, Below w4.heap.size w4 W → W.cell? ⟨bl, ol + j * 2, none⟩ = some (.string (nth ls j).1) ∧ W.cell? ⟨bl, ol + j * 2 + 1, none⟩ = some (.string (nth ls j).2)) := fun W hW => by
              obtain ⟨b', off', e, hc⟩ := LB.out W hW (by omega)
              injection e with e; injection e with e1 e2
              subst e1 e2
              exact hc j hjL
            have YM0 := nth_mem hjL
            have FT0 := filter_take hjL (isF (L.map ent) id)
            obtain ⟨y1, hy1⟩ : ∃ y, (nth ls j).1 = y := ⟨_, rfl⟩
            obtain ⟨y2, hy2⟩ : ∃ y, (nth ls j).2 = y := ⟨_, rfl⟩
            have hy : nth ls j = (y1, y2) := by rw [← hy1, ← hy2]
            rw [hy] at YM0 FT0
            rw [hy1, hy2] at LC
            have YM := Lib.hid YM0
            have FT := Lib.hid FT0
            have Y2S : Hid (1 ≤ y2.size) := set_size ST.out _ YM0
            have QB : Below wr.heap.size wr (wr.alloc (.cells #[.string y1, .string y2] 26)) := (Below.refl _ _).alloc (Nat.le_refl _) _
            have hb : (wr.alloc (.cells #[.string y1, .string y2] 26)).heap[wr.heap.size]? = some (.cells #[.string y1, .string y2] 26 (0, 0)) := World.alloc_heap_new wr _
            have SZ : (wr.alloc (.cells #[.string y1, .string y2] 26)).heap.size = wr.heap.size + 1 := by simp
            obtain ⟨p, hp⟩ : ∃ p, wr.heap.size = p := ⟨_, rfl⟩
            have BOX : Hid (∀ W, Below (wr.alloc (.cells #[.string y1, .string y2] 26)).heap.size (wr.alloc (.cells #[.string y1, .string y2] 26)) W → W.cell? ⟨wr.heap.size, 0, none⟩ = some (.string y1) ∧ W.cell? ⟨wr.heap.size, 1, none⟩ = some (.string y2)) := fun W hW =>
              ⟨(hW.cell (p := ⟨_, 0, none⟩) (by rw [SZ]; exact Nat.lt_succ_self _)).trans (row_cell hb rfl), (hW.cell (p := ⟨_, 1, none⟩) (by rw [SZ]; exact Nat.lt_succ_self _)).trans (row_cell hb rfl)⟩
            have B5 : Hid (Below w4.heap.size w4 (wr.alloc (.cells #[.string y1, .string y2] 26))) := HJ.out.2.2.trans (QB.mono HJ.out.2.2.size)
            obtain ⟨q0, q1⟩ := LC.out _ HJ.out.2.2
            obtain ⟨w5, hw5⟩ : ∃ w5, wr.alloc (.cells #[.string y1, .string y2] 26) = w5 := ⟨_, rfl⟩
            rw [hw5] at BOX B5
            have MJ := Lib.hid HJ.out.1
            have MB := HJ.out.2.1
            have WJ : Hid (IntKind.i64.wrap ((j : Int) + 1) = (j : Int) + 1) := wrap1 (by omega)
            have WM : Hid (IntKind.i64.wrap ((m2 : Int) + 1) = (m2 : Int) + 1) := wrap1 (by omega)
            clear hjL YM0 FT0 hy1 hy2 hy QB hb SZ HJ hp
            go_wp2
            clear hw5 q0 q1 d0 d1
            have I0 : Hid (World.ownsRow w5 w5.heap.size 3 1 (.slice none 0 0) 0 (zs (who ((L.map ent).take 0) (y1, y2))) ∧ Below w5.heap.size w5 w5) := ⟨World.ownsRow_nil _ _ _ _, Below.refl _ _⟩
            go_loopw [10, 11] (fun v jj W => ∃ (y : Value) (q q2 : Nat), y = v ∧ q ≤ nL ∧ q2 ≤ q ∧ jj = .int .i64 (q : Int) ∧ Hid (World.ownsRow W w5.heap.size 3 1 y q2 (zs (who ((L.map ent).take q) (y1, y2))) ∧ Below w5.heap.size w5 W)) (fun _ jj _ => nL - (intOf jj).toNat)
            case atStart => exact ⟨_, 0, 0, rfl, by omega, by omega, rfl, I0⟩
            case round =>
              clear I0
              obtain ⟨y, q, q2, rfl, hq, hq2, rfl, HQ⟩ := hrel
              have BW : Hid (Below w4.heap.size w4 wr) := B5.out.trans (HQ.out.2.mono B5.out.size)
              by_cases hqn : q < nL
              · have hqz : (q : Int) < (nL : Int) := by omega
                have hqL : q < L.length := by rw [LN.out]; exact hqn
                obtain ⟨e0, e1⟩ := DC.out _ BW.out q hqn
                obtain ⟨AQ, cq, eq1, _, hlq⟩ := R4.out.good _ (anth_mem hqL)
                have SQ := I4.out.set (ent (anth L q)) (List.mem_map.2 ⟨_, anth_mem hqL, rfl⟩)
                have EQ := ent_take hqL
                have e3 : ent (anth L q) = ((anth L q).1, (anth L q).2.2) := rfl
                rw [e3] at SQ EQ
                rw [eq1] at e1
                obtain ⟨iq, hiq⟩ : ∃ y, (anth L q).1 = y := ⟨_, rfl⟩
                obtain ⟨lq, hlq2⟩ : ∃ y, (anth L q).2.2 = y := ⟨_, rfl⟩
                rw [hiq] at EQ e0
                rw [hlq2] at SQ EQ hlq e1
                obtain ⟨nq2, hnq⟩ : ∃ y, lq.length = y := ⟨_, rfl⟩
                have CG : Hid (∀ W, IsLabs W AQ lq → Calls Tryz.prog 17 #[.slice AQ lq.length cq, .string y1] W fun e w' => e = .returned (.string (getL lq y1)) ∧ w' = W) := fun W hW => (rget_labs lq y1 AQ cq W (by have := (isSet_iff.1 SQ).2.1; omega) hW).mono fun _ _ h => ⟨h.1, h.2.symm⟩
                have LQ := Lib.hid (hlq.below BW.out)
                have GI : Hid (getL lq y1 = y2 ↔ (y1, y2) ∈ lq) := getL_is SQ Y2S.out
                obtain ⟨G, hG⟩ : ∃ G, getL lq y1 = G := ⟨_, rfl⟩
                rw [hG] at CG GI
                rw [hnq] at CG e1
                obtain ⟨x0, x1⟩ := BOX.out _ HQ.out.2
                have WQ : Hid (IntKind.i64.wrap ((q : Int) + 1) = (q : Int) + 1) := wrap1 (by omega)
                have EQH := Lib.hid EQ
                clear hqL eq1 hlq SQ EQ e3 hiq hlq2 hnq hG
                cases he : (G.toList == y2.toList)
                · have NM : Hid (who ((L.map ent).take (q + 1)) (y1, y2) = who ((L.map ent).take q) (y1, y2)) := by
                    show _ = _
                    rw [EQH.out]
                    refine who_out fun hm => ?_
                    rw [beq_dec] at he
                    exact of_decide_eq_false he (GI.out.2 hm)
                  go_wp2_with fail
                  go_quiet ((go_at_call 17; exact Calls.quiet_of_same (CG.out _ LQ.out)))
                  have I3 : Hid (World.ownsRow (wr.drewN nq) w5.heap.size 3 1 y q2 (zs (who ((L.map ent).take (q + 1)) (y1, y2))) ∧ Below w5.heap.size w5 (wr.drewN nq)) := ⟨by rw [NM.out]; exact HQ.out.1, below_drewN HQ.out.2 nq⟩
                  clear CG LQ GI EQH NM HQ BW e0 e1 x0 x1 he
                  go_wp2_with (rw [WQ.out])
                  go_roundw
                  case rel => exact ⟨_, q + 1, q2, rfl, by omega, by omega, by go_num, I3⟩
                  case measure => simp [intOf]; omega
                · have NM : Hid (who ((L.map ent).take (q + 1)) (y1, y2) = who ((L.map ent).take q) (y1, y2) ++ [iq]) := by
                    show _ = _
                    rw [EQH.out]
                    exact who_in (GI.out.1 (beq_iff.1 he))
                  go_wp2_with fail
                  go_quiet ((go_at_call 17; exact Calls.quiet_of_same (CG.out _ LQ.out)))
                  have I3 : Hid (World.ownsRow (wr.drewN nq) w5.heap.size 3 1 y q2 (zs (who ((L.map ent).take q) (y1, y2))) ∧ Below w5.heap.size w5 (wr.drewN nq)) := ⟨HQ.out.1, below_drewN HQ.out.2 nq⟩
                  have e0' : (wr.drewN nq).cell? ⟨b, off + q * 3, none⟩ = some (.int .i64 iq) := e0
                  clear CG LQ GI EQH HQ BW e0 e1 x0 x1 he
                  generalize wr.drewN nq = wx at I3 e0' ⊢
                  have O1 := Lib.hid (I3.out.1.alloc (.cells #[.int .i64 iq] 3))
                  have B7 : Hid (Below w5.heap.size w5 (wx.alloc (.cells #[.int .i64 iq] 3))) := I3.out.2.alloc I3.out.2.size _
                  have LZ := Lib.hid (lit_z wx iq)
                  clear I3
                  go_wp2_with (at_builtin; refine wpList_appZ rfl _ _ rfl w5.heap.size y q2 _ rfl O1.out (some ⟨wx.heap.size, 0, none⟩) 1 1 [iq] rfl rfl (fun e => by cases e) LZ.out (by omega) B7.out.size ?_; intro v6 w6 o6 g6)
                  have I6 : Hid (World.ownsRow w6 w5.heap.size 3 1 v6 (q2 + 1) (zs (who ((L.map ent).take (q + 1)) (y1, y2))) ∧ Below w5.heap.size w5 w6) := ⟨by rw [NM.out]; exact o6, B7.out.grown g6 B7.out.size (fun q hq => own_geZ O1.out q hq)⟩
                  clear o6 g6 O1 B7 LZ e0' NM
                  go_wp2_with (rw [WQ.out])
                  go_roundw
                  case rel => exact ⟨_, q + 1, q2 + 1, rfl, by omega, by omega, by go_num, I6⟩
                  case measure => simp [intOf]; omega
              · obtain rfl : q = nL := by omega
                have hqz : ¬ (q : Int) < (q : Int) := by omega
                obtain ⟨A7, c7, rfl, s7⟩ := GaveZ.of_own (K := 1000) HQ.out.1 (by omega) (by omega)
                have ER : (L.map ent).take q = L.map ent := List.take_of_length_le (by rw [List.length_map, LN.out]; exact Nat.le_refl _)
                rw [ER] at s7
                have C7 := Lib.hid (rising_s s7)
                have BQ := Lib.hid HQ.out.2
                clear s7 HQ BW ER
                go_wp2_with fail
                refine C7.out.mono ?_
                rintro e w6 ⟨o6, A6, n6, c6, rfl, r6, s6, bb⟩
                have B6 : Hid (Below w5.heap.size w5 w6) := BQ.out.trans (bb.mono BQ.out.size)
                have CP := Lib.hid (iposting_any (I4.out.below (B5.out.trans (B6.out.mono B5.out.size))) y1 y2 (set_small ST.out _ YM.out))
                obtain ⟨x0, x1⟩ := BOX.out _ B6.out
                have S6 := Lib.hid s6
                have R6 := Lib.hid r6
                clear s6 r6 bb C7 BQ
                go_wp2_with fail
                refine CP.out.mono ?_
                rintro e w7 ⟨o7, A7, n7, c7, rfl, r7, s7, bb⟩
                have CS := Lib.hid (same_s true s7 (S6.out.below bb) (decide_eq_true (r7.eq R6.out fun _ => Iff.rfl)))
                have S7 := Lib.hid (S6.out.below bb)
                have B7 : Hid (Below w5.heap.size w5 w7) := B6.out.trans (bb.mono B6.out.size)
                clear s7 r7 bb CP x0 x1 S6 B6
                go_wp2_with fail
                refine CS.out.mono ?_
                rintro e w8 ⟨rfl, bb⟩
                have B8 : Hid (Below w4.heap.size w4 w8) := B5.out.trans ((B7.out.trans (bb.mono B7.out.size)).mono B5.out.size)
                have S8 := Lib.hid (S7.out.below bb)
                clear bb CS S7 B7
                obtain ⟨f1, f2⟩ := rise_first R6.out (IWH.out _ YM.out)
                obtain ⟨bz, oz, rfl, _⟩ := S8.out.is f1
                have z0 := isZ_at S8.out.is f1
                obtain ⟨d0, _⟩ := D0.out _ B8.out
                obtain ⟨Z, hZ⟩ : ∃ Z, nz o6 0 = Z := ⟨_, rfl⟩
                rw [hZ] at z0 f2
                rw [Nat.add_zero] at z0
                have n6p : 0 < n6 := by have := S8.out.len; omega
                have F2 := Lib.hid f2
                clear f2 f1 hZ S8 R6
                cases he : (Z == id)
                · have J2 : Hid (m2 = m + ((ls.take (j + 1)).filter (isF (L.map ent) id)).length) := by
                    show _ = _
                    rw [FT.out, ← F2.out, he, MJ.out]
                    simp
                  go_wp2_with fail
                  go_quiet (fail)
                  have I3 : Hid (m2 = m + ((ls.take (j + 1)).filter (isF (L.map ent) id)).length ∧ m2 ≤ m + (j + 1) ∧ Below w4.heap.size w4 (w8.drewN nq)) := ⟨J2.out, by omega, below_drewN B8.out nq⟩
                  clear J2 B8 d0 z0 F2 he
                  go_wp2_with (rw [WJ.out])
                  go_roundw
                  case rel => exact ⟨j + 1, m2, by omega, rfl, by go_num, I3⟩
                  case measure => simp [intOf]; omega
                · have J2 : Hid (m2 + 1 = m + ((ls.take (j + 1)).filter (isF (L.map ent) id)).length) := by
                    show _ = _
                    rw [FT.out, ← F2.out, he, MJ.out]
                    simp
                    omega
                  go_wp2_with fail
                  go_quiet (fail)
                  have I3 : Hid (m2 + 1 = m + ((ls.take (j + 1)).filter (isF (L.map ent) id)).length ∧ m2 + 1 ≤ m + (j + 1) ∧ Below w4.heap.size w4 (w8.drewN nq)) := ⟨J2.out, by omega, below_drewN B8.out nq⟩
                  clear J2 B8 d0 z0 F2 he
                  go_wp2_with (first | rw [WM.out] | rw [WJ.out])
                  go_roundw
                  case rel => exact ⟨j + 1, m2 + 1, by omega, by go_num, by go_num, I3⟩
                  case measure => simp [intOf]; omega
          · obtain rfl : j = nl := by omega
            have hjz : ¬ (j : Int) < (j : Int) := by omega
            have I3 : Hid (m2 = (firsts (L.map ent) ((L.map ent).take (k + 1))).length ∧ m2 ≤ 6 * (k + 1) ∧ Below w4.heap.size w4 wr) := ⟨by
              rw [ETH.out, firsts_snoc, List.length_append, ← MK.out, HJ.out.1, List.take_of_length_le (by rw [NL.out]; exact Nat.le_refl _)], by have := HJ.out.2.1; omega, HJ.out.2.2⟩
            clear HJ
            go_wp2_with (rw [WK.out])
            go_roundw
            case rel => exact ⟨k + 1, m2, by omega, rfl, by go_num, I3⟩
            case measure => simp [intOf]; omega
      · obtain rfl : k = nL := by omega
        have hkz : ¬ (k : Int) < (k : Int) := by omega
        have IE := Lib.hid (I4.out.below HI.out.2.2)
        have BE : Hid (Below w.heap.size w wr) := B4.out.trans (HI.out.2.2.mono B4.out.size)
        have CL := ilen_any IE.out (firsts (L.map ent) (L.map ent)) (firsts_nodup IE.out.nd IE.out.set) fun _ => firsts_mem
        have EM := HI.out.1
        rw [List.take_of_length_le (by rw [List.length_map, LN.out]; exact Nat.le_refl _)] at EM
        rw [← EM] at CL
        have CLH := Lib.hid CL
        have CP := Lib.hid (iposting_any IE.out ⟨#[115, 101, 118]⟩ ⟨#[110, 111, 98, 111, 100, 121]⟩ ⟨by decide, by decide⟩)
        have N1 := Lib.hid (who_none OK.out (y := (⟨#[115, 101, 118]⟩, ⟨#[110, 111, 98, 111, 100, 121]⟩)) (fun h => absurd h.2 (by decide +kernel)))
        have N2 := Lib.hid (who_none OK.out (y := (⟨#[110, 111, 98, 111, 100, 121]⟩, ⟨#[97]⟩)) (fun h => absurd h.1 (by decide +kernel)))
        clear HI CL EM I4 R4 B4 OK
        go_wp2_with fail
        refine CLH.out.mono ?_
        rintro e w' ⟨rfl, rfl⟩
        clear CLH
        go_wp2_with fail
        refine CP.out.mono ?_
        rintro e w5 ⟨o5, A5, n5, c5, rfl, r5, s5, bb⟩
        obtain rfl : n5 = 0 := rise_nil r5 s5 N1.out
        have I5 := Lib.hid (IE.out.below bb)
        have B5 : Hid (Below w.heap.size w w5) := BE.out.trans (bb.mono BE.out.size)
        have CP2 := Lib.hid (iposting_any I5.out ⟨#[110, 111, 98, 111, 100, 121]⟩ ⟨#[97]⟩ ⟨by decide, by decide⟩)
        clear r5 s5 bb CP IE BE N1
        go_wp2_with fail
        refine CP2.out.mono ?_
        rintro e w6 ⟨o6, A6, n6, c6, rfl, r6, s6, bb⟩
        obtain rfl : n6 = 0 := rise_nil r6 s6 N2.out
        have B6 : Hid (Below w.heap.size w w6) := B5.out.trans (bb.mono B5.out.size)
        have CR := Lib.hid (runs10_any (HT.out.below B6.out))
        clear r6 s6 bb CP2 I5 B5 N2
        go_wp2_with fail
        refine CR.out.mono ?_
        rintro e w7 ⟨rfl, bb⟩
        have B7 : Hid (Below w.heap.size w w7) := B6.out.trans (bb.mono B6.out.size)
        clear bb CR
        go_wp2
        go_ret
        exact ⟨rfl, B7.out⟩
end Go.Proofs.YtlfcjjlgkcfkdaaGreatDoor
