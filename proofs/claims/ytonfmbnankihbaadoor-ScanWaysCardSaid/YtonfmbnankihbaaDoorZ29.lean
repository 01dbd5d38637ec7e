/-
  What the program's Ends does, for every tree that may be: the places at which a match may end, in order. Conditions: at most 1000 nodes, 100 places; words have 64 bits.
-/
import Derived.Test.YtonfmbnankihbaaDoorProg
import Derived.Test.YtonfmbnankihbaaDoorZ01
import Derived.Test.YtonfmbnankihbaaDoorZ03
import Derived.Test.YtonfmbnankihbaaDoorZ02
import Derived.Test.YtonfmbnankihbaaDoorZ05
import Derived.Test.YtonfmbnankihbaaDoorZ08
import Derived.Test.YtonfmbnankihbaaDoorZ07
import Derived.Test.YtonfmbnankihbaaDoorZ12
import Derived.Test.YtonfmbnankihbaaDoorZ23
import Derived.Test.YtonfmbnankihbaaDoorZ26
import Derived.Test.YtonfmbnankihbaaDoorZ13
import Derived.Test.YtonfmbnankihbaaDoorZ28
import Derived.Deep.QuietTactic
import Derived.BigQuiet
import Derived.Laws.MakeOwn
import Derived.Laws.OwnMore
import Derived.OwnWalk
import Derived.WalkKit
import Derived.WalkSpells
import Derived.WalkLawsBesides
import Derived.Lib.Hide
import Derived.Below
import Derived.Lib.QuietBelow
import Derived.Laws.StructEq
import Derived.KernelRfl
import Derived.Laws.AppendOwn
import Derived.Deep.RegionHeld3
import Derived.Laws.CopyOwn
import Derived.StillTailTactics
import Derived.Deep.MidRow
import Derived.Deep.Upon
namespace Go.Proofs.YtonfmbnankihbaaDoor
open Go.RowKit Go.Sort
open Pt

theorem own_base {w : World} {base b1 : Nat} {e : TypeId} {size : Nat} {v : Value} {n : Nat} {xs : List Value} (h : w.ownsRow base e size v n xs) (hb : b1 ≤ base) : w.ownsRow b1 e size v n xs := by
  refine ⟨h.1, ?_⟩
  rcases h.2 with hn | ⟨g', cap, cur, e1, hbg, rest⟩
  · exact .inl hn
  · exact .inr ⟨g', cap, cur, e1, by omega, rest⟩
theorem lay_below {w w' : World} {g o B : Nat} {t : Pt} (h : Lay w g o t) (hb : Below B w w') (hg : g < B) (hk : ∀ k, k ∈ bl t → k < B) : Lay w' g o t :=
  h.frame hb.size (fun _ _ => hb.cell (p := ⟨g, _, none⟩) hg) (fun _ => hb.frozen (p := ⟨g, _, none⟩) hg) (fun k hm => hb.block k (hk k hm))

set_option maxRecDepth 100000 in
set_option maxHeartbeats 4000000 in
theorem ends_some (x : Rx) (v : Value) (p : Nat) (s : ByteArray) (L : Nat) (w : World) (hcnt : Rx.count x ≤ 1000) (hr : Rx.isRex x = true) (hfit : Rx.fit x) (hs : s.size = L) (hL : L ≤ 100) (hpL : p ≤ L) (h : IsRx w v x) :
    Calls Tryd.prog 20 #[v, .string s, .int .i64 (p : Int)] w (MadeInts w (endsTo (txt8 s) x p (L + 1))) := by
  obtain ⟨i0, hi, hz0, hz1, hz2⟩ := info_parts Tryd.infoZ
  have h0 := Lib.hid h
  have lS : (txt8 s).length = L := by rw [txt8_len, hs]
  have YES : Hid (∀ k, k ≤ L → Rx.mt (txt8 s) x p k → endsTo (txt8 s) x p (k + 1) = endsTo (txt8 s) x p k ++ [k]) := fun k hk hm => endsTo_yes ((aft_mt (by omega) (by omega)).2 hm)
  have NO : Hid (∀ k, k ≤ L → ¬ Rx.mt (txt8 s) x p k → endsTo (txt8 s) x p (k + 1) = endsTo (txt8 s) x p k) := fun k hk hm => endsTo_no (by
    cases hq : Rx.aft (txt8 s) x (fun j => j == p) k
    · rfl
    · exact absurd ((aft_mt (by omega) (by omega)).1 hq) hm)
  have FR : Hid (endsTo (txt8 s) x p p = []) := endsTo_front (by omega) p (Nat.le_refl _)
  have ST : Hid (∀ k, (∀ j, k ≤ j → j ≤ L → ¬ Rx.mt (txt8 s) x p j) → k ≤ L + 1 → endsTo (txt8 s) x p (L + 1) = endsTo (txt8 s) x p k) := fun k hk hkL => by
    have := endsTo_stop (S := txt8 s) (t := x) (p := p) (k := k) (L + 1 - k) (fun j h1 h2 => by
      cases hq : Rx.aft (txt8 s) x (fun j => j == p) j
      · rfl
      · exact absurd ((aft_mt (by omega) (by omega)).1 hq) (hk j h1 (by omega)))
    rwa [show k + (L + 1 - k) = L + 1 by omega] at this
  have LEN := Lib.hid (endsTo_len (txt8 s) x p)
  obtain ⟨el, hel⟩ : ∃ el, endsTo (txt8 s) x p = el := ⟨_, rfl⟩
  rw [hel] at YES NO LEN FR ST ⊢
  have CI := Lib.hid (fun W (hW : Below w.heap.size w W) => is_any 1000 x v W (Nat.le_refl _) hcnt (h0.out.grown hW))
  rw [hr] at CI
  have CN := Lib.hid (fun W (hW : Below w.heap.size w W) => newPart_any 1000 x v W (Nat.le_refl _) hcnt (h0.out.grown hW))
  have HCNT := Lib.hid hcnt
  have HR := Lib.hid hr
  have HFIT := Lib.hid hfit
  clear hel hcnt hr hfit
  cases h with
  | node op a b c d ks A cap blk off V hcap hA hp hc hk =>
    have BX := Lib.hid (fun W => box6 (w := w) (v0 := .int .i64 op) (v1 := .int .u64 (a : Int)) (v2 := .int .u64 (b : Int)) (v3 := .int .u64 (c : Int)) (v4 := .int .u64 (d : Int)) (v5 := .slice A ks.length cap) (ty := 34) (W := W))
    have SZ0 : Hid (w.heap.size + 1 ≤ (w.alloc (.cells #[.int .i64 op, .int .u64 (a : Int), .int .u64 (b : Int), .int .u64 (c : Int), .int .u64 (d : Int), .slice A ks.length cap] 34)).heap.size) := by show _ ≤ _; simp
    clear hcap hA hp hc hk h0
    generalize ks.length = N at *
    have hq1 : ¬ (p : Int) < 0 := by omega
    have hq2 : decide ((p : Int) > (L : Int)) = false := decide_eq_false (by omega)
    go_enter Tryd.func20, Tryd.ntmps20
    go_wp2_with fail
    obtain ⟨w0, hw0⟩ : ∃ w0, w.alloc (.cells #[.int .i64 op, .int .u64 (a : Int), .int .u64 (b : Int), .int .u64 (c : Int), .int .u64 (d : Int), .slice A N cap] 34) = w0 := ⟨_, rfl⟩
    rw [hw0] at BX SZ0 ⊢
    clear hw0
    refine (CI.out w0 (BX.out w0 (Below.refl _ _)).2).mono ?_
    rintro e w2 ⟨rfl, b2⟩
    have d2 : Below (w.heap.size + 1) w0 w2 := b2.mono SZ0.out
    obtain ⟨⟨q0, q1, q2, q3, q4, q5⟩, B2⟩ := BX.out w2 d2
    have B2 := Lib.hid B2
    clear CI b2 d2
    go_wp2_with fail
    refine (CN.out w2 B2.out).mono ?_
    rintro e w3 ⟨t, rfl, nw, b3⟩
    obtain ⟨l4, ap⟩ := nw.lay
    have lw : ∀ k, k ∈ bl t → w.heap.size ≤ k ∧ k < w3.heap.size := fun k hk => ⟨Nat.le_trans B2.out.size (nw.low k hk), by
      rw [bl_eq, List.mem_cons] at hk
      rcases hk with rfl | hk
      · exact nw.top
      · obtain ⟨j, hj, hx⟩ := mem_nth hk
        exact (nw.kid j hj).lt k hx⟩
    have B3 : Below w.heap.size w w3 := B2.out.trans (b3.mono B2.out.size)
    have sx := nw.sh
    have dd := nw.dead
    have em := nw.em
    have rx : Rx.isRex (sh t) = true := by rw [sx]; exact HR.out
    have fx : Rx.fit (sh t) := by rw [sx]; exact HFIT.out
    have WF := dead_wf t dd rx
    have cnt : count t ≤ 1000 := by
      have e : ∀ t : Pt, Rx.count (sh t) = count t := count_sh
      rw [← e, sx]; exact HCNT.out
    have CR : Hid (∀ k W, p + k < L → Lay W w3.heap.size 0 (rdTo (txt8 s) t p k) → Reads ((txt8 s).getD (p + k) 0) (rdTo (txt8 s) t p k) w3.heap.size 0 (k == 0) (rdTo (txt8 s) t p (k + 1)) 36 W) := fun k W hk hlay =>
      read_any 1000 _ _ _ _ _ W (Nat.le_refl _) (by rw [count_rdTo]; exact cnt) (txt8_lt s _) (by rw [sh_rdTo]; exact rx) (by rw [sh_rdTo]; exact fx) (wf_rdTo p WF k) (by unfold Apart; rw [bl_rdTo]; exact ap) hlay
    have LA : Hid (∀ k, p + k ≤ L → 0 < k → ((rdTo (txt8 s) t p k).la = true ↔ Rx.mt (txt8 s) (.mk op a b c d ks) p (p + k))) := fun k hk h0 => by rw [← sx]; exact rdTo_la em dd rx (by omega) h0
    have EM : Hid (t.em = true ↔ Rx.mt (txt8 s) (.mk op a b c d ks) p p) := by rw [← sx]; exact em_says t p em rx
    have DD : Hid (∀ k, 0 < k → (rdTo (txt8 s) t p k).lv = false → ∀ m, rdTo (txt8 s) t p (k + m) = rdTo (txt8 s) t p k) := fun k h0 he m => rdTo_dead WF h0 he m
    have DL : Hid (∀ k, (rdTo (txt8 s) t p k).lv = false → (rdTo (txt8 s) t p k).la = false) := fun k he => dead_la (wf_dead (wf_rdTo p WF k) he)
    have BLT : Hid (∀ k, bl (rdTo (txt8 s) t p k) = bl t) := fun k => bl_rdTo t p k
    have LW := Lib.hid lw
    have B3 := Lib.hid B3
    have B4 : Hid (Below w.heap.size w (w3.alloc (.cells (cells9 t).toArray 58))) := B3.out.alloc B3.out.size _
    have z4 : Hid (w3.heap.size < (w3.alloc (.cells (cells9 t).toArray 58)).heap.size) := by show _ < _; simp
    have L4 : Hid (Lay (w3.alloc (.cells (cells9 t).toArray 58)) w3.heap.size 0 (rdTo (txt8 s) t p 0)) := l4
    have c6 := l4.cells 6 (by omega)
    rw [cell6, Nat.zero_add] at c6
    have EMT : Hid (∀ k, (rdTo (txt8 s) t p k).em = t.em) := fun k => em_rdTo t p k
    clear nw l4 ap lw sx dd em rx fx WF cnt b3 CN q0 q1 q2 q3 q4 q5 BX SZ0 HR HFIT HCNT
    obtain ⟨T, hT⟩ : ∃ T, rdTo (txt8 s) t p = T := ⟨_, rfl⟩
    rw [hT] at CR LA DD DL BLT L4 EMT
    obtain ⟨EMV, hEM⟩ : ∃ y, t.em = y := ⟨_, rfl⟩
    rw [hEM] at c6 EM EMT
    unfold val9
    obtain ⟨op', a', b', c', d', blk', em', lv', la', ks'⟩ := t
    have hem2 : em' = EMV := hEM
    subst hem2
    simp only [cells9, Pt.cell] at c6 B4 z4 L4 ⊢
    clear hEM hT
    have E1 : Hid (el (p + 1) = if em' = true then [p] else []) := by
      show _ = _
      by_cases he : em' = true
      · rw [if_pos he, YES.out p hpL (EM.out.1 he), FR.out]; rfl
      · rw [if_neg he, NO.out p hpL (fun hm => he (EM.out.2 hm)), FR.out]
    have STEP : Hid (∀ i, p ≤ i → i < L → el (i + 2) = if (T (i - p + 1)).la = true then el (i + 1) ++ [i + 1] else el (i + 1)) := fun i h1 h2 => by
      have q := LA.out (i - p + 1) (by omega) (by omega)
      rw [show p + (i - p + 1) = i + 1 by omega] at q
      by_cases hl : (T (i - p + 1)).la = true
      · rw [if_pos hl]; exact YES.out (i + 1) (by omega) (q.1 hl)
      · rw [if_neg hl]; exact NO.out (i + 1) (by omega) (fun hm => hl (q.2 hm))
    have STOP : Hid (∀ i, p ≤ i → i < L → (T (i - p + 1)).lv = false → el (L + 1) = el (i + 1)) := fun i h1 h2 hl => by
      refine ST.out (i + 1) (fun j hj hjL hm => ?_) (by omega)
      have q := LA.out (j - p) (by omega) (by omega)
      rw [show p + (j - p) = j by omega] at q
      have e := DD.out (i - p + 1) (by omega) hl (j - (i + 1))
      rw [show i - p + 1 + (j - (i + 1)) = j - p by omega] at e
      have := q.2 hm
      rw [e, DL.out _ hl] at this
      exact absurd this (by decide)
    clear YES NO FR ST LA EM DD DL EMT
    obtain ⟨gp, hgp⟩ : ∃ gp, w3.heap.size = gp := ⟨_, rfl⟩
    have W4 := Lib.hid hgp
    rw [hgp] at CR L4 z4 c6 LW
    have GPW : Hid (w.heap.size ≤ gp) := by show _ ≤ _; rw [← hgp]; exact B3.out.size
    cases em'
    · rw [if_neg (by decide)] at E1
      go_wp2_with fail
      generalize (w3.alloc (.cells #[.int .i64 op', .int .u64 (a' : Int), .int .u64 (b' : Int), .int .u64 (c' : Int), .int .u64 (d' : Int), .slice (some ⟨blk', 0, none⟩) ks'.length ks'.length, .bool false, .bool lv', .bool la'] 58)) = w4 at *
      have I0 : Hid (Lay w4 gp 0 (T 0) ∧ w4.ownsRow (gp + 1) 3 1 (.slice none 0 0) (el (p + 1)).length (iz (el (p + 1))) ∧ Below w.heap.size w w4 ∧ gp < w4.heap.size) := ⟨L4.out, by rw [E1.out]; exact World.ownsRow_nil _ _ _ _, B4.out, z4.out⟩
      clear L4 B4 z4 c6 E1 B2 B3 hgp W4
      simp only [show decide (L < p) = false from decide_eq_false (by omega)]
      go_loopw [7, 9] (fun vo vi wr => ∃ i : Nat, p ≤ i ∧ i ≤ L ∧ vi = .int .i64 (i : Int) ∧ Hid (Lay wr gp 0 (T (i - p)) ∧ wr.ownsRow (gp + 1) 3 1 vo (el (i + 1)).length (iz (el (i + 1))) ∧ Below w.heap.size w wr ∧ gp < wr.heap.size)) (fun _ vi _ => L - (intOf vi).toNat)
      case atStart => exact ⟨p, Nat.le_refl _, hpL, rfl, by rw [Nat.sub_self]; exact I0⟩
      case round =>
        clear I0
        obtain ⟨i, hpi, hiL, rfl, HI⟩ := hrel
        by_cases hil : i < L
        · have hkz : (i : Int) < (L : Int) := by omega
          have TX := fun W => txt8_at W s i (by omega)
          have CRK := CR.out (i - p) wr (by omega) HI.out.1
          rw [show p + (i - p) = i by omega] at CRK
          unfold Reads at CRK
          rw [BLT.out] at CRK
          obtain ⟨bgn, hbg⟩ : ∃ bgn, (i - p == 0) = bgn := ⟨_, rfl⟩
          rw [hbg] at CRK
          have hbz : ((i : Int) == (p : Int)) = bgn := by
            rw [← hbg, Bool.eq_iff_iff]; simp; omega
          have CRK := Lib.hid CRK
          have SK := Lib.hid (STEP.out i hpi hil)
          have SP := Lib.hid (STOP.out i hpi hil)
          have EP : Hid (T (i + 1 - p) = T (i - p + 1)) := by show _ = _; rw [show i + 1 - p = i - p + 1 by omega]
          have hlen := LEN.out (i + 1)
          clear hbg CR STEP STOP
          obtain ⟨T1, hT1⟩ : ∃ T1, T (i - p + 1) = T1 := ⟨_, rfl⟩
          rw [hT1] at CRK SK SP EP
          obtain ⟨xb, hxb⟩ : ∃ xb, (txt8 s).getD i 0 = xb := ⟨_, rfl⟩
          rw [hxb] at CRK
          simp only [hxb] at TX
          clear hT1 hxb
          go_wp2_with fail
          refine CRK.out.mono ?_
          rintro e w6 ⟨rfl, l6, t6⟩
          have o6 := own_tch t6 HI.out.2.1 (Nat.lt_succ_self _) (fun k hk => by have := (LW.out k hk).2; omega)
          have b6 := Tch.below t6 HI.out.2.2.1 (by have := HI.out.2.2.2; have := GPW.out; omega) (fun k hk => (LW.out k hk).1) HI.out.2.2.1.size
          have z6 : gp < w6.heap.size := by have := t6.size; have := HI.out.2.2.2; omega
          have c7 := l6.cells 7 (by omega)
          have c8 := l6.cells 8 (by omega)
          rw [cell7, Nat.zero_add] at c7
          rw [cell8, Nat.zero_add] at c8
          have l6 := Lib.hid l6
          have b6 := Lib.hid b6
          clear t6 CRK HI TX
          cases hlv : T1.lv
          · rw [hlv] at c7
            have R : Hid (MadeInts w (el (L + 1)) (.returned u7) w6) := ⟨_, rfl, by
              rw [SP.out hlv]
              exact own_base o6 (by have := GPW.out; omega), b6.out⟩
            clear o6 SP SK l6 hlv
            go_wp2
            go_ret
            exact R.out
          · rw [hlv] at c7
            clear hlv SP
            cases hla : T1.la
            · rw [hla] at c8 SK
              simp only [Bool.false_eq_true, if_false] at SK
              have J : Hid (Lay w6 gp 0 (T (i + 1 - p)) ∧ w6.ownsRow (gp + 1) 3 1 u7 (el (i + 2)).length (iz (el (i + 2))) ∧ Below w.heap.size w w6 ∧ gp < w6.heap.size) := ⟨by rw [EP.out]; exact l6.out, by rw [SK.out]; exact o6, b6.out, z6⟩
              clear o6 l6 b6 hla SK EP
              go_wp2
              go_roundw
              case rel => exact ⟨i + 1, by omega, by omega, by go_num, J⟩
              case measure => simp [intOf]; omega
            · rw [hla] at c8 SK
              simp only [if_true] at SK
              have wi1 : IntKind.i64.wrap ((i : Int) + 1) = ((i + 1 : Nat) : Int) := by rw [IntKind.wrap_i64]; omega
              have one1 := one_iz (i + 1)
              have COH := Lib.hid (cell_one_new w6 (.int .i64 ((i + 1 : Nat) : Int)) 3)
              clear hla
              go_wp2_with (at_builtin; refine wpList_append_own _ rfl _ _ 38 rfl (gp + 1) 3 i0 (.int .i64 0) 1 8 Tryd.underlying38 hi hz0 hz1 hz2 rfl (by decide) _ _ _ rfl (o6.alloc _) ⟨w6.heap.size, 0, none⟩ 1 1 [.int .i64 ((i + 1 : Nat) : Int)] rfl rfl COH.out one1 (by unfold maxLen; omega) (by omega) (by rw [World.size_alloc]; omega) ?_)
              intro v' w7 o7 g7 _
              have bg : Below (gp + 1) w6 w7 := ((Below.refl (gp + 1) w6).alloc z6 _).grown g7 (by rw [World.size_alloc]; omega) (fun q hq => (o6.lt q hq).1)
              have J : Hid (Lay w7 gp 0 (T (i + 1 - p)) ∧ w7.ownsRow (gp + 1) 3 1 v' (el (i + 2)).length (iz (el (i + 2))) ∧ Below w.heap.size w w7 ∧ gp < w7.heap.size) := ⟨by rw [EP.out]; exact lay_below l6.out bg (Nat.lt_succ_self _) (fun k hk => by rw [← EP.out, BLT.out] at hk; have := (LW.out k hk).2; omega), by rw [SK.out, List.length_append, iz_app]; exact o7, b6.out.trans (bg.mono (by have := GPW.out; omega)), by have := bg.size; omega⟩
              clear o6 o7 g7 bg l6 b6 SK EP COH one1
              go_wp2
              go_roundw
              case rel => exact ⟨i + 1, by omega, by omega, by go_num, J⟩
              case measure => simp [intOf]; omega
        · obtain rfl : i = L := by omega
          have hkz : ¬ (i : Int) < (i : Int) := by omega
          have R : Hid (MadeInts w (el (i + 1)) (.returned u7) wr) := ⟨_, rfl, own_base HI.out.2.1 (by have := GPW.out; omega), HI.out.2.2.1⟩
          clear HI CR STEP STOP
          go_wp2
          go_ret
          exact R.out
    · rw [if_pos rfl] at E1
      have own0 : (w3.alloc (.cells #[.int .i64 op', .int .u64 (a' : Int), .int .u64 (b' : Int), .int .u64 (c' : Int), .int .u64 (d' : Int), .slice (some ⟨blk', 0, none⟩) ks'.length ks'.length, .bool true, .bool lv', .bool la'] 58)).ownsRow (gp + 1) 3 1 (.slice none 0 0) 0 (iz []) := World.ownsRow_nil _ _ _ _
      have es : (w3.alloc (.cells #[.int .i64 op', .int .u64 (a' : Int), .int .u64 (b' : Int), .int .u64 (c' : Int), .int .u64 (d' : Int), .slice (some ⟨blk', 0, none⟩) ks'.length ks'.length, .bool true, .bool lv', .bool la'] 58)).heap.size = gp + 1 := by simp [hgp]
      have CO := cell_one_new (w3.alloc (.cells #[.int .i64 op', .int .u64 (a' : Int), .int .u64 (b' : Int), .int .u64 (c' : Int), .int .u64 (d' : Int), .slice (some ⟨blk', 0, none⟩) ks'.length ks'.length, .bool true, .bool lv', .bool la'] 58)) (.int .i64 (p : Int)) 3
      rw [es] at CO
      have ES := Lib.hid es
      have CO := Lib.hid CO
      clear es
      go_wp2_with (at_builtin; refine wpList_append_own _ rfl _ _ 38 rfl (gp + 1) 3 i0 (.int .i64 0) 1 8 Tryd.underlying38 hi hz0 hz1 hz2 rfl (by decide) _ _ _ rfl (own0.alloc _) ⟨gp + 1, 0, none⟩ 1 1 [.int .i64 (p : Int)] rfl rfl CO.out (one_iz p) (by unfold maxLen; omega) (by omega) (by rw [World.size_alloc, ES.out]; omega) ?_)
      intro v' w6 o6 g6 _
      have bg : Below (gp + 1) (w3.alloc (.cells #[.int .i64 op', .int .u64 (a' : Int), .int .u64 (b' : Int), .int .u64 (c' : Int), .int .u64 (d' : Int), .slice (some ⟨blk', 0, none⟩) ks'.length ks'.length, .bool true, .bool lv', .bool la'] 58)) w6 := ((Below.refl (gp + 1) (w3.alloc (.cells #[.int .i64 op', .int .u64 (a' : Int), .int .u64 (b' : Int), .int .u64 (c' : Int), .int .u64 (d' : Int), .slice (some ⟨blk', 0, none⟩) ks'.length ks'.length, .bool true, .bool lv', .bool la'] 58))).alloc z4.out _).grown g6 (by rw [World.size_alloc]; have := z4.out; omega) (fun q hq => by cases hq)
      have I0 : Hid (Lay w6 gp 0 (T 0) ∧ w6.ownsRow (gp + 1) 3 1 v' (el (p + 1)).length (iz (el (p + 1))) ∧ Below w.heap.size w w6 ∧ gp < w6.heap.size) := ⟨lay_below L4.out bg (Nat.lt_succ_self _) (fun k hk => by have := (LW.out k (by rw [← BLT.out 0]; exact hk)).2; omega), by rw [E1.out]; exact o6, B4.out.trans (bg.mono (by have := B3.out.size; omega)), by have := bg.size; have := z4.out; omega⟩
      clear own0 o6 g6 bg L4 B4 z4 c6 E1 B2 B3 hgp W4
      go_wp2
      go_loopw [7, 9] (fun vo vi wr => ∃ i : Nat, p ≤ i ∧ i ≤ L ∧ vi = .int .i64 (i : Int) ∧ Hid (Lay wr gp 0 (T (i - p)) ∧ wr.ownsRow (gp + 1) 3 1 vo (el (i + 1)).length (iz (el (i + 1))) ∧ Below w.heap.size w wr ∧ gp < wr.heap.size)) (fun _ vi _ => L - (intOf vi).toNat)
      case atStart => exact ⟨p, Nat.le_refl _, hpL, rfl, by rw [Nat.sub_self]; exact I0⟩
      case round =>
        clear I0
        obtain ⟨i, hpi, hiL, rfl, HI⟩ := hrel
        by_cases hil : i < L
        · have hkz : (i : Int) < (L : Int) := by omega
          have TX := fun W => txt8_at W s i (by omega)
          have CRK := CR.out (i - p) wr (by omega) HI.out.1
          rw [show p + (i - p) = i by omega] at CRK
          unfold Reads at CRK
          rw [BLT.out] at CRK
          obtain ⟨bgn, hbg⟩ : ∃ bgn, (i - p == 0) = bgn := ⟨_, rfl⟩
          rw [hbg] at CRK
          have hbz : ((i : Int) == (p : Int)) = bgn := by
            rw [← hbg, Bool.eq_iff_iff]; simp; omega
          have CRK := Lib.hid CRK
          have SK := Lib.hid (STEP.out i hpi hil)
          have SP := Lib.hid (STOP.out i hpi hil)
          have EP : Hid (T (i + 1 - p) = T (i - p + 1)) := by show _ = _; rw [show i + 1 - p = i - p + 1 by omega]
          have hlen := LEN.out (i + 1)
          clear hbg CR STEP STOP
          obtain ⟨T1, hT1⟩ : ∃ T1, T (i - p + 1) = T1 := ⟨_, rfl⟩
          rw [hT1] at CRK SK SP EP
          obtain ⟨xb, hxb⟩ : ∃ xb, (txt8 s).getD i 0 = xb := ⟨_, rfl⟩
          rw [hxb] at CRK
          simp only [hxb] at TX
          clear hT1 hxb
          go_wp2_with fail
          refine CRK.out.mono ?_
          rintro e w6 ⟨rfl, l6, t6⟩
          have o6 := own_tch t6 HI.out.2.1 (Nat.lt_succ_self _) (fun k hk => by have := (LW.out k hk).2; omega)
          have b6 := Tch.below t6 HI.out.2.2.1 (by have := HI.out.2.2.2; have := GPW.out; omega) (fun k hk => (LW.out k hk).1) HI.out.2.2.1.size
          have z6 : gp < w6.heap.size := by have := t6.size; have := HI.out.2.2.2; omega
          have c7 := l6.cells 7 (by omega)
          have c8 := l6.cells 8 (by omega)
          rw [cell7, Nat.zero_add] at c7
          rw [cell8, Nat.zero_add] at c8
          have l6 := Lib.hid l6
          have b6 := Lib.hid b6
          clear t6 CRK HI TX
          cases hlv : T1.lv
          · rw [hlv] at c7
            have R : Hid (MadeInts w (el (L + 1)) (.returned u7) w6) := ⟨_, rfl, by
              rw [SP.out hlv]
              exact own_base o6 (by have := GPW.out; omega), b6.out⟩
            clear o6 SP SK l6 hlv
            go_wp2
            go_ret
            exact R.out
          · rw [hlv] at c7
            clear hlv SP
            cases hla : T1.la
            · rw [hla] at c8 SK
              simp only [Bool.false_eq_true, if_false] at SK
              have J : Hid (Lay w6 gp 0 (T (i + 1 - p)) ∧ w6.ownsRow (gp + 1) 3 1 u7 (el (i + 2)).length (iz (el (i + 2))) ∧ Below w.heap.size w w6 ∧ gp < w6.heap.size) := ⟨by rw [EP.out]; exact l6.out, by rw [SK.out]; exact o6, b6.out, z6⟩
              clear o6 l6 b6 hla SK EP
              go_wp2
              go_roundw
              case rel => exact ⟨i + 1, by omega, by omega, by go_num, J⟩
              case measure => simp [intOf]; omega
            · rw [hla] at c8 SK
              simp only [if_true] at SK
              have wi1 : IntKind.i64.wrap ((i : Int) + 1) = ((i + 1 : Nat) : Int) := by rw [IntKind.wrap_i64]; omega
              have one1 := one_iz (i + 1)
              have COH := Lib.hid (cell_one_new w6 (.int .i64 ((i + 1 : Nat) : Int)) 3)
              clear hla
              go_wp2_with (at_builtin; refine wpList_append_own _ rfl _ _ 38 rfl (gp + 1) 3 i0 (.int .i64 0) 1 8 Tryd.underlying38 hi hz0 hz1 hz2 rfl (by decide) _ _ _ rfl (o6.alloc _) ⟨w6.heap.size, 0, none⟩ 1 1 [.int .i64 ((i + 1 : Nat) : Int)] rfl rfl COH.out one1 (by unfold maxLen; omega) (by omega) (by rw [World.size_alloc]; omega) ?_)
              intro v' w7 o7 g7 _
              have bg : Below (gp + 1) w6 w7 := ((Below.refl (gp + 1) w6).alloc z6 _).grown g7 (by rw [World.size_alloc]; omega) (fun q hq => (o6.lt q hq).1)
              have J : Hid (Lay w7 gp 0 (T (i + 1 - p)) ∧ w7.ownsRow (gp + 1) 3 1 v' (el (i + 2)).length (iz (el (i + 2))) ∧ Below w.heap.size w w7 ∧ gp < w7.heap.size) := ⟨by rw [EP.out]; exact lay_below l6.out bg (Nat.lt_succ_self _) (fun k hk => by rw [← EP.out, BLT.out] at hk; have := (LW.out k hk).2; omega), by rw [SK.out, List.length_append, iz_app]; exact o7, b6.out.trans (bg.mono (by have := GPW.out; omega)), by have := bg.size; omega⟩
              clear o6 o7 g7 bg l6 b6 SK EP COH one1
              go_wp2
              go_roundw
              case rel => exact ⟨i + 1, by omega, by omega, by go_num, J⟩
              case measure => simp [intOf]; omega
        · obtain rfl : i = L := by omega
          have hkz : ¬ (i : Int) < (i : Int) := by omega
          have R : Hid (MadeInts w (el (i + 1)) (.returned u7) wr) := ⟨_, rfl, own_base HI.out.2.1 (by have := GPW.out; omega), HI.out.2.2.1⟩
          clear HI CR STEP STOP
          go_wp2
          go_ret
          exact R.out

end Go.Proofs.YtonfmbnankihbaaDoor
