/-
  Bools copied into a row of one's own; what the reference's after does at a node 'any number of times', where its kid's calls do as they should. Conditions: no more than 100 places.
  Steps for a statement whose order Go leaves open and which holds calls that make memory: an operation whose value is the same in every later world is taken first; a call that alone may come up is met by its contract; the condition on worlds may be made stronger on the way. No conditions; nothing of any program.
  More steps for a statement whose order Go leaves open: an operation that alone may come up and that makes or writes memory; two that may come up in either order. No conditions; nothing of any program.
-/
import Derived.Test.YtonfmbnankihbaaDoorProg
import Derived.Test.YtonfmbnankihbaaDoorZ01
import Derived.Test.YtonfmbnankihbaaDoorZ03
import Derived.Test.YtonfmbnankihbaaDoorZ02
import Derived.Laws.CopyOwn
import Derived.Laws.MakeOwn
import Derived.Laws.OwnMore
import Derived.OwnWalk
import Derived.WalkKit
import Derived.WalkSpells
import Derived.WalkLawsBesides
import Derived.Lib.Hide
import Derived.Below
import Derived.BigQuiet
import Derived.Lib.QuietBelow
import Derived.Laws.StructEq
import Derived.KernelRfl
import Derived.Deep.RegionHeld3
import Derived.Laws.AppendOwn
namespace Go.Proofs.YtonfmbnankihbaaDoor
open Go.RowKit Go.Sort

theorem OwnB.heap {w : World} {base g n : Nat} {f : Nat → Bool} (h : OwnB w base g n f) : w.heap[g]? = some (.cells (bof n f).toArray 4 (0, 0)) ∧ base ≤ g := by
  rcases h.2 with ⟨e, _⟩ | ⟨g', cap, cur, e, hb, hg, _, _, hs, ht⟩
  · cases e
  · injection e with e1 e2 e3
    injection e1 with e1
    injection e1 with e1
    subst e1 e3
    refine ⟨?_, hb⟩
    rw [hg]
    have : cur.toList = bof n f := by rw [← ht, List.take_of_length_le (by rw [Array.length_toList]; omega)]
    rw [← this]
theorem OwnB.of_heap {w : World} {base g n : Nat} {f : Nat → Bool} (h : w.heap[g]? = some (.cells (bof n f).toArray 4 (0, 0))) (hb : base ≤ g) (hn : n ≤ 1000) : OwnB w base g n f :=
  ⟨by rw [bof_len]; omega, .inr ⟨g, n, _, rfl, hb, h, Nat.le_refl _, by unfold maxLen; omega, by simp [bof_len], by simp [bof_len, List.take_of_length_le]⟩⟩
theorem bof_one (n : Nat) (f : Nat → Bool) : ∀ u ∈ bof n f, u.oneCell' = true := by
  intro u hu
  simp only [bof, List.mem_map] at hu
  obtain ⟨_, _, rfl⟩ := hu
  rfl
theorem wpList_copyB {ops : Array Oper} {rest : List Oper} {o : Oper} {a : Act} {w : World} {Q : Exit → Act → World → Prop} (hgd : o.guard = none) (d s : Operand) (ho : o.op = .call { callee := .builtin .copy, args := #[d, s], argTypes := #[73, 73] })
    (base g n : Nat) (f0 : Nat → Bool) (hd : a.eval d = .slice (some ⟨g, 0, none⟩) n n) (hown : OwnB w base g n f0) (A : Option Addr) (c : Nat) (f : Nat → Bool) (hs : a.eval s = .slice A n c) (hi : IsBo w A n f)
    (B : Nat) (w0 : World) (hb : Below B w0 w) (hBg : B ≤ g) (hn : n ≤ 1000)
    (h : ∀ w', OwnB w' base g n f → Below B w0 w' → wpList Tryd.prog ops Q rest (a.put o.dst (.int .i64 (n : Int))) w') : wpList Tryd.prog ops Q (o :: rest) a w := by
  obtain ⟨hg, hbg⟩ := hown.heap
  refine wpList_copy_splice hgd d s 73 73 ho 4 Tryd.underlying73 (by kernel_rfl) (some ⟨g, 0, none⟩) A n n n c hd hs g 0 (bof n f0) 4 hg (bof n f) (by rw [bof_len]; exact (Nat.min_self n).symm) (fun hp => ⟨rfl, ?_⟩) (by rw [bof_len, bof_len]; omega) (bof_one n f) B w0 hb hBg ?_
  · rw [bof_len] at hp
    obtain ⟨b, off, rfl, hx⟩ := hi hp
    refine ⟨_, rfl, fun j v hv => ?_⟩
    have hj : j < n := by
      rcases Nat.lt_or_ge j n with h1 | h1
      · exact h1
      · rw [List.getElem?_eq_none (by rw [bof_len]; exact h1)] at hv; cases hv
    have e2 : (⟨b, off, none⟩ : Addr).add j = ⟨b, off + j, none⟩ := by unfold Addr.add; split <;> simp_all
    rw [e2, hx j hj, ← hv, bof_get hj]
  · intro w' hw' hb'
    have e : splice (bof n f0) 0 (bof n f) = bof n f := by simp [splice, bof_len]
    have hw2 := hw'.out
    rw [e] at hw2
    have hl : goInt (bof n f).length = .int .i64 (n : Int) := by rw [bof_len]; rfl
    rw [hl]
    exact h w' (.of_heap hw2 hbg hn) hb'
theorem aft_star_eq {S : List Nat} {a b c d : Nat} {ks : List Rx} {f : Nat → Bool} (h : ks.length = 1) : Rx.aft S (.mk 4 a b c d ks) f = Rx.star (Rx.aft S (Rx.nth ks 0)) (S.length + 1) f := by
  match ks, h with
  | [k], _ => rfl

set_option maxRecDepth 100000 in
set_option maxHeartbeats 2000000 in
theorem after_star {w : World} {s : ByteArray} {S : List Nat} {L : Nat} {ks : List Rx} {N : Nat} {A : Option Addr} {blk off : Nat} {V : Nat → Nat → Value} (T : AftH w s S L ks N A blk off V) (a b c d cap : Nat) (hN : N = 1) (F : Option Addr) (cf : Nat) (f : Nat → Bool) (hf : IsBo w F (L + 1) f) :
    Calls Tryd.prog 57 #[.agg #[.int .i64 4, .int .u64 (a : Int), .int .u64 (b : Int), .int .u64 (c : Int), .int .u64 (d : Int), .slice A N cap], .string s, .slice F (L + 1) cf] w (AftDone w S L (.mk 4 a b c d ks) f) := by
  have HT := Lib.hid T
  have hL := T.few
  have hs := T.size
  have E := Lib.hid (aft_star_eq (S := S) (a := a) (b := b) (c := c) (d := d) (f := f) (T.len.trans hN))
  rw [T.text] at E
  have hA := T.ptr (by omega)
  subst hN hA
  have MK := fun W => make_bools (L + 1) (by omega) W
  have BX := Lib.hid (fun W => box6 (w := w) (v0 := .int .i64 4) (v1 := .int .u64 (a : Int)) (v2 := .int .u64 (b : Int)) (v3 := .int .u64 (c : Int)) (v4 := .int .u64 (d : Int)) (v5 := .slice (some ⟨blk, off, none⟩) 1 cap) (ty := 34) (W := W))
  obtain ⟨w0, hw0⟩ : ∃ w0, w.alloc (.cells #[.int .i64 4, .int .u64 (a : Int), .int .u64 (b : Int), .int .u64 (c : Int), .int .u64 (d : Int), .slice (some ⟨blk, off, none⟩) 1 cap] 34) = w0 := ⟨_, rfl⟩
  obtain ⟨w1, hw1⟩ : ∃ w1, w0.alloc (.cells (bof (L + 1) fun _ => false).toArray 4) = w1 := ⟨_, rfl⟩
  have MK1 := MK w0
  have wl : IntKind.i64.wrap ((L : Int) + 1) = (L : Int) + 1 := by rw [IntKind.wrap_i64]; omega
  have el : ((L + 1 : Nat) : Int) = (L : Int) + 1 := by simp
  rw [hw1, el] at MK1
  rw [hw0] at BX
  have B01 : Below (w.heap.size + 1) w0 w1 := by
    rw [← hw1]
    have e : w0.heap.size = w.heap.size + 1 := by rw [← hw0]; simp
    rw [← e]
    exact (Below.refl _ _).alloc (Nat.le_refl _) _
  obtain ⟨⟨q0, q1, q2, q3, q4, q5⟩, BW⟩ := BX.out w1 B01
  have BWH := Lib.hid BW
  have O1 : OwnB w1 w0.heap.size w0.heap.size (L + 1) (fun _ => false) := by rw [← hw1]; exact own_made (L + 1) (by omega) w0
  have e0 : w0.heap.size = w.heap.size + 1 := by rw [← hw0]; simp
  rw [e0] at O1
  have SRC := Lib.hid (hf.below BW)
  have SY := Lib.hid (Rx.aft_says S (Rx.nth ks 0))
  rw [T.text] at SY
  have B0H := Lib.hid B01
  have S01 := B01.size
  have SZ1 : w.heap.size + 1 ≤ w1.heap.size := by have e : w0.heap.size = w.heap.size + 1 := by (rw [← hw0]; simp)
                                                  omega
  clear T MK B01 BW hf q1 q2 q3 q4 hw1
  obtain ⟨g, hg⟩ : ∃ g, Rx.aft S (Rx.nth ks 0) = g := ⟨_, rfl⟩
  rw [hg] at E SY
  go_enter Tryd.func57, Tryd.ntmps57
  go_wp2_with (refine wpList_copyB rfl (.tmp 20) (.tmp 21) rfl (w.heap.size + 1) (w.heap.size + 1) (L + 1) _ rfl O1 F cf f rfl SRC.out (w.heap.size + 1) w0 B0H.out (by omega) (by omega) ?_)
  intro w2 o2 b2
  have I0 : Hid (OwnB w2 w.heap.size (w.heap.size + 1) (L + 1) f ∧ Below (w.heap.size + 1) w0 w2 ∧ w.heap.size + 1 ≤ w2.heap.size) := ⟨o2.base (by omega), b2, by have := b2.size; omega⟩
  clear O1 o2 b2 q0 q5 MK1 hw0 SRC
  go_wp2
  go_loopw [7, 12] (fun vo i wr => ∃ k q : Nat, k ≤ L + 1 ∧ i = .int .i64 (k : Int) ∧ vo = .slice (some ⟨q, 0, none⟩) (L + 1) (L + 1) ∧ Hid (∃ h, OwnB wr w.heap.size q (L + 1) h ∧ Below (w.heap.size + 1) w0 wr ∧ w.heap.size + 1 ≤ wr.heap.size ∧ ∀ j, j ≤ L → Rx.star g (L + 1 - k) h j = Rx.star g (L + 1) f j)) (fun _ i _ => L + 1 - (intOf i).toNat)
  case atStart => exact ⟨0, w.heap.size + 1, by omega, rfl, rfl, _, I0.out.1, I0.out.2.1, I0.out.2.2, fun j _ => rfl⟩
  case round =>
    clear I0
    obtain ⟨k, qo, hk, rfl, rfl, HI⟩ := hrel
    obtain ⟨h, OH, BH, SH, ST⟩ := HI.out
    have HO := Lib.hid OH
    have HBH := Lib.hid BH
    have HST := Lib.hid ST
    clear HI OH ST BH
    obtain ⟨⟨_, _, _, _, _, q5⟩, BW⟩ := BX.out wr HBH.out
    have BWR := Lib.hid BW
    clear BW
    by_cases hkL : k ≤ L
    · have hkz : (k : Int) ≤ (L : Int) := by omega
      have c0 := HT.out.cells wr BWR.out 0 0 (by omega) (by omega)
      have c1 := HT.out.cells wr BWR.out 0 1 (by omega) (by omega)
      have c2 := HT.out.cells wr BWR.out 0 2 (by omega) (by omega)
      have c3 := HT.out.cells wr BWR.out 0 3 (by omega) (by omega)
      have c4 := HT.out.cells wr BWR.out 0 4 (by omega) (by omega)
      have c5 := HT.out.cells wr BWR.out 0 5 (by omega) (by omega)
      simp only [Nat.zero_mul, Nat.add_zero] at c0 c1 c2 c3 c4 c5
      have CK := Lib.hid (HT.out.call 0 wr (some ⟨qo, 0, none⟩) (L + 1) h (by omega) BWR.out HO.out.is)
      rw [hg] at CK
      unfold val6 at CK
      generalize V 0 0 = v0 at *
      generalize V 0 1 = v1 at *
      generalize V 0 2 = v2 at *
      generalize V 0 3 = v3 at *
      generalize V 0 4 = v4 at *
      generalize V 0 5 = v5 at *
      go_wp2_with fail
      refine CK.out.mono ?_
      rintro e w3 ⟨⟨q3, rfl, o3⟩, b3⟩
      have d3 := HBH.out.trans (b3.mono SH)
      have z3 := b3.size
      have CJ := Lib.hid (rjoin_any (L + 1) h (g h) (some ⟨qo, 0, none⟩) (some ⟨q3, 0, none⟩) (L + 1) (L + 1) w3 (by omega) (HO.out.keep b3).is o3.is)
      have K3 := Lib.hid (HO.out.keep b3)
      clear CK b3 o3 c0 c1 c2 c3 c4 c5 q5
      go_wp2_with fail
      refine CJ.out.mono ?_
      rintro e w4 ⟨⟨q4, rfl, o4⟩, b4⟩
      have d4 := d3.trans (b4.mono (by omega))
      have z4 := b4.size
      have K4 := Lib.hid (K3.out.keep b4)
      have O4 := Lib.hid (o4.base (b1 := w.heap.size) (by omega))
      have CS := Lib.hid (rsame_any (L + 1) (fun i => h i || g h i) h (some ⟨q4, 0, none⟩) (some ⟨qo, 0, none⟩) (L + 1) (L + 1) w4 (by omega) o4.is K4.out.is)
      clear CJ o4 b4 d3 K3
      cases hsm : sameB (L + 1) (fun i => h i || g h i) h
      · rw [hsm] at CS
        clear hsm
        go_wp2_with fail
        refine CS.out.mono ?_
        rintro e w5 ⟨rfl, b5⟩
        have I5 : Hid (OwnB w5 w.heap.size q4 (L + 1) (fun i => h i || g h i) ∧ Below (w.heap.size + 1) w0 w5 ∧ w.heap.size + 1 ≤ w5.heap.size ∧ ∀ j, j ≤ L → Rx.star g (L + 1 - (k + 1)) (fun i => h i || g h i) j = Rx.star g (L + 1) f j) := ⟨O4.out.keep b5, d4.trans (b5.mono (by omega)), by have := b5.size; omega, fun j hj => by
          rw [← HST.out j hj]
          obtain ⟨m, hm⟩ : ∃ m, L + 1 - k = m + 1 := ⟨L - k, by omega⟩
          have hm2 : L + 1 - (k + 1) = m := by omega
          rw [hm, hm2]; rfl⟩
        clear CS b5 d4 K4 O4
        go_wp2
        go_roundw
        case rel => exact ⟨k + 1, q4, by omega, by go_num, rfl, _, I5.out⟩
        case measure => simp [intOf]; omega
      · have SS : ∀ i, i ≤ L → (h i || g h i) = h i := fun i hi => (of_decide_eq_true hsm) i (by omega)
        have FIX : Hid (∀ j, j ≤ L → h j = Rx.star g (L + 1) f j) := fun j hj => by
          rw [← HST.out j hj]
          exact (Rx.star_stop SY.out SS _ hj).symm
        rw [hsm] at CS
        clear hsm SS
        go_wp2_with fail
        refine CS.out.mono ?_
        rintro e w5 ⟨rfl, b5⟩
        have R : Hid (AftDone w S L (.mk 4 a b c d ks) f (.returned (.slice (some ⟨qo, 0, none⟩) (L + 1) (L + 1))) w5) := by
          refine ⟨⟨qo, rfl, ?_⟩, ?_⟩
          · rw [E.out]
            exact (K4.out.keep b5).congr fun i hi => FIX.out i (by omega)
          · exact (BX.out w5 (d4.trans (b5.mono (by omega)))).2
        clear CS b5 d4 K4 O4
        go_wp2
        go_ret
        exact R.out
    · have hkz : ¬ (k : Int) ≤ (L : Int) := by omega
      have R : Hid (AftDone w S L (.mk 4 a b c d ks) f (.returned (.slice (some ⟨qo, 0, none⟩) (L + 1) (L + 1))) wr) := by
        refine ⟨⟨qo, rfl, ?_⟩, BWR.out⟩
        rw [E.out]
        refine HO.out.congr fun i hi => ?_
        rw [← HST.out i (by omega), show L + 1 - k = 0 by omega]; rfl
      clear HT
      go_wp2
      go_ret
      exact R.out

end Go.Proofs.YtonfmbnankihbaaDoor
namespace Go.Proofs.YtonfmbnankihbaaDoor
section
variable {P : Program} {md : Region.Mode} {ops : Array Oper} {Q : Exit → Act → World → Prop} {S S' : World → Prop}

theorem held_more (h : ∀ w, S' w → S w) : ∀ (fuel : Nat) (listed : Array Bool) (a : Act) (w : World), wpAnyH P md ops Q S' fuel listed a w → wpAnyH P md ops Q S fuel listed a w
  | 0, _, _, _, x => x
  | fuel + 1, _, _, _, x => ⟨x.1, fun i hi => wpOp_mono (fun a' w' h' => ⟨h _ h'.1, held_more h fuel _ a' w' h'.2⟩) (x.2 i hi)⟩

theorem held_take (i d : Nat) {oi : Oper} {v : Value} {fuel : Nat} {listed : Array Bool} {ts : Array Value} {ds : List Deferred} {w : World} (hi : ops[i]? = some oi) (hd : oi.dst = some d)
    (hs : Region.noSelect ops = true) (hf : Region.free md ops listed i = true) (hr : (Region.ready md ops listed).contains i = true) (hw : Region.wanted oi (yielded ops ts) = true)
    (hQ : ∀ c a w, Q (.panic c) (a.put oi.dst v) w → Q (.panic c) a w) (hS : S w)
    (hv : ∀ W, S W → (execOp (Act.mk ts ds).eval oi).run P W = .ok (.value v) W)
    (h : wpAnyH P md ops Q S fuel (listed.setIfInBounds i true) ⟨ts.setIfInBounds d v, ds⟩ w) : wpAnyH P md ops Q S (fuel + 1) listed ⟨ts, ds⟩ w := by
  refine wpAnyH_take hi hs hf hr hQ (.inl ⟨hw, hv⟩) hS ?_
  rw [hd]; exact h

theorem held_call (i d : Nat) {oi : Oper} {f : FuncId} {args : Array Value} {fuel : Nat} {listed : Array Bool} {ts : Array Value} {ds : List Deferred} {w : World} (hi : ops[i]? = some oi) (hd : oi.dst = some d)
    (hr : Region.ready md ops listed = [i]) (hw : Region.wanted oi (yielded ops ts) = true)
    (hx : (execOp (Act.mk ts ds).eval oi).run P w = .ok (.enter f args) w)
    (hc : Calls P f args w fun e w' => ∃ v, e = .returned v ∧ S w' ∧ wpAnyH P md ops Q S fuel (listed.setIfInBounds i true) ⟨ts.setIfInBounds d v, ds⟩ w') : wpAnyH P md ops Q S (fuel + 1) listed ⟨ts, ds⟩ w := by
  refine wpAnyH_all hr (by simp) fun j hj => ?_
  obtain rfl : j = i := by simpa using hj
  unfold wpOp
  simp only [hi, hw, if_true]
  refine .inl ?_
  unfold Oper.wp
  rw [hx]
  refine Calls.mono hc fun e w' he => ?_
  obtain ⟨v, rfl, hS, hh⟩ := he
  refine ⟨hS, ?_⟩
  rw [hd]; exact hh
end


end Go.Proofs.YtonfmbnankihbaaDoor
namespace Go.Proofs.YtonfmbnankihbaaDoor
section
variable {P : Program} {md : Region.Mode} {ops : Array Oper} {Q : Exit → Act → World → Prop} {S : World → Prop}

theorem held_op (i : Nat) {oi : Oper} {fuel : Nat} {listed : Array Bool} {a : Act} {w : World} (hi : ops[i]? = some oi)
    (hr : Region.ready md ops listed = [i]) (hw : Region.wanted oi (yielded ops a.tmps) = true)
    (h : oi.wp P a w (fun a' w' => S w' ∧ wpAnyH P md ops Q S fuel (listed.setIfInBounds i true) a' w') Q) : wpAnyH P md ops Q S (fuel + 1) listed a w := by
  refine wpAnyH_all hr (by simp) fun j hj => ?_
  obtain rfl : j = i := by simpa using hj
  unfold wpOp
  simp only [hi, hw, if_true]
  exact .inl h

theorem held_two (i j : Nat) {oi oj : Oper} {fuel : Nat} {listed : Array Bool} {a : Act} {w : World} (hi : ops[i]? = some oi) (hj : ops[j]? = some oj)
    (hr : Region.ready md ops listed = [i, j]) (hwi : Region.wanted oi (yielded ops a.tmps) = true) (hwj : Region.wanted oj (yielded ops a.tmps) = true)
    (h1 : oi.wp P a w (fun a' w' => S w' ∧ wpAnyH P md ops Q S fuel (listed.setIfInBounds i true) a' w') Q)
    (h2 : oj.wp P a w (fun a' w' => S w' ∧ wpAnyH P md ops Q S fuel (listed.setIfInBounds j true) a' w') Q) : wpAnyH P md ops Q S (fuel + 1) listed a w := by
  refine wpAnyH_all hr (by simp) fun k hk => ?_
  have hk' : k = i ∨ k = j := by simpa using hk
  rcases hk' with rfl | rfl
  · unfold wpOp
    simp only [hi, hwi, if_true]
    exact .inl h1
  · unfold wpOp
    simp only [hj, hwj, if_true]
    exact .inl h2

/-- An operation whose guard forbids it. -/
theorem held_skip (i d : Nat) {oi : Oper} {fuel : Nat} {listed : Array Bool} {ts : Array Value} {ds : List Deferred} {w : World} (hi : ops[i]? = some oi) (hd : oi.dst = some d)
    (hs : Region.noSelect ops = true) (hf : Region.free md ops listed i = true) (hr : (Region.ready md ops listed).contains i = true) (hw : Region.wanted oi (yielded ops ts) = false)
    (hQ : ∀ c a w, Q (.panic c) (a.put oi.dst undef) w → Q (.panic c) a w) (hS : S w)
    (h : wpAnyH P md ops Q S fuel (listed.setIfInBounds i true) ⟨ts.setIfInBounds d undef, ds⟩ w) : wpAnyH P md ops Q S (fuel + 1) listed ⟨ts, ds⟩ w := by
  refine wpAnyH_take hi hs hf hr hQ (.inr ⟨hw, rfl⟩) hS ?_
  rw [hd]; exact h

/-- An operation that yields a value and another world. -/
theorem wp_run {o : Oper} {ts : Array Value} {ds : List Deferred} {w w' : World} {v : Value} {d : Nat} {K : Act → World → Prop} {Q : Exit → Act → World → Prop} (hd : o.dst = some d)
    (hx : (execOp (Act.mk ts ds).eval o).run P w = .ok (.value v) w') (h : K ⟨ts.setIfInBounds d v, ds⟩ w') : o.wp P ⟨ts, ds⟩ w K Q := by
  unfold Oper.wp
  rw [hx]
  show K _ _
  rw [hd]; exact h
/-- A call. -/
theorem wp_call {o : Oper} {ts : Array Value} {ds : List Deferred} {w : World} {f : FuncId} {args : Array Value} {d : Nat} {K : Act → World → Prop} {Q : Exit → Act → World → Prop} (hd : o.dst = some d)
    (hx : (execOp (Act.mk ts ds).eval o).run P w = .ok (.enter f args) w) (h : Calls P f args w fun e w' => ∃ v, e = .returned v ∧ K ⟨ts.setIfInBounds d v, ds⟩ w') : o.wp P ⟨ts, ds⟩ w K Q := by
  unfold Oper.wp
  rw [hx]
  refine Calls.mono h fun e w' he => ?_
  obtain ⟨v, rfl, hh⟩ := he
  show K _ _
  rw [hd]; exact hh
/-- An operation that yields nothing, and another world. -/
theorem wp_skip {o : Oper} {a : Act} {w w' : World} {K : Act → World → Prop} {Q : Exit → Act → World → Prop} (hd : o.dst = none)
    (hx : (execOp a.eval o).run P w = .ok .skip w') (h : K a w') : o.wp P a w K Q := by
  unfold Oper.wp
  rw [hx]
  show K (a.put o.dst undef) _
  rw [hd]; exact h
end


end Go.Proofs.YtonfmbnankihbaaDoor
