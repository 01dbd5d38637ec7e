/-
  What the reference's Ends does, for every tree that may be: the places at which a match may end, in order. Conditions: at most 1000 nodes, 100 places; words have 64 bits.
-/
import Derived.Test.YteifjiadgbgkbaaEo
import Derived.Laws.AppendOwn
namespace Go.Proofs.Yteifjiadgbgkbaa
open Go.RowKit Go.Sort

set_option maxRecDepth 100000 in
set_option maxHeartbeats 4000000 in
theorem rends_some (t : Rx) (v : Value) (p : Nat) (s : ByteArray) (L : Nat) (w : World) (hcnt : Rx.count t ≤ 1000) (hr : Rx.isRex t = true) (hfit : Rx.fit t) (hs : s.size = L) (hL : L ≤ 100) (hpL : p ≤ L) (h : IsRx w v t) :
    Calls Try.prog 19 #[v, .string s, .int .i64 (p : Int)] w (MadeInts w (endsTo (txt8 s) t p (L + 1))) := by
  obtain ⟨i0, hi, hz0, hz1, hz2⟩ := info_parts Try.infoZ
  have h0 := Lib.hid h
  have YES := Lib.hid (fun k => endsTo_yes (S := txt8 s) (t := t) (a := p) (k := k))
  have NO := Lib.hid (fun k => endsTo_no (S := txt8 s) (t := t) (a := p) (k := k))
  have LEN := Lib.hid (endsTo_len (txt8 s) t p)
  have E0 : Hid (endsTo (txt8 s) t p 0 = []) := rfl
  obtain ⟨el, hel⟩ : ∃ el, endsTo (txt8 s) t p = el := ⟨_, rfl⟩
  obtain ⟨G, hG⟩ : ∃ G, Rx.aft (txt8 s) t (fun j => j == p) = G := ⟨_, rfl⟩
  rw [hel] at YES NO LEN E0 ⊢
  rw [hG] at YES NO
  have fe : (fun i => if i = p then true else (fun _ => false : Nat → Bool) i) = fun j => j == p := by
    funext i
    by_cases e : i = p
    · simp [e]
    · simp [e]
  have CI := Lib.hid (fun W (hW : Below w.heap.size w W) => risrex_any 1000 t v W (Nat.le_refl _) hcnt (h0.out.grown hW))
  rw [hr] at CI
  have CA := Lib.hid (fun W F (hW : Below w.heap.size w W) (hf : IsBo W F (L + 1) (fun j => j == p)) => rafter_any 1000 t v W s L F (L + 1) (fun j => j == p) (Nat.le_refl _) hcnt hr hfit hs hL (h0.out.grown hW) hf)
  unfold AftDone at CA
  rw [hG] at CA
  have MK := fun W => make_bools (L + 1) (by omega) W
  have el1 : ((L + 1 : Nat) : Int) = (L : Int) + 1 := by simp
  simp only [el1] at MK
  have OM := Lib.hid (fun W => own_made (L + 1) (by omega) W)
  have wl : IntKind.i64.wrap ((L : Int) + 1) = (L : Int) + 1 := by rw [IntKind.wrap_i64]; omega
  clear hG hel hcnt hr hfit
  cases h with
  | node op a b c d ks A cap blk off V hcap hA hp hc hk =>
    have BX := Lib.hid (fun W => box6 (w := w) (v0 := .int .i64 op) (v1 := .int .u64 (a : Int)) (v2 := .int .u64 (b : Int)) (v3 := .int .u64 (c : Int)) (v4 := .int .u64 (d : Int)) (v5 := .slice A ks.length cap) (ty := 26) (W := W))
    have SZ0 : Hid (w.heap.size + 1 ≤ (w.alloc (.cells #[.int .i64 op, .int .u64 (a : Int), .int .u64 (b : Int), .int .u64 (c : Int), .int .u64 (d : Int), .slice A ks.length cap] 26)).heap.size) := by show _ ≤ _; simp
    clear hcap hA hp hc hk h0
    generalize ks.length = N at *
    have hq1 : ¬ (p : Int) < 0 := by omega
    have hq2 : decide ((p : Int) > (L : Int)) = false := decide_eq_false (by omega)
    have hp1 : (p : Int) < (L : Int) + 1 := by omega
    go_enter Try.func19, Try.ntmps19
    go_wp2_with fail
    obtain ⟨w0, hw0⟩ : ∃ w0, w.alloc (.cells #[.int .i64 op, .int .u64 (a : Int), .int .u64 (b : Int), .int .u64 (c : Int), .int .u64 (d : Int), .slice A N cap] 26) = w0 := ⟨_, rfl⟩
    rw [hw0] at BX SZ0 ⊢
    clear hw0
    refine (CI.out w0 (BX.out w0 (Below.refl _ _)).2).mono ?_
    rintro e w2 ⟨rfl, b2⟩
    have d2 : Below (w.heap.size + 1) w0 w2 := b2.mono SZ0.out
    have z2 : w.heap.size + 1 ≤ w2.heap.size := Nat.le_trans SZ0.out b2.size
    have O3 := OM.out w2
    have d3 : Below (w.heap.size + 1) w0 (w2.alloc (.cells (bof (L + 1) fun _ => false).toArray 4)) := d2.alloc z2 _
    have MK2 := MK w2
    obtain ⟨w3, hw3⟩ : ∃ w3, w2.alloc (.cells (bof (L + 1) fun _ => false).toArray 4) = w3 := ⟨_, rfl⟩
    have z3 : w2.heap.size ≤ w3.heap.size := by rw [← hw3]; simp
    rw [hw3] at O3 d3 MK2
    obtain ⟨p1, p2, p3⟩ := (O3.base (b1 := w.heap.size + 1) z2).put p true d3 (by omega) z2
    rw [fe] at p1
    have cc := O3.cell (j := p) (by omega)
    have fr := O3.free p
    have W4 : Hid (Below w.heap.size w (w3.setCell ⟨w2.heap.size, p, none⟩ (.bool true)) ∧ IsBo (w3.setCell ⟨w2.heap.size, p, none⟩ (.bool true)) (some ⟨w2.heap.size, 0, none⟩) (L + 1) (fun j => j == p)) := ⟨(BX.out _ p2).2, p1.is⟩
    have P2 := Lib.hid p2
    obtain ⟨⟨q0, q1, q2, q3, q4, q5⟩, _⟩ := BX.out _ p2
    clear p1 p2 p3 O3 d3 d2 b2 CI OM MK hw3
    go_wp2_with fail
    generalize w3.setCell ⟨w2.heap.size, p, none⟩ (.bool true) = w4 at *
    refine (CA.out w4 _ W4.out.1 W4.out.2).mono ?_
    rintro e w5 ⟨⟨q, rfl, o5⟩, b5⟩
    have D5 := Lib.hid (W4.out.1.trans (b5.mono W4.out.1.size))
    have IB := Lib.hid (fun W (hW : Below w5.heap.size w5 W) => o5.is.below hW)
    clear CA o5 b5 W4 P2 cc fr q0 q1 q2 q3 q4 q5 BX SZ0 MK2
    have I0 : Hid (w5.ownsRow w5.heap.size 3 1 (.slice none 0 0) (el 0).length (iz (el 0)) ∧ Below w5.heap.size w5 w5) := ⟨by rw [E0.out]; exact World.ownsRow_nil _ _ _ _, Below.refl _ _⟩
    go_wp2
    go_loopw [9, 10] (fun vo i wr => ∃ k : Nat, k ≤ L + 1 ∧ i = .int .i64 (k : Int) ∧ Hid (wr.ownsRow w5.heap.size 3 1 vo (el k).length (iz (el k)) ∧ Below w5.heap.size w5 wr)) (fun _ i _ => L + 1 - (intOf i).toNat)
    case atStart => exact ⟨0, by omega, rfl, I0⟩
    case round =>
      clear I0
      obtain ⟨k, hk, rfl, HI⟩ := hrel
      have own := HI.out.1
      have HB := Lib.hid HI.out.2
      have szr := HI.out.2.size
      clear HI
      by_cases hkL : k ≤ L
      · have hkz : (k : Int) ≤ (L : Int) := by omega
        have hkz1 : (k : Int) < (L : Int) + 1 := by omega
        obtain ⟨_, _, e, hx⟩ := IB.out wr HB.out (by omega)
        injection e with e; injection e with e1 e2
        subst e1 e2
        have c1 := hx k (by omega)
        rw [Nat.zero_add] at c1
        have hlen := LEN.out k
        clear hx
        cases hg : G k
        · rw [hg] at c1
          have I2 : Hid (wr.ownsRow w5.heap.size 3 1 u9 (el (k + 1)).length (iz (el (k + 1))) ∧ Below w5.heap.size w5 wr) := ⟨by rw [NO.out k hg]; exact own, HB.out⟩
          clear hg own
          go_wp2
          go_roundw
          case rel => exact ⟨k + 1, by omega, by go_num, I2⟩
          case measure => simp [intOf]; omega
        · rw [hg] at c1
          have YK := Lib.hid (YES.out k hg)
          clear hg
          go_wp2_with (at_builtin; refine wpList_append_own _ rfl _ _ 30 rfl w5.heap.size 3 i0 (.int .i64 0) 1 8 Try.underlying30 hi hz0 hz1 hz2 rfl (by decide) _ _ _ rfl (own.alloc _) ⟨wr.heap.size, 0, none⟩ 1 1 [.int .i64 (k : Int)] rfl rfl (cell_one_new _ _ _) (one_iz k) (by unfold maxLen; omega) (by omega) (by simp; omega) ?_)
          intro v' w6 o6 g6 _
          have I2 : Hid (w6.ownsRow w5.heap.size 3 1 v' (el (k + 1)).length (iz (el (k + 1))) ∧ Below w5.heap.size w5 w6) := ⟨by rw [YK.out, List.length_append, iz_app]; exact o6, (HB.out.alloc szr _).grown g6 (by simp; omega) (fun q hq => (own.lt q hq).1)⟩
          clear o6 g6 own
          go_wp2
          go_roundw
          case rel => exact ⟨k + 1, by omega, by go_num, I2⟩
          case measure => simp [intOf]; omega
      · obtain rfl : k = L + 1 := by omega
        have hkz : ¬ (((L + 1 : Nat) : Int)) ≤ (L : Int) := by omega
        have R : Hid (MadeInts w (el (L + 1)) (.returned u9) wr) := ⟨_, rfl, by
          refine ⟨own.1, ?_⟩
          rcases own.2 with hn | ⟨g, cap, cur, e, hg, rest⟩
          · exact .inl hn
          · exact .inr ⟨g, cap, cur, e, by have := D5.out.size; omega, rest⟩, D5.out.trans (HB.out.mono D5.out.size)⟩
        clear own
        go_wp2
        go_ret
        exact R.out
end Go.Proofs.Yteifjiadgbgkbaa
