/-
  What Bytes does: a new slice with the set's bytes, none of labels that are no set. Conditions: lengths fit.
-/
import Derived.Test.YtbfpcolbkfcanaaMx
namespace Go.Proofs.Ytbfpcolbkfcanaa
open Go.RowKit La

/-- What the loop keeps. -/
structure ByI (w : World) (ls : List Lab) (k : Nat) (v : Value) (wr : World) : Prop where
  own : wr.ownsRow w.heap.size 5 1 v (upTo ls k).length (by8 (upTo ls k))
  bel : Below w.heap.size w wr
theorem made_form {w : World} {l : List Nat} {e : Ending} {w' : World} (h : MadeBytes w l e w') (hb : ∀ x ∈ l, x < 256) : ∃ A c, e = .returned (.slice A l.length c) ∧ (A = none → c = 0) ∧ IsBytes w' A l ∧ Below w.heap.size w w' := by
  obtain ⟨v, rfl, ho, b⟩ := h
  rcases ho.2 with ⟨rfl, h0⟩ | ⟨g, cap, cur, rfl, _⟩
  · rw [h0] at ho ⊢
    exact ⟨none, 0, rfl, fun _ => rfl, own_is ho hb, b⟩
  · exact ⟨_, _, rfl, (fun e => by cases e), own_is ho hb, b⟩
theorem ptext_byte {s : ByteArray} (h : s.size ≤ 140737488351232) : ∀ x ∈ putText s, x < 256 := by
  intro x hx
  rw [putText, List.mem_append] at hx
  rcases hx with hx | hx
  · exact Vm.put_byte (fits_size h) x hx
  · simp only [textL, List.mem_map] at hx
    obtain ⟨y, _, rfl⟩ := hx
    exact UInt8.toNat_lt y
theorem ptext_is (s : ByteArray) (w : World) (h : s.size ≤ 24) : Calls Try.prog 29 #[.string s] w fun e w' => ∃ A c, e = .returned (.slice A (putText s).length c) ∧ (A = none → c = 0) ∧ IsBytes w' A (putText s) ∧ Below w.heap.size w w' :=
  (ptext_any s w (by omega)).mono fun _ _ h2 => made_form h2 (ptext_byte (by omega))
theorem rptext_is (s : ByteArray) (w : World) (h : s.size ≤ 24) : Calls Try.prog 42 #[.string s] w fun e w' => ∃ A c, e = .returned (.slice A (putText s).length c) ∧ (A = none → c = 0) ∧ IsBytes w' A (putText s) ∧ Below w.heap.size w w' :=
  (rptext_any s w (by omega)).mono fun _ _ h2 => made_form h2 (ptext_byte (by omega))

set_option maxRecDepth 100000 in
set_option maxHeartbeats 2000000 in
theorem bytes_any (ls : List Lab) (A : Option Addr) (cap : Nat) (w : World) (hl : ls.length ≤ 1048576) (hsm : Small ls) (ha : IsLabs w A ls) :
    Calls Try.prog 12 #[.slice A ls.length cap] w (MadeBytes w (bytesOf ls)) := by
  have CI := Lib.hid (is_any ls A cap w (by omega) hsm ha)
  have HA := Lib.hid ha
  clear ha hsm
  cases hs : isSet ls
  · rw [hs] at CI
    have E : Hid (bytesOf ls = []) := by show _ = _; rw [bytesOf, hs]; rfl
    clear hs HA
    go_enter Try.func12, Try.ntmps12
    go_wp2_with fail
    refine CI.out.mono ?_
    rintro e w' ⟨rfl, b⟩
    have B := Lib.hid b
    clear b CI
    go_wp2
    go_ret
    exact ⟨_, rfl, by rw [E.out]; exact World.ownsRow_nil _ _ _ _, B.out⟩
  · rw [hs] at CI
    have h6 := (isSet_iff.1 hs).2.1
    have E : Hid (bytesOf ls = upTo ls ls.length) := by show _ = _; rw [bytesOf, hs, upTo_all]; rfl
    have HL := Lib.hid (upTo_len (m := 24) (set_sizes hs))
    have SZ := Lib.hid (fun k hk => set_sizes hs _ (nth_mem (ls := ls) (j := k) hk))
    have US := Lib.hid (fun k => upTo_succ (ls := ls) (k := k))
    have U0 := Lib.hid (upTo_zero ls)
    clear hs hl
    obtain ⟨N, hN⟩ : ∃ N, ls.length = N := ⟨_, rfl⟩
    rw [hN] at h6 CI E U0 HL SZ US ⊢
    have HN := Lib.hid hN
    clear hN
    have PN := Lib.hid (fun W => put_any N W (by unfold Vm.Fits; omega))
    go_enter Try.func12, Try.ntmps12
    go_wp2_with fail
    refine CI.out.mono ?_
    rintro e w1 ⟨rfl, b1⟩
    clear CI
    go_wp2_with fail
    refine (PN.out w1).mono ?_
    rintro e w2 ⟨v, rfl, o2, b2⟩
    have I0 : Hid (ByI w ls 0 v w2) := ⟨by rw [U0.out]; exact own_baseL o2 b1.size, b1.trans (b2.mono b1.size)⟩
    clear o2 b1 b2 PN U0
    go_wp2
    go_loopw [3, 15] (fun v i wr => ∃ k : Nat, k ≤ N ∧ i = .int .i64 (k : Int) ∧ Hid (ByI w ls k v wr)) (fun _ i _ => N - (intOf i).toNat)
    case atStart => exact ⟨0, by omega, rfl, I0⟩
    case round =>
      clear I0
      obtain ⟨k, hk, rfl, HI⟩ := hrel
      by_cases hkn : k < N
      · obtain ⟨b, off, rfl, hc⟩ := (HA.out.below HI.out.bel) (by rw [HN.out]; omega)
        obtain ⟨c1, c2⟩ := hc k (by rw [HN.out]; exact hkn)
        clear hc
        have hkz : (k : Int) < (N : Int) := by omega
        obtain ⟨s1, s2⟩ := SZ.out k hkn
        have UK := Lib.hid (US.out k hkn)
        have hlen := HL.out k hk
        have hp1 := ptext_len (nth ls k).1
        have hp2 := ptext_len (nth ls k).2
        obtain ⟨x, hx⟩ : ∃ x, (nth ls k).1 = x := ⟨_, rfl⟩
        obtain ⟨y, hy⟩ : ∃ y, (nth ls k).2 = y := ⟨_, rfl⟩
        rw [hx] at c1 s1 hp1 UK
        rw [hy] at c2 s2 hp2 UK
        clear hx hy
        have P1 := Lib.hid (fun W => ptext_is x W s1)
        have P2 := Lib.hid (fun W => ptext_is y W s2)
        have BA : Hid (Below w.heap.size w (wr.alloc (.cells #[.string x, .string y] 23))) := HI.out.bel.alloc HI.out.bel.size _
        have OA : Hid ((wr.alloc (.cells #[.string x, .string y] 23)).ownsRow w.heap.size 5 1 u3 (upTo ls k).length (by8 (upTo ls k))) := HI.out.own.alloc _
        have LBL := Lib.hid (heap_alloc_new wr (.cells #[.string x, .string y] 23))
        have LT : Hid (u3.ownBlock ≠ some wr.heap.size) := fun e => by have := (HI.out.own.lt _ e).2; omega
        clear HI
        go_wp2_with fail
        refine (P1.out _).mono ?_
        rintro e w3 ⟨A1, k1, rfl, n1, i1, b3⟩
        have o3 := own_keepL OA.out b3
        have d3 := BA.out.trans (b3.mono BA.out.size)
        have l3 := Lib.hid ((b3.block wr.heap.size (by simp)).trans LBL.out)
        have z3 : wr.heap.size < w3.heap.size := Nat.lt_of_lt_of_le (by simp) b3.size
        clear OA BA LBL b3 P1
        go_wp2_with (at_builtin; refine wpList_app _ rfl _ _ rfl w.heap.size _ (upTo ls k) (putText x) _ _ rfl rfl rfl o3 A1 k1 rfl n1 i1 (by omega) d3.size ?_)
        intro v4 w4 o4 g4
        have d4 := d3.grown g4 d3.size (own_geL o3)
        have h4 := (g4.block wr.heap.size z3 (Ne.symm LT.out)).trans l3.out
        have l4 : w4.cell? ⟨wr.heap.size, 1, none⟩ = some (.string y) := by rw [cell_of_row _ wr.heap.size 1 _ 23 (0, 0) h4]; rfl
        clear h4 l3 LT o3 d3 g4 z3 n1 i1
        go_wp2_with fail
        refine (P2.out _).mono ?_
        rintro e w5 ⟨A2, k2, rfl, n2, i2, b5⟩
        have o5 := own_keepL o4 b5
        have d5 := d4.trans (b5.mono d4.size)
        clear o4 d4 b5 P2 l4
        go_wp2_with (at_builtin; refine wpList_app _ rfl _ _ rfl w.heap.size _ (upTo ls k ++ putText x) (putText y) _ _ (by rw [List.length_append]) rfl rfl o5 A2 k2 rfl n2 i2 (by omega) d5.size ?_)
        intro v6 w6 o6 g6
        have I2 : Hid (ByI w ls (k + 1) v6 w6) := ⟨by rw [UK.out, List.length_append, List.length_append, List.append_assoc]; exact o6, d5.grown g6 d5.size (own_geL o5)⟩
        clear o5 d5 o6 g6 n2 i2
        go_wp2
        go_roundw
        case rel => exact ⟨k + 1, by omega, by go_num, I2⟩
        case measure => simp [intOf]; omega
      · obtain rfl : k = N := by omega
        have hkz : ¬ (k : Int) < (k : Int) := by omega
        have R : Hid (MadeBytes w (bytesOf ls) (.returned u3) wr) := by rw [E.out]; exact ⟨_, rfl, HI.out.own, HI.out.bel⟩
        clear HI
        go_wp2
        go_ret
        exact R.out
end Go.Proofs.Ytbfpcolbkfcanaa
