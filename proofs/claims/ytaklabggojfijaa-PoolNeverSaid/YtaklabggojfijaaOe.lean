/-
  PoolNever as a contract. No conditions.
-/
import Derived.Test.YtaklabggojfijaaOb
import Derived.Test.YtaklabggojfijaaOc
import Derived.Test.YtaklabggojfijaaOd
namespace Go.Proofs.Ytaklabggojfijaa
open Go.RowKit Go.Sort

/-- What PoolNever's loop keeps. -/
structure NeverP (w0 wr : World) (b : Nat) (z x : Int) (L : List Int) (k : Nat) : Prop where
  pool : ∃ v, Ps w0 wr b (max z 0) x L v
  xk : x ≤ (k : Int)
  lk : L.length ≤ k
  lm : (L.length : Int) ≤ max z 0
theorem cut_gone (L : List Int) (id : Int) : decide (id ∈ pickZ [id] false L) = false := decide_eq_false (by rw [pick_mem]; simp)
set_option maxRecDepth 100000 in
set_option maxHeartbeats 8000000 in
theorem never12_law {w : World} {A : Option Addr} {n c : Nat} {S : List GiveT} (z : Int) (h : IsGives w A S) (hn : S.length = n) :
    Calls Try.prog 5 #[.int .i64 z, .slice A n c] w fun e w' => e = .returned (.bool true) ∧ Below w.heap.size w w' := by
  by_cases h6 : 100 < n
  · have hz : decide ((n : Int) > 100) = true := decide_eq_true (by omega)
    have C := Lib.hid (runs12_any w)
    clear h hn
    go_enter Try.func5, Try.ntmps5
    go_wp2_with fail
    refine C.out.mono ?_
    rintro e w1 ⟨rfl, bb⟩
    have Q := Lib.hid bb
    clear bb C
    go_wp2
    go_ret
    exact ⟨rfl, Q.out⟩
  · have hz : decide ((n : Int) > 100) = false := decide_eq_false (by omega)
    have H := Lib.hid h
    have EN := Lib.hid hn
    have H6 : Hid (n ≤ 100) := by show _ ≤ _; omega
    have C := Lib.hid (pnew_any z w)
    clear h hn
    go_enter Try.func5, Try.ntmps5
    go_wp2_with fail
    refine C.out.mono ?_
    rintro e w1 ⟨b, rfl, p1⟩
    have P1 := Lib.hid p1
    clear p1 C hz h6
    go_upto_region 8 with fail
    go_loopw [6, 7] (fun la i wr => ∃ (k : Nat) (x : Int) (L : List Int), k ≤ n ∧ i = .int .i64 (k : Int) ∧ la = .int .i64 x ∧ Hid (NeverP w wr b z x L k)) (fun _ i _ => n - (intOf i).toNat)
    case atStart => exact ⟨0, 0, [], Nat.zero_le _, rfl, rfl, ⟨⟨_, P1.out⟩, by omega, by simp, by simp; omega⟩⟩
    case round =>
      obtain ⟨k, x, L, hk, rfl, rfl, HI⟩ := hrel
      clear P1
      obtain ⟨v, hps⟩ := HI.out.pool
      have PP := Lib.hid hps
      clear hps
      by_cases hkn : k < n
      · obtain ⟨ba, off, rfl, hcell⟩ := (H.out.below PP.out.bel) (by rw [EN.out]; omega)
        obtain ⟨q0, q1⟩ := hcell k (by rw [EN.out]; exact hkn)
        have CL : Hid (∀ W, Below w.heap.size w W → W.cell? ⟨ba, off + k * 2 + 1, none⟩ = some (.int .i64 (gvn S k).2)) := fun W hW => by
          obtain ⟨b2, o2, e, hc⟩ := (H.out.below hW) (by rw [EN.out]; omega)
          injection e with e
          injection e with e1 e2
          subst e1 e2
          exact (hc k (by rw [EN.out]; exact hkn)).2
        have hw := wrap1p (k := k) (by have := H6.out; omega)
        clear hcell
        obtain ⟨⟨g, idk⟩, hg⟩ : ∃ p, gvn S k = p := ⟨_, rfl⟩
        rw [hg] at q0 q1 CL
        clear hg
        cases g with
        | true =>
          obtain ⟨d, hd⟩ : ∃ d, decide (idk ∈ L) = d := ⟨_, rfl⟩
          have HD := Lib.hid hd
          have hdn : (d != d) = false := by cases d <;> rfl
          have hde : (d == d) = true := by cases d <;> rfl
          clear hd q1
          have C1 := Lib.hid (pall_any PP.out.at_)
          go_wp2_with fail
          refine C1.out.mono ?_
          rintro e w2 ⟨l2, A2, n2, c2, rfl, e2, s2, b2⟩
          have P2 := Lib.hid (PP.out.below b2)
          have C2 := Lib.hid (has_s idk d s2 (by rw [e2]; exact HD.out))
          have q1 := CL.out w2 P2.out.bel
          clear C1 s2 b2 e2
          go_wp2_with fail
          refine C2.out.mono ?_
          rintro e w3 ⟨rfl, b3⟩
          have P3 := Lib.hid (P2.out.below b3)
          have C3 := Lib.hid (pgive_any P3.out idk d HD.out)
          replace q1 := CL.out w3 P3.out.bel
          clear C2 b3
          go_wp2_with fail
          refine C3.out.mono ?_
          rintro e w4 ⟨rfl, v4, p4, -, -⟩
          have C4 := Lib.hid (phas_any p4.at_ idk false (cut_gone L idk))
          have P4 := Lib.hid p4
          replace q1 := CL.out w4 p4.bel
          clear C3 p4
          go_wp2_with fail
          refine C4.out.mono ?_
          rintro e w5 ⟨rfl, rfl⟩
          clear C4 q1 q0
          have FX : Hid (x ≤ ((k + 1 : Nat) : Int) ∧ (pickZ [idk] false L).length ≤ k + 1 ∧ ((pickZ [idk] false L).length : Int) ≤ max z 0) := by
            have h0 := pick_le L [idk] false
            have h1 := HI.out.xk
            have h2 := HI.out.lk
            have h3 := HI.out.lm
            exact ⟨by omega, by omega, by omega⟩
          clear PP P2 P3 HI HD
          have D1 := Lib.hid (pall_any P4.out.at_)
          go_wp2_with fail
          refine D1.out.mono ?_
          rintro e u1 ⟨ra, Aa, na, ca, rfl, ea, sa, xa⟩
          have hgt : decide ((na : Int) > max 0 z) = false := decide_eq_false (by have h1 := sa.len; rw [ea] at h1; have h2 := FX.out.2.2; omega)
          have R1 := Lib.hid (P4.out.below xa)
          have D2 := Lib.hid (pall_any R1.out.at_)
          clear D1 ea sa xa P4
          go_wp2_with fail
          refine D2.out.mono ?_
          rintro e u2 ⟨rb, Ab, nb, cb, rfl, eb, sb, xb⟩
          have R2 := Lib.hid (R1.out.below xb)
          have D3 := Lib.hid (is_s true sb (by rw [eb]; exact decide_eq_true R1.out.at_.up))
          clear D2 R1 eb sb xb
          go_wp2_with fail
          refine D3.out.mono ?_
          rintro e u3 ⟨rfl, xc⟩
          have R3 := Lib.hid (R2.out.below xc)
          have D4 := Lib.hid (plast_any R3.out.at_)
          clear D3 R2 xc
          go_wp2_with fail
          refine D4.out.mono ?_
          rintro e u4 ⟨rfl, rfl⟩
          have R : Hid (NeverP w u4 b z x (pickZ [idk] false L) (k + 1)) := ⟨⟨_, R3.out⟩, FX.out.1, FX.out.2.1, FX.out.2.2⟩
          clear D4 R3 FX
          go_wp2
          go_roundw
          case rel => exact ⟨k + 1, x, _, by omega, by go_num, rfl, R⟩
          case measure => simp [intOf]; omega
        | false =>
          clear q1
          by_cases hm : (L.length : Int) < max z 0
          · have hlk : L.length ≤ 100 := by have := HI.out.lk; have := H6.out; omega
            have C1 := Lib.hid (ptake_yes PP.out hm (by have := HI.out.xk; have := H6.out; omega) (by omega))
            have hle : decide (x + 1 ≤ x) = false := decide_eq_false (by omega)
            have FX : Hid (x + 1 ≤ ((k + 1 : Nat) : Int) ∧ (L ++ [x + 1]).length ≤ k + 1 ∧ ((L ++ [x + 1]).length : Int) ≤ max z 0) := by
              have h1 := HI.out.xk
              have h2 := HI.out.lk
              rw [List.length_append, List.length_singleton]
              exact ⟨by omega, by omega, by omega⟩
            clear hm hlk HI
            go_wp2_with fail
            refine C1.out.mono ?_
            rintro e w2 ⟨rfl, v2, p2, -, -⟩
            have P2 := Lib.hid p2
            have C2 := Lib.hid (phas_any p2.at_ (x + 1) true (decide_eq_true (by simp)))
            have C3 := Lib.hid (plast_any p2.at_)
            clear C1 p2 PP q0
            go_wp2_with fail
            refine C2.out.mono ?_
            rintro e w3 ⟨rfl, rfl⟩
            clear C2
            go_wp2_with fail
            refine C3.out.mono ?_
            rintro e w4 ⟨rfl, rfl⟩
            clear C3
            have D1 := Lib.hid (pall_any P2.out.at_)
            go_wp2_with fail
            refine D1.out.mono ?_
            rintro e u1 ⟨ra, Aa, na, ca, rfl, ea, sa, xa⟩
            have hgt : decide ((na : Int) > max 0 z) = false := decide_eq_false (by have h1 := sa.len; rw [ea] at h1; have h2 := FX.out.2.2; omega)
            have R1 := Lib.hid (P2.out.below xa)
            have D2 := Lib.hid (pall_any R1.out.at_)
            clear D1 ea sa xa P2
            go_wp2_with fail
            refine D2.out.mono ?_
            rintro e u2 ⟨rb, Ab, nb, cb, rfl, eb, sb, xb⟩
            have R2 := Lib.hid (R1.out.below xb)
            have D3 := Lib.hid (is_s true sb (by rw [eb]; exact decide_eq_true R1.out.at_.up))
            clear D2 R1 eb sb xb
            go_wp2_with fail
            refine D3.out.mono ?_
            rintro e u3 ⟨rfl, xc⟩
            have R3 := Lib.hid (R2.out.below xc)
            have D4 := Lib.hid (plast_any R3.out.at_)
            clear D3 R2 xc
            go_wp2_with fail
            refine D4.out.mono ?_
            rintro e u4 ⟨rfl, rfl⟩
            have R : Hid (NeverP w u4 b z (x + 1) (L ++ [x + 1]) (k + 1)) := ⟨⟨_, R3.out⟩, FX.out.1, FX.out.2.1, FX.out.2.2⟩
            clear D4 R3 FX
            go_wp2
            go_roundw
            case rel => exact ⟨k + 1, (x + 1), _, by omega, by go_num, rfl, R⟩
            case measure => simp [intOf]; omega
          · have C1 := Lib.hid (ptake_no PP.out (fun h => hm h.1))
            have FX : Hid (x ≤ ((k + 1 : Nat) : Int) ∧ L.length ≤ k + 1 ∧ (L.length : Int) ≤ max z 0) := by
              have h1 := HI.out.xk
              have h2 := HI.out.lk
              exact ⟨by omega, by omega, HI.out.lm⟩
            clear hm HI
            go_wp2_with fail
            refine C1.out.mono ?_
            rintro e w2 ⟨rfl, v2, p2, -, -⟩
            have P2 := Lib.hid p2
            clear C1 p2 PP q0
            have D1 := Lib.hid (pall_any P2.out.at_)
            go_wp2_with fail
            refine D1.out.mono ?_
            rintro e u1 ⟨ra, Aa, na, ca, rfl, ea, sa, xa⟩
            have hgt : decide ((na : Int) > max 0 z) = false := decide_eq_false (by have h1 := sa.len; rw [ea] at h1; have h2 := FX.out.2.2; omega)
            have R1 := Lib.hid (P2.out.below xa)
            have D2 := Lib.hid (pall_any R1.out.at_)
            clear D1 ea sa xa P2
            go_wp2_with fail
            refine D2.out.mono ?_
            rintro e u2 ⟨rb, Ab, nb, cb, rfl, eb, sb, xb⟩
            have R2 := Lib.hid (R1.out.below xb)
            have D3 := Lib.hid (is_s true sb (by rw [eb]; exact decide_eq_true R1.out.at_.up))
            clear D2 R1 eb sb xb
            go_wp2_with fail
            refine D3.out.mono ?_
            rintro e u3 ⟨rfl, xc⟩
            have R3 := Lib.hid (R2.out.below xc)
            have D4 := Lib.hid (plast_any R3.out.at_)
            clear D3 R2 xc
            go_wp2_with fail
            refine D4.out.mono ?_
            rintro e u4 ⟨rfl, rfl⟩
            have R : Hid (NeverP w u4 b z x L (k + 1)) := ⟨⟨_, R3.out⟩, FX.out.1, FX.out.2.1, FX.out.2.2⟩
            clear D4 R3 FX
            go_wp2
            go_roundw
            case rel => exact ⟨k + 1, x, _, by omega, by go_num, rfl, R⟩
            case measure => simp [intOf]; omega
      · have C6 := Lib.hid (runs12_any wr)
        have BW := Lib.hid PP.out.bel
        obtain rfl : k = n := by omega
        clear PP HI H EN H6 hk
        go_wp2_with fail
        refine C6.out.mono ?_
        rintro e w7 ⟨rfl, b7⟩
        replace BW := Lib.hid (BW.out.trans (b7.mono BW.out.size))
        clear C6 b7
        go_wp2
        go_ret
        exact ⟨rfl, BW.out⟩
end Go.Proofs.Ytaklabggojfijaa
