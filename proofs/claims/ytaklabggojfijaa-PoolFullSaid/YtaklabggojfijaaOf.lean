/-
  PoolFull as a contract. No conditions but that the arguments are bytes.
-/
import Derived.Test.YtaklabggojfijaaOb
import Derived.Test.YtaklabggojfijaaOd
import Derived.OpenShut
namespace Go.Proofs.Ytaklabggojfijaa
open Go.RowKit Go.Sort

/-- The numbers behind a, up to c. -/
def rg (a c : Nat) : List Int := (List.range (c - a)).map fun j => ((a + 1 + j : Nat) : Int)
theorem rg_len (a c : Nat) : (rg a c).length = c - a := by simp [rg]
theorem rg_mem {a c : Nat} {y : Int} : y ∈ rg a c ↔ (a : Int) < y ∧ y ≤ (c : Int) := by
  unfold rg
  simp only [List.mem_map, List.mem_range]
  constructor
  · rintro ⟨j, hj, rfl⟩
    omega
  · rintro ⟨h1, h2⟩
    exact ⟨(y - a - 1).toNat, by omega, by omega⟩
theorem rg_up (a c : Nat) : (rg a c).Pairwise (· < ·) := by
  unfold rg
  rw [List.pairwise_map]
  exact List.pairwise_lt_range.imp fun h => by omega
theorem rg_snoc {a c : Nat} (h : a ≤ c) {y : Int} (hy : y = (c : Int) + 1) : rg a c ++ [y] = rg a (c + 1) := by
  subst hy
  unfold rg
  rw [show c + 1 - a = (c - a) + 1 by omega, List.range_succ, List.map_append]
  congr 1
  simp
  omega
theorem rg_cut {a c : Nat} {y : Int} (hy : y = (a : Int) + 1) : pickZ [y] false (rg a c) = rg (a + 1) c := by
  subst hy
  refine rise_unique (asc_filter _ (rg_up a c)) (rg_up _ _) fun z => ?_
  rw [pick_mem, rg_mem, rg_mem]
  simp
  omega
set_option maxRecDepth 100000 in
set_option maxHeartbeats 8000000 in
theorem full12_nat {w : World} (m bk : Nat) (hbk : bk < 256) :
    Calls Try.prog 6 #[.int .u8 (m : Int), .int .u8 (bk : Int)] w fun e w' => e = .returned (.bool true) ∧ Below w.heap.size w w' := by
  obtain ⟨N, hN⟩ : ∃ N, m % 60 = N := ⟨_, rfl⟩
  have hN60 : N < 60 := by omega
  have hrem : Int.tmod (m : Int) 60 = (N : Int) := by rw [← hN]; rfl
  have hw8 : IntKind.u8.wrap (N : Int) = (N : Int) := by unfold IntKind.wrap; simp [IntKind.signed, IntKind.bits]; omega
  have eM : max (N : Int) 0 = (N : Int) := by omega
  have C := pnew_any (N : Int) w
  rw [eM] at C
  have C0 := Lib.hid C
  clear C eM hN
  go_enter Try.func6, Try.ntmps6
  go_wp2_with fail
  refine C0.out.mono ?_
  rintro e w1 ⟨b, rfl, p1⟩
  have P1 := Lib.hid p1
  clear p1 C0
  go_upto_region 6 with fail
  go_loopw [7] (fun i wr => ∃ t : Nat, t ≤ N ∧ i = .int .i64 ((t : Int) + 1) ∧ Hid (∃ v, Ps w wr b (N : Int) (t : Int) (rg 0 t) v)) (fun i _ => N + 1 - (intOf i).toNat)
  case atStart => exact ⟨0, Nat.zero_le _, rfl, ⟨_, P1.out⟩⟩
  case round =>
    obtain ⟨t, ht, rfl, HI⟩ := hrel
    clear P1
    obtain ⟨v, hps⟩ := HI.out
    have PP := Lib.hid hps
    clear hps HI
    by_cases htn : t < N
    · have hle : decide ((t : Int) + 1 ≤ (N : Int)) = true := decide_eq_true (by omega)
      have C1 := Lib.hid (take_s PP.out (y := (t : Int) + 1) (l' := rg 0 (t + 1)) rfl (rg_snoc (Nat.zero_le _) rfl) (by rw [rg_len]; omega) (by omega) (by rw [rg_len]; omega))
      have hw1 : IntKind.i64.wrap ((t : Int) + 1 + 1) = (t : Int) + 1 + 1 := by rw [IntKind.wrap_i64]; omega
      go_wp2_with fail
      refine C1.out.mono ?_
      rintro e w2 ⟨rfl, v2, p2, -, -⟩
      have R : Hid (∃ v, Ps w w2 b (N : Int) ((t + 1 : Nat) : Int) (rg 0 (t + 1)) v) := ⟨v2, p2⟩
      clear C1 p2 PP
      go_wp2
      go_roundw
      case rel => exact ⟨t + 1, by omega, by go_num, R⟩
      case measure => simp [intOf]; omega
    · obtain rfl : t = N := by omega
      have hle : decide ((t : Int) + 1 ≤ (t : Int)) = false := decide_eq_false (by omega)
      have C1 := Lib.hid (ptake_no PP.out (fun h => by have := h.1; rw [rg_len] at this; omega))
      go_wp2_with fail
      refine C1.out.mono ?_
      rintro e w2 ⟨rfl, v2, p2, -, -⟩
      have P2 := Lib.hid p2
      clear C1 p2 PP hle htn ht
      go_upto_region 14 with fail
      go_loopw [12, 13] (fun q i wr => ∃ s : Nat, s ≤ t ∧ i = .int .i64 ((s : Int) + 1) ∧ q = .int .i64 (s : Int) ∧ Hid (∃ v, Ps w wr b (t : Int) (t : Int) (rg s t) v)) (fun _ i _ => t + 1 - (intOf i).toNat)
      case atStart => exact ⟨0, Nat.zero_le _, rfl, rfl, ⟨_, P2.out⟩⟩
      case round =>
        obtain ⟨s, hs, rfl, rfl, HI⟩ := hrel
        clear P2
        obtain ⟨v, hps⟩ := HI.out
        have PP := Lib.hid hps
        clear hps HI
        by_cases hsn : s < t ∧ s < bk
        · have hl1 : decide ((s : Int) + 1 ≤ (bk : Int)) = true := decide_eq_true (by omega)
          have hl2 : decide ((s : Int) + 1 ≤ (t : Int)) = true := decide_eq_true (by omega)
          have hw1 : IntKind.i64.wrap ((s : Int) + 1 + 1) = (s : Int) + 1 + 1 := by rw [IntKind.wrap_i64]; omega
          have hw2 : IntKind.i64.wrap ((s : Int) + 1) = (s : Int) + 1 := by rw [IntKind.wrap_i64]; omega
          have C2 := Lib.hid (give_s PP.out ((s : Int) + 1) (d := true) (l' := rg (s + 1) t) (decide_eq_true (rg_mem.2 ⟨by omega, by omega⟩)) (rg_cut rfl))
          go_wp2_with fail
          refine C2.out.mono ?_
          rintro e w3 ⟨rfl, v3, p3, -, -⟩
          have nm : ¬ (s : Int) + 1 ∈ rg (s + 1) t := fun h => by have := (rg_mem.1 h).1; omega
          have C3 := Lib.hid (give_s p3 ((s : Int) + 1) (d := false) (l' := rg (s + 1) t) (decide_eq_false nm) (cut_none nm))
          clear C2 p3 PP nm
          go_wp2_with fail
          refine C3.out.mono ?_
          rintro e w4 ⟨rfl, v4, p4, -, -⟩
          have R : Hid (∃ v, Ps w w4 b (t : Int) (t : Int) (rg (s + 1) t) v) := ⟨v4, p4⟩
          clear C3 p4
          go_wp2
          go_roundw
          case rel => exact ⟨s + 1, by omega, by go_num, by go_num, R⟩
          case measure => simp [intOf]; omega
        · have hq : decide ((s : Int) + 1 ≤ (bk : Int)) = false ∨ (decide ((s : Int) + 1 ≤ (bk : Int)) = true ∧ decide ((s : Int) + 1 ≤ (t : Int)) = false) := by
            by_cases h1 : s < bk
            · exact .inr ⟨decide_eq_true (by omega), decide_eq_false (by omega)⟩
            · exact .inl (decide_eq_false (by omega))
          clear hsn
          rcases hq with hl1 | ⟨hl1, hl2⟩
          all_goals
            go_upto_region 20 with fail
            clear hl1
            go_loopw [14] (fun i wr => ∃ r : Nat, r ≤ s ∧ i = .int .i64 ((r : Int) + 1) ∧ Hid (∃ v, Ps w wr b (t : Int) ((t + r : Nat) : Int) (rg s (t + r)) v)) (fun i _ => s + 1 - (intOf i).toNat)
            case atStart => exact ⟨0, Nat.zero_le _, rfl, ⟨_, PP.out⟩⟩
            case round =>
              obtain ⟨r, hr, rfl, HI⟩ := hrel
              clear PP
              obtain ⟨v, hps⟩ := HI.out
              have PP := Lib.hid hps
              clear hps HI
              by_cases hrs : r < s
              · have hl3 : decide ((r : Int) + 1 ≤ (s : Int)) = true := decide_eq_true (by omega)
                have hw1 : IntKind.i64.wrap ((r : Int) + 1 + 1) = (r : Int) + 1 + 1 := by rw [IntKind.wrap_i64]; omega
                have hw2 : IntKind.i64.wrap ((t : Int) + ((r : Int) + 1)) = (t : Int) + ((r : Int) + 1) := by rw [IntKind.wrap_i64]; omega
                have C4 := Lib.hid (take_s PP.out (y := (t : Int) + ((r : Int) + 1)) (l' := rg s (t + r + 1)) (by omega) (rg_snoc (by omega) (by omega)) (by rw [rg_len]; omega) (by omega) (by rw [rg_len]; omega))
                go_wp2_with fail
                refine C4.out.mono ?_
                rintro e w5 ⟨rfl, v5, p5, -, -⟩
                have R : Hid (∃ v, Ps w w5 b (t : Int) ((t + (r + 1) : Nat) : Int) (rg s (t + (r + 1))) v) := ⟨v5, by rw [show ((t + (r + 1) : Nat) : Int) = (t : Int) + ((r : Int) + 1) by omega]; exact p5⟩
                clear C4 p5 PP
                go_wp2
                go_roundw
                case rel => exact ⟨r + 1, by omega, by go_num, R⟩
                case measure => simp [intOf]; omega
              · obtain rfl : r = s := by omega
                have hl3 : decide ((r : Int) + 1 ≤ (r : Int)) = false := decide_eq_false (by omega)
                have C4 := Lib.hid (ptake_no PP.out (fun h => by have := h.1; rw [rg_len] at this; omega))
                go_wp2_with fail
                refine C4.out.mono ?_
                rintro e w5 ⟨rfl, v5, p5, -, -⟩
                have C5 := Lib.hid (pall_any p5.at_)
                have P5 := Lib.hid p5
                clear C4 p5 PP
                go_wp2_with fail
                refine C5.out.mono ?_
                rintro e w6 ⟨l6, A6, n6, c6, rfl, e6, s6, b6⟩
                obtain rfl : n6 = t := by have := s6.len; rw [e6, rg_len] at this; omega
                have BW := Lib.hid (P5.out.below b6).bel
                have C6 := Lib.hid (runs12_any w6)
                clear C5 P5 e6 s6 b6
                go_wp2_with fail
                refine C6.out.mono ?_
                rintro e w7 ⟨rfl, b7⟩
                replace BW := Lib.hid (BW.out.trans (b7.mono BW.out.size))
                clear C6 b7
                go_wp2
                go_ret
                exact ⟨rfl, BW.out⟩
theorem full12_law {w : World} (a k : Int) (ha : (Lit.int .u8 a).wf = true) (hk : (Lit.int .u8 k).wf = true) :
    Calls Try.prog 6 #[.int .u8 a, .int .u8 k] w fun e w' => e = .returned (.bool true) ∧ Below w.heap.size w w' := by
  have h1 := bounds_u8 ha
  have h2 := bounds_u8 hk
  obtain ⟨m, rfl⟩ : ∃ m : Nat, a = (m : Int) := ⟨a.toNat, by omega⟩
  obtain ⟨bk, rfl⟩ : ∃ m : Nat, k = (m : Int) := ⟨k.toNat, by omega⟩
  exact full12_nat m bk (by omega)
end Go.Proofs.Ytaklabggojfijaa
