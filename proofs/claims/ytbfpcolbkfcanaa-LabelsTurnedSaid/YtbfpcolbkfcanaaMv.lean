/-
  What Read does: the label set that bytes begin with, or that there is none. Conditions: lengths fit.
-/
import Derived.Test.YtbfpcolbkfcanaaMr
namespace Go.Proofs.Ytbfpcolbkfcanaa
open Go.RowKit La

theorem strOf_size (l : List Nat) : (strOf l).size = l.length := by
  have : (strOf l).data.toList.length = l.length := by rw [strOf, strOfNums_data]; simp
  rw [Array.length_toList] at this
  exact this
theorem read_none {l : List Nat} {n k p : Nat} {acc : List Lab} (h : ReadRel l n k acc p) (hn : acc.length < n) (h1 : read1 (l.drop p) = none) : readN n (l.drop k) = none := by
  unfold read1 at h1
  cases g1 : Vm.getText (l.drop p) 12 with
  | none => exact readRel_none1 h hn g1
  | some q =>
    obtain ⟨t, j⟩ := q
    rw [g1] at h1
    simp only [List.drop_drop] at h1
    cases g2 : Vm.getText (l.drop (p + j)) 24 with
    | none => exact readRel_none2 h hn g1 g2
    | some r => rw [g2] at h1; cases h1
theorem read_next {l : List Nat} {n k p s : Nat} {acc : List Lab} {x : Lab} (hb : ∀ j, l.getD j 0 < 256) (h : ReadRel l n k acc p) (hn : acc.length < n) (h1 : read1 (l.drop p) = some (x, s)) : ReadRel l n k (acc ++ [x]) (p + s) ∧ x.1.size ≤ 24 ∧ x.2.size ≤ 24 := by
  unfold read1 at h1
  cases g1 : Vm.getText (l.drop p) 12 with
  | none => rw [g1] at h1; cases h1
  | some q =>
    obtain ⟨t, j⟩ := q
    rw [g1] at h1
    simp only [List.drop_drop] at h1
    cases g2 : Vm.getText (l.drop (p + j)) 24 with
    | none => rw [g2] at h1; cases h1
    | some r =>
      obtain ⟨u, m⟩ := r
      rw [g2] at h1
      injection h1 with h1
      injection h1 with h2 h3
      subst h2 h3
      have e1 := getText_le g1 (drop_byte hb p)
      have e2 := getText_le g2 (drop_byte hb (p + j))
      refine ⟨by rw [← Nat.add_assoc]; exact readRel_step hb h hn g1 g2, ?_, ?_⟩
      · show (strOf t).size ≤ 24; rw [strOf_size]; omega
      · show (strOf u).size ≤ 24; rw [strOf_size]; omega
/-- What Read gives back. -/
def setRes : Option (List Lab × Nat) → Value → Value → World → World → Prop
  | none, r, _, _, _ => r = .tuple #[.slice none 0 0, .int .i64 0, .bool false]
  | some (l, k), r, v, w, w' => r = .tuple #[v, .int .i64 (k : Int), .bool true] ∧ w'.ownsRow w.heap.size 23 2 v l.length (lc l)
theorem readSet_none1 {l : List Nat} (h : Vm.dec l = none) : readSet l = none := by rw [readSet, h]
theorem readSet_many {l : List Nat} {n k : Nat} (h : Vm.dec l = some (n, k)) (hn : 6 < n) : readSet l = none := by rw [readSet, h]; exact if_pos hn
theorem readSet_none {l : List Nat} {n k : Nat} (h : Vm.dec l = some (n, k)) (hn : ¬ 6 < n) (h1 : readN n (l.drop k) = none) : readSet l = none := by rw [readSet, h]; simp only [if_neg hn, h1]
theorem readSet_end {l : List Nat} {n k p : Nat} {acc : List Lab} (h : Vm.dec l = some (n, k)) (hn : ¬ 6 < n) (h1 : ReadRel l n k acc p) (ha : acc.length = n) : readSet l = if isSet acc then some (acc, p) else none := by
  have e := readRel_end h1 ha
  have := h1.2.1
  rw [readSet, h]
  simp only [if_neg hn, e]
  have e2 : k + (p - k) = p := by omega
  rw [e2]
/-- What the loop keeps. -/
structure RdI (w : World) (l : List Nat) (n k : Nat) (acc : List Lab) (p : Nat) (v : Value) (wr : World) : Prop where
  own : wr.ownsRow w.heap.size 23 2 v acc.length (lc acc)
  bel : Below w.heap.size w wr
  rel : ReadRel l n k acc p
  small : ∀ x ∈ acc, x.1.size ≤ 24 ∧ x.2.size ≤ 24

set_option maxRecDepth 100000 in
set_option maxHeartbeats 2000000 in
theorem read_any (l : List Nat) (A : Option Addr) (cap : Nat) (w : World) (hl : l.length ≤ 1048576) (hc : l.length ≤ cap) (ha : IsBytes w A l) :
    Calls Try.prog 24 #[.slice A l.length cap] w fun e w' => (∃ r v, e = .returned r ∧ setRes (readSet l) r v w w') ∧ Below w.heap.size w w' := by
  have CG := Lib.hid (get_any l A cap w (by unfold maxLen; omega) ha)
  have HA := Lib.hid ha
  have hlt := Lib.hid ha.1
  clear ha
  obtain ⟨N, hN⟩ : ∃ N, l.length = N := ⟨_, rfl⟩
  rw [hN] at hl hc CG ⊢
  have HN := Lib.hid hN
  clear hN
  cases hd : Vm.dec l with
  | none =>
    have R := Lib.hid (readSet_none1 hd)
    rw [hd] at CG
    clear hd
    simp only [getRes] at CG
    go_enter Try.func24, Try.ntmps24
    go_wp2_with fail
    refine CG.out.mono ?_
    rintro e w' ⟨rfl, rfl⟩
    clear CG
    go_wp2
    go_ret3
    exact ⟨⟨_, .bool false, rfl, by rw [R.out]; exact rfl⟩, Below.refl _ _⟩
  | some q =>
    obtain ⟨n, k⟩ := q
    obtain ⟨k1, k2, k3, _⟩ := Vm.dec_ok hd hlt.out
    rw [HN.out] at k2
    rw [hd] at CG
    simp only [getRes] at CG
    by_cases h6 : 6 < n
    · have R := Lib.hid (readSet_many hd h6)
      have h6d : decide ((n : Int) > 6) = true := decide_eq_true (by omega)
      clear hd
      go_enter Try.func24, Try.ntmps24
      go_wp2_with fail
      refine CG.out.mono ?_
      rintro e w' ⟨rfl, rfl⟩
      clear CG
      go_wp2
      go_ret3
      exact ⟨⟨_, .bool false, rfl, by rw [R.out]; exact rfl⟩, Below.refl _ _⟩
    have h6d : decide ((n : Int) > 6) = false := decide_eq_false (by omega)
    have NO := Lib.hid (readSet_none hd h6)
    have EN := Lib.hid (fun acc p => readSet_end (acc := acc) (p := p) hd h6)
    have I0 : Hid (RdI w l n k [] k (.slice none 0 0) w) := ⟨World.ownsRow_nil _ _ _ _, Below.refl _ _, readRel_start (by rw [HN.out]; exact k2), fun x hx => by cases hx⟩
    obtain ⟨b, off, rfl, _⟩ := HA.out.2 (by rw [HN.out]; omega)
    clear hd
    go_enter Try.func24, Try.ntmps24
    go_wp2_with fail
    refine CG.out.mono ?_
    rintro e w' ⟨rfl, rfl⟩
    clear CG
    go_wp2
    clear h6d
    go_loopw [6, 8, 25] (fun a v i wr => ∃ (acc : List Lab) (p m : Nat), acc.length = m ∧ m ≤ n ∧ p ≤ N ∧ a = .int .i64 (p : Int) ∧ i = .int .u64 (m : Int) ∧ Hid (RdI w l n k acc p v wr)) (fun _ _ i _ => n - (intOf i).toNat)
    case atStart => exact ⟨[], k, 0, rfl, by omega, k2, rfl, rfl, I0⟩
    case round =>
      clear I0
      obtain ⟨acc, p, m, hm, hmn, hpN, rfl, rfl, HI⟩ := hrel
      by_cases hlt2 : m < n
      · have hmz : (m : Int) < (n : Int) := by omega
        have SC := fun W => bcut W b off N cap p hpN
        have CR := Lib.hid (readlab_any (l.drop p) (N - p) (by rw [List.length_drop, HN.out]) (cutA b off cap p) (cap - p) wr (by omega) (by omega) (bcut_is (isBytes_below HA.out HI.out.bel) p (by rw [HN.out]; exact hc)))
        cases h1 : read1 (l.drop p) with
        | none =>
          have R := Lib.hid (NO.out (read_none HI.out.rel (by omega) h1))
          have B := Lib.hid HI.out.bel
          rw [h1] at CR
          simp only [labRes] at CR
          clear h1 HI
          go_wp2_with fail
          refine CR.out.mono ?_
          rintro e w3 ⟨rfl, b3⟩
          have B3 : Hid (Below w.heap.size w (w3.alloc (.cells #[.string ⟨#[]⟩, .string ⟨#[]⟩] 23))) := by
            have := B.out.trans (b3.mono B.out.size)
            exact this.alloc this.size _
          clear CR b3
          go_wp2
          go_ret3
          exact ⟨⟨_, .bool false, rfl, by rw [R.out]; exact rfl⟩, B3.out⟩
        | some q =>
          obtain ⟨x, s⟩ := q
          obtain ⟨r2, z1, z2⟩ := read_next hlt.out HI.out.rel (by omega) h1
          have hps := r2.2.2.1
          rw [HN.out] at hps
          have RL := Lib.hid r2
          have SM : Hid (∀ y ∈ acc ++ [x], y.1.size ≤ 24 ∧ y.2.size ≤ 24) := fun y hy => by
            rcases List.mem_append.1 hy with h | h
            · exact HI.out.small y h
            · simp at h; subst h; exact ⟨z1, z2⟩
          have B := Lib.hid HI.out.bel
          have O := Lib.hid HI.out.own
          rw [hm] at O
          rw [h1] at CR
          simp only [labRes] at CR
          clear h1 HI r2 z1 z2
          have wp : IntKind.i64.wrap ((p : Int) + (s : Int)) = (p : Int) + (s : Int) := by rw [IntKind.wrap_i64]; omega
          have wm : IntKind.u64.wrap ((m : Int) + 1) = (m : Int) + 1 := by rw [IntKind.wrap_u64]; omega
          obtain ⟨x1, x2⟩ := x
          simp only at CR
          go_wp2_with fail
          refine CR.out.mono ?_
          rintro e w3 ⟨rfl, b3⟩
          have d3 := B.out.trans (b3.mono B.out.size)
          have o3 := own_keepL O.out b3
          have d4 := d3.alloc d3.size (.cells #[.string x1, .string x2] 23)
          have o4 := o3.alloc (.cells #[.string x1, .string x2] 23)
          have d5 := d4.alloc d4.size (.cells #[.string x1, .string x2] 23)
          have o5 := o4.alloc (.cells #[.string x1, .string x2] 23)
          have lit := lit_lab (w3.alloc (.cells #[.string x1, .string x2] 23)) (x1, x2)
          have hsz : (w3.alloc (.cells #[.string x1, .string x2] 23)).heap.size = w3.heap.size + 1 := by simp
          rw [hsz] at lit
          clear CR b3 B O o3 o4 d3 d4 hsz
          go_wp2_with (at_builtin; refine wpList_appL rfl _ _ rfl w.heap.size _ m acc rfl o5 (some ⟨w3.heap.size + 1, 0, none⟩) 1 1 [(x1, x2)] rfl rfl (fun e => by cases e) lit (by omega) d5.size ?_)
          intro v' w6 o6 g6
          have I2 : Hid (RdI w l n k (acc ++ [(x1, x2)]) (p + s) v' w6) := ⟨by rw [List.length_append, hm]; exact o6, d5.grown g6 d5.size (own_geL o5), RL.out, SM.out⟩
          clear o5 d5 o6 g6 lit
          go_wp2
          go_roundw
          case rel => exact ⟨acc ++ [(x1, x2)], p + s, m + 1, by simp [hm], by omega, by omega, by simp, by simp, I2⟩
          case measure => simp [intOf]; omega
      · obtain rfl : m = n := by omega
        have hmz : ¬ (m : Int) < (m : Int) := by omega
        have R := Lib.hid (EN.out acc p HI.out.rel hm)
        obtain ⟨A', c', rfl, _, _, hi, hol⟩ := own_formL HI.out.own
        have CI := Lib.hid (is_any acc A' c' wr (by omega) (fun x hx => by have := HI.out.small x hx; omega) hi)
        have O := Lib.hid HI.out.own
        have B := Lib.hid HI.out.bel
        rw [hm] at CI O ⊢
        have HM := Lib.hid hm
        clear HI hi hol hm
        cases hb : isSet acc
        · rw [hb] at CI R
          simp only [Bool.false_eq_true, if_false] at R
          clear hb
          go_wp2_with fail
          refine CI.out.mono ?_
          rintro e w' ⟨rfl, bw⟩
          have B2 := Lib.hid (B.out.trans (bw.mono B.out.size))
          clear bw CI
          go_wp2
          go_ret3
          exact ⟨⟨_, .bool false, rfl, by rw [R.out]; exact rfl⟩, B2.out⟩
        · rw [hb] at CI R
          simp only [if_true] at R
          clear hb
          go_wp2_with fail
          refine CI.out.mono ?_
          rintro e w' ⟨rfl, bw⟩
          have B2 := Lib.hid (B.out.trans (bw.mono B.out.size))
          have K2 := Lib.hid (own_keepL O.out bw)
          clear bw CI O
          go_wp2
          go_ret3
          exact ⟨⟨_, _, rfl, by rw [R.out]; exact ⟨rfl, by rw [HM.out]; exact K2.out⟩⟩, B2.out⟩
end Go.Proofs.Ytbfpcolbkfcanaa
