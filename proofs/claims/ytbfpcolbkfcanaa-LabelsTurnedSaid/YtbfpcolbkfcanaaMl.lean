/-
  What slices.Clone and Make do: the set of any labels, or that there is none (La.IsMk). Conditions: lengths fit.
-/
import Derived.Test.YtbfpcolbkfcanaaMj
import Derived.Lib.LazyBuf
namespace Go.Proofs.Ytbfpcolbkfcanaa
open Go.RowKit La Go.Sort

theorem own_new (w : World) : (w.alloc (.cells #[] 23)).ownsRow w.heap.size 23 2 (.slice (some ⟨w.heap.size, 0, none⟩) 0 0) 0 (lc []) :=
  ⟨rfl, .inr ⟨w.heap.size, 0, #[], rfl, Nat.le_refl _, heap_alloc_new w _, Nat.le_refl _, by unfold maxLen; omega, rfl, rfl⟩⟩

theorem wpList_appN {ops : Array Oper} {rest : List Oper} {o : Oper} {a : Act} {w : World} {Q : Exit → Act → World → Prop} (hgd : o.guard = none) (s x : Operand) (ho : o.op = .call { callee := .builtin .append, args := #[s, x], argTypes := #[24, 24] })
    (base : Nat) (v : Value) (n : Nat) (xs : List Lab) (hs : a.eval s = v) (hown : w.ownsRow base 23 2 v n (lc xs)) (ad : Addr) (L c : Nat) (l : List Lab) (hx : a.eval x = .slice (some ad) L c) (hL : l.length = L) (hr : IsLabs w (some ad) l)
    (hlen : n + L ≤ 1099511627776) (hbase : base ≤ w.heap.size) (hv : v ≠ .slice none 0 0)
    (h : ∀ v' w', w'.ownsRow base 23 2 v' (n + L) (lc (xs ++ l)) → w.grownBy w' v.ownBlock → v' ≠ .slice none 0 0 → wpList Try.prog ops Q rest (a.put o.dst v') w') : wpList Try.prog ops Q (o :: rest) a w := by
  obtain ⟨i0, hi, hz0, hz1, hz2⟩ := info_parts Try.infoL
  subst hL
  refine wpList_plain hgd fun _ hK => wp_append_own w s x 24 ho base 23 i0 (.agg #[.string ⟨#[]⟩, .string ⟨#[]⟩]) 2 32 Try.underlying24 hi hz0 hz1 hz2 rfl (by decide) v n _ hs hown ad l.length c (lc l) hx (lc_len l) (labs_cells hr) (lc_one l) (by unfold maxLen; omega) (by omega) hbase ?_
  intro v' w' h1 h2 h3
  exact hK _ _ (h v' w' (by rw [lc_app]; exact h1) h2 (fun e => hv (h3.1 e).1))

set_option maxRecDepth 100000 in
set_option maxHeartbeats 1000000 in
theorem clone_any (ls : List Lab) (ad : Addr) (cap : Nat) (w : World) (hl : ls.length ≤ 1048576) (ha : IsLabs w (some ad) ls) :
    Calls Try.prog 33 #[.slice (some ad) ls.length cap] w fun e w' => (∃ B c, e = .returned (.slice (some ⟨B, 0, none⟩) ls.length c) ∧ w'.ownsRow w.heap.size 23 2 (.slice (some ⟨B, 0, none⟩) ls.length c) ls.length (lc ls)) ∧ Below w.heap.size w w' := by
  have HA := Lib.hid ha
  have b1 : Below w.heap.size w (w.alloc (.cells #[] 23)) := (Below.refl _ _).alloc (Nat.le_refl _) _
  clear ha
  obtain ⟨N, hN⟩ : ∃ N, ls.length = N := ⟨_, rfl⟩
  rw [hN] at hl ⊢
  have HN := Lib.hid hN
  clear hN
  have he := fun W => run_eql_slice_nil (P := Try.prog) W 24 23 (some ad) N cap Try.underlying24
  simp only [Option.isNone_some] at he
  go_enter Try.func33, Try.ntmps33
  go_wp2_with (at_builtin; refine wpList_appN rfl _ _ rfl w.heap.size (.slice (some ⟨w.heap.size, 0, none⟩) 0 0) 0 [] rfl (own_new w) ad N cap ls rfl HN.out (HA.out.below b1) (by omega) b1.size (by simp) ?_)
  intro v' w' o g hv
  have b2 : Hid (Below w.heap.size w w') := b1.grown g b1.size (fun q hq => own_geL (own_new w) q hq)
  have O : Hid (∃ B c, v' = .slice (some ⟨B, 0, none⟩) N c ∧ w'.ownsRow w.heap.size 23 2 (.slice (some ⟨B, 0, none⟩) N c) N (lc ls)) := by
    have o2 : w'.ownsRow w.heap.size 23 2 v' N (lc ls) := by simpa using o
    rcases o2.2 with ⟨e, _⟩ | ⟨B, c, cur, e, _⟩
    · exact absurd e hv
    · exact ⟨B, c, e, by rw [← e]; exact o2⟩
  clear hv
  clear o g b1
  go_wp2
  go_ret
  obtain ⟨B, c, rfl, h2⟩ := O.out
  exact ⟨⟨B, c, rfl, h2⟩, b2.out⟩

set_option maxRecDepth 100000 in
set_option maxHeartbeats 1000000 in
theorem clone_nil (w : World) : Calls Try.prog 33 #[.slice none 0 0] w fun e w' => e = .returned (.slice none 0 0) ∧ w' = w := by
  have he := fun W => run_eql_slice_nil (P := Try.prog) W 24 23 none 0 0 Try.underlying24
  simp only [Option.isNone_none] at he
  go_enter Try.func33, Try.ntmps33
  go_wp2
  go_ret
  exact ⟨rfl, rfl⟩

theorem via_perm {ls : List Lab} {n : Nat} {d : Nat → Nat} (hn : ls.length = n) (h : So.Via 0 n (fun j => j) d) : (rowL ls n d).Perm ls := by
  have h1 := (h.perm (Nat.le_refl n)).map (nth ls)
  have e1 : ((List.range n).map d).map (nth ls) = rowL ls n d := by simp [rowL]
  have e2 : ((List.range n).map fun j => j).map (nth ls) = ls := by
    refine ext_nth (by simp [hn]) fun j hj => ?_
    have hj' : j < n := by simpa using hj
    simp [nth, hj']
  rw [e1, e2] at h1
  exact h1
theorem sorted_pw {ls : List Lab} {n : Nat} {d : Nat → Nat} (h : So.Sorted (RP ls) d 0 n) : (rowL ls n d).Pairwise fun x y => lt y.1 x.1 = false := by
  rw [rowL, List.pairwise_map]
  refine List.Pairwise.imp_of_mem ?_ List.pairwise_lt_range
  intro i j hi hj hij
  exact h i j (Nat.zero_le _) hij (by simpa using hj)
theorem rowL_id (ls : List Lab) : rowL ls ls.length (fun j => j) = ls := by
  refine ext_nth (by simp [rowL]) fun j hj => ?_
  rw [rowL_nth (by simpa [rowL] using hj)]

set_option maxRecDepth 100000 in
set_option maxHeartbeats 2000000 in
theorem make_any (ls : List Lab) (A : Option Addr) (cap : Nat) (w : World) (hl : ls.length ≤ 1048576) (hsm : Small ls) (hA : A = none → cap = 0) (ha : IsLabs w A ls) :
    Calls Try.prog 21 #[.slice A ls.length cap] w fun e w' => (∃ (o : Option (List Lab)) (r v : Value), IsMk ls o ∧ e = .returned r ∧ mkRes o r v w w') ∧ Below w.heap.size w w' := by
  by_cases h6 : 6 < ls.length
  · have M := Lib.hid (mk_many h6)
    have h6d : decide ((ls.length : Int) > 6) = true := decide_eq_true (by omega)
    clear ha hsm hA
    generalize ls.length = n at *
    go_enter Try.func21, Try.ntmps21
    go_wp2
    go_ret2
    exact ⟨⟨none, _, .bool false, M.out, rfl, rfl⟩, Below.refl _ _⟩
  have h6d : decide ((ls.length : Int) > 6) = false := decide_eq_false (by omega)
  cases A with
  | none =>
    obtain rfl := hA rfl
    have e : ls = [] := by
      rcases Nat.eq_zero_or_pos ls.length with h0 | h0
      · exact List.eq_nil_of_length_eq_zero h0
      · obtain ⟨_, _, e, _⟩ := ha h0; cases e
    subst e
    have C1 := Lib.hid (fun W => clone_nil W)
    have C2 := Lib.hid (fun W => sortfunc_nil W)
    have C3 := Lib.hid (fun W => is_any [] none 0 W (by simp) (fun x hx => by cases hx) (fun h => by simp at h))
    have M : Hid (IsMk [] none) := mk_of (ls := []) (b := []) List.Pairwise.nil (List.Perm.refl _)
    clear h6d h6 hl ha hsm
    simp only [List.length_nil] at C3 ⊢
    go_enter Try.func21, Try.ntmps21
    go_wp2_with fail
    refine (C1.out _).mono ?_
    rintro e w' ⟨rfl, rfl⟩
    go_wp2_with fail
    refine (C2.out _).mono ?_
    rintro e w' ⟨rfl, rfl⟩
    go_wp2_with fail
    refine (C3.out _).mono ?_
    have e0 : isSet [] = false := by decide
    rw [e0]
    rintro e w' ⟨rfl, b⟩
    have B := Lib.hid b
    clear b C1 C2 C3
    go_wp2
    go_ret2
    exact ⟨⟨none, _, .bool false, M.out, rfl, rfl⟩, B.out⟩
  | some ad =>
    have CL := Lib.hid (clone_any ls ad cap w hl ha)
    have VP := Lib.hid (fun d => via_perm (ls := ls) (n := ls.length) (d := d) rfl)
    have SP := Lib.hid (fun d => sorted_pw (ls := ls) (n := ls.length) (d := d))
    have SM := Lib.hid hsm
    have MO := Lib.hid (fun b => mk_of (ls := ls) (b := b))
    have RI := Lib.hid (rowL_id ls)
    clear ha hsm hA
    generalize ls.length = n at *
    go_enter Try.func21, Try.ntmps21
    go_wp2_with fail
    refine CL.out.mono ?_
    rintro e w1 ⟨⟨B, c, rfl, o1⟩, b1⟩
    clear CL
    have S1 : LabS w.heap.size B n c ls w (fun j => j) w1 := ⟨by rw [RI.out]; exact o1, b1, b1.size⟩
    have CS := Lib.hid (sortfunc_labs (fun j => j) w1 (by omega) S1 (fun i j _ h _ => h))
    clear o1 b1 S1 RI
    go_wp2_with fail
    refine CS.out.mono ?_
    rintro e w2 ⟨rfl, d, S2, hv, hs⟩
    have HP := Lib.hid (VP.out d hv)
    have MK := Lib.hid (MO.out _ (SP.out d hs) HP.out)
    have hlen := rowL_len ls n d
    have O2 := Lib.hid S2.own
    have B2 := Lib.hid S2.bel
    have CI := Lib.hid (is_any (rowL ls n d) (some ⟨B, 0, none⟩) c w2 (by omega) (fun x hx => SM.out x (HP.out.mem_iff.1 hx)) (own_labs S2.own).1)
    clear CS S2 hv hs VP SP MO
    generalize rowL ls n d = out at *
    rw [hlen] at CI
    have HL := Lib.hid hlen
    clear hlen
    cases hb : isSet out
    · rw [hb] at CI MK
      clear hb
      go_wp2_with fail
      refine CI.out.mono ?_
      rintro e w' ⟨rfl, bw⟩
      have B3 := Lib.hid (B2.out.trans (bw.mono B2.out.size))
      clear bw CI
      go_wp2
      go_ret2
      exact ⟨⟨none, _, .bool false, MK.out, rfl, rfl⟩, B3.out⟩
    · rw [hb] at CI MK
      clear hb
      go_wp2_with fail
      refine CI.out.mono ?_
      rintro e w' ⟨rfl, bw⟩
      have B3 := Lib.hid (B2.out.trans (bw.mono B2.out.size))
      have K2 := Lib.hid (own_keepL O2.out bw)
      clear bw CI O2
      go_wp2
      go_ret2
      exact ⟨⟨some out, _, _, MK.out, rfl, rfl, by rw [HL.out]; exact K2.out⟩, B3.out⟩
end Go.Proofs.Ytbfpcolbkfcanaa
