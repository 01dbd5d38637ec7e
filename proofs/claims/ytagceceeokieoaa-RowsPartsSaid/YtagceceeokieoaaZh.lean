/-
  RowsMake, RowsPut, RowsSets, RowsTell, RowsParts as contracts. Conditions: none.
-/
import Derived.Test.YtagceceeokieoaaZg
namespace Go.Proofs.Ytagceceeokieoaa
open Go.RowKit Go.Sort

theorem GaveZ.of_own {w : World} {w0 : Nat} {v : Value} {n K : Nat} {l : List Int} (h : w.ownsRow w0 3 1 v n (zs l)) (hK : n ≤ K) (hf : K ≤ 1048576) : ∃ A c, v = .slice A n c ∧ SlZ w l A n c K := by
  obtain ⟨A, c, e, _, hn, hz, hl⟩ := own_z h
  exact ⟨A, c, e, ⟨hl, hn, hz, hK, hf⟩⟩
theorem wpList_appG {ops : Array Oper} {rest : List Oper} {o : Oper} {a : Act} {w : World} {Q : Exit → Act → World → Prop} (hgd : Region.wanted o (yielded ops a.tmps) = true) (s x : Operand) (ho : o.op = .call { callee := .builtin .append, args := #[s, x], argTypes := #[23, 23] })
    (base : Nat) (v : Value) (n : Nat) (xs : List Int) (hs : a.eval s = v) (hown : w.ownsRow base 3 1 v n (zs xs)) (A : Option Addr) (L c : Nat) (l : List Int) (hx : a.eval x = .slice A L c) (hL : l.length = L) (hA : A = none → c = 0) (hr : IsZ w A l)
    (hlen : n + L ≤ 1099511627776) (hbase : base ≤ w.heap.size)
    (h : ∀ v' w', w'.ownsRow base 3 1 v' (n + L) (zs (xs ++ l)) → w.grownBy w' v.ownBlock → wpList Try.prog ops Q rest (a.put o.dst v') w') : wpList Try.prog ops Q (o :: rest) a w :=
  wpList_step fun K hK => by
    simp only [hgd, if_true]
    exact wp_appZ s x ho base v n xs hs hown A L c l hx hL hA hr hlen hbase fun v' w' h1 h2 => hK _ _ (h v' w' h1 h2)
theorem mem_dec {a b : Prop} [Decidable a] [Decidable b] {x : Bool} (h : decide a = x) (e : a ↔ b) : decide b = x := by rw [← h]; simp [e]
set_option maxRecDepth 100000 in
set_option maxHeartbeats 4000000 in
theorem make9_law (l : List Int) (x : Int) (Al : Option Addr) (cl : Nat) (w : World) (hnl : Al = none → cl = 0) (hil : IsZ w Al l) :
    Calls Try.prog 4 #[.slice Al l.length cl, .int .i64 x] w fun e w' => e = .returned (.bool true) ∧ Below w.heap.size w w' := by
  have BW := Lib.hid (Below.refl w.heap.size w)
  obtain ⟨nl, el⟩ : ∃ n, l.length = n := ⟨_, rfl⟩
  rw [el]
  have SPl := Lib.hid (And.intro el (And.intro hnl hil))
  clear el hnl hil
  by_cases h : 100 < nl
  · have hz : decide ((nl : Int) > 100) = true := decide_eq_true (by omega)
    clear SPl
    go_enter Try.func4, Try.ntmps4
    have C1 := Lib.hid (runs9_any w)
    go_wp2_with fail
    refine C1.out.mono ?_
    rintro e w1 ⟨rfl, bb⟩
    clear C1
    replace BW := Lib.hid (BW.out.trans (bb.mono BW.out.size))
    clear bb
    go_wp2
    go_ret
    exact ⟨rfl, BW.out⟩
  · have hz : decide ((nl : Int) > 100) = false := decide_eq_false (by omega)
    have L : Hid (SlZ w l Al nl cl 100) := ⟨SPl.out.1, SPl.out.2.1, SPl.out.2.2, by omega, by omega⟩
    obtain ⟨bi, hbi⟩ : ∃ b, decide (l.Pairwise (· < ·)) = b := ⟨_, rfl⟩
    obtain ⟨bh, hbh⟩ : ∃ b, decide (x ∈ l) = b := ⟨_, rfl⟩
    have HBI := Lib.hid hbi
    have HBH := Lib.hid hbh
    clear SPl h hbi hbh
    go_enter Try.func4, Try.ntmps4
    have C1 := Lib.hid (rising_s L.out)
    go_wp2_with fail
    refine C1.out.mono ?_
    rintro e w1 ⟨lR, AR, nR, cR, rfl, rR, sR, bb⟩
    clear C1
    replace L := Lib.hid (L.out.below bb)
    replace BW := Lib.hid (BW.out.trans (bb.mono BW.out.size))
    have R := Lib.hid sR
    have RR := Lib.hid rR
    clear sR rR bb
    have C2 := Lib.hid (make_s L.out)
    go_wp2_with fail
    refine C2.out.mono ?_
    rintro e w2 ⟨lM, AM, nM, cM, rfl, rM, sM, bb⟩
    clear C2
    replace L := Lib.hid (L.out.below bb)
    replace R := Lib.hid (R.out.below bb)
    replace BW := Lib.hid (BW.out.trans (bb.mono BW.out.size))
    have M := Lib.hid sM
    have RM := Lib.hid rM
    clear sM rM bb
    have C3 := Lib.hid (same_s true M.out R.out (decide_eq_true (RM.out.eq RR.out fun _ => Iff.rfl)))
    go_wp2_with fail
    refine C3.out.mono ?_
    rintro e w3 ⟨rfl, bb⟩
    clear C3
    replace L := Lib.hid (L.out.below bb)
    replace R := Lib.hid (R.out.below bb)
    replace M := Lib.hid (M.out.below bb)
    replace BW := Lib.hid (BW.out.trans (bb.mono BW.out.size))
    clear bb
    have C4 := Lib.hid (is_s bi L.out HBI.out)
    go_wp2_with fail
    refine C4.out.mono ?_
    rintro e w4 ⟨rfl, bb⟩
    clear C4
    replace L := Lib.hid (L.out.below bb)
    replace R := Lib.hid (R.out.below bb)
    replace M := Lib.hid (M.out.below bb)
    replace BW := Lib.hid (BW.out.trans (bb.mono BW.out.size))
    clear bb
    have C5 := Lib.hid (same_s bi L.out R.out (mem_dec HBI.out RR.out.is_iff.symm))
    go_wp2_with fail
    refine C5.out.mono ?_
    rintro e w5 ⟨rfl, bb⟩
    clear C5
    replace L := Lib.hid (L.out.below bb)
    replace R := Lib.hid (R.out.below bb)
    replace M := Lib.hid (M.out.below bb)
    replace BW := Lib.hid (BW.out.trans (bb.mono BW.out.size))
    clear bb
    have C6 := Lib.hid (has_s x bh L.out HBH.out)
    go_wp2_with fail
    refine C6.out.mono ?_
    rintro e w6 ⟨rfl, bb⟩
    clear C6
    replace L := Lib.hid (L.out.below bb)
    replace R := Lib.hid (R.out.below bb)
    replace M := Lib.hid (M.out.below bb)
    replace BW := Lib.hid (BW.out.trans (bb.mono BW.out.size))
    clear bb
    have C7 := Lib.hid (rhas_s x bh L.out HBH.out)
    go_wp2_with fail
    refine C7.out.mono ?_
    rintro e w7 ⟨rfl, bb⟩
    clear C7
    replace L := Lib.hid (L.out.below bb)
    replace R := Lib.hid (R.out.below bb)
    replace M := Lib.hid (M.out.below bb)
    replace BW := Lib.hid (BW.out.trans (bb.mono BW.out.size))
    clear bb
    cases bi
    all_goals cases bh
    all_goals
      have C8 := Lib.hid (runs9_any w7)
      go_wp2_with fail
      refine C8.out.mono ?_
      rintro e w8 ⟨rfl, bb⟩
      clear C8
      replace L := Lib.hid (L.out.below bb)
      replace R := Lib.hid (R.out.below bb)
      replace M := Lib.hid (M.out.below bb)
      replace BW := Lib.hid (BW.out.trans (bb.mono BW.out.size))
      clear bb
      go_wp2
      go_ret
      exact ⟨rfl, BW.out⟩
set_option maxRecDepth 100000 in
set_option maxHeartbeats 4000000 in
theorem put9_law (l : List Int) (x : Int) (Al : Option Addr) (cl : Nat) (w : World) (hnl : Al = none → cl = 0) (hil : IsZ w Al l) :
    Calls Try.prog 5 #[.slice Al l.length cl, .int .i64 x] w fun e w' => e = .returned (.bool true) ∧ Below w.heap.size w w' := by
  have BW := Lib.hid (Below.refl w.heap.size w)
  obtain ⟨nl, el⟩ : ∃ n, l.length = n := ⟨_, rfl⟩
  rw [el]
  have SPl := Lib.hid (And.intro el (And.intro hnl hil))
  clear el hnl hil
  by_cases h : 100 < nl
  · have hz : decide ((nl : Int) > 100) = true := decide_eq_true (by omega)
    clear SPl
    go_enter Try.func5, Try.ntmps5
    have C1 := Lib.hid (runs9_any w)
    go_wp2_with fail
    refine C1.out.mono ?_
    rintro e w1 ⟨rfl, bb⟩
    clear C1
    replace BW := Lib.hid (BW.out.trans (bb.mono BW.out.size))
    clear bb
    go_wp2
    go_ret
    exact ⟨rfl, BW.out⟩
  · have hz : decide ((nl : Int) > 100) = false := decide_eq_false (by omega)
    have L : Hid (SlZ w l Al nl cl 100) := ⟨SPl.out.1, SPl.out.2.1, SPl.out.2.2, by omega, by omega⟩
    clear SPl
    go_enter Try.func5, Try.ntmps5
    have C1 := Lib.hid (put_s x L.out (by omega))
    go_wp2_with fail
    refine C1.out.mono ?_
    rintro e w1 ⟨lP, AP, nP, cP, rfl, rP, sP, bb⟩
    clear C1
    replace L := Lib.hid (L.out.below bb)
    replace BW := Lib.hid (BW.out.trans (bb.mono BW.out.size))
    have P := Lib.hid sP
    have RP := Lib.hid rP
    clear sP rP bb
    have U1 := Lib.hid (World.ownsRow_nil w1 w.heap.size 3 1)
    have U2 : Hid (∀ v w2 (o2 : World.ownsRow w2 w1.heap.size 3 1 v nl (zs l)), World.ownsRow (World.alloc w2 (.cells #[.int .i64 x] 3)) w1.heap.size 3 1 v nl (zs l)) := fun v w2 o2 => own_grow o2 ((Below.refl _ _).alloc (Nat.le_refl _) _)
    go_wp2_with (first | ((refine wpList_appZ rfl (.const (.slice none 0 0)) (.tmp 12) rfl w1.heap.size (.slice none 0 0) 0 [] rfl (World.ownsRow_nil _ _ _ _) Al nl cl l rfl L.out.len L.out.nil L.out.is (by omega) (Nat.le_refl _) ?_); (intro v2 w2 o2 g2); (rw [Nat.zero_add, List.nil_append] at o2); (have B2 : Hid (Below w1.heap.size w1 w2) := (Below.refl _ _).grown g2 (Nat.le_refl _) (fun g hg => by cases hg)); (have O2 := Lib.hid (U2.out v2 w2 o2)); (have T2 := Lib.hid (SlZ.lit w2 [x] 1 w2.heap.size #[.int .i64 x] rfl rfl rfl (by omega))); (have B3 : Hid (Below w1.heap.size w1 (World.alloc w2 (.cells #[.int .i64 x] 3))) := B2.out.alloc B2.out.size _); (clear o2 g2)) | ((refine wpList_appZ rfl (.tmp 13) (.tmp 15) rfl w1.heap.size v2 nl l rfl O2.out (some ⟨w2.heap.size, 0, none⟩) 1 1 [x] rfl T2.out.len T2.out.nil T2.out.is (by omega) B3.out.size ?_); (intro v3 w3 o3 g3); (have B4 : Hid (Below w1.heap.size w1 w3) := B3.out.grown g3 B3.out.size (fun g hg => own_geZ O2.out g hg)); (have O3 := Lib.hid o3); (obtain ⟨A3, c3, rfl, s3⟩ := GaveZ.of_own (K := 101) O3.out (by omega) (by omega)); (have E3 := Lib.hid s3); (clear O3 O2 o3 g3 s3 T2 B2 B3)))
    replace L := Lib.hid (L.out.below B4.out)
    replace P := Lib.hid (P.out.below B4.out)
    replace BW := Lib.hid (BW.out.trans (B4.out.mono BW.out.size))
    clear B4
    have C2 := Lib.hid (rising_s E3.out)
    go_wp2_with fail
    refine C2.out.mono ?_
    rintro e w2 ⟨lR, AR, nR, cR, rfl, rR, sR, bb⟩
    clear C2
    replace L := Lib.hid (L.out.below bb)
    replace P := Lib.hid (P.out.below bb)
    replace E3 := Lib.hid (E3.out.below bb)
    replace BW := Lib.hid (BW.out.trans (bb.mono BW.out.size))
    have R := Lib.hid sR
    have RR := Lib.hid rR
    clear sR rR bb
    have C3 := Lib.hid (same_s true P.out R.out (decide_eq_true (RP.out.eq RR.out fun _ => Iff.rfl)))
    go_wp2_with fail
    refine C3.out.mono ?_
    rintro e w3 ⟨rfl, bb⟩
    clear C3
    replace L := Lib.hid (L.out.below bb)
    replace P := Lib.hid (P.out.below bb)
    replace E3 := Lib.hid (E3.out.below bb)
    replace R := Lib.hid (R.out.below bb)
    replace BW := Lib.hid (BW.out.trans (bb.mono BW.out.size))
    clear bb
    have C4 := Lib.hid (cut_s x L.out)
    go_wp2_with fail
    refine C4.out.mono ?_
    rintro e w4 ⟨lQ, AQ, nQ, cQ, rfl, rQ, sQ, bb⟩
    clear C4
    replace L := Lib.hid (L.out.below bb)
    replace P := Lib.hid (P.out.below bb)
    replace E3 := Lib.hid (E3.out.below bb)
    replace R := Lib.hid (R.out.below bb)
    replace BW := Lib.hid (BW.out.trans (bb.mono BW.out.size))
    have Q := Lib.hid sQ
    have RQ := Lib.hid rQ
    clear sQ rQ bb
    have C5 := Lib.hid (rcut_s x L.out)
    go_wp2_with fail
    refine C5.out.mono ?_
    rintro e w5 ⟨lT, AT, nT, cT, rfl, rT, sT, bb⟩
    clear C5
    replace L := Lib.hid (L.out.below bb)
    replace P := Lib.hid (P.out.below bb)
    replace E3 := Lib.hid (E3.out.below bb)
    replace R := Lib.hid (R.out.below bb)
    replace Q := Lib.hid (Q.out.below bb)
    replace BW := Lib.hid (BW.out.trans (bb.mono BW.out.size))
    have T := Lib.hid sT
    have RT := Lib.hid rT
    clear sT rT bb
    have C6 := Lib.hid (same_s true Q.out T.out (decide_eq_true (RQ.out.eq RT.out fun _ => Iff.rfl)))
    go_wp2_with fail
    refine C6.out.mono ?_
    rintro e w6 ⟨rfl, bb⟩
    clear C6
    replace L := Lib.hid (L.out.below bb)
    replace P := Lib.hid (P.out.below bb)
    replace E3 := Lib.hid (E3.out.below bb)
    replace R := Lib.hid (R.out.below bb)
    replace Q := Lib.hid (Q.out.below bb)
    replace T := Lib.hid (T.out.below bb)
    replace BW := Lib.hid (BW.out.trans (bb.mono BW.out.size))
    clear bb
    have C7 := Lib.hid (runs9_any w6)
    go_wp2_with fail
    refine C7.out.mono ?_
    rintro e w7 ⟨rfl, bb⟩
    clear C7
    replace L := Lib.hid (L.out.below bb)
    replace P := Lib.hid (P.out.below bb)
    replace E3 := Lib.hid (E3.out.below bb)
    replace R := Lib.hid (R.out.below bb)
    replace Q := Lib.hid (Q.out.below bb)
    replace T := Lib.hid (T.out.below bb)
    replace BW := Lib.hid (BW.out.trans (bb.mono BW.out.size))
    clear bb
    go_wp2
    go_ret
    exact ⟨rfl, BW.out⟩
set_option maxRecDepth 100000 in
set_option maxHeartbeats 4000000 in
theorem sets9_law (a : List Int) (b : List Int) (Aa Ab : Option Addr) (ca cb : Nat) (w : World) (hna : Aa = none → ca = 0) (hia : IsZ w Aa a) (hnb : Ab = none → cb = 0) (hib : IsZ w Ab b) :
    Calls Try.prog 6 #[.slice Aa a.length ca, .slice Ab b.length cb] w fun e w' => e = .returned (.bool true) ∧ Below w.heap.size w w' := by
  have BW := Lib.hid (Below.refl w.heap.size w)
  obtain ⟨na, ea⟩ : ∃ n, a.length = n := ⟨_, rfl⟩
  rw [ea]
  have SPa := Lib.hid (And.intro ea (And.intro hna hia))
  clear ea hna hia
  obtain ⟨nb, eb⟩ : ∃ n, b.length = n := ⟨_, rfl⟩
  rw [eb]
  have SPb := Lib.hid (And.intro eb (And.intro hnb hib))
  clear eb hnb hib
  by_cases h : 100 < na
  · have hz : decide ((na : Int) > 100) = true := decide_eq_true (by omega)
    clear SPa SPb
    go_enter Try.func6, Try.ntmps6
    have C1 := Lib.hid (runs9_any w)
    go_wp2_with fail
    refine C1.out.mono ?_
    rintro e w1 ⟨rfl, bb⟩
    clear C1
    replace BW := Lib.hid (BW.out.trans (bb.mono BW.out.size))
    clear bb
    go_wp2
    go_ret
    exact ⟨rfl, BW.out⟩
  by_cases h2 : 100 < nb
  · have hz : decide ((na : Int) > 100) = false := decide_eq_false (by omega)
    have hz2 : decide ((nb : Int) > 100) = true := decide_eq_true (by omega)
    clear SPa SPb
    go_enter Try.func6, Try.ntmps6
    have C1 := Lib.hid (runs9_any w)
    go_wp2_with fail
    refine C1.out.mono ?_
    rintro e w1 ⟨rfl, bb⟩
    clear C1
    replace BW := Lib.hid (BW.out.trans (bb.mono BW.out.size))
    clear bb
    go_wp2
    go_ret
    exact ⟨rfl, BW.out⟩
  have hz : decide ((na : Int) > 100) = false := decide_eq_false (by omega)
  have hz2 : decide ((nb : Int) > 100) = false := decide_eq_false (by omega)
  have SA : Hid (SlZ w a Aa na ca 100) := ⟨SPa.out.1, SPa.out.2.1, SPa.out.2.2, by omega, by omega⟩
  have SB : Hid (SlZ w b Ab nb cb 100) := ⟨SPb.out.1, SPb.out.2.1, SPb.out.2.2, by omega, by omega⟩
  clear SPa SPb
  go_enter Try.func6, Try.ntmps6
  have C1 := Lib.hid (and_s SA.out SB.out)
  go_wp2_with fail
  refine C1.out.mono ?_
  rintro e w1 ⟨lX, AX, nX, cX, rfl, rX, sX, bb⟩
  clear C1
  replace SA := Lib.hid (SA.out.below bb)
  replace SB := Lib.hid (SB.out.below bb)
  replace BW := Lib.hid (BW.out.trans (bb.mono BW.out.size))
  have X := Lib.hid sX
  have RX := Lib.hid rX
  clear sX rX bb
  have C2 := Lib.hid (both_s true SA.out SB.out)
  go_wp2_with fail
  refine C2.out.mono ?_
  rintro e w2 ⟨lY, AY, nY, cY, rfl, rY, sY, bb⟩
  clear C2
  replace SA := Lib.hid (SA.out.below bb)
  replace SB := Lib.hid (SB.out.below bb)
  replace X := Lib.hid (X.out.below bb)
  replace BW := Lib.hid (BW.out.trans (bb.mono BW.out.size))
  have Y := Lib.hid sY
  have RY := Lib.hid rY
  clear sY rY bb
  have C3 := Lib.hid (same_s true X.out Y.out (decide_eq_true (RX.out.eq RY.out fun _ => Iff.rfl)))
  go_wp2_with fail
  refine C3.out.mono ?_
  rintro e w3 ⟨rfl, bb⟩
  clear C3
  replace SA := Lib.hid (SA.out.below bb)
  replace SB := Lib.hid (SB.out.below bb)
  replace X := Lib.hid (X.out.below bb)
  replace Y := Lib.hid (Y.out.below bb)
  replace BW := Lib.hid (BW.out.trans (bb.mono BW.out.size))
  clear bb
  have C4 := Lib.hid (or_s SA.out SB.out (by omega))
  go_wp2_with fail
  refine C4.out.mono ?_
  rintro e w4 ⟨lO, AO, nO, cO, rfl, rO, sO, bb⟩
  clear C4
  replace SA := Lib.hid (SA.out.below bb)
  replace SB := Lib.hid (SB.out.below bb)
  replace X := Lib.hid (X.out.below bb)
  replace Y := Lib.hid (Y.out.below bb)
  replace BW := Lib.hid (BW.out.trans (bb.mono BW.out.size))
  have O := Lib.hid sO
  have RO := Lib.hid rO
  clear sO rO bb
  go_wp2_with (first | ((refine wpList_appG rfl (.const (.slice none 0 0)) (.tmp 25) rfl w4.heap.size (.slice none 0 0) 0 [] rfl (World.ownsRow_nil _ _ _ _) Aa na ca a rfl SA.out.len SA.out.nil SA.out.is (by omega) (Nat.le_refl _) ?_); (intro v2 u2 o2 g2); (rw [Nat.zero_add, List.nil_append] at o2); (have B2 : Hid (Below w4.heap.size w4 u2) := (Below.refl _ _).grown g2 (Nat.le_refl _) (fun g hg => by cases hg)); (have O2 := Lib.hid o2); (have T2 := Lib.hid (SB.out.below B2.out)); (clear o2 g2)) | ((refine wpList_appG rfl (.tmp 26) (.tmp 27) rfl w4.heap.size v2 na a rfl O2.out Ab nb cb b rfl T2.out.len T2.out.nil T2.out.is (by omega) B2.out.size ?_); (intro v3 u3 o3 g3); (have B4 : Hid (Below w4.heap.size w4 u3) := B2.out.grown g3 B2.out.size (fun g hg => own_geZ O2.out g hg)); (obtain ⟨A3, c3, rfl, s3⟩ := GaveZ.of_own (K := 200) o3 (by omega) (by omega)); (have E3 := Lib.hid s3); (clear O2 o3 g3 s3 T2 B2)))
  replace SA := Lib.hid (SA.out.below B4.out)
  replace SB := Lib.hid (SB.out.below B4.out)
  replace X := Lib.hid (X.out.below B4.out)
  replace Y := Lib.hid (Y.out.below B4.out)
  replace O := Lib.hid (O.out.below B4.out)
  replace BW := Lib.hid (BW.out.trans (B4.out.mono BW.out.size))
  clear B4
  have C5 := Lib.hid (rising_s E3.out)
  go_wp2_with fail
  refine C5.out.mono ?_
  rintro e w5 ⟨lR, AR, nR, cR, rfl, rR, sR, bb⟩
  clear C5
  replace SA := Lib.hid (SA.out.below bb)
  replace SB := Lib.hid (SB.out.below bb)
  replace X := Lib.hid (X.out.below bb)
  replace Y := Lib.hid (Y.out.below bb)
  replace O := Lib.hid (O.out.below bb)
  replace E3 := Lib.hid (E3.out.below bb)
  replace BW := Lib.hid (BW.out.trans (bb.mono BW.out.size))
  have R := Lib.hid sR
  have RR := Lib.hid rR
  clear sR rR bb
  have C6 := Lib.hid (same_s true O.out R.out (decide_eq_true (RO.out.eq RR.out fun _ => Iff.rfl)))
  go_wp2_with fail
  refine C6.out.mono ?_
  rintro e w6 ⟨rfl, bb⟩
  clear C6
  replace SA := Lib.hid (SA.out.below bb)
  replace SB := Lib.hid (SB.out.below bb)
  replace X := Lib.hid (X.out.below bb)
  replace Y := Lib.hid (Y.out.below bb)
  replace O := Lib.hid (O.out.below bb)
  replace E3 := Lib.hid (E3.out.below bb)
  replace R := Lib.hid (R.out.below bb)
  replace BW := Lib.hid (BW.out.trans (bb.mono BW.out.size))
  clear bb
  have C7 := Lib.hid (not_s SA.out SB.out)
  go_wp2_with fail
  refine C7.out.mono ?_
  rintro e w7 ⟨lN, AN, nN, cN, rfl, rN, sN, bb⟩
  clear C7
  replace SA := Lib.hid (SA.out.below bb)
  replace SB := Lib.hid (SB.out.below bb)
  replace X := Lib.hid (X.out.below bb)
  replace Y := Lib.hid (Y.out.below bb)
  replace O := Lib.hid (O.out.below bb)
  replace E3 := Lib.hid (E3.out.below bb)
  replace R := Lib.hid (R.out.below bb)
  replace BW := Lib.hid (BW.out.trans (bb.mono BW.out.size))
  have N := Lib.hid sN
  have RN := Lib.hid rN
  clear sN rN bb
  have C8 := Lib.hid (both_s false SA.out SB.out)
  go_wp2_with fail
  refine C8.out.mono ?_
  rintro e w8 ⟨lM, AM, nM, cM, rfl, rM, sM, bb⟩
  clear C8
  replace SA := Lib.hid (SA.out.below bb)
  replace SB := Lib.hid (SB.out.below bb)
  replace X := Lib.hid (X.out.below bb)
  replace Y := Lib.hid (Y.out.below bb)
  replace O := Lib.hid (O.out.below bb)
  replace E3 := Lib.hid (E3.out.below bb)
  replace R := Lib.hid (R.out.below bb)
  replace N := Lib.hid (N.out.below bb)
  replace BW := Lib.hid (BW.out.trans (bb.mono BW.out.size))
  have M := Lib.hid sM
  have RM := Lib.hid rM
  clear sM rM bb
  have C9 := Lib.hid (same_s true N.out M.out (decide_eq_true (RN.out.eq RM.out fun _ => Iff.rfl)))
  go_wp2_with fail
  refine C9.out.mono ?_
  rintro e w9 ⟨rfl, bb⟩
  clear C9
  replace SA := Lib.hid (SA.out.below bb)
  replace SB := Lib.hid (SB.out.below bb)
  replace X := Lib.hid (X.out.below bb)
  replace Y := Lib.hid (Y.out.below bb)
  replace O := Lib.hid (O.out.below bb)
  replace E3 := Lib.hid (E3.out.below bb)
  replace R := Lib.hid (R.out.below bb)
  replace N := Lib.hid (N.out.below bb)
  replace M := Lib.hid (M.out.below bb)
  replace BW := Lib.hid (BW.out.trans (bb.mono BW.out.size))
  clear bb
  have C10 := Lib.hid (runs9_any w9)
  go_wp2_with fail
  refine C10.out.mono ?_
  rintro e w10 ⟨rfl, bb⟩
  clear C10
  replace SA := Lib.hid (SA.out.below bb)
  replace SB := Lib.hid (SB.out.below bb)
  replace X := Lib.hid (X.out.below bb)
  replace Y := Lib.hid (Y.out.below bb)
  replace O := Lib.hid (O.out.below bb)
  replace E3 := Lib.hid (E3.out.below bb)
  replace R := Lib.hid (R.out.below bb)
  replace N := Lib.hid (N.out.below bb)
  replace M := Lib.hid (M.out.below bb)
  replace BW := Lib.hid (BW.out.trans (bb.mono BW.out.size))
  clear bb
  go_wp2
  go_ret
  exact ⟨rfl, BW.out⟩
set_option maxRecDepth 100000 in
set_option maxHeartbeats 4000000 in
theorem tell9_law (a : List Int) (b : List Int) (x : Int) (Aa Ab : Option Addr) (ca cb : Nat) (w : World) (hna : Aa = none → ca = 0) (hia : IsZ w Aa a) (hnb : Ab = none → cb = 0) (hib : IsZ w Ab b) :
    Calls Try.prog 7 #[.slice Aa a.length ca, .slice Ab b.length cb, .int .i64 x] w fun e w' => e = .returned (.bool true) ∧ Below w.heap.size w w' := by
  have BW := Lib.hid (Below.refl w.heap.size w)
  obtain ⟨na, ea⟩ : ∃ n, a.length = n := ⟨_, rfl⟩
  rw [ea]
  have SPa := Lib.hid (And.intro ea (And.intro hna hia))
  clear ea hna hia
  obtain ⟨nb, eb⟩ : ∃ n, b.length = n := ⟨_, rfl⟩
  rw [eb]
  have SPb := Lib.hid (And.intro eb (And.intro hnb hib))
  clear eb hnb hib
  by_cases h : 100 < na
  · have hz : decide ((na : Int) > 100) = true := decide_eq_true (by omega)
    clear SPa SPb
    go_enter Try.func7, Try.ntmps7
    have C1 := Lib.hid (runs9_any w)
    go_wp2_with fail
    refine C1.out.mono ?_
    rintro e w1 ⟨rfl, bb⟩
    clear C1
    replace BW := Lib.hid (BW.out.trans (bb.mono BW.out.size))
    clear bb
    go_wp2
    go_ret
    exact ⟨rfl, BW.out⟩
  by_cases h2 : 100 < nb
  · have hz : decide ((na : Int) > 100) = false := decide_eq_false (by omega)
    have hz2 : decide ((nb : Int) > 100) = true := decide_eq_true (by omega)
    clear SPa SPb
    go_enter Try.func7, Try.ntmps7
    have C1 := Lib.hid (runs9_any w)
    go_wp2_with fail
    refine C1.out.mono ?_
    rintro e w1 ⟨rfl, bb⟩
    clear C1
    replace BW := Lib.hid (BW.out.trans (bb.mono BW.out.size))
    clear bb
    go_wp2
    go_ret
    exact ⟨rfl, BW.out⟩
  have hz : decide ((na : Int) > 100) = false := decide_eq_false (by omega)
  have hz2 : decide ((nb : Int) > 100) = false := decide_eq_false (by omega)
  have SA : Hid (SlZ w a Aa na ca 100) := ⟨SPa.out.1, SPa.out.2.1, SPa.out.2.2, by omega, by omega⟩
  have SB : Hid (SlZ w b Ab nb cb 100) := ⟨SPb.out.1, SPb.out.2.1, SPb.out.2.2, by omega, by omega⟩
  clear SPa SPb
  obtain ⟨p, hp⟩ : ∃ p, decide (x ∈ a) = p := ⟨_, rfl⟩
  obtain ⟨q, hq⟩ : ∃ q, decide (x ∈ b) = q := ⟨_, rfl⟩
  have HP := Lib.hid hp
  have HQ := Lib.hid hq
  have HA : Hid (∀ l, IsRise (pickZ b true a) l → decide (x ∈ l) = (p && q)) := fun l h => by
    rw [← hp, ← hq]; simp [h.2, pick_mem]
  have HO : Hid (∀ l, IsRise (a ++ b) l → decide (x ∈ l) = (p || q)) := fun l h => by
    rw [← hp, ← hq]; simp [h.2]
  have HN : Hid (∀ l, IsRise (pickZ b false a) l → decide (x ∈ l) = (p && !q)) := fun l h => by
    rw [← hp, ← hq]; simp [h.2, pick_mem]
  clear hp hq h h2
  cases p
  all_goals cases q
  all_goals
    go_enter Try.func7, Try.ntmps7
    have C1 := Lib.hid (has_s x _ SA.out HP.out)
    go_wp2_with fail
    refine C1.out.mono ?_
    rintro e w1 ⟨rfl, bb⟩
    clear C1
    replace SA := Lib.hid (SA.out.below bb)
    replace SB := Lib.hid (SB.out.below bb)
    replace BW := Lib.hid (BW.out.trans (bb.mono BW.out.size))
    clear bb
    have C2 := Lib.hid (has_s x _ SB.out HQ.out)
    go_wp2_with fail
    refine C2.out.mono ?_
    rintro e w2 ⟨rfl, bb⟩
    clear C2
    replace SA := Lib.hid (SA.out.below bb)
    replace SB := Lib.hid (SB.out.below bb)
    replace BW := Lib.hid (BW.out.trans (bb.mono BW.out.size))
    clear bb
    have C3 := Lib.hid (and_s SA.out SB.out)
    go_wp2_with fail
    refine C3.out.mono ?_
    rintro e w3 ⟨lX, AX, nX, cX, rfl, rX, sX, bb⟩
    clear C3
    replace SA := Lib.hid (SA.out.below bb)
    replace SB := Lib.hid (SB.out.below bb)
    replace BW := Lib.hid (BW.out.trans (bb.mono BW.out.size))
    have X := Lib.hid sX
    have RX := Lib.hid rX
    clear sX rX bb
    have C4 := Lib.hid (or_s SA.out SB.out (by omega))
    go_wp2_with fail
    refine C4.out.mono ?_
    rintro e w4 ⟨lO, AO, nO, cO, rfl, rO, sO, bb⟩
    clear C4
    replace SA := Lib.hid (SA.out.below bb)
    replace SB := Lib.hid (SB.out.below bb)
    replace X := Lib.hid (X.out.below bb)
    replace BW := Lib.hid (BW.out.trans (bb.mono BW.out.size))
    have O := Lib.hid sO
    have RO := Lib.hid rO
    clear sO rO bb
    have C5 := Lib.hid (not_s SA.out SB.out)
    go_wp2_with fail
    refine C5.out.mono ?_
    rintro e w5 ⟨lN, AN, nN, cN, rfl, rN, sN, bb⟩
    clear C5
    replace SA := Lib.hid (SA.out.below bb)
    replace SB := Lib.hid (SB.out.below bb)
    replace X := Lib.hid (X.out.below bb)
    replace O := Lib.hid (O.out.below bb)
    replace BW := Lib.hid (BW.out.trans (bb.mono BW.out.size))
    have N := Lib.hid sN
    have RN := Lib.hid rN
    clear sN rN bb
    have C6 := Lib.hid (has_s x _ X.out (HA.out _ RX.out))
    go_wp2_with fail
    refine C6.out.mono ?_
    rintro e w6 ⟨rfl, bb⟩
    clear C6
    replace SA := Lib.hid (SA.out.below bb)
    replace SB := Lib.hid (SB.out.below bb)
    replace X := Lib.hid (X.out.below bb)
    replace O := Lib.hid (O.out.below bb)
    replace N := Lib.hid (N.out.below bb)
    replace BW := Lib.hid (BW.out.trans (bb.mono BW.out.size))
    clear bb
    have C7 := Lib.hid (has_s x _ O.out (HO.out _ RO.out))
    go_wp2_with fail
    refine C7.out.mono ?_
    rintro e w7 ⟨rfl, bb⟩
    clear C7
    replace SA := Lib.hid (SA.out.below bb)
    replace SB := Lib.hid (SB.out.below bb)
    replace X := Lib.hid (X.out.below bb)
    replace O := Lib.hid (O.out.below bb)
    replace N := Lib.hid (N.out.below bb)
    replace BW := Lib.hid (BW.out.trans (bb.mono BW.out.size))
    clear bb
    have C8 := Lib.hid (has_s x _ N.out (HN.out _ RN.out))
    go_wp2_with fail
    refine C8.out.mono ?_
    rintro e w8 ⟨rfl, bb⟩
    clear C8
    replace SA := Lib.hid (SA.out.below bb)
    replace SB := Lib.hid (SB.out.below bb)
    replace X := Lib.hid (X.out.below bb)
    replace O := Lib.hid (O.out.below bb)
    replace N := Lib.hid (N.out.below bb)
    replace BW := Lib.hid (BW.out.trans (bb.mono BW.out.size))
    clear bb
    have C9 := Lib.hid (cut_s x SA.out)
    go_wp2_with fail
    refine C9.out.mono ?_
    rintro e w9 ⟨lC, AC, nC, cC, rfl, rC, sC, bb⟩
    clear C9
    replace SA := Lib.hid (SA.out.below bb)
    replace SB := Lib.hid (SB.out.below bb)
    replace X := Lib.hid (X.out.below bb)
    replace O := Lib.hid (O.out.below bb)
    replace N := Lib.hid (N.out.below bb)
    replace BW := Lib.hid (BW.out.trans (bb.mono BW.out.size))
    have C := Lib.hid sC
    have RC := Lib.hid rC
    clear sC rC bb
    have C10 := Lib.hid (has_s x false C.out (decide_eq_false (by rw [RC.out.2, pick_mem]; simp)))
    go_wp2_with fail
    refine C10.out.mono ?_
    rintro e w10 ⟨rfl, bb⟩
    clear C10
    replace SA := Lib.hid (SA.out.below bb)
    replace SB := Lib.hid (SB.out.below bb)
    replace X := Lib.hid (X.out.below bb)
    replace O := Lib.hid (O.out.below bb)
    replace N := Lib.hid (N.out.below bb)
    replace C := Lib.hid (C.out.below bb)
    replace BW := Lib.hid (BW.out.trans (bb.mono BW.out.size))
    clear bb
    have C11 := Lib.hid (put_s x SA.out (by omega))
    go_wp2_with fail
    refine C11.out.mono ?_
    rintro e w11 ⟨lP, AP, nP, cP, rfl, rP, sP, bb⟩
    clear C11
    replace SA := Lib.hid (SA.out.below bb)
    replace SB := Lib.hid (SB.out.below bb)
    replace X := Lib.hid (X.out.below bb)
    replace O := Lib.hid (O.out.below bb)
    replace N := Lib.hid (N.out.below bb)
    replace C := Lib.hid (C.out.below bb)
    replace BW := Lib.hid (BW.out.trans (bb.mono BW.out.size))
    have P := Lib.hid sP
    have RP := Lib.hid rP
    clear sP rP bb
    have C12 := Lib.hid (has_s x true P.out (decide_eq_true (by rw [RP.out.2]; simp)))
    go_wp2_with fail
    refine C12.out.mono ?_
    rintro e w12 ⟨rfl, bb⟩
    clear C12
    replace SA := Lib.hid (SA.out.below bb)
    replace SB := Lib.hid (SB.out.below bb)
    replace X := Lib.hid (X.out.below bb)
    replace O := Lib.hid (O.out.below bb)
    replace N := Lib.hid (N.out.below bb)
    replace C := Lib.hid (C.out.below bb)
    replace P := Lib.hid (P.out.below bb)
    replace BW := Lib.hid (BW.out.trans (bb.mono BW.out.size))
    clear bb
    have C13 := Lib.hid (is_s true X.out (decide_eq_true RX.out.1))
    go_wp2_with fail
    refine C13.out.mono ?_
    rintro e w13 ⟨rfl, bb⟩
    clear C13
    replace SA := Lib.hid (SA.out.below bb)
    replace SB := Lib.hid (SB.out.below bb)
    replace X := Lib.hid (X.out.below bb)
    replace O := Lib.hid (O.out.below bb)
    replace N := Lib.hid (N.out.below bb)
    replace C := Lib.hid (C.out.below bb)
    replace P := Lib.hid (P.out.below bb)
    replace BW := Lib.hid (BW.out.trans (bb.mono BW.out.size))
    clear bb
    have C14 := Lib.hid (is_s true O.out (decide_eq_true RO.out.1))
    go_wp2_with fail
    refine C14.out.mono ?_
    rintro e w14 ⟨rfl, bb⟩
    clear C14
    replace SA := Lib.hid (SA.out.below bb)
    replace SB := Lib.hid (SB.out.below bb)
    replace X := Lib.hid (X.out.below bb)
    replace O := Lib.hid (O.out.below bb)
    replace N := Lib.hid (N.out.below bb)
    replace C := Lib.hid (C.out.below bb)
    replace P := Lib.hid (P.out.below bb)
    replace BW := Lib.hid (BW.out.trans (bb.mono BW.out.size))
    clear bb
    have C15 := Lib.hid (is_s true N.out (decide_eq_true RN.out.1))
    go_wp2_with fail
    refine C15.out.mono ?_
    rintro e w15 ⟨rfl, bb⟩
    clear C15
    replace SA := Lib.hid (SA.out.below bb)
    replace SB := Lib.hid (SB.out.below bb)
    replace X := Lib.hid (X.out.below bb)
    replace O := Lib.hid (O.out.below bb)
    replace N := Lib.hid (N.out.below bb)
    replace C := Lib.hid (C.out.below bb)
    replace P := Lib.hid (P.out.below bb)
    replace BW := Lib.hid (BW.out.trans (bb.mono BW.out.size))
    clear bb
    have C16 := Lib.hid (put_s x SB.out (by omega))
    go_wp2_with fail
    refine C16.out.mono ?_
    rintro e w16 ⟨lD, AD, nD, cD, rfl, rD, sD, bb⟩
    clear C16
    replace SA := Lib.hid (SA.out.below bb)
    replace SB := Lib.hid (SB.out.below bb)
    replace X := Lib.hid (X.out.below bb)
    replace O := Lib.hid (O.out.below bb)
    replace N := Lib.hid (N.out.below bb)
    replace C := Lib.hid (C.out.below bb)
    replace P := Lib.hid (P.out.below bb)
    replace BW := Lib.hid (BW.out.trans (bb.mono BW.out.size))
    have D := Lib.hid sD
    have RD := Lib.hid rD
    clear sD rD bb
    have C17 := Lib.hid (is_s true D.out (decide_eq_true RD.out.1))
    go_wp2_with fail
    refine C17.out.mono ?_
    rintro e w17 ⟨rfl, bb⟩
    clear C17
    replace SA := Lib.hid (SA.out.below bb)
    replace SB := Lib.hid (SB.out.below bb)
    replace X := Lib.hid (X.out.below bb)
    replace O := Lib.hid (O.out.below bb)
    replace N := Lib.hid (N.out.below bb)
    replace C := Lib.hid (C.out.below bb)
    replace P := Lib.hid (P.out.below bb)
    replace D := Lib.hid (D.out.below bb)
    replace BW := Lib.hid (BW.out.trans (bb.mono BW.out.size))
    clear bb
    have C18 := Lib.hid (cut_s x SB.out)
    go_wp2_with fail
    refine C18.out.mono ?_
    rintro e w18 ⟨lE, AE, nE, cE, rfl, rE, sE, bb⟩
    clear C18
    replace SA := Lib.hid (SA.out.below bb)
    replace SB := Lib.hid (SB.out.below bb)
    replace X := Lib.hid (X.out.below bb)
    replace O := Lib.hid (O.out.below bb)
    replace N := Lib.hid (N.out.below bb)
    replace C := Lib.hid (C.out.below bb)
    replace P := Lib.hid (P.out.below bb)
    replace D := Lib.hid (D.out.below bb)
    replace BW := Lib.hid (BW.out.trans (bb.mono BW.out.size))
    have E := Lib.hid sE
    have RE := Lib.hid rE
    clear sE rE bb
    have C19 := Lib.hid (is_s true E.out (decide_eq_true RE.out.1))
    go_wp2_with fail
    refine C19.out.mono ?_
    rintro e w19 ⟨rfl, bb⟩
    clear C19
    replace SA := Lib.hid (SA.out.below bb)
    replace SB := Lib.hid (SB.out.below bb)
    replace X := Lib.hid (X.out.below bb)
    replace O := Lib.hid (O.out.below bb)
    replace N := Lib.hid (N.out.below bb)
    replace C := Lib.hid (C.out.below bb)
    replace P := Lib.hid (P.out.below bb)
    replace D := Lib.hid (D.out.below bb)
    replace E := Lib.hid (E.out.below bb)
    replace BW := Lib.hid (BW.out.trans (bb.mono BW.out.size))
    clear bb
    have C20 := Lib.hid (runs9_any w19)
    go_wp2_with fail
    refine C20.out.mono ?_
    rintro e w20 ⟨rfl, bb⟩
    clear C20
    replace SA := Lib.hid (SA.out.below bb)
    replace SB := Lib.hid (SB.out.below bb)
    replace X := Lib.hid (X.out.below bb)
    replace O := Lib.hid (O.out.below bb)
    replace N := Lib.hid (N.out.below bb)
    replace C := Lib.hid (C.out.below bb)
    replace P := Lib.hid (P.out.below bb)
    replace D := Lib.hid (D.out.below bb)
    replace E := Lib.hid (E.out.below bb)
    replace BW := Lib.hid (BW.out.trans (bb.mono BW.out.size))
    clear bb
    go_wp2
    go_ret
    exact ⟨rfl, BW.out⟩
set_option maxRecDepth 100000 in
set_option maxHeartbeats 4000000 in
theorem parts9_law (a : List Int) (b : List Int) (Aa Ab : Option Addr) (ca cb : Nat) (w : World) (hna : Aa = none → ca = 0) (hia : IsZ w Aa a) (hnb : Ab = none → cb = 0) (hib : IsZ w Ab b) :
    Calls Try.prog 8 #[.slice Aa a.length ca, .slice Ab b.length cb] w fun e w' => e = .returned (.bool true) ∧ Below w.heap.size w w' := by
  have BW := Lib.hid (Below.refl w.heap.size w)
  obtain ⟨na, ea⟩ : ∃ n, a.length = n := ⟨_, rfl⟩
  rw [ea]
  have SPa := Lib.hid (And.intro ea (And.intro hna hia))
  clear ea hna hia
  obtain ⟨nb, eb⟩ : ∃ n, b.length = n := ⟨_, rfl⟩
  rw [eb]
  have SPb := Lib.hid (And.intro eb (And.intro hnb hib))
  clear eb hnb hib
  by_cases h : 100 < na
  · have hz : decide ((na : Int) > 100) = true := decide_eq_true (by omega)
    clear SPa SPb
    go_enter Try.func8, Try.ntmps8
    have C1 := Lib.hid (runs9_any w)
    go_wp2_with fail
    refine C1.out.mono ?_
    rintro e w1 ⟨rfl, bb⟩
    clear C1
    replace BW := Lib.hid (BW.out.trans (bb.mono BW.out.size))
    clear bb
    go_wp2
    go_ret
    exact ⟨rfl, BW.out⟩
  by_cases h2 : 100 < nb
  · have hz : decide ((na : Int) > 100) = false := decide_eq_false (by omega)
    have hz2 : decide ((nb : Int) > 100) = true := decide_eq_true (by omega)
    clear SPa SPb
    go_enter Try.func8, Try.ntmps8
    have C1 := Lib.hid (runs9_any w)
    go_wp2_with fail
    refine C1.out.mono ?_
    rintro e w1 ⟨rfl, bb⟩
    clear C1
    replace BW := Lib.hid (BW.out.trans (bb.mono BW.out.size))
    clear bb
    go_wp2
    go_ret
    exact ⟨rfl, BW.out⟩
  have hz : decide ((na : Int) > 100) = false := decide_eq_false (by omega)
  have hz2 : decide ((nb : Int) > 100) = false := decide_eq_false (by omega)
  have SA : Hid (SlZ w a Aa na ca 100) := ⟨SPa.out.1, SPa.out.2.1, SPa.out.2.2, by omega, by omega⟩
  have SB : Hid (SlZ w b Ab nb cb 100) := ⟨SPb.out.1, SPb.out.2.1, SPb.out.2.2, by omega, by omega⟩
  clear SPa SPb
  clear h h2
  go_enter Try.func8, Try.ntmps8
  have C1 := Lib.hid (and_s SA.out SB.out)
  go_wp2_with fail
  refine C1.out.mono ?_
  rintro e w1 ⟨lX, AX, nX, cX, rfl, rX, sX, bb⟩
  clear C1
  replace SA := Lib.hid (SA.out.below bb)
  replace SB := Lib.hid (SB.out.below bb)
  replace BW := Lib.hid (BW.out.trans (bb.mono BW.out.size))
  have X := Lib.hid sX
  have RX := Lib.hid rX
  clear sX rX bb
  have C2 := Lib.hid (not_s SA.out SB.out)
  go_wp2_with fail
  refine C2.out.mono ?_
  rintro e w2 ⟨lL, AL, nL, cL, rfl, rL, sL, bb⟩
  clear C2
  replace SA := Lib.hid (SA.out.below bb)
  replace SB := Lib.hid (SB.out.below bb)
  replace X := Lib.hid (X.out.below bb)
  replace BW := Lib.hid (BW.out.trans (bb.mono BW.out.size))
  have L := Lib.hid sL
  have RL := Lib.hid rL
  clear sL rL bb
  have C3 := Lib.hid (not_s SB.out SA.out)
  go_wp2_with fail
  refine C3.out.mono ?_
  rintro e w3 ⟨lR, AR, nR, cR, rfl, rR, sR, bb⟩
  clear C3
  replace SA := Lib.hid (SA.out.below bb)
  replace SB := Lib.hid (SB.out.below bb)
  replace X := Lib.hid (X.out.below bb)
  replace L := Lib.hid (L.out.below bb)
  replace BW := Lib.hid (BW.out.trans (bb.mono BW.out.size))
  have R := Lib.hid sR
  have RR := Lib.hid rR
  clear sR rR bb
  have C4 := Lib.hid (or_s L.out R.out (by omega))
  go_wp2_with fail
  refine C4.out.mono ?_
  rintro e w4 ⟨lU, AU, nU, cU, rfl, rU, sU, bb⟩
  clear C4
  replace SA := Lib.hid (SA.out.below bb)
  replace SB := Lib.hid (SB.out.below bb)
  replace X := Lib.hid (X.out.below bb)
  replace L := Lib.hid (L.out.below bb)
  replace R := Lib.hid (R.out.below bb)
  replace BW := Lib.hid (BW.out.trans (bb.mono BW.out.size))
  have U := Lib.hid sU
  have RU := Lib.hid rU
  clear sU rU bb
  have C5 := Lib.hid (or_s U.out X.out (by omega))
  go_wp2_with fail
  refine C5.out.mono ?_
  rintro e w5 ⟨lV, AV, nV, cV, rfl, rV, sV, bb⟩
  clear C5
  replace SA := Lib.hid (SA.out.below bb)
  replace SB := Lib.hid (SB.out.below bb)
  replace X := Lib.hid (X.out.below bb)
  replace L := Lib.hid (L.out.below bb)
  replace R := Lib.hid (R.out.below bb)
  replace U := Lib.hid (U.out.below bb)
  replace BW := Lib.hid (BW.out.trans (bb.mono BW.out.size))
  have V := Lib.hid sV
  have RV := Lib.hid rV
  clear sV rV bb
  have C6 := Lib.hid (or_s SB.out SA.out (by omega))
  go_wp2_with fail
  refine C6.out.mono ?_
  rintro e w6 ⟨lO, AO, nO, cO, rfl, rO, sO, bb⟩
  clear C6
  replace SA := Lib.hid (SA.out.below bb)
  replace SB := Lib.hid (SB.out.below bb)
  replace X := Lib.hid (X.out.below bb)
  replace L := Lib.hid (L.out.below bb)
  replace R := Lib.hid (R.out.below bb)
  replace U := Lib.hid (U.out.below bb)
  replace V := Lib.hid (V.out.below bb)
  replace BW := Lib.hid (BW.out.trans (bb.mono BW.out.size))
  have O := Lib.hid sO
  have RO := Lib.hid rO
  clear sO rO bb
  have EV : Hid (lV = lO) := RV.out.eq RO.out fun y => by rw [List.mem_append, RU.out.2, List.mem_append, RL.out.2, RR.out.2, RX.out.2, List.mem_append, pick_mem, pick_mem, pick_mem]; by_cases p : y ∈ a <;> by_cases q : y ∈ b <;> simp [p, q]
  have C7 := Lib.hid (same_s true V.out O.out (decide_eq_true EV.out))
  go_wp2_with fail
  refine C7.out.mono ?_
  rintro e w7 ⟨rfl, bb⟩
  clear C7
  replace SA := Lib.hid (SA.out.below bb)
  replace SB := Lib.hid (SB.out.below bb)
  replace X := Lib.hid (X.out.below bb)
  replace L := Lib.hid (L.out.below bb)
  replace R := Lib.hid (R.out.below bb)
  replace U := Lib.hid (U.out.below bb)
  replace V := Lib.hid (V.out.below bb)
  replace O := Lib.hid (O.out.below bb)
  replace BW := Lib.hid (BW.out.trans (bb.mono BW.out.size))
  clear bb
  have EL : Hid (nV = nX + nL + nR) := by have h := asc_parts RV.out.1 RX.out.1 RL.out.1 RR.out.1 (fun y => by rw [RV.out.2, List.mem_append, RU.out.2, List.mem_append, or_assoc]) (fun y hy => by rw [RL.out.2, pick_mem] at hy; rw [RR.out.2, RX.out.2, pick_mem, pick_mem]; simp [hy.1]; simpa using hy.2) (fun y hy => by rw [RR.out.2, pick_mem] at hy; rw [RX.out.2, pick_mem]; simp; intro h; simp [h] at hy); rwa [V.out.len, X.out.len, L.out.len, R.out.len] at h
  have sX : nX ≤ 100 := X.out.small
  have sL : nL ≤ 100 := L.out.small
  have sR : nR ≤ 100 := R.out.small
  have eL : nV = nX + nL + nR := EL.out
  have wr1 : wrap64 ((nX : Int) + (nL : Int)) = (nX : Int) + (nL : Int) := by unfold wrap64; omega
  have wr2 : wrap64 ((nX : Int) + (nL : Int) + (nR : Int)) = (nX : Int) + (nL : Int) + (nR : Int) := by unfold wrap64; omega
  have eq1 : ((nV : Int) == (nX : Int) + (nL : Int) + (nR : Int)) = true := by simp; omega
  clear EL eL
  have C8 := Lib.hid (or_s L.out X.out (by omega))
  go_wp2_with fail
  refine C8.out.mono ?_
  rintro e w8 ⟨lP, AP, nP, cP, rfl, rP, sP, bb⟩
  clear C8
  replace SA := Lib.hid (SA.out.below bb)
  replace SB := Lib.hid (SB.out.below bb)
  replace X := Lib.hid (X.out.below bb)
  replace L := Lib.hid (L.out.below bb)
  replace R := Lib.hid (R.out.below bb)
  replace U := Lib.hid (U.out.below bb)
  replace V := Lib.hid (V.out.below bb)
  replace O := Lib.hid (O.out.below bb)
  replace BW := Lib.hid (BW.out.trans (bb.mono BW.out.size))
  have P := Lib.hid sP
  have RP := Lib.hid rP
  clear sP rP bb
  have C9 := Lib.hid (make_s SA.out)
  go_wp2_with fail
  refine C9.out.mono ?_
  rintro e w9 ⟨lQ, AQ, nQ, cQ, rfl, rQ, sQ, bb⟩
  clear C9
  replace SA := Lib.hid (SA.out.below bb)
  replace SB := Lib.hid (SB.out.below bb)
  replace X := Lib.hid (X.out.below bb)
  replace L := Lib.hid (L.out.below bb)
  replace R := Lib.hid (R.out.below bb)
  replace U := Lib.hid (U.out.below bb)
  replace V := Lib.hid (V.out.below bb)
  replace O := Lib.hid (O.out.below bb)
  replace P := Lib.hid (P.out.below bb)
  replace BW := Lib.hid (BW.out.trans (bb.mono BW.out.size))
  have Q := Lib.hid sQ
  have RQ := Lib.hid rQ
  clear sQ rQ bb
  have C10 := Lib.hid (same_s true P.out Q.out (decide_eq_true (RP.out.eq RQ.out fun y => by rw [List.mem_append, RL.out.2, RX.out.2, pick_mem, pick_mem]; by_cases q : y ∈ b <;> simp [q])))
  go_wp2_with fail
  refine C10.out.mono ?_
  rintro e w10 ⟨rfl, bb⟩
  clear C10
  replace SA := Lib.hid (SA.out.below bb)
  replace SB := Lib.hid (SB.out.below bb)
  replace X := Lib.hid (X.out.below bb)
  replace L := Lib.hid (L.out.below bb)
  replace R := Lib.hid (R.out.below bb)
  replace U := Lib.hid (U.out.below bb)
  replace V := Lib.hid (V.out.below bb)
  replace O := Lib.hid (O.out.below bb)
  replace P := Lib.hid (P.out.below bb)
  replace Q := Lib.hid (Q.out.below bb)
  replace BW := Lib.hid (BW.out.trans (bb.mono BW.out.size))
  clear bb
  have C11 := Lib.hid (and_s L.out SB.out)
  go_wp2_with fail
  refine C11.out.mono ?_
  rintro e w11 ⟨lZ, AZ, nZ, cZ, rfl, rZ, sZ, bb⟩
  clear C11
  replace SA := Lib.hid (SA.out.below bb)
  replace SB := Lib.hid (SB.out.below bb)
  replace X := Lib.hid (X.out.below bb)
  replace L := Lib.hid (L.out.below bb)
  replace R := Lib.hid (R.out.below bb)
  replace U := Lib.hid (U.out.below bb)
  replace V := Lib.hid (V.out.below bb)
  replace O := Lib.hid (O.out.below bb)
  replace P := Lib.hid (P.out.below bb)
  replace Q := Lib.hid (Q.out.below bb)
  replace BW := Lib.hid (BW.out.trans (bb.mono BW.out.size))
  have Z := Lib.hid sZ
  have RZ := Lib.hid rZ
  clear sZ rZ bb
  have e0 : lZ = [] := RZ.out.nil_of fun y => by rw [pick_mem, RL.out.2, pick_mem]; intro h; simp at h; exact h.1.2 h.2
  obtain rfl : nZ = 0 := by have := Z.out.len; rw [e0] at this; simpa using this.symm
  have C12 := Lib.hid (runs9_any w11)
  go_wp2_with fail
  refine C12.out.mono ?_
  rintro e w12 ⟨rfl, bb⟩
  clear C12
  replace SA := Lib.hid (SA.out.below bb)
  replace SB := Lib.hid (SB.out.below bb)
  replace X := Lib.hid (X.out.below bb)
  replace L := Lib.hid (L.out.below bb)
  replace R := Lib.hid (R.out.below bb)
  replace U := Lib.hid (U.out.below bb)
  replace V := Lib.hid (V.out.below bb)
  replace O := Lib.hid (O.out.below bb)
  replace P := Lib.hid (P.out.below bb)
  replace Q := Lib.hid (Q.out.below bb)
  replace Z := Lib.hid (Z.out.below bb)
  replace BW := Lib.hid (BW.out.trans (bb.mono BW.out.size))
  clear bb
  go_wp2
  go_ret
  exact ⟨rfl, BW.out⟩
end Go.Proofs.Ytagceceeokieoaa
