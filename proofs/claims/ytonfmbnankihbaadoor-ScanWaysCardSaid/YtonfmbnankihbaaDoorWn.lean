/-
  ScanWays as a contract: two patterns in brackets with a bar between match just what one of them matches; with a star behind, the empty text, and whatever is matched twice over. Conditions: the library's table lies in its variable (DTab).
-/
import Derived.Test.YtonfmbnankihbaaDoorWh
import Derived.Test.YtonfmbnankihbaaDoorWj
namespace Go.Proofs.YtonfmbnankihbaaDoor
open Go.RowKit Go.Sort
open Pz Sc

theorem txt8_apps (a b : ByteArray) : txt8 (a ++ b) = txt8 a ++ txt8 b := by simp [txt8]
theorem txt8_low (s : ByteArray) : ∀ c ∈ txt8 s, c < 256 := fun c hc => by
  unfold txt8 at hc
  rw [List.mem_map] at hc
  obtain ⟨x, _, rfl⟩ := hc
  exact x.toNat_lt
def two (p q : ByteArray) : ByteArray := (((⟨#[40]⟩ : ByteArray) ++ p) ++ (⟨#[41, 124, 40]⟩ : ByteArray) ++ q) ++ (⟨#[41]⟩ : ByteArray)
def starS (p : ByteArray) : ByteArray := ((⟨#[40]⟩ : ByteArray) ++ p) ++ (⟨#[41, 42]⟩ : ByteArray)
theorem made_parse {p : ByteArray} (h : madeS p = true) : ∃ t, parse (txt8 p) = some t ∧ Rx.made t = true ∧ progS p = Rx.progL t := by
  unfold madeS at h
  cases hr : parse (txt8 p) with
  | none => rw [hr] at h; cases h
  | some t => rw [hr] at h; exact ⟨t, rfl, h, by unfold progS; rw [hr]⟩
theorem two_says {p q : ByteArray} (hp : madeS p = true) (hq : madeS q = true) (hc : madeS (two p q) = true) (S : List Nat) : vMatch (progS (two p q)) S = (vMatch (progS p) S || vMatch (progS q) S) := by
  obtain ⟨x, x1, x2, x3⟩ := made_parse hp
  obtain ⟨y, y1, y2, y3⟩ := made_parse hq
  obtain ⟨z, z1, z2, z3⟩ := made_parse hc
  have e : txt8 (two p q) = [40] ++ txt8 p ++ [41, 124, 40] ++ txt8 q ++ [41] := by
    unfold two
    rw [txt8_apps, txt8_apps, txt8_apps, txt8_apps]
    rfl
  rw [e] at z1
  have ez := parse_two (txt8_low p) (txt8_low q) x1 y1 z1
  subst ez
  rw [x3, y3, z3, Bool.eq_iff_iff, Bool.or_eq_true, vMatch_made x2, vMatch_made y2, vMatch_made z2, Sc.mt3]
  simp only [Rx.mtAlt, or_false]
theorem star_says {p : ByteArray} (hp : madeS p = true) (hc : madeS (starS p) = true) (S T : List Nat) : vMatch (progS (starS p)) [] = true ∧ (vMatch (progS p) S = true → vMatch (progS p) T = true → vMatch (progS (starS p)) (S ++ T) = true) := by
  obtain ⟨x, x1, x2, x3⟩ := made_parse hp
  obtain ⟨z, z1, z2, z3⟩ := made_parse hc
  have e : txt8 (starS p) = [40] ++ txt8 p ++ [41, 42] := by
    unfold starS
    rw [txt8_apps, txt8_apps]
    rfl
  rw [e] at z1
  have ez := parse_star (txt8_low p) x1 z1
  subst ez
  rw [x3, z3, vMatch_made z2, vMatch_made z2, vMatch_made x2, vMatch_made x2]
  exact ⟨by rw [Sc.mt4]; exact .refl 0, fun h1 h2 => Rx.mt_twice h1 h2⟩
def sNil : ByteArray := ⟨#[]⟩

set_option maxRecDepth 100000 in
set_option maxHeartbeats 4000000 in
theorem ways7_law (p q s t : ByteArray) (w : World) (hp0 : p.size ≤ maxLen) (hq0 : q.size ≤ maxLen) (hs0 : s.size ≤ maxLen) (ht0 : t.size ≤ maxLen) (hT : DTab w) :
    Calls Tryd.prog 8 #[.string p, .string q, .string s, .string t] w fun e w' => e = .returned (.bool true) ∧ Below w.heap.size w w' := by
  unfold maxLen at hp0 hq0 hs0 ht0
  have HT := Lib.hid (fun W (hW : Below w.heap.size w W) => hT.below hW)
  have RN := Lib.hid (fun W (hW : Below w.heap.size w W) => runs7_any W (hT.below hW))
  clear hT
  obtain ⟨lp, hlp⟩ : ∃ lp, p.size = lp := ⟨_, rfl⟩
  obtain ⟨lq, hlq⟩ : ∃ lq, q.size = lq := ⟨_, rfl⟩
  obtain ⟨ls, hls⟩ : ∃ ls, s.size = ls := ⟨_, rfl⟩
  obtain ⟨lt, hlt⟩ : ∃ lt, t.size = lt := ⟨_, rfl⟩
  rw [hlp] at hp0
  rw [hlq] at hq0
  rw [hls] at hs0
  rw [hlt] at ht0
  by_cases g0 : 20 < ls
  · have hz0 : decide ((ls : Int) > 20) = true := decide_eq_true (by omega)
    have R1 := Lib.hid (RN.out _ (Below.refl _ _))
    clear RN HT
    go_enter Tryd.func8, Tryd.ntmps8
    go_wp2_with fail
    refine R1.out.mono ?_
    rintro e w1 ⟨rfl, b1⟩
    have B := Lib.hid b1
    clear b1
    go_wp2
    go_ret
    exact ⟨rfl, B.out⟩
  have hz0 : decide ((ls : Int) > 20) = false := decide_eq_false (by omega)
  by_cases g1 : 20 < lt
  · have hz1 : decide ((lt : Int) > 20) = true := decide_eq_true (by omega)
    have R1 := Lib.hid (RN.out _ (Below.refl _ _))
    clear RN HT
    go_enter Tryd.func8, Tryd.ntmps8
    go_wp2_with fail
    refine R1.out.mono ?_
    rintro e w1 ⟨rfl, b1⟩
    have B := Lib.hid b1
    clear b1
    go_wp2
    go_ret
    exact ⟨rfl, B.out⟩
  have hz1 : decide ((lt : Int) > 20) = false := decide_eq_false (by omega)
  by_cases g2 : 20 < lp
  · have hz2 : decide ((lp : Int) > 20) = true := decide_eq_true (by omega)
    have R1 := Lib.hid (RN.out _ (Below.refl _ _))
    clear RN HT
    go_enter Tryd.func8, Tryd.ntmps8
    go_wp2_with fail
    refine R1.out.mono ?_
    rintro e w1 ⟨rfl, b1⟩
    have B := Lib.hid b1
    clear b1
    go_wp2
    go_ret
    exact ⟨rfl, B.out⟩
  have hz2 : decide ((lp : Int) > 20) = false := decide_eq_false (by omega)
  by_cases g3 : 20 < lq
  · have hz3 : decide ((lq : Int) > 20) = true := decide_eq_true (by omega)
    have R1 := Lib.hid (RN.out _ (Below.refl _ _))
    clear RN HT
    go_enter Tryd.func8, Tryd.ntmps8
    go_wp2_with fail
    refine R1.out.mono ?_
    rintro e w1 ⟨rfl, b1⟩
    have B := Lib.hid b1
    clear b1
    go_wp2
    go_ret
    exact ⟨rfl, B.out⟩
  have hz3 : decide ((lq : Int) > 20) = false := decide_eq_false (by omega)
  have MD := Lib.hid (fun s W => made_any s W)
  have W1 := Lib.hid (fun hp hq hc => two_says (p := p) (q := q) hp hq hc (txt8 s))
  have W2 := Lib.hid (fun hp hc => star_says (p := p) hp hc (txt8 s) (txt8 t))
  have EST : Hid (txt8 (s ++ t) = txt8 s ++ txt8 t) := txt8_apps s t
  have E0 : Hid (txt8 sNil = []) := rfl
  have SST : Hid ((s ++ t).size ≤ 1099511627776) := by show _ ≤ _; rw [ByteArray.size_append]; omega
  have SS : Hid (s.size ≤ 1099511627776) := by show _ ≤ _; omega
  have STT : Hid (t.size ≤ 1099511627776) := by show _ ≤ _; omega
  go_enter Tryd.func8, Tryd.ntmps8
  go_wp2_with fail
  refine (MD.out p _).mono ?_
  rintro e w1 ⟨⟨A1, n1, c1, rfl, l1, s1, k1, S1⟩, b1⟩
  have B := Lib.hid b1
  have I1 := Lib.hid S1
  clear b1 S1
  go_wp2_with fail
  refine (MD.out q _).mono ?_
  rintro e w2 ⟨⟨A2, n2, c2, rfl, l2, s2, k2, S2⟩, b2⟩
  replace B := Lib.hid (B.out.trans (b2.mono B.out.size))
  replace I1 := Lib.hid (I1.out.grown b2)
  have I2 := Lib.hid S2
  clear b2 S2
  go_wp2_with fail
  refine (MD.out (two p q) _).mono ?_
  rintro e w3 ⟨⟨A3, n3, c3, rfl, l3, s3, k3, S3⟩, b3⟩
  replace B := Lib.hid (B.out.trans (b3.mono B.out.size))
  replace I1 := Lib.hid (I1.out.grown b3)
  replace I2 := Lib.hid (I2.out.grown b3)
  have I3 := Lib.hid S3
  clear b3 S3
  go_wp2_with fail
  refine (MD.out (starS p) _).mono ?_
  rintro e w4 ⟨⟨A4, n4, c4, rfl, l4, s4, k4, S4⟩, b4⟩
  replace B := Lib.hid (B.out.trans (b4.mono B.out.size))
  replace I1 := Lib.hid (I1.out.grown b4)
  replace I2 := Lib.hid (I2.out.grown b4)
  replace I3 := Lib.hid (I3.out.grown b4)
  have I4 := Lib.hid S4
  clear b4 S4
  have CA := Lib.hid (fun W (hW : Below w4.heap.size w4 W) => scmatch_any (progS p) s A1 n1 c1 W SS.out l1 (by omega) k1 (I1.out.grown hW) (HT.out W (B.out.trans (hW.mono B.out.size))))
  have CB := Lib.hid (fun W (hW : Below w4.heap.size w4 W) => scmatch_any (progS q) s A2 n2 c2 W SS.out l2 (by omega) k2 (I2.out.grown hW) (HT.out W (B.out.trans (hW.mono B.out.size))))
  have CC := Lib.hid (fun W (hW : Below w4.heap.size w4 W) => scmatch_any (progS (two p q)) s A3 n3 c3 W SS.out l3 (by omega) k3 (I3.out.grown hW) (HT.out W (B.out.trans (hW.mono B.out.size))))
  have CT := Lib.hid (fun W (hW : Below w4.heap.size w4 W) => scmatch_any (progS p) t A1 n1 c1 W STT.out l1 (by omega) k1 (I1.out.grown hW) (HT.out W (B.out.trans (hW.mono B.out.size))))
  have CN := Lib.hid (fun W (hW : Below w4.heap.size w4 W) => scmatch_any (progS (starS p)) sNil A4 n4 c4 W (by decide) l4 (by omega) k4 (I4.out.grown hW) (HT.out W (B.out.trans (hW.mono B.out.size))))
  have CD := Lib.hid (fun W (hW : Below w4.heap.size w4 W) => scmatch_any (progS (starS p)) (s ++ t) A4 n4 c4 W SST.out l4 (by omega) k4 (I4.out.grown hW) (HT.out W (B.out.trans (hW.mono B.out.size))))
  rw [EST.out] at CD
  rw [E0.out] at CN
  have RW := Lib.hid (fun W (hW : Below w4.heap.size w4 W) => RN.out W (B.out.trans (hW.mono B.out.size)))
  have BB := B
  clear I1 I2 I3 I4 l1 l2 l3 l4 RN HT MD
  generalize vMatch (progS p) (txt8 s) = ma at *
  generalize vMatch (progS q) (txt8 s) = mb at *
  generalize vMatch (progS (two p q)) (txt8 s) = mc at *
  generalize vMatch (progS p) (txt8 t) = mt at *
  generalize vMatch (progS (starS p)) [] = mn at *
  generalize vMatch (progS (starS p)) (txt8 s ++ txt8 t) = md at *
  generalize madeS p = ok at *
  generalize madeS q = is at *
  generalize madeS (two p q) = may at *
  generalize madeS (starS p) = can at *
  have R := Lib.hid (Below.refl w4.heap.size w4)
  clear BB
  cases ok
  · go_wp2_with fail
    refine (RW.out _ R.out).mono ?_
    rintro e v11 ⟨rfl, b11⟩
    replace R := Lib.hid (R.out.trans (b11.mono R.out.size))
    clear b11
    have BF := Lib.hid (B.out.trans (R.out.mono B.out.size))
    go_wp2
    go_ret
    exact ⟨rfl, BF.out⟩
  · cases is
    · cases can
      · go_wp2_with fail
        refine (RW.out _ R.out).mono ?_
        rintro e v12 ⟨rfl, b12⟩
        replace R := Lib.hid (R.out.trans (b12.mono R.out.size))
        clear b12
        have BF := Lib.hid (B.out.trans (R.out.mono B.out.size))
        go_wp2
        go_ret
        exact ⟨rfl, BF.out⟩
      · obtain ⟨hn, hd⟩ := W2.out (by trivial) (by trivial)
        subst hn
        go_wp2_with fail
        refine (CN.out _ R.out).mono ?_
        rintro e v13 ⟨rfl, b13⟩
        replace R := Lib.hid (R.out.trans (b13.mono R.out.size))
        clear b13
        cases ma
        · go_wp2_with fail
          refine (CA.out _ R.out).mono ?_
          rintro e v14 ⟨rfl, b14⟩
          replace R := Lib.hid (R.out.trans (b14.mono R.out.size))
          clear b14
          go_wp2_with fail
          refine (RW.out _ R.out).mono ?_
          rintro e v15 ⟨rfl, b15⟩
          replace R := Lib.hid (R.out.trans (b15.mono R.out.size))
          clear b15
          have BF := Lib.hid (B.out.trans (R.out.mono B.out.size))
          go_wp2
          go_ret
          exact ⟨rfl, BF.out⟩
        · go_wp2_with fail
          refine (CA.out _ R.out).mono ?_
          rintro e v16 ⟨rfl, b16⟩
          replace R := Lib.hid (R.out.trans (b16.mono R.out.size))
          clear b16
          cases mt
          · go_wp2_with fail
            refine (CT.out _ R.out).mono ?_
            rintro e v17 ⟨rfl, b17⟩
            replace R := Lib.hid (R.out.trans (b17.mono R.out.size))
            clear b17
            go_wp2_with fail
            refine (RW.out _ R.out).mono ?_
            rintro e v18 ⟨rfl, b18⟩
            replace R := Lib.hid (R.out.trans (b18.mono R.out.size))
            clear b18
            have BF := Lib.hid (B.out.trans (R.out.mono B.out.size))
            go_wp2
            go_ret
            exact ⟨rfl, BF.out⟩
          · have hd1 := hd (by trivial) (by trivial)
            subst hd1
            go_wp2_with fail
            refine (CT.out _ R.out).mono ?_
            rintro e v19 ⟨rfl, b19⟩
            replace R := Lib.hid (R.out.trans (b19.mono R.out.size))
            clear b19
            go_wp2_with fail
            refine (CD.out _ R.out).mono ?_
            rintro e v20 ⟨rfl, b20⟩
            replace R := Lib.hid (R.out.trans (b20.mono R.out.size))
            clear b20
            go_wp2_with fail
            refine (RW.out _ R.out).mono ?_
            rintro e v21 ⟨rfl, b21⟩
            replace R := Lib.hid (R.out.trans (b21.mono R.out.size))
            clear b21
            have BF := Lib.hid (B.out.trans (R.out.mono B.out.size))
            go_wp2
            go_ret
            exact ⟨rfl, BF.out⟩
    · cases may
      · cases can
        · go_wp2_with fail
          refine (RW.out _ R.out).mono ?_
          rintro e v22 ⟨rfl, b22⟩
          replace R := Lib.hid (R.out.trans (b22.mono R.out.size))
          clear b22
          have BF := Lib.hid (B.out.trans (R.out.mono B.out.size))
          go_wp2
          go_ret
          exact ⟨rfl, BF.out⟩
        · obtain ⟨hn, hd⟩ := W2.out (by trivial) (by trivial)
          subst hn
          go_wp2_with fail
          refine (CN.out _ R.out).mono ?_
          rintro e v23 ⟨rfl, b23⟩
          replace R := Lib.hid (R.out.trans (b23.mono R.out.size))
          clear b23
          cases ma
          · go_wp2_with fail
            refine (CA.out _ R.out).mono ?_
            rintro e v24 ⟨rfl, b24⟩
            replace R := Lib.hid (R.out.trans (b24.mono R.out.size))
            clear b24
            go_wp2_with fail
            refine (RW.out _ R.out).mono ?_
            rintro e v25 ⟨rfl, b25⟩
            replace R := Lib.hid (R.out.trans (b25.mono R.out.size))
            clear b25
            have BF := Lib.hid (B.out.trans (R.out.mono B.out.size))
            go_wp2
            go_ret
            exact ⟨rfl, BF.out⟩
          · go_wp2_with fail
            refine (CA.out _ R.out).mono ?_
            rintro e v26 ⟨rfl, b26⟩
            replace R := Lib.hid (R.out.trans (b26.mono R.out.size))
            clear b26
            cases mt
            · go_wp2_with fail
              refine (CT.out _ R.out).mono ?_
              rintro e v27 ⟨rfl, b27⟩
              replace R := Lib.hid (R.out.trans (b27.mono R.out.size))
              clear b27
              go_wp2_with fail
              refine (RW.out _ R.out).mono ?_
              rintro e v28 ⟨rfl, b28⟩
              replace R := Lib.hid (R.out.trans (b28.mono R.out.size))
              clear b28
              have BF := Lib.hid (B.out.trans (R.out.mono B.out.size))
              go_wp2
              go_ret
              exact ⟨rfl, BF.out⟩
            · have hd1 := hd (by trivial) (by trivial)
              subst hd1
              go_wp2_with fail
              refine (CT.out _ R.out).mono ?_
              rintro e v29 ⟨rfl, b29⟩
              replace R := Lib.hid (R.out.trans (b29.mono R.out.size))
              clear b29
              go_wp2_with fail
              refine (CD.out _ R.out).mono ?_
              rintro e v30 ⟨rfl, b30⟩
              replace R := Lib.hid (R.out.trans (b30.mono R.out.size))
              clear b30
              go_wp2_with fail
              refine (RW.out _ R.out).mono ?_
              rintro e v31 ⟨rfl, b31⟩
              replace R := Lib.hid (R.out.trans (b31.mono R.out.size))
              clear b31
              have BF := Lib.hid (B.out.trans (R.out.mono B.out.size))
              go_wp2
              go_ret
              exact ⟨rfl, BF.out⟩
      · have hw := W1.out (by trivial) (by trivial) (by trivial)
        cases ma
        · rw [Bool.false_or] at hw
          subst hw
          have NB : (mc != mc) = false := by simp
          go_wp2_with fail
          refine (CC.out _ R.out).mono ?_
          rintro e v32 ⟨rfl, b32⟩
          replace R := Lib.hid (R.out.trans (b32.mono R.out.size))
          clear b32
          go_wp2_with fail
          refine (CA.out _ R.out).mono ?_
          rintro e v33 ⟨rfl, b33⟩
          replace R := Lib.hid (R.out.trans (b33.mono R.out.size))
          clear b33
          go_wp2_with fail
          refine (CB.out _ R.out).mono ?_
          rintro e v34 ⟨rfl, b34⟩
          replace R := Lib.hid (R.out.trans (b34.mono R.out.size))
          clear b34
          cases can
          · go_wp2_with fail
            refine (RW.out _ R.out).mono ?_
            rintro e v35 ⟨rfl, b35⟩
            replace R := Lib.hid (R.out.trans (b35.mono R.out.size))
            clear b35
            have BF := Lib.hid (B.out.trans (R.out.mono B.out.size))
            go_wp2
            go_ret
            exact ⟨rfl, BF.out⟩
          · obtain ⟨hn, hd⟩ := W2.out (by trivial) (by trivial)
            subst hn
            go_wp2_with fail
            refine (CN.out _ R.out).mono ?_
            rintro e v36 ⟨rfl, b36⟩
            replace R := Lib.hid (R.out.trans (b36.mono R.out.size))
            clear b36
            go_wp2_with fail
            refine (CA.out _ R.out).mono ?_
            rintro e v37 ⟨rfl, b37⟩
            replace R := Lib.hid (R.out.trans (b37.mono R.out.size))
            clear b37
            go_wp2_with fail
            refine (RW.out _ R.out).mono ?_
            rintro e v38 ⟨rfl, b38⟩
            replace R := Lib.hid (R.out.trans (b38.mono R.out.size))
            clear b38
            have BF := Lib.hid (B.out.trans (R.out.mono B.out.size))
            go_wp2
            go_ret
            exact ⟨rfl, BF.out⟩
        · rw [Bool.true_or] at hw
          subst hw
          go_wp2_with fail
          refine (CC.out _ R.out).mono ?_
          rintro e v39 ⟨rfl, b39⟩
          replace R := Lib.hid (R.out.trans (b39.mono R.out.size))
          clear b39
          go_wp2_with fail
          refine (CA.out _ R.out).mono ?_
          rintro e v40 ⟨rfl, b40⟩
          replace R := Lib.hid (R.out.trans (b40.mono R.out.size))
          clear b40
          cases can
          · go_wp2_with fail
            refine (RW.out _ R.out).mono ?_
            rintro e v41 ⟨rfl, b41⟩
            replace R := Lib.hid (R.out.trans (b41.mono R.out.size))
            clear b41
            have BF := Lib.hid (B.out.trans (R.out.mono B.out.size))
            go_wp2
            go_ret
            exact ⟨rfl, BF.out⟩
          · obtain ⟨hn, hd⟩ := W2.out (by trivial) (by trivial)
            subst hn
            go_wp2_with fail
            refine (CN.out _ R.out).mono ?_
            rintro e v42 ⟨rfl, b42⟩
            replace R := Lib.hid (R.out.trans (b42.mono R.out.size))
            clear b42
            go_wp2_with fail
            refine (CA.out _ R.out).mono ?_
            rintro e v43 ⟨rfl, b43⟩
            replace R := Lib.hid (R.out.trans (b43.mono R.out.size))
            clear b43
            cases mt
            · go_wp2_with fail
              refine (CT.out _ R.out).mono ?_
              rintro e v44 ⟨rfl, b44⟩
              replace R := Lib.hid (R.out.trans (b44.mono R.out.size))
              clear b44
              go_wp2_with fail
              refine (RW.out _ R.out).mono ?_
              rintro e v45 ⟨rfl, b45⟩
              replace R := Lib.hid (R.out.trans (b45.mono R.out.size))
              clear b45
              have BF := Lib.hid (B.out.trans (R.out.mono B.out.size))
              go_wp2
              go_ret
              exact ⟨rfl, BF.out⟩
            · have hd1 := hd (by trivial) (by trivial)
              subst hd1
              go_wp2_with fail
              refine (CT.out _ R.out).mono ?_
              rintro e v46 ⟨rfl, b46⟩
              replace R := Lib.hid (R.out.trans (b46.mono R.out.size))
              clear b46
              go_wp2_with fail
              refine (CD.out _ R.out).mono ?_
              rintro e v47 ⟨rfl, b47⟩
              replace R := Lib.hid (R.out.trans (b47.mono R.out.size))
              clear b47
              go_wp2_with fail
              refine (RW.out _ R.out).mono ?_
              rintro e v48 ⟨rfl, b48⟩
              replace R := Lib.hid (R.out.trans (b48.mono R.out.size))
              clear b48
              have BF := Lib.hid (B.out.trans (R.out.mono B.out.size))
              go_wp2
              go_ret
              exact ⟨rfl, BF.out⟩
end Go.Proofs.YtonfmbnankihbaaDoor
