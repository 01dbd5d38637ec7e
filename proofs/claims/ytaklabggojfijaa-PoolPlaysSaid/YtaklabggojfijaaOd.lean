/-
  PoolPlays as a contract. No conditions.
-/
import Derived.Test.YtaklabggojfijaaOb
import Derived.Test.YtaklabggojfijaaOc
namespace Go.Proofs.Ytaklabggojfijaa
open Go.RowKit Go.Sort

theorem wrap1p {k : Nat} (h : k ≤ 1000000) : IntKind.i64.wrap ((k : Int) + 1) = (k : Int) + 1 := by rw [IntKind.wrap_i64]; omega
/-- What PoolPlays' loop keeps: a pool, and beside it the law's own row of what is out. -/
structure PlayP (w0 wr : World) (b : Nat) (z x : Int) (L : List Int) (k nn : Nat) (u : Value) : Prop where
  pool : ∃ v, Ps w0 wr b (max z 0) x L v ∧ Beside b v u
  own : wr.ownsRow w0.heap.size 3 1 u nn (zs L)
  xk : x ≤ (k : Int)
  len : L.length = nn
  lk : nn ≤ k
theorem PlayP.step {w0 w1 : World} {b k' : Nat} {z x' : Int} {L' : List Int} {u' : Value} {n' : Nat} {v' : Value} (hp : Ps w0 w1 b (max z 0) x' L' v') (hb : Beside b v' u') (ho : w1.ownsRow w0.heap.size 3 1 u' n' (zs L')) (hx : x' ≤ (k' : Int)) (hk : n' ≤ k') : PlayP w0 w1 b z x' L' k' n' u' :=
  ⟨⟨v', hp, hb⟩, ho, hx, by have := ho.1; rw [zs_len] at this; omega, hk⟩
theorem own_sl {w : World} {base n : Nat} {A : Option Addr} {c : Nat} {l : List Int} (h : w.ownsRow base 3 1 (.slice A n c) n (zs l)) (hn : n ≤ 1048576) : SlZ w l A n c 1048576 := by
  obtain ⟨A', c', e, _, hA, hz, hl⟩ := own_z h
  injection e with e1 _ e3
  subst e1 e3
  exact ⟨hl, hA, hz, hn, Nat.le_refl _⟩
theorem rhas_same {w : World} {xs : List Int} {A : Option Addr} {nx ca K : Nat} (x : Int) (b : Bool) (h1 : SlZ w xs A nx ca K) (hb : decide (x ∈ xs) = b) : Calls Try.prog 11 #[.slice A nx ca, .int .i64 x] w fun e w' => e = .returned (.bool b) ∧ w = w' :=
  (hasz_any xs x A nx ca w h1.len (by have := h1.small; have := h1.fits; omega) h1.is).mono fun _ _ ⟨h, e⟩ => ⟨by rw [h, hb], e⟩
theorem Ps.grown {w0 w w' : World} {b : Nat} {m x : Int} {l : List Int} {v u : Value} {e s n : Nat} {xs : List Value} (h : Ps w0 w b m x l v) (g : w.grownBy w' u.ownBlock) (hb : Beside b v u) (o : w.ownsRow w0.heap.size e s u n xs) : Ps w0 w' b m x l v :=
  ⟨h.at_.only (Only.ofGrown (S := fun k => u.ownBlock = some k) g (fun _ hk => hk)) (fun _ hk hu => hb _ hu hk), h.bel.grown g h.bel.size (fun k hk => (o.lt k hk).1), h.hb⟩
set_option maxRecDepth 100000 in
set_option maxHeartbeats 8000000 in
theorem plays12_law {w : World} {A : Option Addr} {n c : Nat} {S : List GiveT} (z id : Int) (h : IsGives w A S) (hn : S.length = n) :
    Calls Try.prog 4 #[.int .i64 z, .slice A n c, .int .i64 id] w fun e w' => e = .returned (.bool true) ∧ Below w.heap.size w w' := by
  by_cases h6 : 100 < n
  · have hz : decide ((n : Int) > 100) = true := decide_eq_true (by omega)
    have C := Lib.hid (runs12_any w)
    clear h hn
    go_enter Try.func4, Try.ntmps4
    go_wp2_with fail
    refine C.out.mono ?_
    rintro e w1 ⟨rfl, bb⟩
    have Q := Lib.hid bb
    clear bb C
    go_wp2
    go_ret
    exact ⟨rfl, Q.out⟩
  · have hz : decide ((n : Int) > 100) = false := decide_eq_false (by omega)
    have H := Lib.hid h
    have EN := Lib.hid hn
    have H6 : Hid (n ≤ 100) := by show _ ≤ _; omega
    have C := Lib.hid (pnew_any z w)
    clear h hn
    go_enter Try.func4, Try.ntmps4
    go_wp2_with fail
    refine C.out.mono ?_
    rintro e w1 ⟨b, rfl, p1⟩
    have P1 := Lib.hid p1
    clear p1 C hz h6
    go_upto_region 9 with fail
    go_loopw [8, 9, 10] (fun u la i wr => ∃ (k nn cc : Nat) (A' : Option Addr) (x : Int) (L : List Int), k ≤ n ∧ i = .int .i64 (k : Int) ∧ la = .int .i64 x ∧ u = .slice A' nn cc ∧ Hid (PlayP w wr b z x L k nn u)) (fun _ _ i _ => n - (intOf i).toNat)
    case atStart => exact ⟨0, 0, 0, none, 0, [], Nat.zero_le _, rfl, rfl, rfl, ⟨⟨_, P1.out, Beside.none _ _⟩, World.ownsRow_nil _ _ _ _, by omega, rfl, Nat.le_refl _⟩⟩
    case round =>
      obtain ⟨k, nn, cc, A', x, L, hk, rfl, rfl, rfl, HI⟩ := hrel
      clear P1
      obtain ⟨v, hps, hbe⟩ := HI.out.pool
      have PP := Lib.hid hps
      have BE := Lib.hid hbe
      clear hps hbe
      by_cases hkn : k < n
      · obtain ⟨ba, off, rfl, hcell⟩ := (H.out.below PP.out.bel) (by rw [EN.out]; omega)
        obtain ⟨q0, q1⟩ := hcell k (by rw [EN.out]; exact hkn)
        have CL : Hid (∀ W, Below w.heap.size w W → W.cell? ⟨ba, off + k * 2 + 1, none⟩ = some (.int .i64 (gvn S k).2)) := fun W hW => by
          obtain ⟨b2, o2, e, hc⟩ := (H.out.below hW) (by rw [EN.out]; omega)
          injection e with e
          injection e with e1 e2
          subst e1 e2
          exact (hc k (by rw [EN.out]; exact hkn)).2
        have hw := wrap1p (k := k) (by have := H6.out; omega)
        clear hcell
        obtain ⟨⟨g, idk⟩, hg⟩ : ∃ p, gvn S k = p := ⟨_, rfl⟩
        rw [hg] at q0 q1 CL
        clear hg
        cases g with
        | true =>
          obtain ⟨d, hd⟩ : ∃ d, decide (idk ∈ L) = d := ⟨_, rfl⟩
          have HD := Lib.hid hd
          clear hd
          have CUT : Hid (∀ out, IsRise (pickZ [idk] false L) out → out = pickZ [idk] false L) := fun out hr => ((IsRise.self (asc_filter _ PP.out.at_.up)).eq hr (fun _ => Iff.rfl)).symm
          have SZ : Hid (nn ≤ 1048576) := by have := HI.out.lk; have := H6.out; show _ ≤ _; omega
          have SL := Lib.hid (own_sl HI.out.own SZ.out)
          go_wp2_with fail
          have C1 := Lib.hid (pgive_any (PP.out.below ((Below.refl _ _).drew)) idk d HD.out)
          clear q0 q1
          refine wp_region_held_drew (S := fun W => Below w.heap.size w W) (by kernel_rfl) (PP.out.bel.drew) (fun hHeld => ?_)
          refine held_take 0 32 (v := (.pointer (some ⟨b, 0, none⟩))) rfl rfl (by kernel_rfl) (by kernel_rfl) (by kernel_rfl) (by rfl) (fun _ _ _ h => h) (by assumption) ?_ ?_
          · intro W hW
            go_simp
          simp only [List.setIfInBounds_toArray, List.set_cons_zero, List.set_cons_succ]
          refine held_take 1 33 (v := (.slice (some ⟨ba, off, none⟩) n c)) rfl rfl (by kernel_rfl) (by kernel_rfl) (by kernel_rfl) (by rfl) (fun _ _ _ h => h) (by assumption) ?_ ?_
          · intro W hW
            go_simp
          simp only [List.setIfInBounds_toArray, List.set_cons_zero, List.set_cons_succ]
          refine held_take 2 34 (v := (.int .i64 (k : Int))) rfl rfl (by kernel_rfl) (by kernel_rfl) (by kernel_rfl) (by rfl) (fun _ _ _ h => h) (by assumption) ?_ ?_
          · intro W hW
            go_simp
          simp only [List.setIfInBounds_toArray, List.set_cons_zero, List.set_cons_succ]
          refine held_take 3 35 (v := (.pointer (some ⟨ba, off + k * 2, none⟩))) rfl rfl (by kernel_rfl) (by kernel_rfl) (by kernel_rfl) (by rfl) (fun _ _ _ h => h) (by assumption) ?_ ?_
          · intro W hW
            go_simp
          simp only [List.setIfInBounds_toArray, List.set_cons_zero, List.set_cons_succ]
          refine held_take 4 36 (v := (.pointer (some ⟨ba, off + k * 2 + 1, none⟩))) rfl rfl (by kernel_rfl) (by kernel_rfl) (by kernel_rfl) (by rfl) (fun _ _ _ h => h) (by assumption) ?_ ?_
          · intro W hW
            go_simp
          simp only [List.setIfInBounds_toArray, List.set_cons_zero, List.set_cons_succ]
          refine held_take 5 37 (v := (.int .i64 idk)) rfl rfl (by kernel_rfl) (by kernel_rfl) (by kernel_rfl) (by rfl) (fun _ _ _ h => h) (by assumption) ?_ ?_
          · intro W hW
            have hc := CL.out W hW
            go_simp
          simp only [List.setIfInBounds_toArray, List.set_cons_zero, List.set_cons_succ]
          refine held_take 7 39 (v := (.slice A' nn cc)) rfl rfl (by kernel_rfl) (by kernel_rfl) (by kernel_rfl) (by rfl) (fun _ _ _ h => h) (by assumption) ?_ ?_
          · intro W hW
            go_simp
          simp only [List.setIfInBounds_toArray, List.set_cons_zero, List.set_cons_succ]
          refine held_take 8 40 (v := (.slice (some ⟨ba, off, none⟩) n c)) rfl rfl (by kernel_rfl) (by kernel_rfl) (by kernel_rfl) (by rfl) (fun _ _ _ h => h) (by assumption) ?_ ?_
          · intro W hW
            go_simp
          simp only [List.setIfInBounds_toArray, List.set_cons_zero, List.set_cons_succ]
          refine held_take 9 41 (v := (.int .i64 (k : Int))) rfl rfl (by kernel_rfl) (by kernel_rfl) (by kernel_rfl) (by rfl) (fun _ _ _ h => h) (by assumption) ?_ ?_
          · intro W hW
            go_simp
          simp only [List.setIfInBounds_toArray, List.set_cons_zero, List.set_cons_succ]
          refine held_take 10 42 (v := (.pointer (some ⟨ba, off + k * 2, none⟩))) rfl rfl (by kernel_rfl) (by kernel_rfl) (by kernel_rfl) (by rfl) (fun _ _ _ h => h) (by assumption) ?_ ?_
          · intro W hW
            go_simp
          simp only [List.setIfInBounds_toArray, List.set_cons_zero, List.set_cons_succ]
          refine held_take 11 43 (v := (.pointer (some ⟨ba, off + k * 2 + 1, none⟩))) rfl rfl (by kernel_rfl) (by kernel_rfl) (by kernel_rfl) (by rfl) (fun _ _ _ h => h) (by assumption) ?_ ?_
          · intro W hW
            go_simp
          simp only [List.setIfInBounds_toArray, List.set_cons_zero, List.set_cons_succ]
          refine held_take 12 44 (v := (.int .i64 idk)) rfl rfl (by kernel_rfl) (by kernel_rfl) (by kernel_rfl) (by rfl) (fun _ _ _ h => h) (by assumption) ?_ ?_
          · intro W hW
            have hc := CL.out W hW
            go_simp
          simp only [List.setIfInBounds_toArray, List.set_cons_zero, List.set_cons_succ]
          refine held_op 6 rfl (by kernel_rfl) (by rfl) ?_
          refine wp_call (f := 9) (args := #[(.pointer (some ⟨b, 0, none⟩)), (.int .i64 idk)]) rfl (by go_simp) ?_
          refine C1.out.mono ?_
          rintro e w2 ⟨rfl, v2, p2, t2, n2⟩
          refine ⟨_, rfl, p2.bel, ?_⟩
          simp only [List.setIfInBounds_toArray, List.set_cons_zero, List.set_cons_succ]
          have o2 := own_only HI.out.own.drew t2 BE.out
          have C2 := rhas_same idk d (own_sl o2 SZ.out) HD.out
          have BE2 := Lib.hid (BE.out.turned n2 HI.out.own.drew)
          refine held_op 13 rfl (by kernel_rfl) (by rfl) ?_
          refine wp_call (f := 11) (args := #[(.slice A' nn cc), (.int .i64 idk)]) rfl (by go_simp) ?_
          refine C2.mono ?_
          rintro e w3 ⟨rfl, e3⟩
          obtain rfl : w2 = w3 := e3
          refine ⟨_, rfl, p2.bel, ?_⟩
          simp only [List.setIfInBounds_toArray, List.set_cons_zero, List.set_cons_succ]
          refine held_op 14 rfl (by kernel_rfl) (by rfl) ?_
          refine wp_run (v := .bool false) (w' := w2) rfl (by cases d <;> go_simp) ⟨p2.bel, ?_⟩
          simp only [List.setIfInBounds_toArray, List.set_cons_zero, List.set_cons_succ]
          refine wpAnyH_done (by kernel_rfl) ?_ _
          have P2 := Lib.hid p2
          have C3 := Lib.hid (rcut_any L idk A' nn cc w2 HI.out.len SZ.out (own_sl o2 SZ.out).is)
          have q1 := CL.out w2 p2.bel
          clear C1 C2 hHeld SL p2 t2 n2 o2
          go_wp2_with fail
          refine C3.out.mono ?_
          rintro e w4 ⟨out, ro, u4, rfl, o4, b4⟩
          obtain rfl := CUT.out out ro
          obtain ⟨A4, c4, rfl, _, _, _, l4⟩ := own_z o4
          have R : Hid (PlayP w w4 b z x (pickZ [idk] false L) (k + 1) (pickZ [idk] false L).length (.slice A4 (pickZ [idk] false L).length c4)) :=
            PlayP.step (P2.out.below b4) (fun q hq hp => by have h1 := (o4.lt q hq).1; have h2 := (P2.out.at_.blocks q hp).2; omega) (own_baseZ o4 P2.out.bel.size) (by have := HI.out.xk; omega) (by have := pick_le L [idk] false; have := HI.out.len; have := HI.out.lk; omega)
          clear C3 P2 HI PP BE BE2 CUT SZ HD o4 b4 ro l4 q1
          generalize (pickZ [idk] false L).length = n4 at *
          go_wp2
          go_roundw
          case rel => exact ⟨k + 1, n4, c4, A4, x, _, by omega, by go_num, rfl, rfl, R⟩
          case measure => simp [intOf]; omega
        | false =>
          have hnk : nn ≤ 100 := by have := HI.out.lk; have := H6.out; omega
          have hxk : x < 2147483647 := by have := HI.out.xk; have := H6.out; omega
          have hx0 : 0 ≤ x := PP.out.at_.ge
          have hw1 : IntKind.i64.wrap (x + 1) = x + 1 := by rw [IntKind.wrap_i64]; omega
          have LE := Lib.hid HI.out.len
          by_cases hm : (nn : Int) < z
          · have hlt : decide ((nn : Int) < z) = true := decide_eq_true hm
            have C1 := Lib.hid (ptake_yes PP.out (by rw [LE.out]; omega) hxk (by rw [LE.out]; omega))
            clear hm
            go_wp2_with fail
            refine C1.out.mono ?_
            rintro e w2 ⟨rfl, v2, p2, t2, n2⟩
            have O2 := Lib.hid (own_only HI.out.own t2 BE.out)
            have BE2 := Lib.hid (BE.out.turned n2 HI.out.own)
            have P2 := Lib.hid p2
            have LZ := Lib.hid (SlZ.lit w2 [x + 1] 1 w2.heap.size #[.int .i64 (x + 1)] rfl rfl rfl (by omega))
            have O3 := Lib.hid (O2.out.alloc (.cells #[.int .i64 (x + 1)] 3))
            have P3 := Lib.hid (P2.out.below ((Below.refl _ _).alloc (Nat.le_refl _) (.cells #[.int .i64 (x + 1)] 3)))
            clear C1 p2 t2 n2
            go_wp2_with ((refine wpList_appO rfl (.tmp 85) (.tmp 87) rfl w.heap.size (.slice A' nn cc) nn L rfl O3.out ⟨w2.heap.size, 0, none⟩ 1 1 [x + 1] rfl rfl (by omega) LZ.out.is (by omega) P3.out.bel.size ?_); (intro u4 w4 o4 g4 n4); (obtain ⟨A4, c4, rfl, _⟩ := own_z o4); (have R : Hid (PlayP w w4 b z (x + 1) (L ++ [x + 1]) (k + 1) (nn + 1) (.slice A4 (nn + 1) c4)) := PlayP.step (P3.out.grown g4 BE2.out O3.out) (BE2.out.moved P3.out.at_ n4) o4 (by have := HI.out.xk; omega) (by have := HI.out.lk; omega)); (clear o4 g4 n4 P3 O3 LZ P2 BE2 O2 HI PP BE))
            go_roundw
            case rel => exact ⟨k + 1, nn + 1, c4, A4, x + 1, _, by omega, by go_num, rfl, rfl, R⟩
            case measure => simp [intOf]; omega
          · have hlt : decide ((nn : Int) < z) = false := decide_eq_false hm
            have C1 := Lib.hid (ptake_no PP.out (by rw [LE.out]; intro h; omega))
            clear hm
            go_wp2_with fail
            refine C1.out.mono ?_
            rintro e w2 ⟨rfl, v2, p2, t2, n2⟩
            have R : Hid (PlayP w w2 b z x L (k + 1) nn (.slice A' nn cc)) := PlayP.step p2 (BE.out.turned n2 HI.out.own) (own_only HI.out.own t2 BE.out) (by have := HI.out.xk; omega) (by have := HI.out.lk; omega)
            clear C1 p2 t2 n2 HI PP BE
            go_wp2
            go_roundw
            case rel => exact ⟨k + 1, nn, cc, A', x, L, by omega, by go_num, rfl, rfl, R⟩
            case measure => simp [intOf]; omega
      · obtain rfl : k = n := by omega
        have SZ : Hid (nn ≤ 1048576) := by have := HI.out.lk; have := H6.out; show _ ≤ _; omega
        have SL := Lib.hid (own_sl HI.out.own SZ.out)
        obtain ⟨d, hd⟩ : ∃ d, decide (id ∈ L) = d := ⟨_, rfl⟩
        have HD := Lib.hid hd
        have C1 := Lib.hid (pall_any PP.out.at_)
        have HP := Lib.hid PP.out.at_
        have BW := Lib.hid PP.out.bel
        clear hd PP BE HI H EN H6 hk
        go_wp2_with fail
        refine C1.out.mono ?_
        rintro e w2 ⟨l2, A2, n2, c2, rfl, rfl, s2, b2⟩
        replace SL := Lib.hid (SL.out.below b2)
        replace HP := Lib.hid (HP.out.below b2)
        replace BW := Lib.hid (BW.out.trans (b2.mono BW.out.size))
        have C2 := Lib.hid (same_s true s2 SL.out (decide_eq_true rfl))
        clear C1 s2 b2
        go_wp2_with fail
        refine C2.out.mono ?_
        rintro e w3 ⟨rfl, b3⟩
        replace SL := Lib.hid (SL.out.below b3)
        replace HP := Lib.hid (HP.out.below b3)
        replace BW := Lib.hid (BW.out.trans (b3.mono BW.out.size))
        have C3 := Lib.hid (phas_any HP.out id d HD.out)
        clear C2 b3
        go_wp2_with fail
        refine C3.out.mono ?_
        rintro e w4 ⟨rfl, rfl⟩
        have C4 := Lib.hid (rhas_same id d SL.out HD.out)
        clear C3
        go_wp2_with fail
        refine C4.out.mono ?_
        rintro e w5 ⟨rfl, e5⟩
        obtain rfl := e5
        have C5 := Lib.hid (plast_any HP.out)
        clear C4
        have hdd : (d == d) = true := by cases d <;> rfl
        go_wp2_with fail
        refine C5.out.mono ?_
        rintro e w6 ⟨rfl, rfl⟩
        have C6 := Lib.hid (runs12_any w6)
        clear C5 SL HP
        go_wp2_with fail
        refine C6.out.mono ?_
        rintro e w7 ⟨rfl, b7⟩
        replace BW := Lib.hid (BW.out.trans (b7.mono BW.out.size))
        clear C6 b7
        go_wp2
        go_ret
        exact ⟨rfl, BW.out⟩
end Go.Proofs.Ytaklabggojfijaa
