/-
  What the program's readEach does to a part: each kid reads the byte. Conditions: at most 1000 parts.
-/
import Derived.Test.YteifjiadgbgkbaaHd
namespace Go.Proofs.Yteifjiadgbgkbaa
open Go.RowKit Go.Sort

namespace Pt
/-- Behind the first k kids. -/
def eachTo (x : Nat) (t : Pt) (bg : Bool) (k : Nat) : Pt := match t with
  | .mk op a b c d blk em _ _ ks => .mk op a b c d blk em ((rdAll x (ks.take k) bg).any lv) ((rdAll x (ks.take k) bg).any Pt.la) (rdAll x (ks.take k) bg ++ ks.drop k)
theorem eachTo_zero (x : Nat) (t : Pt) (bg : Bool) : eachTo x t bg 0 = (t.setLv false).setLa false := by
  cases t; simp [eachTo, rdAll, Pt.setLv, Pt.setLa]
theorem rdAll_app (x : Nat) (bg : Bool) (a b : List Pt) : rdAll x (a ++ b) bg = rdAll x a bg ++ rdAll x b bg := by simp [rdAll_map]
theorem nth_mid {a b : List Pt} {k : Nat} (h : a.length = k) : nth (a ++ b) k = nth b 0 := by
  unfold nth
  rw [List.getD_eq_getElem?_getD, List.getD_eq_getElem?_getD, List.getElem?_append_right (by omega), h, Nat.sub_self]
theorem set_mid {a b : List Pt} {k : Nat} {y z : Pt} (h : a.length = k) : (a ++ y :: b).set k z = a ++ z :: b := by
  rw [List.set_append_right _ _ (by omega), h, Nat.sub_self]; rfl
theorem eachTo_len (x : Nat) (t : Pt) (bg : Bool) (k : Nat) (hk : k ≤ t.kids.length) : (eachTo x t bg k).kids.length = t.kids.length := by
  cases t
  simp only [eachTo, Pt.kids] at hk ⊢
  rw [List.length_append, rdAll_len, List.length_take, List.length_drop]; omega
theorem eachTo_kid (x : Nat) (t : Pt) (bg : Bool) (k : Nat) (hk : k < t.kids.length) : nth (eachTo x t bg k).kids k = nth t.kids k := by
  cases t
  simp only [eachTo, Pt.kids] at hk ⊢
  rw [nth_mid (by rw [rdAll_len, List.length_take]; omega), drop_nth hk]; rfl
theorem eachTo_set (x : Nat) (t : Pt) (bg : Bool) (k : Nat) (hk : k < t.kids.length) :
    eachTo x t bg (k + 1) = ((((eachTo x t bg k).setKid k (rd x (nth t.kids k) bg)).setLv ((eachTo x t bg k).lv || (rd x (nth t.kids k) bg).lv))).setLa ((eachTo x t bg k).la || (rd x (nth t.kids k) bg).la) := by
  cases t
  simp only [eachTo, Pt.kids, Pt.setKid, Pt.setLv, Pt.setLa, Pt.lv, Pt.la] at hk ⊢
  rw [take_nth hk, rdAll_app, drop_nth hk, set_mid (by rw [rdAll_len, List.length_take]; omega)]
  simp [rdAll]
  exact ⟨rfl, rfl⟩
theorem bl_eachTo (x : Nat) (t : Pt) (bg : Bool) (k : Nat) : bl (eachTo x t bg k) = bl t := by
  cases t
  rename_i ks
  simp only [eachTo, bl]
  have app : ∀ a b : List Pt, blL (a ++ b) = blL a ++ blL b := by
    intro a b
    induction a with
    | nil => rw [List.nil_append, blL]; rfl
    | cons y r ih => rw [List.cons_append, blL, blL, ih, List.append_assoc]
  rw [app, bl_rdAll, ← app, List.take_append_drop]
/-- Behind all kids. -/
def eachOf (x : Nat) (t : Pt) (bg : Bool) : Pt := match t with
  | .mk op a b c d blk em _ _ ks => .mk op a b c d blk em ((rdAll x ks bg).any lv) ((rdAll x ks bg).any Pt.la) (rdAll x ks bg)
theorem eachTo_all (x : Nat) (t : Pt) (bg : Bool) : eachTo x t bg t.kids.length = eachOf x t bg := by
  cases t; simp [eachTo, eachOf, Pt.kids]
theorem blk_setLv (t : Pt) (x : Bool) : (t.setLv x).blk = t.blk := by cases t; rfl
theorem blk_eachTo (x : Nat) (t : Pt) (bg : Bool) (k : Nat) : (eachTo x t bg k).blk = t.blk := by cases t; rfl
theorem kids_setLv (t : Pt) (x : Bool) : (t.setLv x).kids = t.kids := by cases t; rfl
theorem bl_setLv (t : Pt) (x : Bool) : bl (t.setLv x) = bl t := by cases t; rfl
theorem bl_setLa (t : Pt) (x : Bool) : bl (t.setLa x) = bl t := by cases t; rfl
theorem cell5 (t : Pt) : t.cell 5 = .slice (some ⟨t.blk, 0, none⟩) t.kids.length t.kids.length := by cases t; rfl
theorem cell0 (t : Pt) : t.cell 0 = .int .i64 t.op := by cases t; rfl
theorem cell6 (t : Pt) : t.cell 6 = .bool t.em := by cases t; rfl
theorem cell7 (t : Pt) : t.cell 7 = .bool t.lv := by cases t; rfl
theorem cell8 (t : Pt) : t.cell 8 = .bool t.la := by cases t; rfl
theorem Tch.of {g o : Nat} {Bs Cs : List Nat} {w w' : World} (h : Tch g o Bs w w') (e : Bs = Cs) : Tch g o Cs w w' := e ▸ h
/-- What reading a byte is to do. -/
def Reads (x : Nat) (t : Pt) (g o : Nat) (bg : Bool) (t' : Pt) (f : FuncId) (w : World) : Prop :=
  Calls Try.prog f #[.pointer (some ⟨g, o, none⟩), .int .u8 (x : Int), .bool bg] w fun e w' => e = .returned (.tuple #[]) ∧ Lay w' g o t' ∧ Tch g o (bl t) w w'
end Pt
open Pt

set_option maxRecDepth 100000 in
set_option maxHeartbeats 4000000 in
theorem readEach_any (t : Pt) (g o x : Nat) (bg : Bool) (w : World) (hcnt : count t ≤ 1000) (ha : Apart g t) (hl : Lay w g o t)
    (K : ∀ j, j < t.kids.length → ∀ W, Lay W t.blk (j * 9) (nth t.kids j) → Reads x (nth t.kids j) t.blk (j * 9) bg (rd x (nth t.kids j) bg) 26 W) :
    Reads x t g o bg (eachOf x t bg) 36 w := by
  have KH := Lib.hid K
  have hn : t.kids.length ≤ 1000 := by
    have h1 := len_count t.kids
    have h2 : count t = 1 + countL t.kids := by cases t; rw [count]; rfl
    omega
  have HA := Lib.hid ha
  have hgb : g ≠ t.blk := by
    have := ha.out
    rw [bl_eq] at this
    intro e; exact this (by rw [e]; simp)
  obtain ⟨l1, t1⟩ := hl.setLv ha.out false
  obtain ⟨l2, t2⟩ := l1.setLa (by rw [bl_setLv]; exact ha.out) false
  rw [← eachTo_zero] at l2
  have I0 : Hid (Lay ((w.setCell ⟨g, o + 7, none⟩ (.bool false)).setCell ⟨g, o + 8, none⟩ (.bool false)) g o (eachTo x t bg 0) ∧ Tch g o (bl t) w ((w.setCell ⟨g, o + 7, none⟩ (.bool false)).setCell ⟨g, o + 8, none⟩ (.bool false))) := ⟨l2, t1.trans (t2.of (bl_setLv _ _))⟩
  have c7 := hl.cells 7 (by omega)
  have f7 := hl.free (o + 7)
  have c8 := l1.cells 8 (by omega)
  have f8 := l1.free (o + 8)
  have c5 := l2.cells 5 (by omega)
  rw [cell5, blk_eachTo, eachTo_len x t bg 0 (by omega)] at c5
  generalize t.cell 7 = u7 at c7
  generalize (t.setLv false).cell 8 = u8 at c8
  obtain ⟨N, hN⟩ : ∃ N, t.kids.length = N := ⟨_, rfl⟩
  have SET := Lib.hid (fun k => eachTo_set x t bg k)
  have LEN := Lib.hid (fun k => eachTo_len x t bg k)
  have KID := Lib.hid (fun k => eachTo_kid x t bg k)
  have ALL := Lib.hid (eachTo_all x t bg)
  rw [hN] at hn c5 KH SET LEN KID ALL
  clear hl K hcnt l1 t1 l2 t2 ha
  unfold Reads
  go_enter Try.func36, Try.ntmps36
  go_wp2
  clear c7 f7 c8 f8 c5
  generalize (w.setCell ⟨g, o + 7, none⟩ (.bool false)).setCell ⟨g, o + 8, none⟩ (.bool false) = w2 at *
  go_loopw [19] (fun i wr => ∃ k : Nat, k ≤ N ∧ i = .int .i64 (k : Int) ∧ Hid (Lay wr g o (eachTo x t bg k) ∧ Tch g o (bl t) w wr)) (fun i _ => N - (intOf i).toNat)
  case atStart => exact ⟨0, by omega, rfl, I0⟩
  case round =>
    clear I0
    obtain ⟨k, hk, rfl, HI⟩ := hrel
    by_cases hkn : k < N
    · have hkz : (k : Int) < (N : Int) := by omega
      have c5 := HI.out.1.cells 5 (by omega)
      rw [cell5, blk_eachTo, LEN.out k hk] at c5
      have LK := HI.out.1.kid k (by rw [LEN.out k hk]; exact hkn)
      rw [blk_eachTo, KID.out k hkn] at LK
      have CK := Lib.hid (KH.out k hkn wr LK)
      clear LK
      unfold Reads at CK
      go_wp2_with fail
      refine CK.out.mono ?_
      rintro e w3 ⟨rfl, l3, t3⟩
      have ap : Apart g (eachTo x t bg k) := by unfold Apart; rw [bl_eachTo]; exact HA.out
      obtain ⟨L3, T3⟩ := HI.out.1.kidOf ap (by rw [LEN.out k hk]; exact hkn) (k := rd x (nth t.kids k) bg) (by rw [KID.out k hkn, bl_rd]) (by rw [blk_eachTo, KID.out k hkn]; exact t3) (by rw [blk_eachTo]; exact l3)
      have nb : g ∉ bl ((eachTo x t bg k).setKid k (rd x (nth t.kids k) bg)) := by rw [bl_setKid (by rw [LEN.out k hk]; exact hkn) (by rw [KID.out k hkn, bl_rd]), bl_eachTo]; exact HA.out.out
      have bk : bl ((eachTo x t bg k).setKid k (rd x (nth t.kids k) bg)) = bl t := by rw [bl_setKid (by rw [LEN.out k hk]; exact hkn) (by rw [KID.out k hkn, bl_rd]), bl_eachTo]
      have elv : ((eachTo x t bg k).setKid k (rd x (nth t.kids k) bg)).lv = (eachTo x t bg k).lv := by cases t; rfl
      have ela : ∀ y, (((eachTo x t bg k).setKid k (rd x (nth t.kids k) bg)).setLv y).la = (eachTo x t bg k).la := by intro y; cases t; rfl
      have c7 := L3.cells 7 (by omega)
      have f7 := L3.free (o + 7)
      rw [cell7, elv] at c7
      have k7 := l3.cells 7 (by omega)
      rw [cell7] at k7
      obtain ⟨L4, T4⟩ := L3.setLv nb ((eachTo x t bg k).lv || (rd x (nth t.kids k) bg).lv)
      have c8 := L4.cells 8 (by omega)
      rw [cell8, ela] at c8
      have f8 := L4.free (o + 8)
      have k8 := l3.cells 8 (by omega)
      rw [cell8] at k8
      obtain ⟨L5, T5⟩ := L4.setLa (by rw [bl_setLv]; exact nb) ((eachTo x t bg k).la || (rd x (nth t.kids k) bg).la)
      rw [← SET.out k hkn] at L5
      have T6 := HI.out.2.trans ((T3.of (bl_eachTo _ _ _ _)).trans ((T4.of bk).trans (T5.of (by rw [bl_setLv, bk]))))
      have I5 := Lib.hid (And.intro L5 T6)
      have k8' : ∀ y, (w3.setCell ⟨g, o + 7, none⟩ (.bool y)).cell? ⟨t.blk, k * 9 + 8, none⟩ = some (.bool (rd x (nth t.kids k) bg).la) := fun y => (World.cell?_setCell_other _ _ _ _ (by intro e; simp only [Addr.mk.injEq] at e; exact hgb e.1)).trans k8
      clear L3 T3 L4 T4 L5 T5 T6 l3 t3 ap nb bk elv ela CK c5 HI k8
      generalize (eachTo x t bg k).lv = p at *
      generalize (rd x (nth t.kids k) bg).lv = q at *
      generalize (eachTo x t bg k).la = r at *
      generalize (rd x (nth t.kids k) bg).la = s at *
      have k8 := k8' (p || q)
      clear k8' KH SET LEN KID ALL
      cases p <;> cases r <;> simp only [Bool.true_or, Bool.false_or] at c8 f8 k8 I5
      case false.false =>
        go_wp2
        generalize (w3.setCell ⟨g, o + 7, none⟩ (.bool q)).setCell ⟨g, o + 8, none⟩ (.bool s) = w5 at *
        clear c7 f7 k7 c8 f8 k8
        go_roundw
        case rel => exact ⟨k + 1, by omega, by go_num, I5⟩
        case measure => simp [intOf]; omega
      case false.true =>
        go_wp2
        generalize (w3.setCell ⟨g, o + 7, none⟩ (.bool q)).setCell ⟨g, o + 8, none⟩ (.bool true) = w5 at *
        clear c7 f7 k7 c8 f8 k8
        go_roundw
        case rel => exact ⟨k + 1, by omega, by go_num, I5⟩
        case measure => simp [intOf]; omega
      case true.false =>
        go_wp2
        generalize (w3.setCell ⟨g, o + 7, none⟩ (.bool true)).setCell ⟨g, o + 8, none⟩ (.bool s) = w5 at *
        clear c7 f7 k7 c8 f8 k8
        go_roundw
        case rel => exact ⟨k + 1, by omega, by go_num, I5⟩
        case measure => simp [intOf]; omega
      case true.true =>
        go_wp2
        generalize (w3.setCell ⟨g, o + 7, none⟩ (.bool true)).setCell ⟨g, o + 8, none⟩ (.bool true) = w5 at *
        clear c7 f7 k7 c8 f8 k8
        go_roundw
        case rel => exact ⟨k + 1, by omega, by go_num, I5⟩
        case measure => simp [intOf]; omega
    · obtain rfl : k = N := by omega
      have hkz : ¬ (k : Int) < (k : Int) := by omega
      have R : Hid (Lay wr g o (eachOf x t bg) ∧ Tch g o (bl t) w wr) := by
        have h := HI.out
        rw [ALL.out] at h
        exact h
      clear HI KH SET LEN KID ALL
      go_wp2
      go_end0
      exact ⟨rfl, R.out.1, R.out.2⟩
end Go.Proofs.Yteifjiadgbgkbaa
