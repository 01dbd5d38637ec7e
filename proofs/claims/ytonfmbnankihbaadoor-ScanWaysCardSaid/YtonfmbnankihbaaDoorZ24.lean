/-
  What the program's readInOrder does to a part: each kid reads the byte, begun where the one ahead of it ended. Conditions: at most 1000 parts.
-/
import Derived.Test.YtonfmbnankihbaaDoorProg
import Derived.Test.YtonfmbnankihbaaDoorZ01
import Derived.Test.YtonfmbnankihbaaDoorZ02
import Derived.Test.YtonfmbnankihbaaDoorZ03
import Derived.Test.YtonfmbnankihbaaDoorZ07
import Derived.Laws.MakeOwn
import Derived.Laws.OwnMore
import Derived.OwnWalk
import Derived.WalkKit
import Derived.WalkSpells
import Derived.WalkLawsBesides
import Derived.Lib.Hide
import Derived.Below
import Derived.BigQuiet
import Derived.Lib.QuietBelow
import Derived.Laws.StructEq
import Derived.KernelRfl
import Derived.Laws.AppendOwn
import Derived.Deep.RegionHeld3
import Derived.Laws.CopyOwn
namespace Go.Proofs.YtonfmbnankihbaaDoor
open Go.RowKit Go.Sort

namespace Pt
/-- Behind the first k kids. -/
def seqTo (x : Nat) (t : Pt) (bg : Bool) (k : Nat) : Pt := match t with
  | .mk op a b c d blk em _ _ ks => .mk op a b c d blk em ((rdSeq x (ks.take k) bg).any lv) (lastSeq false (rdSeq x (ks.take k) bg)) (rdSeq x (ks.take k) bg ++ ks.drop k)
theorem seqTo_zero (x : Nat) (t : Pt) (bg : Bool) : seqTo x t bg 0 = (t.setLv false).setLa false := by
  cases t; simp [seqTo, rdSeq, Pt.setLv, Pt.setLa, lastSeq]
theorem seqTo_len (x : Nat) (t : Pt) (bg : Bool) (k : Nat) (hk : k ≤ t.kids.length) : (seqTo x t bg k).kids.length = t.kids.length := by
  cases t
  simp only [seqTo, Pt.kids] at hk ⊢
  rw [List.length_append, rdSeq_len, List.length_take, List.length_drop]; omega
theorem seqTo_kid (x : Nat) (t : Pt) (bg : Bool) (k : Nat) (hk : k < t.kids.length) : nth (seqTo x t bg k).kids k = nth t.kids k := by
  cases t
  simp only [seqTo, Pt.kids] at hk ⊢
  rw [nth_mid (by rw [rdSeq_len, List.length_take]; omega), drop_nth hk]; rfl
theorem seqTo_set (x : Nat) (t : Pt) (bg : Bool) (k : Nat) (hk : k < t.kids.length) :
    seqTo x t bg (k + 1) = ((((seqTo x t bg k).setKid k (rd x (nth t.kids k) (bgAt (t.kids.take k) bg))).setLv ((seqTo x t bg k).lv || (rd x (nth t.kids k) (bgAt (t.kids.take k) bg)).lv))).setLa ((rd x (nth t.kids k) (bgAt (t.kids.take k) bg)).la || ((seqTo x t bg k).la && (nth t.kids k).em)) := by
  cases t
  simp only [seqTo, Pt.kids, Pt.setKid, Pt.setLv, Pt.setLa, Pt.lv, Pt.la] at hk ⊢
  rw [take_nth hk, rdSeq_snoc, drop_nth hk, set_mid (by rw [rdSeq_len, List.length_take]; omega), lastSeq_snoc, em_rd]
  simp
  exact ⟨rfl, rfl⟩
theorem bl_seqTo (x : Nat) (t : Pt) (bg : Bool) (k : Nat) : bl (seqTo x t bg k) = bl t := by
  cases t
  rename_i ks
  simp only [seqTo, bl]
  have app : ∀ a b : List Pt, blL (a ++ b) = blL a ++ blL b := by
    intro a b
    induction a with
    | nil => rw [List.nil_append, blL]; rfl
    | cons y r ih => rw [List.cons_append, blL, blL, ih, List.append_assoc]
  rw [app, bl_rdSeq, ← app, List.take_append_drop]
/-- Behind all kids. -/
def seqOf (x : Nat) (t : Pt) (bg : Bool) : Pt := match t with
  | .mk op a b c d blk em _ _ ks => .mk op a b c d blk em ((rdSeq x ks bg).any lv) (lastSeq false (rdSeq x ks bg)) (rdSeq x ks bg)
theorem seqTo_all (x : Nat) (t : Pt) (bg : Bool) : seqTo x t bg t.kids.length = seqOf x t bg := by
  cases t; simp [seqTo, seqOf, Pt.kids]
theorem blk_seqTo (x : Nat) (t : Pt) (bg : Bool) (k : Nat) : (seqTo x t bg k).blk = t.blk := by cases t; rfl
theorem bgAt_next {ks : List Pt} {bg : Bool} {k : Nat} (hk : k < ks.length) : bgAt (ks.take (k + 1)) bg = ((nth ks k).la || (bgAt (ks.take k) bg && (nth ks k).em)) := by rw [take_nth hk, bgAt_snoc]
end Pt
open Pt

set_option maxRecDepth 100000 in
set_option maxHeartbeats 8000000 in
theorem readInOrder_any (t : Pt) (g o x : Nat) (bg : Bool) (w : World) (hcnt : count t ≤ 1000) (ha : Apart g t) (hl : Lay w g o t)
    (K : ∀ j, j < t.kids.length → ∀ W b, Lay W t.blk (j * 9) (nth t.kids j) → Reads x (nth t.kids j) t.blk (j * 9) b (rd x (nth t.kids j) b) 36 W) :
    Reads x t g o bg (seqOf x t bg) 53 w := by
  have KH := Lib.hid K
  have hn : t.kids.length ≤ 1000 := by
    have h1 := len_count t.kids
    have h2 : count t = 1 + countL t.kids := by cases t; rw [count]; rfl
    omega
  have HA := Lib.hid ha
  have hgb : g ≠ t.blk := by
    have := ha.out
    rw [bl_eq] at this
    intro e; exact this (by rw [e]; simp)
  obtain ⟨l1, t1⟩ := hl.setLv ha.out false
  obtain ⟨l2, t2⟩ := l1.setLa (by rw [bl_setLv]; exact ha.out) false
  rw [← seqTo_zero x t bg] at l2
  have I0 : Hid (Lay ((w.setCell ⟨g, o + 7, none⟩ (.bool false)).setCell ⟨g, o + 8, none⟩ (.bool false)) g o (seqTo x t bg 0) ∧ Tch g o (bl t) w ((w.setCell ⟨g, o + 7, none⟩ (.bool false)).setCell ⟨g, o + 8, none⟩ (.bool false))) := ⟨l2, t1.trans (t2.of (bl_setLv _ _))⟩
  have c7 := hl.cells 7 (by omega)
  have f7 := hl.free (o + 7)
  have c8 := l1.cells 8 (by omega)
  have f8 := l1.free (o + 8)
  have c5 := l2.cells 5 (by omega)
  rw [cell5, blk_seqTo, seqTo_len x t bg 0 (by omega)] at c5
  generalize t.cell 7 = u7 at c7
  generalize (t.setLv false).cell 8 = u8 at c8
  obtain ⟨N, hN⟩ : ∃ N, t.kids.length = N := ⟨_, rfl⟩
  have SET := Lib.hid (fun k => seqTo_set x t bg k)
  have LEN := Lib.hid (fun k => seqTo_len x t bg k)
  have KID := Lib.hid (fun k => seqTo_kid x t bg k)
  have BGN := Lib.hid (fun k => bgAt_next (ks := t.kids) (bg := bg) (k := k))
  have ALL := Lib.hid (seqTo_all x t bg)
  rw [hN] at hn c5 KH SET LEN KID ALL BGN
  clear hl K hcnt l1 t1 l2 t2 ha
  unfold Reads
  go_enter Tryd.func53, Tryd.ntmps53
  go_wp2
  clear c7 f7 c8 f8 c5
  generalize (w.setCell ⟨g, o + 7, none⟩ (.bool false)).setCell ⟨g, o + 8, none⟩ (.bool false) = w2 at *
  go_loopw [2, 20] (fun vb i wr => ∃ k : Nat, k ≤ N ∧ i = .int .i64 (k : Int) ∧ vb = .bool (bgAt (t.kids.take k) bg) ∧ Hid (Lay wr g o (seqTo x t bg k) ∧ Tch g o (bl t) w wr)) (fun _ i _ => N - (intOf i).toNat)
  case atStart => exact ⟨0, by omega, rfl, rfl, I0⟩
  case round =>
    clear I0
    obtain ⟨k, hk, rfl, rfl, HI⟩ := hrel
    by_cases hkn : k < N
    · have hkz : (k : Int) < (N : Int) := by omega
      have c5 := HI.out.1.cells 5 (by omega)
      rw [cell5, blk_seqTo, LEN.out k hk] at c5
      have LK := HI.out.1.kid k (by rw [LEN.out k hk]; exact hkn)
      rw [blk_seqTo, KID.out k hkn] at LK
      have j8 := LK.cells 8 (by omega)
      rw [cell8] at j8
      have j6 := LK.cells 6 (by omega)
      rw [cell6] at j6
      have CK : Hid (∀ b, Reads x (nth t.kids k) t.blk (k * 9) b (rd x (nth t.kids k) b) 36 wr) := fun b => KH.out k hkn wr b LK
      have SK := Lib.hid (SET.out k hkn)
      have BK := Lib.hid (BGN.out k hkn)
      have KK := Lib.hid (KID.out k hkn)
      have LL := Lib.hid (LEN.out k hk)
      clear LK KH SET LEN KID ALL BGN
      generalize bgAt (t.kids.take k) bg = b0 at *
      have CK := Lib.hid (CK.out b0)
      obtain ⟨R, hR⟩ : ∃ R, rd x (nth t.kids k) b0 = R := ⟨_, rfl⟩
      have HEM : Hid (R.em = (nth t.kids k).em) := by rw [← hR]; exact em_rd x _ _
      have HBL : Hid (bl R = bl (nth t.kids k)) := by rw [← hR]; exact bl_rd x _ _
      rw [hR] at CK SK
      unfold Reads at CK
      clear hR
      cases hla : (nth t.kids k).la <;> cases b0 <;> rw [hla] at j8 BK <;> simp only [Bool.true_or, Bool.false_or, Bool.true_and, Bool.false_and] at BK <;> clear hla
      all_goals
        go_wp2_with fail
        refine CK.out.mono ?_
        rintro e w3 ⟨rfl, l3, t3⟩
        have ap : Apart g (seqTo x t bg k) := by unfold Apart; rw [bl_seqTo]; exact HA.out
        have hkl : k < (seqTo x t bg k).kids.length := by rw [LL.out]; exact hkn
        have heb : bl R = bl (nth (seqTo x t bg k).kids k) := by rw [KK.out, HBL.out]
        obtain ⟨L3, T3⟩ := HI.out.1.kidOf ap hkl (k := R) heb (by rw [blk_seqTo, KK.out]; exact t3) (by rw [blk_seqTo]; exact l3)
        have bk : bl ((seqTo x t bg k).setKid k R) = bl t := by rw [bl_setKid hkl heb, bl_seqTo]
        have nb : g ∉ bl ((seqTo x t bg k).setKid k R) := by rw [bk]; exact HA.out.out
        have elv : ((seqTo x t bg k).setKid k R).lv = (seqTo x t bg k).lv := by cases t; rfl
        have ela : ∀ y, (((seqTo x t bg k).setKid k R).setLv y).la = (seqTo x t bg k).la := by intro y; cases t; rfl
        have c7 := L3.cells 7 (by omega)
        have f7 := L3.free (o + 7)
        rw [cell7, elv] at c7
        have k7 := l3.cells 7 (by omega)
        rw [cell7] at k7
        obtain ⟨L4, T4⟩ := L3.setLv nb ((seqTo x t bg k).lv || R.lv)
        have c8 := L4.cells 8 (by omega)
        rw [cell8, ela] at c8
        have f8 := L4.free (o + 8)
        have k8 := l3.cells 8 (by omega)
        rw [cell8] at k8
        have k6 := l3.cells 6 (by omega)
        rw [cell6, HEM.out] at k6
        obtain ⟨L5, T5⟩ := L4.setLa (by rw [bl_setLv]; exact nb) (R.la || ((seqTo x t bg k).la && (nth t.kids k).em))
        rw [← SK.out] at L5
        have T6 := HI.out.2.trans ((T3.of (bl_seqTo _ _ _ _)).trans ((T4.of bk).trans (T5.of (by rw [bl_setLv, bk]))))
        have k8 : (w3.setCell ⟨g, o + 7, none⟩ (.bool ((seqTo x t bg k).lv || R.lv))).cell? ⟨t.blk, k * 9 + 8, none⟩ = some (.bool R.la) := (World.cell?_setCell_other _ _ _ _ (by intro e; simp only [Addr.mk.injEq] at e; exact hgb e.1)).trans k8
        have k6 : (w3.setCell ⟨g, o + 7, none⟩ (.bool ((seqTo x t bg k).lv || R.lv))).cell? ⟨t.blk, k * 9 + 6, none⟩ = some (.bool (nth t.kids k).em) := (World.cell?_setCell_other _ _ _ _ (by intro e; simp only [Addr.mk.injEq] at e; exact hgb e.1)).trans k6
        have I5 := Lib.hid (And.intro L5 T6)
        clear L3 T3 L4 T4 L5 T5 T6 l3 t3 ap nb bk elv ela CK c5 HI j8 j6 heb hkl SK KK LL HEM HBL
        generalize (seqTo x t bg k).lv = p at *
        generalize R.lv = q at *
        generalize (seqTo x t bg k).la = r at *
        generalize R.la = s at *
        obtain ⟨w5, hw5⟩ : ∃ w5, (w3.setCell ⟨g, o + 7, none⟩ (.bool (p || q))).setCell ⟨g, o + 8, none⟩ (.bool (s || (r && (nth t.kids k).em))) = w5 := ⟨_, rfl⟩
        rw [hw5] at I5
        have hw5 := Lib.hid hw5
        generalize hem : (nth t.kids k).em = m at *
        cases p <;> cases s <;> cases r <;> simp only [Bool.true_or, Bool.false_or, Bool.true_and, Bool.false_and] at c8 f8 k8 k6 hw5
        all_goals
          go_wp2
          rw [hw5.out]
          clear c7 f7 k7 c8 f8 k8 k6 hw5
          go_roundw
          case rel => exact ⟨k + 1, by omega, by go_num, by rw [BK.out], I5⟩
          case measure => simp [intOf]; omega
    · obtain rfl : k = N := by omega
      have hkz : ¬ (k : Int) < (k : Int) := by omega
      have R : Hid (Lay wr g o (seqOf x t bg) ∧ Tch g o (bl t) w wr) := by
        have h := HI.out
        rw [ALL.out] at h
        exact h
      clear HI KH SET LEN KID ALL BGN
      go_wp2
      go_end0
      exact ⟨rfl, R.out.1, R.out.2⟩

end Go.Proofs.YtonfmbnankihbaaDoor
