/-
  What the program's readEach does to a part: each kid reads the byte. Conditions: at most 1000 parts.
-/
import Derived.Test.YtjnikeiboefnbaaProg
import Derived.Test.YtjnikeiboefnbaaEa
import Derived.Test.YtjnikeiboefnbaaEd
import Derived.Test.YtjnikeiboefnbaaHa
import Derived.Test.YtjnikeiboefnbaaHd
import Derived.Laws.AppendOwn
import Derived.Laws.CopyOwn
import Derived.Laws.MakeOwn
import Derived.Laws.OwnMore
import Derived.OwnWalk
import Derived.WalkKit
import Derived.WalkSpells
import Derived.WalkLawsBesides
import Derived.Lib.Hide
import Derived.Below
import Derived.BigQuiet
import Derived.Lib.QuietBelow
import Derived.Laws.StructEq
import Derived.KernelRfl
import Derived.Deep.RegionHeld3
namespace Go.Proofs.Ytjnikeiboefnbaa
open Go.RowKit Go.Sort

namespace Pt
/-- Behind the first k kids. -/
def eachTo (x : Nat) (t : Pt) (bg : Bool) (k : Nat) : Pt := match t with
  | .mk op a b c d blk em _ _ ks => .mk op a b c d blk em ((rdAll x (ks.take k) bg).any lv) ((rdAll x (ks.take k) bg).any Pt.la) (rdAll x (ks.take k) bg ++ ks.drop k)
theorem eachTo_zero (x : Nat) (t : Pt) (bg : Bool) : eachTo x t bg 0 = (t.setLv false).setLa false := by
  cases t; simp [eachTo, rdAll, Pt.setLv, Pt.setLa]
theorem rdAll_app (x : Nat) (bg : Bool) (a b : List Pt) : rdAll x (a ++ b) bg = rdAll x a bg ++ rdAll x b bg := by simp [rdAll_map]
theorem nth_mid {a b : List Pt} {k : Nat} (h : a.length = k) : nth (a ++ b) k = nth b 0 := by
  unfold nth
  rw [List.getD_eq_getElem?_getD, List.getD_eq_getElem?_getD, List.getElem?_append_right (by omega), h, Nat.sub_self]
theorem set_mid {a b : List Pt} {k : Nat} {y z : Pt} (h : a.length = k) : (a ++ y :: b).set k z = a ++ z :: b := by
  rw [List.set_append_right _ _ (by omega), h, Nat.sub_self]; rfl
theorem eachTo_len (x : Nat) (t : Pt) (bg : Bool) (k : Nat) (hk : k ≤ t.kids.length) : (eachTo x t bg k).kids.length = t.kids.length := by
  cases t
  simp only [eachTo, Pt.kids] at hk ⊢
  rw [List.length_append, rdAll_len, List.length_take, List.length_drop]; omega
theorem eachTo_kid (x : Nat) (t : Pt) (bg : Bool) (k : Nat) (hk : k < t.kids.length) : nth (eachTo x t bg k).kids k = nth t.kids k := by
  cases t
  simp only [eachTo, Pt.kids] at hk ⊢
  rw [nth_mid (by rw [rdAll_len, List.length_take]; omega), drop_nth hk]; rfl
theorem eachTo_set (x : Nat) (t : Pt) (bg : Bool) (k : Nat) (hk : k < t.kids.length) :
    eachTo x t bg (k + 1) = ((((eachTo x t bg k).setKid k (rd x (nth t.kids k) bg)).setLv ((eachTo x t bg k).lv || (rd x (nth t.kids k) bg).lv))).setLa ((eachTo x t bg k).la || (rd x (nth t.kids k) bg).la) := by
  cases t
  simp only [eachTo, Pt.kids, Pt.setKid, Pt.setLv, Pt.setLa, Pt.lv, Pt.la] at hk ⊢
  rw [take_nth hk, rdAll_app, drop_nth hk, set_mid (by rw [rdAll_len, List.length_take]; omega)]
  simp [rdAll]
  exact ⟨rfl, rfl⟩
theorem bl_eachTo (x : Nat) (t : Pt) (bg : Bool) (k : Nat) : bl (eachTo x t bg k) = bl t := by
  cases t
  rename_i ks
  simp only [eachTo, bl]
  have app : ∀ a b : List Pt, blL (a ++ b) = blL a ++ blL b := by
    intro a b
    induction a with
    | nil => rw [List.nil_append, blL]; rfl
    | cons y r ih => rw [List.cons_append, blL, blL, ih, List.append_assoc]
  rw [app, bl_rdAll, ← app, List.take_append_drop]
/-- Behind all kids. -/
def eachOf (x : Nat) (t : Pt) (bg : Bool) : Pt := match t with
  | .mk op a b c d blk em _ _ ks => .mk op a b c d blk em ((rdAll x ks bg).any lv) ((rdAll x ks bg).any Pt.la) (rdAll x ks bg)
theorem eachTo_all (x : Nat) (t : Pt) (bg : Bool) : eachTo x t bg t.kids.length = eachOf x t bg := by
  cases t; simp [eachTo, eachOf, Pt.kids]
theorem blk_setLv (t : Pt) (x : Bool) : (t.setLv x).blk = t.blk := by cases t; rfl
theorem blk_eachTo (x : Nat) (t : Pt) (bg : Bool) (k : Nat) : (eachTo x t bg k).blk = t.blk := by cases t; rfl
theorem kids_setLv (t : Pt) (x : Bool) : (t.setLv x).kids = t.kids := by cases t; rfl
theorem bl_setLv (t : Pt) (x : Bool) : bl (t.setLv x) = bl t := by cases t; rfl
theorem bl_setLa (t : Pt) (x : Bool) : bl (t.setLa x) = bl t := by cases t; rfl
theorem cell5 (t : Pt) : t.cell 5 = .slice (some ⟨t.blk, 0, none⟩) t.kids.length t.kids.length := by cases t; rfl
theorem cell0 (t : Pt) : t.cell 0 = .int .i64 t.op := by cases t; rfl
theorem cell6 (t : Pt) : t.cell 6 = .bool t.em := by cases t; rfl
theorem cell7 (t : Pt) : t.cell 7 = .bool t.lv := by cases t; rfl
theorem cell8 (t : Pt) : t.cell 8 = .bool t.la := by cases t; rfl
theorem Tch.of {g o : Nat} {Bs Cs : List Nat} {w w' : World} (h : Tch g o Bs w w') (e : Bs = Cs) : Tch g o Cs w w' := e ▸ h
/-- What reading a byte is to do. -/
def Reads (x : Nat) (t : Pt) (g o : Nat) (bg : Bool) (t' : Pt) (f : FuncId) (w : World) : Prop :=
  Calls Try.prog f #[.pointer (some ⟨g, o, none⟩), .int .u8 (x : Int), .bool bg] w fun e w' => e = .returned (.tuple #[]) ∧ Lay w' g o t' ∧ Tch g o (bl t) w w'
end Pt
open Pt

end Go.Proofs.Ytjnikeiboefnbaa
