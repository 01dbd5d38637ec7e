/-
  What the reference's after does at a node of factors, where its kids' calls do as they should. Conditions: no more than 100 places.
  What the reference's after does, for every tree that may be: it goes by sets of places as Rx.aft does. Conditions: at most 1000 nodes, 100 places; words have 64 bits.
  What the program's readEach does to a part: each kid reads the byte. Conditions: at most 1000 parts.
  What the program's others, union and span do: sets of four words. Conditions: words have 64 bits.
  Trees that lie in known blocks; a slice of trees that one owns, appended to. Conditions: at most 100 of them.
-/
import Derived.Test.YtjmojjjgifkkiaaDoorProg
import Derived.Test.YtjmojjjgifkkiaaDoorZ01
import Derived.Test.YtjmojjjgifkkiaaDoorZ02
import Derived.Test.YtjmojjjgifkkiaaDoorZ03
import Derived.Test.YtjmojjjgifkkiaaDoorZ05
import Derived.Test.YtjmojjjgifkkiaaDoorZ04
import Derived.Laws.MakeOwn
import Derived.Laws.OwnMore
import Derived.OwnWalk
import Derived.WalkKit
import Derived.WalkSpells
import Derived.WalkLawsBesides
import Derived.Lib.Hide
import Derived.Below
import Derived.BigQuiet
import Derived.Lib.QuietBelow
import Derived.Laws.StructEq
import Derived.KernelRfl
import Derived.Deep.RegionHeld3
import Derived.Laws.CopyOwn
import Derived.Laws.AppendOwn
import Derived.StillTailTactics
import Derived.Deep.QuietTactic
import Derived.Lib.Bytealg
import Derived.Laws.Externs
import Derived.Maps.AppendAt
namespace Go.Proofs.YtjmojjjgifkkiaaDoor
open Go.RowKit Go.Sort

theorem aft_seq_eq {S : List Nat} {a b c d : Nat} {ks : List Rx} {f : Nat → Bool} : Rx.aft S (.mk 2 a b c d ks) f = Rx.aftSeq S ks f := rfl

set_option maxRecDepth 100000 in
set_option maxHeartbeats 2000000 in
theorem after_seq {w : World} {s : ByteArray} {S : List Nat} {L : Nat} {ks : List Rx} {N : Nat} {A : Option Addr} {blk off : Nat} {V : Nat → Nat → Value} (T : AftH w s S L ks N A blk off V) (a b c d cap : Nat) (F : Option Addr) (cf : Nat) (f : Nat → Bool) (hf : IsBo w F (L + 1) f) :
    Calls Tryd.prog 91 #[.agg #[.int .i64 2, .int .u64 (a : Int), .int .u64 (b : Int), .int .u64 (c : Int), .int .u64 (d : Int), .slice A N cap], .string s, .slice F (L + 1) cf] w (AftDone w S L (.mk 2 a b c d ks) f) := by
  have HT := Lib.hid T
  have HF := Lib.hid hf
  have hL := T.few
  have hs := T.size
  have hNN := T.lenN
  have E := Lib.hid (aft_seq_eq (S := S) (a := a) (b := b) (c := c) (d := d) (ks := ks) (f := f))
  have AT := Lib.hid (fun k => Rx.seq_take S (ks := ks) (k := k))
  have AE : Hid (Rx.aftSeq S (ks.take N) f = Rx.aftSeq S ks f) := by show _ = _; rw [← T.len, List.take_length]
  rw [T.len] at AT
  have MK := fun W => make_bools (L + 1) (by omega) W
  have BX := Lib.hid (fun W => box6 (w := w) (v0 := .int .i64 2) (v1 := .int .u64 (a : Int)) (v2 := .int .u64 (b : Int)) (v3 := .int .u64 (c : Int)) (v4 := .int .u64 (d : Int)) (v5 := .slice A N cap) (ty := 60) (W := W))
  obtain ⟨w0, hw0⟩ : ∃ w0, w.alloc (.cells #[.int .i64 2, .int .u64 (a : Int), .int .u64 (b : Int), .int .u64 (c : Int), .int .u64 (d : Int), .slice A N cap] 60) = w0 := ⟨_, rfl⟩
  obtain ⟨w1, hw1⟩ : ∃ w1, w0.alloc (.cells (bof (L + 1) fun _ => false).toArray 4) = w1 := ⟨_, rfl⟩
  have MK1 := MK w0
  have wl : IntKind.i64.wrap ((L : Int) + 1) = (L : Int) + 1 := by rw [IntKind.wrap_i64]; omega
  have el : ((L + 1 : Nat) : Int) = (L : Int) + 1 := by simp
  rw [hw1, el] at MK1
  rw [hw0] at BX
  have e0 : w0.heap.size = w.heap.size + 1 := by rw [← hw0]; simp
  have B01 : Below (w.heap.size + 1) w0 w1 := by
    rw [← hw1, ← e0]
    exact (Below.refl _ _).alloc (Nat.le_refl _) _
  have O1 : OwnB w1 w0.heap.size w0.heap.size (L + 1) (fun _ => false) := by rw [← hw1]; exact own_made (L + 1) (by omega) w0
  obtain ⟨⟨q0, _, _, _, _, _⟩, BW⟩ := BX.out w1 B01
  have I0 : Hid (IsBo w1 F (L + 1) (Rx.aftSeq S (ks.take 0) f) ∧ OwnB w1 (w.heap.size + 1) (w.heap.size + 1) (L + 1) (fun _ => false) ∧ Below (w.heap.size + 1) w0 w1 ∧ w.heap.size + 1 ≤ w1.heap.size) := ⟨hf.below BW, by rw [e0] at O1; exact O1, B01, by have := B01.size; omega⟩
  clear T MK B01 BW hf O1 hw1
  go_enter Tryd.func91, Tryd.ntmps91
  go_wp2
  clear MK1 q0 hw0
  go_loopw [9, 10] (fun vo i wr => ∃ (k : Nat) (A9 : Option Addr) (c9 : Nat), k ≤ N ∧ i = .int .i64 (k : Int) ∧ vo = .slice A9 (L + 1) c9 ∧ Hid (IsBo wr A9 (L + 1) (Rx.aftSeq S (ks.take k) f) ∧ OwnB wr (w.heap.size + 1) (w.heap.size + 1) (L + 1) (fun _ => false) ∧ Below (w.heap.size + 1) w0 wr ∧ w.heap.size + 1 ≤ wr.heap.size)) (fun _ i _ => N - (intOf i).toNat)
  case atStart => exact ⟨0, F, cf, by omega, rfl, rfl, I0⟩
  case round =>
    clear I0
    obtain ⟨k, A9, c9, hk, rfl, rfl, HI⟩ := hrel
    obtain ⟨⟨_, _, _, _, _, q5⟩, BW⟩ := BX.out wr HI.out.2.2.1
    have BWH := Lib.hid BW
    clear BW
    by_cases hkn : k < N
    · have hkz : (k : Int) < (N : Int) := by omega
      have hAe := HT.out.ptr (by omega)
      subst hAe
      have c0 := HT.out.cells wr BWH.out k 0 hkn (by omega)
      have c1 := HT.out.cells wr BWH.out k 1 hkn (by omega)
      have c2 := HT.out.cells wr BWH.out k 2 hkn (by omega)
      have c3 := HT.out.cells wr BWH.out k 3 hkn (by omega)
      have c4 := HT.out.cells wr BWH.out k 4 hkn (by omega)
      have c5 := HT.out.cells wr BWH.out k 5 hkn (by omega)
      simp only [Nat.add_zero] at c0
      have CK := Lib.hid (HT.out.call k wr A9 c9 _ hkn BWH.out HI.out.1)
      have ATK := Lib.hid (AT.out k hkn f)
      rw [← ATK.out] at CK
      have OW := Lib.hid HI.out.2.1
      have B0W := Lib.hid HI.out.2.2.1
      have SZW := HI.out.2.2.2
      unfold val6 at CK
      clear HI
      generalize V k 0 = v0 at *
      generalize V k 1 = v1 at *
      generalize V k 2 = v2 at *
      generalize V k 3 = v3 at *
      generalize V k 4 = v4 at *
      generalize V k 5 = v5 at *
      go_wp2_with fail
      refine CK.out.mono ?_
      rintro e w2 ⟨⟨q2, rfl, o2⟩, b2⟩
      have I3 : Hid (IsBo w2 (some ⟨q2, 0, none⟩) (L + 1) (Rx.aftSeq S (ks.take (k + 1)) f) ∧ OwnB w2 (w.heap.size + 1) (w.heap.size + 1) (L + 1) (fun _ => false) ∧ Below (w.heap.size + 1) w0 w2 ∧ w.heap.size + 1 ≤ w2.heap.size) := ⟨o2.is, OW.out.keep b2, B0W.out.trans (b2.mono SZW), by have := b2.size; omega⟩
      clear CK b2 o2 c0 c1 c2 c3 c4 c5 q5
      go_wp2
      go_roundw
      case rel => exact ⟨k + 1, some ⟨q2, 0, none⟩, L + 1, by omega, by go_num, rfl, I3⟩
      case measure => simp [intOf]; omega
    · obtain rfl : k = N := by omega
      have hkz : ¬ (k : Int) < (k : Int) := by omega
      have SRC := Lib.hid HI.out.1
      have O1 := HI.out.2.1
      have B0W := Lib.hid HI.out.2.2.1
      clear HI HT
      go_wp2_with (refine wpList_copyB rfl (.tmp 66) (.tmp 67) rfl (w.heap.size + 1) (w.heap.size + 1) (L + 1) _ rfl O1 A9 c9 _ rfl SRC.out (w.heap.size + 1) w0 B0W.out (by omega) (by omega) ?_)
      intro w2 o2 b2
      have R : Hid (AftDone w S L (.mk 2 a b c d ks) f (.returned (.slice (some ⟨w.heap.size + 1, 0, none⟩) (L + 1) (L + 1))) w2) := ⟨⟨w.heap.size + 1, rfl, by rw [E.out, ← AE.out]; exact o2.base (by omega)⟩, (BX.out w2 b2).2⟩
      clear O1 o2 b2 SRC q5
      go_wp2
      go_ret
      exact R.out

end Go.Proofs.YtjmojjjgifkkiaaDoor
namespace Go.Proofs.YtjmojjjgifkkiaaDoor
open Go.RowKit Go.Sort

namespace Rx
mutual
/-- Its sets' words have 64 bits. -/
def fit : Rx → Prop
  | .mk _ a b c d ks => Fit4 a b c d ∧ fitL ks
def fitL : List Rx → Prop
  | [] => True
  | k :: r => fit k ∧ fitL r
end
theorem fit_nth : ∀ {ks : List Rx} {j : Nat}, fitL ks → j < ks.length → fit (nth ks j)
  | k :: r, 0, h, _ => by simpa [nth] using h.1
  | k :: r, j + 1, h, hj => by
    have := fit_nth (ks := r) (j := j) h.2 (by simpa using hj)
    simpa [nth] using this
theorem all_nth : ∀ {ks : List Rx} {j : Nat}, isAll ks = true → j < ks.length → isRex (nth ks j) = true
  | k :: r, 0, h, _ => by
    rw [isAll, Bool.and_eq_true] at h
    simpa [nth] using h.1
  | k :: r, j + 1, h, hj => by
    rw [isAll, Bool.and_eq_true] at h
    have := all_nth (ks := r) (j := j) h.2 (by simpa using hj)
    simpa [nth] using this
end Rx

theorem rafter_any : ∀ (n : Nat) (t : Rx) (v : Value) (w : World) (s : ByteArray) (L : Nat) (F : Option Addr) (cf : Nat) (f : Nat → Bool), n ≤ 1000 → Rx.count t ≤ n → Rx.isRex t = true → Rx.fit t → s.size = L → L ≤ 100 → IsRx w v t → IsBo w F (L + 1) f →
    Calls Tryd.prog 91 #[v, .string s, .slice F (L + 1) cf] w (AftDone w (txt8 s) L t f) := by
  intro n
  induction n with
  | zero => intro t v w s L F cf f _ hs; have := Rx.count_pos t; omega
  | succ n ih =>
    intro t v w s L F cf f hn hcnt hr hfit hs hL h hf
    cases h with
    | node op a b c d ks A cap blk off V hcap hA hp hc hk =>
      rw [Rx.count] at hcnt
      have hlen := Rx.len_count ks
      obtain ⟨h4, hfl⟩ := hfit
      by_cases o1 : op = 1
      · subst o1
        exact after_set hs hL a b c d h4 A ks.length cap F cf f hf
      have hr2 : Rx.may op ks.length = true ∧ Rx.isAll ks = true := by
        rw [Rx.isRex, if_neg o1] at hr
        simp only [Bool.and_eq_true] at hr
        exact hr.1
      have T : AftH w s (txt8 s) L ks ks.length A blk off V :=
        { size := hs
          text := by rw [txt8_len, hs]
          few := hL
          len := rfl
          lenN := by omega
          ptr := hp
          cells := fun W hW j i hj hi => (hW.cell (World.block_lt_of_cell? w _ (hc j i hj hi))).trans (hc j i hj hi)
          call := fun j W A' c' f' hj hW hi => ih _ _ W s L A' c' f' (by omega) (by have := Rx.nth_count hj; omega) (Rx.all_nth hr2.2 hj) (Rx.fit_nth hfl hj) hs hL ((hk j hj).grown hW) hi }
      have hm := hr2.1
      unfold Rx.may at hm
      by_cases o2 : op = 2
      · subst o2; exact after_seq T a b c d cap F cf f hf
      by_cases o3 : op = 3
      · subst o3; exact after_alt T a b c d cap F cf f hf
      have p2 : (op == 2) = false := by simpa using o2
      have p3 : (op == 3) = false := by simpa using o3
      rw [p2, p3] at hm
      simp only [Bool.false_and, Bool.or_self, Bool.false_or, Bool.and_eq_true, Bool.or_eq_true, beq_iff_eq] at hm
      obtain ⟨ho, h1⟩ := hm
      rcases ho with (rfl | rfl) | rfl
      · exact after_star T a b c d cap h1 F cf f hf
      · exact after_plus T a b c d cap h1 F cf f hf
      · exact after_maybe T a b c d cap h1 F cf f hf

end Go.Proofs.YtjmojjjgifkkiaaDoor
namespace Go.Proofs.YtjmojjjgifkkiaaDoor
open Go.RowKit Go.Sort

namespace Pt
/-- Behind the first k kids. -/
def eachTo (x : Nat) (t : Pt) (bg : Bool) (k : Nat) : Pt := match t with
  | .mk op a b c d blk em _ _ ks => .mk op a b c d blk em ((rdAll x (ks.take k) bg).any lv) ((rdAll x (ks.take k) bg).any Pt.la) (rdAll x (ks.take k) bg ++ ks.drop k)
theorem eachTo_zero (x : Nat) (t : Pt) (bg : Bool) : eachTo x t bg 0 = (t.setLv false).setLa false := by
  cases t; simp [eachTo, rdAll, Pt.setLv, Pt.setLa]
theorem rdAll_app (x : Nat) (bg : Bool) (a b : List Pt) : rdAll x (a ++ b) bg = rdAll x a bg ++ rdAll x b bg := by simp [rdAll_map]
theorem nth_mid {a b : List Pt} {k : Nat} (h : a.length = k) : nth (a ++ b) k = nth b 0 := by
  unfold nth
  rw [List.getD_eq_getElem?_getD, List.getD_eq_getElem?_getD, List.getElem?_append_right (by omega), h, Nat.sub_self]
theorem set_mid {a b : List Pt} {k : Nat} {y z : Pt} (h : a.length = k) : (a ++ y :: b).set k z = a ++ z :: b := by
  rw [List.set_append_right _ _ (by omega), h, Nat.sub_self]; rfl
theorem eachTo_len (x : Nat) (t : Pt) (bg : Bool) (k : Nat) (hk : k ≤ t.kids.length) : (eachTo x t bg k).kids.length = t.kids.length := by
  cases t
  simp only [eachTo, Pt.kids] at hk ⊢
  rw [List.length_append, rdAll_len, List.length_take, List.length_drop]; omega
theorem eachTo_kid (x : Nat) (t : Pt) (bg : Bool) (k : Nat) (hk : k < t.kids.length) : nth (eachTo x t bg k).kids k = nth t.kids k := by
  cases t
  simp only [eachTo, Pt.kids] at hk ⊢
  rw [nth_mid (by rw [rdAll_len, List.length_take]; omega), drop_nth hk]; rfl
theorem eachTo_set (x : Nat) (t : Pt) (bg : Bool) (k : Nat) (hk : k < t.kids.length) :
    eachTo x t bg (k + 1) = ((((eachTo x t bg k).setKid k (rd x (nth t.kids k) bg)).setLv ((eachTo x t bg k).lv || (rd x (nth t.kids k) bg).lv))).setLa ((eachTo x t bg k).la || (rd x (nth t.kids k) bg).la) := by
  cases t
  simp only [eachTo, Pt.kids, Pt.setKid, Pt.setLv, Pt.setLa, Pt.lv, Pt.la] at hk ⊢
  rw [take_nth hk, rdAll_app, drop_nth hk, set_mid (by rw [rdAll_len, List.length_take]; omega)]
  simp [rdAll]
  exact ⟨rfl, rfl⟩
theorem bl_eachTo (x : Nat) (t : Pt) (bg : Bool) (k : Nat) : bl (eachTo x t bg k) = bl t := by
  cases t
  rename_i ks
  simp only [eachTo, bl]
  have app : ∀ a b : List Pt, blL (a ++ b) = blL a ++ blL b := by
    intro a b
    induction a with
    | nil => rw [List.nil_append, blL]; rfl
    | cons y r ih => rw [List.cons_append, blL, blL, ih, List.append_assoc]
  rw [app, bl_rdAll, ← app, List.take_append_drop]
/-- Behind all kids. -/
def eachOf (x : Nat) (t : Pt) (bg : Bool) : Pt := match t with
  | .mk op a b c d blk em _ _ ks => .mk op a b c d blk em ((rdAll x ks bg).any lv) ((rdAll x ks bg).any Pt.la) (rdAll x ks bg)
theorem eachTo_all (x : Nat) (t : Pt) (bg : Bool) : eachTo x t bg t.kids.length = eachOf x t bg := by
  cases t; simp [eachTo, eachOf, Pt.kids]
theorem blk_setLv (t : Pt) (x : Bool) : (t.setLv x).blk = t.blk := by cases t; rfl
theorem blk_eachTo (x : Nat) (t : Pt) (bg : Bool) (k : Nat) : (eachTo x t bg k).blk = t.blk := by cases t; rfl
theorem kids_setLv (t : Pt) (x : Bool) : (t.setLv x).kids = t.kids := by cases t; rfl
theorem bl_setLv (t : Pt) (x : Bool) : bl (t.setLv x) = bl t := by cases t; rfl
theorem bl_setLa (t : Pt) (x : Bool) : bl (t.setLa x) = bl t := by cases t; rfl
theorem cell5 (t : Pt) : t.cell 5 = .slice (some ⟨t.blk, 0, none⟩) t.kids.length t.kids.length := by cases t; rfl
theorem cell0 (t : Pt) : t.cell 0 = .int .i64 t.op := by cases t; rfl
theorem cell6 (t : Pt) : t.cell 6 = .bool t.em := by cases t; rfl
theorem cell7 (t : Pt) : t.cell 7 = .bool t.lv := by cases t; rfl
theorem cell8 (t : Pt) : t.cell 8 = .bool t.la := by cases t; rfl
theorem Tch.of {g o : Nat} {Bs Cs : List Nat} {w w' : World} (h : Tch g o Bs w w') (e : Bs = Cs) : Tch g o Cs w w' := e ▸ h
/-- What reading a byte is to do. -/
def Reads (x : Nat) (t : Pt) (g o : Nat) (bg : Bool) (t' : Pt) (f : FuncId) (w : World) : Prop :=
  Calls Tryd.prog f #[.pointer (some ⟨g, o, none⟩), .int .u8 (x : Int), .bool bg] w fun e w' => e = .returned (.tuple #[]) ∧ Lay w' g o t' ∧ Tch g o (bl t) w w'
end Pt
open Pt

end Go.Proofs.YtjmojjjgifkkiaaDoor
namespace Go.Proofs.YtjmojjjgifkkiaaDoor
open Go.RowKit Go.Sort
open Pz

/-- Four words as a value. -/
def set4 (W : Nat → Nat) : Value := .agg #[.int .u64 (W 0 : Int), .int .u64 (W 1 : Int), .int .u64 (W 2 : Int), .int .u64 (W 3 : Int)]
/-- Words that fit. -/
def Fits4 (W : Nat → Nat) : Prop := ∀ k, W k < 18446744073709551616
theorem xor_all (n : Nat) (h : n < 18446744073709551616) : bits .xor .u64 IntKind.u64.max (n : Int) = ((18446744073709551615 - n : Nat) : Int) := by
  have e := u64_xor_nat 18446744073709551615 n (by omega) h
  have : 18446744073709551615 ^^^ n = 18446744073709551615 - n := by
    have h2 := BitVec.toNat_not (x := BitVec.ofNat 64 n)
    have h3 : (~~~(BitVec.ofNat 64 n)) = (BitVec.allOnes 64) ^^^ (BitVec.ofNat 64 n) := by
      apply BitVec.eq_of_getElem_eq
      intro i hi
      simp only [BitVec.getElem_not, BitVec.getElem_xor, BitVec.getElem_allOnes, Bool.true_xor]
    rw [h3, BitVec.toNat_xor, BitVec.toNat_allOnes, BitVec.toNat_ofNat, Nat.mod_eq_of_lt h] at h2
    omega
  rw [this] at e
  exact e
theorem or_nat (a b : Nat) (h1 : a < 18446744073709551616) (h2 : b < 18446744073709551616) : bits .or .u64 (a : Int) (b : Int) = ((a ||| b : Nat) : Int) := u64_or_nat a b h1 h2
theorem neg_fits (W : Nat → Nat) : Fits4 (neg W) := fun k => by unfold neg; omega
theorem join_fits {V W : Nat → Nat} (h1 : Fits4 V) (h2 : Fits4 W) : Fits4 (join V W) := fun k => Nat.or_lt_two_pow (n := 64) (h1 k) (h2 k)
theorem put_fits {W : Nat → Nat} (h : Fits4 W) (c : Nat) : Fits4 (put W c) := fun k => by
  unfold put
  split
  · exact Nat.or_lt_two_pow (n := 64) (h k) (Nat.pow_lt_pow_right (by omega) (by omega))
  · exact h k
theorem none4_fits : Fits4 none4 := fun _ => by unfold none4; omega
theorem span_fits {W : Nat → Nat} (h : Fits4 W) (lo : Nat) : ∀ n, Fits4 (span W lo n)
  | 0 => h
  | n + 1 => put_fits (span_fits h lo n) _

/-- Four words in a block. -/
structure Arr (w : World) (g : Nat) (W : Nat → Nat) : Prop where
  c : ∀ k, k < 4 → w.cell? ⟨g, k, none⟩ = some (.int .u64 (W k : Int))
  f : ∀ k, w.frozen? ⟨g, k, none⟩ = false
theorem Arr.lt {w : World} {g : Nat} {W : Nat → Nat} (h : Arr w g W) : g < w.heap.size := World.block_lt_of_cell? w _ (h.c 0 (by omega))
theorem Arr.frame {w w' : World} {g : Nat} {W : Nat → Nat} (h : Arr w g W) (hb : w'.heap[g]? = w.heap[g]?) : Arr w' g W := ⟨fun k hk => (World.cell?_of_block (a := ⟨g, k, none⟩) hb).trans (h.c k hk), fun k => (World.frozen?_of_block (a := ⟨g, k, none⟩) hb).trans (h.f k)⟩
theorem Arr.grown {w w' : World} {g : Nat} {W : Nat → Nat} (h : Arr w g W) (hb : Below w.heap.size w w') : Arr w' g W := h.frame (hb.block g h.lt)
theorem Arr.drew {w : World} {g : Nat} {W : Nat → Nat} (h : Arr w g W) : Arr w.drew g W := ⟨h.c, h.f⟩
theorem Arr.put {w : World} {g : Nat} {W W' : Nat → Nat} (h : Arr w g W) (k x : Nat) (hk : k < 4) (e : ∀ j, j < 4 → W' j = if j = k then x else W j) : Arr (w.setCell ⟨g, k, none⟩ (.int .u64 (x : Int))) g W' := by
  refine ⟨fun j hj => ?_, fun j => by rw [World.frozen?_setCell]; exact h.f j⟩
  rw [e j hj]
  by_cases q : j = k
  · subst q; rw [if_pos rfl]; exact World.cell?_setCell_same _ _ _ (h.c j hk)
  · rw [if_neg q]; exact (World.cell?_setCell_other _ _ _ _ (by simp)).trans (h.c j hj)
theorem Arr.other {w : World} {g g' k : Nat} {W : Nat → Nat} {v : Value} (h : Arr w g W) (hne : g ≠ g') : Arr (w.setCell ⟨g', k, none⟩ v) g W := h.frame (Below.heap_setCell _ _ _ g hne)
theorem Arr.of {w : World} {g : Nat} {W : Nat → Nat} {ty : TypeId} (h : w.heap[g]? = some (.cells #[.int .u64 (W 0 : Int), .int .u64 (W 1 : Int), .int .u64 (W 2 : Int), .int .u64 (W 3 : Int)] ty (0, 0))) : Arr w g W := by
  refine ⟨fun k hk => ?_, fun k => by rw [World.frozen?, h]; simp⟩
  rw [cell_of_row _ _ _ _ _ _ h]
  match k, hk with
  | 0, _ => rfl
  | 1, _ => rfl
  | 2, _ => rfl
  | 3, _ => rfl
theorem Tryd.size4 : (Tryd.prog.info? 57).map (·.size) = some 4 := by kernel_rfl
def zero4 : Array Value := #[.int .u64 0, .int .u64 0, .int .u64 0, .int .u64 0]

set_option maxRecDepth 100000 in
set_option maxHeartbeats 2000000 in
theorem others_any (W : Nat → Nat) (hW : Fits4 W) (w : World) :
    Calls Tryd.prog 117 #[set4 W] w fun e w' => e = .returned (set4 (neg W)) ∧ Below w.heap.size w w' := by
  have h0 := xor_all _ (hW 0)
  have h1 := xor_all _ (hW 1)
  have h2 := xor_all _ (hW 2)
  have h3 := xor_all _ (hW 3)
  clear hW
  unfold set4 neg
  generalize W 0 = a at *
  generalize W 1 = b at *
  generalize W 2 = c at *
  generalize W 3 = d at *
  go_enter Tryd.func117, Tryd.ntmps117
  go_wp2
  refine wp_loop_rounds 5 ?_
  iterate 5 (rw [rounds_succ]; go_wp2)
  have hh := heap_alloc_new (w.alloc (.cells #[.int .u64 ((18446744073709551615 - a : Nat) : Int), .int .u64 ((18446744073709551615 - b : Nat) : Int), .int .u64 ((18446744073709551615 - c : Nat) : Int), .int .u64 ((18446744073709551615 - d : Nat) : Int)] 57)) (.cells #[.int .u64 ((18446744073709551615 - a : Nat) : Int), .int .u64 ((18446744073709551615 - b : Nat) : Int), .int .u64 ((18446744073709551615 - c : Nat) : Int), .int .u64 ((18446744073709551615 - d : Nat) : Int)] 57)
  rw [show (w.alloc (.cells #[.int .u64 ((18446744073709551615 - a : Nat) : Int), .int .u64 ((18446744073709551615 - b : Nat) : Int), .int .u64 ((18446744073709551615 - c : Nat) : Int), .int .u64 ((18446744073709551615 - d : Nat) : Int)] 57)).heap.size = w.heap.size + 1 by simp] at hh
  refine bodyPost_ret (results_cell_row rfl _ _ (w.heap.size + 1) 57 _ (0, 0) _ rfl hh Tryd.underlying57 rfl Tryd.size4) rfl ⟨rfl, ((Below.refl _ _).alloc (Nat.le_refl _) _).alloc (by simp) _⟩

/-- What union's loop keeps. -/
structure UInv (w : World) (g : Nat) (V W : Nat → Nat) (k : Nat) (wr : World) : Prop where
  below : Below w.heap.size w wr
  ge : w.heap.size ≤ g
  a : Arr wr g (fun j => if j < k then V j ||| W j else V j)
  b : Arr wr (g + 1) W
  r : wr.heap[g + 2]? = some (.cells zero4 57 (0, 0))
theorem UInv.start (w : World) (V W : Nat → Nat) : UInv w w.heap.size V W 0 (((w.alloc (.cells #[.int .u64 (V 0 : Int), .int .u64 (V 1 : Int), .int .u64 (V 2 : Int), .int .u64 (V 3 : Int)] 57)).alloc (.cells #[.int .u64 (W 0 : Int), .int .u64 (W 1 : Int), .int .u64 (W 2 : Int), .int .u64 (W 3 : Int)] 57)).alloc (.cells zero4 57)) := by
  have e1 := heap_alloc_new w (.cells #[.int .u64 (V 0 : Int), .int .u64 (V 1 : Int), .int .u64 (V 2 : Int), .int .u64 (V 3 : Int)] 57)
  have b1 : Below w.heap.size w (w.alloc (.cells #[.int .u64 (V 0 : Int), .int .u64 (V 1 : Int), .int .u64 (V 2 : Int), .int .u64 (V 3 : Int)] 57)) := (Below.refl _ _).alloc (Nat.le_refl _) _
  have z1 : (w.alloc (.cells #[.int .u64 (V 0 : Int), .int .u64 (V 1 : Int), .int .u64 (V 2 : Int), .int .u64 (V 3 : Int)] 57)).heap.size = w.heap.size + 1 := by simp
  generalize w.alloc (.cells #[.int .u64 (V 0 : Int), .int .u64 (V 1 : Int), .int .u64 (V 2 : Int), .int .u64 (V 3 : Int)] 57) = w1 at *
  have e2 := heap_alloc_new w1 (.cells #[.int .u64 (W 0 : Int), .int .u64 (W 1 : Int), .int .u64 (W 2 : Int), .int .u64 (W 3 : Int)] 57)
  have e3 := heap_alloc_old w1 (.cells #[.int .u64 (W 0 : Int), .int .u64 (W 1 : Int), .int .u64 (W 2 : Int), .int .u64 (W 3 : Int)] 57) (r := w.heap.size) (by omega)
  have b2 := b1.alloc (by omega) (.cells #[.int .u64 (W 0 : Int), .int .u64 (W 1 : Int), .int .u64 (W 2 : Int), .int .u64 (W 3 : Int)] 57)
  have z2 : (w1.alloc (.cells #[.int .u64 (W 0 : Int), .int .u64 (W 1 : Int), .int .u64 (W 2 : Int), .int .u64 (W 3 : Int)] 57)).heap.size = w.heap.size + 2 := by simp; omega
  rw [z1] at e2
  generalize w1.alloc (.cells #[.int .u64 (W 0 : Int), .int .u64 (W 1 : Int), .int .u64 (W 2 : Int), .int .u64 (W 3 : Int)] 57) = w2 at *
  have e4 := heap_alloc_new w2 (.cells zero4 57)
  rw [z2] at e4
  exact ⟨b2.alloc (by omega) _, Nat.le_refl _, (Arr.of (W := V) (e3.trans e1)).frame (heap_alloc_old w2 _ (by omega)), (Arr.of (W := W) e2).frame (heap_alloc_old w2 _ (by omega)), e4⟩
theorem UInv.next {w wr : World} {g k : Nat} {V W : Nat → Nat} (h : UInv w g V W k wr) (hk : k < 4) : UInv w g V W (k + 1) (wr.drew.setCell ⟨g, k, none⟩ (.int .u64 ((V k ||| W k : Nat) : Int))) := by
  refine ⟨(h.below.drew).setCell h.ge _, h.ge, h.a.drew.put _ _ hk (fun j _ => ?_), h.b.drew.other (by omega), (Below.heap_setCell _ _ _ _ (by simp)).trans h.r⟩
  show (if j < k + 1 then _ else _) = _
  by_cases e : j = k
  · subst e; simp
  · rw [if_neg e]
    by_cases q : j < k
    · rw [if_pos (by omega), if_pos q]
    · rw [if_neg (by omega), if_neg q]
set_option maxRecDepth 100000 in
set_option maxHeartbeats 2000000 in
theorem union_any (V W : Nat → Nat) (hV : Fits4 V) (hW : Fits4 W) (w : World) :
    Calls Tryd.prog 127 #[set4 V, set4 W] w fun e w' => e = .returned (set4 (join V W)) ∧ Below w.heap.size w w' := by
  have E := Lib.hid (fun k => or_nat _ _ (hV k) (hW k))
  clear hW hV
  have IN := Lib.hid (UInv.start w V W)
  unfold set4 join
  go_enter Tryd.func127, Tryd.ntmps127
  go_wp2
  unfold zero4 at IN
  generalize ((w.alloc (.cells #[.int .u64 (V 0 : Int), .int .u64 (V 1 : Int), .int .u64 (V 2 : Int), .int .u64 (V 3 : Int)] 57)).alloc (.cells #[.int .u64 (W 0 : Int), .int .u64 (W 1 : Int), .int .u64 (W 2 : Int), .int .u64 (W 3 : Int)] 57)).alloc (.cells #[.int .u64 0, .int .u64 0, .int .u64 0, .int .u64 0] 57) = w0 at IN ⊢
  go_loopw [6] (fun i wr => ∃ k : Nat, k ≤ 4 ∧ i = .int .i64 (k : Int) ∧ Hid (UInv w w.heap.size V W k wr)) (fun i _ => 4 - (intOf i).toNat)
  case atStart => exact ⟨0, by omega, rfl, IN⟩
  case round =>
    clear IN
    obtain ⟨k, hk, rfl, HI⟩ := hrel
    by_cases h4 : k < 4
    · have c1 := HI.out.a.c k h4
      have c2 := HI.out.b.c k h4
      have f1 := HI.out.a.f k
      rw [if_neg (by omega)] at c1
      have ek := E.out k
      have hkz : (k : Int) < 4 := by omega
      have NX := Lib.hid (HI.out.next h4)
      clear HI
      go_wp2
      go_still_tail 8, (by kernel_rfl)
      change wpList _ _ _ _ _ wr.drew
      go_wp2
      go_roundw
      case rel => exact ⟨k + 1, by omega, by go_num, NX⟩
      case measure => simp [intOf]; omega
    · obtain rfl : k = 4 := by omega
      have c0 := HI.out.a.c 0 (by omega)
      have c1 := HI.out.a.c 1 (by omega)
      have c2 := HI.out.a.c 2 (by omega)
      have c3 := HI.out.a.c 3 (by omega)
      rw [if_pos (by omega)] at c0 c1 c2 c3
      have B := Lib.hid HI.out.below
      have R := Lib.hid HI.out.r
      have e4 : (((4 : Nat) : Int) < 4) = False := by simp
      clear HI
      go_wp2_with (refine wpList_store_row rfl 57 (.tmp 4) (.tmp 18) rfl (w.heap.size + 2) #[.int .u64 ((V 0 ||| W 0 : Nat) : Int), .int .u64 ((V 1 ||| W 1 : Nat) : Int), .int .u64 ((V 2 ||| W 2 : Nat) : Int), .int .u64 ((V 3 ||| W 3 : Nat) : Int)] rfl rfl 57 _ R.out Tryd.size4 rfl (by simp [Value.oneCell']) ?_)
      refine bodyPost_ret (results_cell_row rfl _ _ (w.heap.size + 2) 57 _ (0, 0) _ rfl (setRow_heap _ _ _ _ _ _ R.out) Tryd.underlying57 rfl Tryd.size4) rfl ⟨rfl, ?_⟩
      have b := B.out
      exact ⟨b.os, b.tape, b.output, by rw [setRow_size]; exact b.size, fun q hq => (setRow_other _ _ _ _ (by omega)).trans (b.block q hq)⟩

/-- What span's loop keeps. -/
structure SInv (w : World) (lo k : Nat) (wr : World) : Prop where
  below : Below w.heap.size w wr
  a : Arr wr (w.heap.size + 1) (span none4 lo k)
  r : wr.heap[w.heap.size]? = some (.cells zero4 57 (0, 0))
theorem SInv.start (w : World) (lo : Nat) : SInv w lo 0 ((w.alloc (.cells zero4 57)).alloc (.cells zero4 57)) := by
  have e1 := heap_alloc_new w (.cells zero4 57)
  have b1 : Below w.heap.size w (w.alloc (.cells zero4 57)) := (Below.refl _ _).alloc (Nat.le_refl _) _
  have z1 : (w.alloc (.cells zero4 57)).heap.size = w.heap.size + 1 := by simp
  generalize w.alloc (.cells zero4 57) = w1 at *
  have e2 := heap_alloc_new w1 (.cells zero4 57)
  rw [z1] at e2
  exact ⟨b1.alloc (by omega) _, Arr.of (W := none4) e2, (heap_alloc_old w1 _ (by omega)).trans e1⟩
theorem SInv.next {w wr : World} {lo k : Nat} (h : SInv w lo k wr) (hc : lo + k < 256) : SInv w lo (k + 1) (wr.drew.setCell ⟨w.heap.size + 1, (lo + k) / 64, none⟩ (.int .u64 ((span none4 lo k ((lo + k) / 64) ||| 2 ^ ((lo + k) % 64) : Nat) : Int))) := by
  refine ⟨(h.below.drew).setCell (by simp) _, h.a.drew.put _ _ (by omega) (fun j _ => ?_), (Below.heap_setCell _ _ _ _ (by simp)).trans h.r⟩
  show put (span none4 lo k) (lo + k) j = _
  unfold put
  by_cases e : j = (lo + k) / 64
  · rw [if_pos e, if_pos e, e]
  · rw [if_neg e, if_neg e]
theorem or_wrap (x c : Nat) (h : x < 18446744073709551616) : bits .or .u64 (x : Int) (IntKind.u64.wrap (2 ^ (c % 64))) = ((x ||| 2 ^ (c % 64) : Nat) : Int) := by
  have h2 : 2 ^ (c % 64) < 18446744073709551616 := Nat.pow_lt_pow_right (a := 2) (n := 64) (by omega) (by omega)
  have e : IntKind.u64.wrap (2 ^ (c % 64)) = ((2 ^ (c % 64) : Nat) : Int) := by
    have e2 : ((2 : Int) ^ (c % 64)) = ((2 ^ (c % 64) : Nat) : Int) := by simp
    rw [e2]
    generalize 2 ^ (c % 64) = q at *
    rw [IntKind.wrap_u64]; omega
  rw [e]
  exact or_nat x _ h h2
set_option maxRecDepth 100000 in
set_option maxHeartbeats 2000000 in
theorem span_any (lo hi : Nat) (hl : lo < 256) (hh : hi < 256) (w : World) :
    Calls Tryd.prog 119 #[.int .u8 (lo : Int), .int .u8 (hi : Int)] w fun e w' => e = .returned (set4 (span none4 lo (hi + 1 - lo))) ∧ Below w.heap.size w w' := by
  have IN := Lib.hid (SInv.start w lo)
  go_enter Tryd.func119, Tryd.ntmps119
  go_wp2
  unfold zero4 at IN
  generalize ((w.alloc (.cells #[.int .u64 0, .int .u64 0, .int .u64 0, .int .u64 0] 57)).alloc (.cells #[.int .u64 0, .int .u64 0, .int .u64 0, .int .u64 0] 57)) = w0 at IN ⊢
  go_loopw [6] (fun i wr => ∃ k : Nat, k ≤ hi + 1 - lo ∧ i = .int .i64 ((lo + k : Nat) : Int) ∧ Hid (SInv w lo k wr)) (fun i _ => hi + 1 - (intOf i).toNat)
  case atStart => exact ⟨0, by omega, rfl, IN⟩
  case round =>
    clear IN
    obtain ⟨k, hk, rfl, HI⟩ := hrel
    by_cases h4 : k < hi + 1 - lo
    · obtain ⟨c, hc⟩ : ∃ c, lo + k = c := ⟨_, rfl⟩
      have NX := HI.out.next (by omega)
      have c1 := HI.out.a.c (c / 64) (by omega)
      have f1 := HI.out.a.f (c / 64)
      rw [hc] at NX ⊢
      have EK : Hid (bits .or .u64 (span none4 lo k (c / 64) : Int) (IntKind.u64.wrap (2 ^ (c % 64))) = ((span none4 lo k (c / 64) ||| 2 ^ (c % 64) : Nat) : Int)) := or_wrap _ c (span_fits none4_fits lo k _)
      have NX := Lib.hid NX
      have hkz : (c : Int) ≤ (hi : Int) := by omega
      have HC := Lib.hid hc
      have b1 : c < 256 := by omega
      clear HI hc
      generalize span none4 lo k (c / 64) = x at *
      have q1 : IntKind.i64.wrap ((c : Int) / 64) = (c : Int) / 64 := by rw [IntKind.wrap_i64]; omega
      have q2 : IntKind.i64.wrap ((c : Int) % 64) = (c : Int) % 64 := by rw [IntKind.wrap_i64]; omega
      have q9 : (c : Int).tmod 64 = (c : Int) % 64 := Int.tmod_eq_emod_of_nonneg (by omega)
      have q3 : (c : Int) / 64 < 4 := by omega
      have q4 : (0 : Int) ≤ (c : Int) / 64 := by omega
      have q5 : ((c : Int) / 64).toNat = c / 64 := by omega
      have q6 : (0 : Int) ≤ (c : Int) % 64 := by omega
      have q7 : ((c : Int) % 64).toNat = c % 64 := by omega
      have q8 : (c : Int) % 64 < 64 := by omega
      go_wp2
      go_still_tail 9, (by kernel_rfl)
      change wpList _ _ _ _ _ wr.drew
      rw [EK.out]
      clear q1 q2 q3 q4 q5 q6 q7 q8 q9
      go_wp2
      go_roundw
      case rel => exact ⟨k + 1, by omega, by have := HC.out; go_num, NX⟩
      case measure => have := HC.out; simp [intOf]; omega
    · obtain rfl : k = hi + 1 - lo := by omega
      have hkz : ¬ ((lo + (hi + 1 - lo) : Nat) : Int) ≤ (hi : Int) := by omega
      have c0 := HI.out.a.c 0 (by omega)
      have c1 := HI.out.a.c 1 (by omega)
      have c2 := HI.out.a.c 2 (by omega)
      have c3 := HI.out.a.c 3 (by omega)
      have B := Lib.hid HI.out.below
      have R := Lib.hid HI.out.r
      clear HI
      obtain ⟨U, hU⟩ : ∃ U, span none4 lo (hi + 1 - lo) = U := ⟨_, rfl⟩
      rw [hU] at c0 c1 c2 c3
      have HU := Lib.hid hU
      clear hU
      generalize lo + (hi + 1 - lo) = c at *
      go_wp2_with (refine wpList_store_row rfl 57 (.tmp 4) (.tmp 24) rfl w.heap.size #[.int .u64 (U 0 : Int), .int .u64 (U 1 : Int), .int .u64 (U 2 : Int), .int .u64 (U 3 : Int)] rfl rfl 57 _ R.out Tryd.size4 rfl (by simp [Value.oneCell']) ?_)
      refine bodyPost_ret (results_cell_row rfl _ _ w.heap.size 57 _ (0, 0) _ rfl (setRow_heap _ _ _ _ _ _ R.out) Tryd.underlying57 rfl Tryd.size4) rfl ⟨by rw [HU.out]; rfl, ?_⟩
      have b := B.out
      exact ⟨b.os, b.tape, b.output, by rw [setRow_size]; exact b.size, fun q hq => (setRow_other _ _ _ _ (by omega)).trans (b.block q hq)⟩

end Go.Proofs.YtjmojjjgifkkiaaDoor
namespace Go.Proofs.YtjmojjjgifkkiaaDoor
open Go.RowKit

theorem add0 (g j : Nat) : (⟨g, 0, none⟩ : Addr).add j = ⟨g, j, none⟩ := by unfold Addr.add; split <;> simp_all
/-- The value v is the tree t; its kids lie in blocks that Q tells. -/
inductive RxIn (Q : Nat → Prop) (w : World) : Value → Rx → Prop where
  | node (op : Int) (a b c d : Nat) (ks : List Rx) (A : Option Addr) (cap blk off : Nat) (V : Nat → Nat → Value) (hcap : ks.length ≤ cap) (hA : A = none → cap = 0) (hp : 0 < ks.length → A = some ⟨blk, off, none⟩) (hq : 0 < ks.length → Q blk)
      (hc : ∀ j i, j < ks.length → i < 6 → w.cell? ⟨blk, off + j * 6 + i, none⟩ = some (V j i)) (hk : ∀ j, j < ks.length → RxIn Q w (val6 (V j)) (Rx.nth ks j)) :
      RxIn Q w (.agg #[.int .i64 op, .int .u64 (a : Int), .int .u64 (b : Int), .int .u64 (c : Int), .int .u64 (d : Int), .slice A ks.length cap]) (.mk op a b c d ks)
theorem RxIn.is {Q : Nat → Prop} {w : World} {v : Value} {t : Rx} (h : RxIn Q w v t) : IsRx w v t := by
  induction h with
  | node op a b c d ks A cap blk off V hcap hA hp hq hc hk ih => exact .node op a b c d ks A cap blk off V hcap hA hp hc ih
theorem RxIn.frame {Q Q' : Nat → Prop} {w w' : World} {v : Value} {t : Rx} (h : RxIn Q w v t) (hb : ∀ b, Q b → w'.heap[b]? = w.heap[b]?) (hQ : ∀ b, b < w.heap.size → Q b → Q' b) : RxIn Q' w' v t := by
  induction h with
  | node op a b c d ks A cap blk off V hcap hA hp hq hc hk ih =>
    exact .node op a b c d ks A cap blk off V hcap hA hp (fun h0 => hQ _ (World.block_lt_of_cell? w _ (hc 0 0 h0 (by omega))) (hq h0)) (fun j i hj hi => (World.cell?_of_block (hb blk (hq (by omega)))).trans (hc j i hj hi)) (fun j hj => ih j hj)
/-- A node without kids. -/
theorem RxIn.leaf (Q : Nat → Prop) (w : World) (op : Int) (a b c d : Nat) : RxIn Q w (.agg #[.int .i64 op, .int .u64 (a : Int), .int .u64 (b : Int), .int .u64 (c : Int), .int .u64 (d : Int), .slice none 0 0]) (.mk op a b c d []) :=
  .node op a b c d [] none 0 0 0 (fun _ _ => Go.undef) (Nat.le_refl _) (fun _ => rfl) (fun h => absurd h (by simp)) (fun h => absurd h (by simp)) (fun _ _ h => absurd h (by simp)) (fun _ h => absurd h (by simp))
/-- What a tree's value looks like. -/
theorem RxIn.form {Q : Nat → Prop} {w : World} {v : Value} {t : Rx} (h : RxIn Q w v t) : ∃ op a b c d A n cap, v = .agg #[.int .i64 op, .int .u64 ((a : Nat) : Int), .int .u64 ((b : Nat) : Int), .int .u64 ((c : Nat) : Int), .int .u64 ((d : Nat) : Int), .slice A n cap] := by
  cases h with
  | node op a b c d ks A cap blk off V hcap hA hp hq hc hk => exact ⟨op, a, b, c, d, A, ks.length, cap, rfl⟩

def cells6 (V : Nat → Value) : List Value := [V 0, V 1, V 2, V 3, V 4, V 5]
def rc (L : List (Nat → Value)) : List Value := L.flatMap cells6
theorem rc_len : ∀ L : List (Nat → Value), (rc L).length = L.length * 6
  | [] => rfl
  | x :: r => by have := rc_len r; simp only [rc, List.flatMap_cons, List.length_append, List.length_cons] at this ⊢; rw [this]; simp [cells6]; omega
theorem rc_app (L M : List (Nat → Value)) : rc (L ++ M) = rc L ++ rc M := by simp [rc]
def row0 : Nat → Value := fun _ => Go.undef
def nthV (L : List (Nat → Value)) (j : Nat) : Nat → Value := L.getD j row0
theorem rc_get : ∀ (L : List (Nat → Value)) (j i : Nat), j < L.length → i < 6 → (rc L)[j * 6 + i]? = some (nthV L j i)
  | x :: r, 0, i, _, hi => by
    show (cells6 x ++ rc r)[0 * 6 + i]? = _
    rw [List.getElem?_append_left (by simp [cells6]; omega)]
    match i, hi with
    | 0, _ => rfl
    | 1, _ => rfl
    | 2, _ => rfl
    | 3, _ => rfl
    | 4, _ => rfl
    | 5, _ => rfl
  | x :: r, j + 1, i, hj, hi => by
    show (cells6 x ++ rc r)[(j + 1) * 6 + i]? = _
    rw [List.getElem?_append_right (by simp [cells6]; omega)]
    have := rc_get r j i (by simpa using hj) hi
    rw [show (j + 1) * 6 + i - (cells6 x).length = j * 6 + i by simp [cells6]; omega, this]
    rfl
theorem nthV_left {L : List (Nat → Value)} {x : Nat → Value} {j : Nat} (h : j < L.length) : nthV (L ++ [x]) j = nthV L j := by simp [nthV, List.getD, List.getElem?_append_left h]
theorem nthV_last (L : List (Nat → Value)) (x : Nat → Value) : nthV (L ++ [x]) L.length = x := by simp [nthV, List.getD]
theorem Rx.nth_left {L : List Rx} {x : Rx} {j : Nat} (h : j < L.length) : Rx.nth (L ++ [x]) j = Rx.nth L j := by simp [Rx.nth, List.getD, List.getElem?_append_left h]
theorem Rx.nth_last (L : List Rx) (x : Rx) : Rx.nth (L ++ [x]) L.length = x := by simp [Rx.nth, List.getD]

theorem Tryd.infoR : (Tryd.prog.info? 60).map (fun i => (i.zero, i.size, i.bytes)) = some (some (.agg #[.int .i64 0, .int .u64 0, .int .u64 0, .int .u64 0, .int .u64 0, .slice none 0 0]), 6, 64) := by kernel_rfl
/-- A slice of trees that one owns, in blocks from base on. -/
def Kids (base : Nat) (w : World) (v : Value) (ts : List Rx) : Prop :=
  ∃ L : List (Nat → Value), L.length = ts.length ∧ w.ownsRow base 60 6 v ts.length (rc L) ∧ ∀ j, j < ts.length → RxIn (fun b => base ≤ b ∧ b < w.heap.size ∧ v.ownBlock ≠ some b) w (val6 (nthV L j)) (Rx.nth ts j)
theorem Kids.nil (base : Nat) (w : World) : Kids base w (.slice none 0 0) [] := ⟨[], rfl, World.ownsRow_nil _ _ _ _, fun _ h => absurd h (by simp)⟩
theorem Kids.frame {base : Nat} {w w' : World} {v : Value} {ts : List Rx} (h : Kids base w v ts) (hs : w.heap.size ≤ w'.heap.size) (hb : ∀ b, base ≤ b → b < w.heap.size → w'.heap[b]? = w.heap[b]?) : Kids base w' v ts := by
  obtain ⟨L, h1, h2, h3⟩ := h
  refine ⟨L, h1, ⟨h2.1, ?_⟩, fun j hj => (h3 j hj).frame (fun b hq => hb b hq.1 hq.2.1) (fun b _ hq => ⟨hq.1, by omega, hq.2.2⟩)⟩
  rcases h2.2 with hn | ⟨g, cap, cur, e, hbg, hg, rest⟩
  · exact .inl hn
  · exact .inr ⟨g, cap, cur, e, hbg, (hb g hbg (Array.getElem?_eq_some_iff.1 hg).1).trans hg, rest⟩
theorem Kids.form {base : Nat} {w : World} {v : Value} {ts : List Rx} (h : Kids base w v ts) : ∃ A cap, v = .slice A ts.length cap ∧ (A = none → cap = 0) ∧ ts.length ≤ cap := by
  obtain ⟨L, h1, h2, h3⟩ := h
  rcases h2.2 with ⟨e, h0⟩ | ⟨g, cap, cur, e, hbg, hg, hc, rest⟩
  · exact ⟨none, 0, by rw [e, h0], fun _ => rfl, by omega⟩
  · exact ⟨_, cap, e, (fun e => by cases e), hc⟩
theorem Kids.low {base : Nat} {w : World} {v : Value} {ts : List Rx} (h : Kids base w v ts) : ∀ k, v.ownBlock = some k → base ≤ k ∧ k < w.heap.size := by
  obtain ⟨L, h1, h2, h3⟩ := h
  exact h2.lt
/-- Such a slice as a node's kids. -/
theorem Kids.node {base : Nat} {w : World} {A : Option Addr} {n cap : Nat} {ts : List Rx} (h : Kids base w (.slice A n cap) ts) (op : Int) : n = ts.length ∧ RxIn (fun b => base ≤ b) w (.agg #[.int .i64 op, .int .u64 0, .int .u64 0, .int .u64 0, .int .u64 0, .slice A n cap]) (.mk op 0 0 0 0 ts) := by
  obtain ⟨L, h1, h2, h3⟩ := h
  rcases h2.2 with ⟨e, h0⟩ | ⟨g, cap', cur, e, hbg, hg, hc, rest⟩
  · injection e with e1 e2 e3
    subst e1 e2 e3
    have : ts = [] := List.eq_nil_of_length_eq_zero h0
    subst this
    exact ⟨rfl, RxIn.leaf _ _ _ 0 0 0 0⟩
  · injection e with e1 e2 e3
    subst e1 e2 e3
    refine ⟨rfl, .node op 0 0 0 0 ts _ cap g 0 (nthV L) hc (fun e => by cases e) (fun _ => rfl) (fun _ => hbg) (fun j i hj hi => ?_) (fun j hj => (h3 j hj).frame (fun _ _ => rfl) (fun _ _ hq => hq.1))⟩
    have := h2.cells (g := g) rfl (j * 6 + i) _ (rc_get L j i (by omega) hi)
    rw [add0] at this; simpa using this
/-- Its only kid. -/
theorem Kids.one {base : Nat} {w : World} {A : Option Addr} {n cap : Nat} {t : Rx} (h : Kids base w (.slice A n cap) [t]) : n = 1 ∧ ∃ g V, A = some ⟨g, 0, none⟩ ∧ (∀ i, i < 6 → w.cell? ⟨g, i, none⟩ = some (V i)) ∧ RxIn (fun b => base ≤ b) w (val6 V) t := by
  obtain ⟨L, h1, h2, h3⟩ := h
  rcases h2.2 with ⟨e, h0⟩ | ⟨g, cap', cur, e, hbg, hg, hc, rest⟩
  · simp at h0
  · injection e with e1 e2 e3
    subst e1 e2 e3
    refine ⟨rfl, g, nthV L 0, rfl, fun i hi => ?_, (h3 0 (by simp)).frame (fun _ _ => rfl) (fun _ _ hq => hq.1)⟩
    have := h2.cells (g := g) rfl (0 * 6 + i) _ (rc_get L 0 i (by simp at h1; omega) hi)
    rw [add0] at this; simpa using this
/-- One tree more. -/
theorem run_appR {base : Nat} {w : World} {v : Value} {ts : List Rx} (ty : TypeId) (h : Kids base w v ts) (g : Nat) (V : Nat → Value) (t : Rx) (hV : ∀ i, i < 6 → w.cell? ⟨g, i, none⟩ = some (V i)) (h1 : ∀ i, i < 6 → (V i).oneCell' = true)
    (ht : RxIn (fun b => base ≤ b ∧ b < w.heap.size ∧ v.ownBlock ≠ some b) w (val6 V) t) (hn : ts.length ≤ 1000) (hbase : base ≤ w.heap.size) :
    ∃ v' w', (Builtin.append_ #[58, 58] ty #[v, .slice (some ⟨g, 0, none⟩) 1 1]).run Tryd.prog w = .ok v' w' ∧ Kids base w' v' (ts ++ [t]) ∧ w.grownBy w' v.ownBlock := by
  obtain ⟨L, hL, hown, hk⟩ := h
  obtain ⟨i0, hi, hz0, hz1, hz2⟩ := info_parts Tryd.infoR
  obtain ⟨v', w', hr, h2, h3, h4, h5⟩ := run_append_own_at (P := Tryd.prog) w base 58 ty 60 i0 _ 6 64 Tryd.underlying58 hi hz0 hz1 hz2 rfl (by decide) v ts.length _ hown ⟨g, 0, none⟩ 1 1 (cells6 V) rfl
    (by
      intro j u hj
      have hj6 : j < 6 := by
        rcases Nat.lt_or_ge j 6 with h | h
        · exact h
        · rw [List.getElem?_eq_none (by simpa [cells6] using h)] at hj; cases hj
      rw [add0, hV j hj6, ← hj]
      match j, hj6 with
      | 0, _ => rfl
      | 1, _ => rfl
      | 2, _ => rfl
      | 3, _ => rfl
      | 4, _ => rfl
      | 5, _ => rfl)
    (by
      intro u hu
      simp only [cells6, List.mem_cons, List.not_mem_nil, or_false] at hu
      rcases hu with rfl | rfl | rfl | rfl | rfl | rfl <;> exact h1 _ (by omega))
    (by unfold maxLen; omega) (by omega) hbase
  refine ⟨v', w', hr, ⟨L ++ [V], by simp [hL], ?_, fun j hj => ?_⟩, h3⟩
  · rw [List.length_append, rc_app]
    have : rc [V] = cells6 V := by simp [rc]
    rw [this]
    exact h2
  · have hfr : ∀ b, (base ≤ b ∧ b < w.heap.size ∧ v.ownBlock ≠ some b) → w'.heap[b]? = w.heap[b]? := fun b hq => h3.block b hq.2.1 (Ne.symm hq.2.2)
    have hQ : ∀ b, b < w.heap.size → (base ≤ b ∧ b < w.heap.size ∧ v.ownBlock ≠ some b) → (base ≤ b ∧ b < w'.heap.size ∧ v'.ownBlock ≠ some b) := fun b _ hq => ⟨hq.1, by have := h3.size; omega, by
      rcases h5 with h5 | h5
      · rw [h5]; exact hq.2.2
      · rw [h5]; intro e; injection e with e; omega⟩
    rw [List.length_append, List.length_singleton] at hj
    rcases Nat.lt_or_ge j ts.length with hlt | hge
    · rw [nthV_left (by omega), Rx.nth_left hlt]
      exact (hk j hlt).frame hfr hQ
    · obtain rfl : j = ts.length := by omega
      rw [Rx.nth_last, ← hL, nthV_last]
      exact ht.frame hfr hQ

end Go.Proofs.YtjmojjjgifkkiaaDoor
