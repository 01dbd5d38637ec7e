/-
  Plain mathematics of chapter 1 (no Go in it): a number laid in groups of seven bits ('put'), bytes read as a number ('dec'), a word as eight bytes ('word'). No conditions.
  Slices of bytes in a walk: a slice that a call has made, a slice that reads as a list of bytes, as a string, cut, appended to. No conditions; of the program only the numbers of its types.
  Plain mathematics of chapter 4 (no Go in it but the order of strings): labels, names, values, label sets, their bytes, what bytes are read as, projections. No conditions.
  Trees of chapter 5 as mathematics, and how they lie in memory; what the reference's IsRex does. Conditions: lengths fit.
-/
import Derived.Test.YtlfcjjlgkcfkdaaGreatDoorProg
import Derived.Below
import Derived.WalkKit
import Derived.WalkSpells
import Derived.WalkLawsBesides
import Derived.Lib.Hide
import Derived.Lib.AppendStr
import Derived.Laws.BytesArg
import Derived.Laws.AppendOwnNone
import Derived.KernelRfl
import Derived.Lib.Bytealg
import Derived.BigQuiet
import Derived.Lib.QuietBelow
import Derived.Laws.StructEq
import Derived.Deep.RegionHeld3
namespace Go.Proofs.YtlfcjjlgkcfkdaaGreatDoor
namespace Vm
/-- A number in groups of seven bits, with fuel. -/
def putF : Nat → Nat → List Nat
  | 0, n => [n]
  | f + 1, n => if n < 128 then [n] else (n % 128 + 128) :: putF f (n / 128)
def put (n : Nat) : List Nat := putF 9 n

/-- How large the rest may be after k groups. -/
def lim (k : Nat) : Nat := 2 ^ (64 - 7 * k)
end Vm

end Go.Proofs.YtlfcjjlgkcfkdaaGreatDoor
namespace Go.Proofs.YtlfcjjlgkcfkdaaGreatDoor
open Go.RowKit

/-- A text's bytes. -/
def textL (s : ByteArray) : List Nat := s.data.toList.map UInt8.toNat
theorem textL_length (s : ByteArray) : (textL s).length = s.size := by rw [textL, List.length_map, Array.length_toList]; rfl
end Go.Proofs.YtlfcjjlgkcfkdaaGreatDoor
namespace Go.Proofs.YtlfcjjlgkcfkdaaGreatDoor
namespace La
abbrev Lab := ByteArray × ByteArray
def no : Lab := (⟨#[]⟩, ⟨#[]⟩)
def nth (ls : List Lab) (j : Nat) : Lab := ls.getD j no
theorem nth_eq {ls : List Lab} {j : Nat} (h : j < ls.length) : nth ls j = ls[j] := by simp [nth, List.getD, List.getElem?_eq_getElem h]
theorem nth_mem {ls : List Lab} {j : Nat} (h : j < ls.length) : nth ls j ∈ ls := by rw [nth_eq h]; exact List.getElem_mem h
theorem ext_nth {a b : List Lab} (hl : a.length = b.length) (h : ∀ j, j < a.length → nth a j = nth b j) : a = b := by
  refine List.ext_getElem hl fun j h1 h2 => ?_
  have := h j h1
  rwa [nth_eq h1, nth_eq h2] at this

def lt (a b : ByteArray) : Bool := Op.bytesLess a.toList b.toList
theorem bl_irrefl : ∀ l : List UInt8, Op.bytesLess l l = false
  | [] => rfl
  | a :: r => by simp [Op.bytesLess, bl_irrefl r]
theorem bl_trans : ∀ {a b c : List UInt8}, Op.bytesLess a b = true → Op.bytesLess b c = true → Op.bytesLess a c = true
  | _, [], _, h, _ => by simp [Op.bytesLess] at h
  | _, _ :: _, [], _, h => by simp [Op.bytesLess] at h
  | [], _ :: _, _ :: _, _, _ => by simp [Op.bytesLess]
  | a :: x, b :: y, c :: z, h1, h2 => by
    simp only [Op.bytesLess, Bool.or_eq_true, decide_eq_true_eq, Bool.and_eq_true, beq_iff_eq] at h1 h2 ⊢
    rcases h1 with h1 | ⟨rfl, h1⟩
    · rcases h2 with h2 | ⟨rfl, h2⟩
      · exact .inl (UInt8.lt_trans h1 h2)
      · exact .inl h1
    · rcases h2 with h2 | ⟨rfl, h2⟩
      · exact .inl h2
      · exact .inr ⟨rfl, bl_trans h1 h2⟩
theorem bl_total : ∀ {a b : List UInt8}, Op.bytesLess a b = false → Op.bytesLess b a = false → a = b
  | [], [], _, _ => rfl
  | [], _ :: _, h, _ => by simp [Op.bytesLess] at h
  | _ :: _, [], _, h => by simp [Op.bytesLess] at h
  | a :: x, b :: y, h1, h2 => by
    simp only [Op.bytesLess, Bool.or_eq_false_iff, decide_eq_false_iff_not, Bool.and_eq_false_iff, beq_eq_false_iff_ne] at h1 h2
    have e : a = b := UInt8.le_antisymm (UInt8.not_lt.1 h2.1) (UInt8.not_lt.1 h1.1)
    subst e
    have e2 := bl_total (h1.2.resolve_left (by simp)) (h2.2.resolve_left (by simp))
    rw [e2]
theorem toL_inj {a b : ByteArray} (h : a.toList = b.toList) : a = b := WideShapes.bytes_inj (by rw [← ByteArray.toList_eq, ← ByteArray.toList_eq]; exact h)
theorem beq_iff {a b : ByteArray} : (a.toList == b.toList) = true ↔ a = b := by
  rw [beq_iff_eq]; exact ⟨toL_inj, fun h => by rw [h]⟩
theorem beq_dec (a b : ByteArray) : (a.toList == b.toList) = decide (a = b) := by
  rw [Bool.eq_iff_iff, beq_iff, decide_eq_true_iff]
theorem lt_irrefl (a : ByteArray) : lt a a = false := bl_irrefl _
theorem lt_trans {a b c : ByteArray} (h1 : lt a b = true) (h2 : lt b c = true) : lt a c = true := bl_trans h1 h2
theorem lt_total {a b : ByteArray} (h1 : lt a b = false) (h2 : lt b a = false) : a = b := toL_inj (bl_total h1 h2)
theorem lt_asymm {a b : ByteArray} (h : lt a b = true) : lt b a = false := by
  cases h2 : lt b a with
  | false => rfl
  | true => have := lt_trans h h2; rw [lt_irrefl] at this; cases this
/-- 'x <= y', as Go says it. -/
theorem le_not (a b : ByteArray) : (Op.bytesLess a.toList b.toList || a.toList == b.toList) = !lt b a := by
  show (lt a b || a.toList == b.toList) = _
  cases h1 : lt a b with
  | true => rw [lt_asymm h1]; rfl
  | false =>
    cases h2 : lt b a with
    | true =>
      have : (a.toList == b.toList) = false := by
        rw [← Bool.not_eq_true, beq_iff]; rintro rfl; rw [lt_irrefl] at h2; cases h2
      rw [this]; rfl
    | false => rw [beq_iff.2 (lt_total h1 h2)]; rfl

def letter (c : Nat) : Bool := (decide (97 ≤ c) && decide (c ≤ 122)) || (decide (65 ≤ c) && decide (c ≤ 90)) || decide (c = 95)
def digit (c : Nat) : Bool := decide (48 ≤ c) && decide (c ≤ 57)
def good (s : ByteArray) (i : Nat) : Bool := letter ((textL s).getD i 0) || (decide (i ≠ 0) && digit ((textL s).getD i 0))
def name (s : ByteArray) : Bool := decide (1 ≤ s.size ∧ s.size ≤ 12 ∧ ∀ i, i < s.size → good s i = true)
def value (s : ByteArray) : Bool := decide (1 ≤ s.size ∧ s.size ≤ 24)
theorem letter_digit {c : Nat} (h : digit c = true) : letter c = false := by
  simp only [digit, letter, Bool.and_eq_true, decide_eq_true_eq, Bool.or_eq_false_iff, Bool.and_eq_false_iff, decide_eq_false_iff_not] at h ⊢
  omega
/-- The label at place k may stand there. -/
def okAt (ls : List Lab) (k : Nat) : Bool := name (nth ls k).1 && value (nth ls k).2 && (decide (k = 0) || lt (nth ls (k - 1)).1 (nth ls k).1)
def isSet (ls : List Lab) : Bool := decide (1 ≤ ls.length ∧ ls.length ≤ 6 ∧ ∀ k, k < ls.length → okAt ls k = true)
theorem isSet_iff {ls : List Lab} : isSet ls = true ↔ 1 ≤ ls.length ∧ ls.length ≤ 6 ∧ ∀ k, k < ls.length → okAt ls k = true := decide_eq_true_iff
theorem isSet_no {ls : List Lab} (h : ¬ (1 ≤ ls.length ∧ ls.length ≤ 6 ∧ ∀ k, k < ls.length → okAt ls k = true)) : isSet ls = false := decide_eq_false h
theorem isSet_bad {ls : List Lab} {k : Nat} (hk : k < ls.length) (h : okAt ls k = false) : isSet ls = false := isSet_no fun x => by rw [x.2.2 k hk] at h; cases h
theorem okAt_size {ls : List Lab} {k : Nat} (h : okAt ls k = true) : (nth ls k).1.size ≤ 12 ∧ (nth ls k).2.size ≤ 24 ∧ 1 ≤ (nth ls k).2.size := by
  simp only [okAt, Bool.and_eq_true, name, value, decide_eq_true_eq] at h
  omega
/-- What stands earlier has the smaller name. -/
theorem set_lt {ls : List Lab} (h : isSet ls = true) {i j : Nat} (hij : i < j) (hj : j < ls.length) : lt (nth ls i).1 (nth ls j).1 = true := by
  obtain ⟨_, _, ha⟩ := isSet_iff.1 h
  have st : ∀ k, 0 < k → k < ls.length → lt (nth ls (k - 1)).1 (nth ls k).1 = true := fun k h0 hk => by
    have := ha k hk
    simp only [okAt, Bool.and_eq_true, Bool.or_eq_true, decide_eq_true_eq] at this
    exact this.2.resolve_left (by omega)
  obtain ⟨d, rfl⟩ : ∃ d, j = i + 1 + d := ⟨j - i - 1, by omega⟩
  clear hij
  induction d with
  | zero => exact st (i + 1) (by omega) hj
  | succ d ih => exact lt_trans (ih (by omega)) (by simpa using st (i + 1 + (d + 1)) (by omega) hj)
theorem set_pw {ls : List Lab} (h : isSet ls = true) : ls.Pairwise fun a b => lt a.1 b.1 = true := by
  rw [List.pairwise_iff_getElem]
  intro i j hi hj hij
  have := set_lt h hij hj
  rwa [nth_eq hi, nth_eq hj] at this

def getL : List Lab → ByteArray → ByteArray
  | [], _ => ⟨#[]⟩
  | x :: r, n => if x.1.toList == n.toList then x.2 else getL r n
theorem drop_nth {ls : List Lab} {k : Nat} (h : k < ls.length) : ls.drop k = nth ls k :: ls.drop (k + 1) := by rw [List.drop_eq_getElem_cons h, nth_eq h]
theorem getL_out {ls : List Lab} {k : Nat} {n : ByteArray} (h : ls.length ≤ k) : getL (ls.drop k) n = ⟨#[]⟩ := by rw [List.drop_of_length_le h]; rfl
theorem getL_hit {ls : List Lab} {k : Nat} {n : ByteArray} (h : k < ls.length) (he : ((nth ls k).1.toList == n.toList) = true) : getL (ls.drop k) n = (nth ls k).2 := by rw [drop_nth h, getL, if_pos he]
theorem getL_miss {ls : List Lab} {k : Nat} {n : ByteArray} (h : k < ls.length) (he : ((nth ls k).1.toList == n.toList) = false) : getL (ls.drop k) n = getL (ls.drop (k + 1)) n := by rw [drop_nth h, getL, he]; rfl
theorem getL_size {ls : List Lab} {n : ByteArray} {m : Nat} (h : ∀ x ∈ ls, x.2.size ≤ m) : (getL ls n).size ≤ m := by
  induction ls with
  | nil => show 0 ≤ m; omega
  | cons x r ih =>
    rw [getL]; split
    · exact h x (by simp)
    · exact ih fun y hy => h y (by simp [hy])

/-- What Make is to give: the set with just these labels, or that there is none. -/
def IsMk (ls : List Lab) : Option (List Lab) → Prop
  | none => ∀ r : List Lab, r.Perm ls → isSet r = false
  | some r => r.Perm ls ∧ isSet r = true
/-- In a set each name has its value. -/
theorem getL_mem {ls : List Lab} (h : ls.Pairwise fun a b => lt a.1 b.1 = true) {x : Lab} (hx : x ∈ ls) : getL ls x.1 = x.2 := by
  induction ls with
  | nil => cases hx
  | cons y r ih =>
    rw [getL]
    rcases List.mem_cons.1 hx with e | e
    · subst e; simp
    · rw [if_neg]
      · exact ih (List.pairwise_cons.1 h).2 e
      · rw [beq_iff]
        intro e2
        have := (List.pairwise_cons.1 h).1 x e
        rw [e2, lt_irrefl] at this; cases this
end La

end Go.Proofs.YtlfcjjlgkcfkdaaGreatDoor
namespace Go.Proofs.YtlfcjjlgkcfkdaaGreatDoor
open Go.RowKit

/-- A pattern as a tree. -/
inductive Rx where
  | mk (op : Int) (a b c d : Nat) (kids : List Rx) : Rx
namespace Rx
def op : Rx → Int | .mk o _ _ _ _ _ => o
def kids : Rx → List Rx | .mk _ _ _ _ _ k => k
def nil : Rx := .mk 0 0 0 0 0 []
def nth (ks : List Rx) (j : Nat) : Rx := ks.getD j nil
theorem nth_eq {ks : List Rx} {j : Nat} (h : j < ks.length) : nth ks j = ks[j] := by simp [nth, List.getD, List.getElem?_eq_getElem h]
mutual
/-- How many nodes it has. -/
def count : Rx → Nat
  | .mk _ _ _ _ _ ks => 1 + countL ks
def countL : List Rx → Nat
  | [] => 0
  | k :: r => count k + countL r
end
theorem count_pos : ∀ t : Rx, 1 ≤ count t
  | .mk _ _ _ _ _ _ => by rw [count]; omega
theorem len_count : ∀ ks : List Rx, ks.length ≤ countL ks
  | [] => Nat.le_refl _
  | k :: r => by have := len_count r; have := count_pos k; rw [countL, List.length_cons]; omega
theorem mem_count : ∀ {ks : List Rx} {t : Rx}, t ∈ ks → count t ≤ countL ks
  | k :: r, t, h => by
    rw [countL]
    rcases List.mem_cons.1 h with rfl | h
    · omega
    · have := mem_count h; omega
theorem nth_count {ks : List Rx} {j : Nat} (h : j < ks.length) : count (nth ks j) ≤ countL ks := by rw [nth_eq h]; exact mem_count (List.getElem_mem h)
theorem drop_nth {ks : List Rx} {k : Nat} (h : k < ks.length) : ks.drop k = nth ks k :: ks.drop (k + 1) := by rw [List.drop_eq_getElem_cons h, nth_eq h]
/-- How many kids such a node may have. -/
def may (op : Int) (n : Nat) : Bool := op == 2 || (op == 3 && decide (1 ≤ n)) || ((op == 4 || op == 5 || op == 6) && n == 1)
mutual
def isRex : Rx → Bool
  | .mk op a b c d ks => if op = 1 then ks.length == 0 else may op ks.length && isAll ks && (a == 0 && b == 0 && c == 0 && d == 0)
def isAll : List Rx → Bool
  | [] => true
  | k :: r => isRex k && isAll r
end
end Rx
/-- The six cells of a node, as a value. -/
def val6 (V : Nat → Value) : Value := .agg #[V 0, V 1, V 2, V 3, V 4, V 5]
/-- The value v is the tree t, its kids lie in memory. -/
inductive IsRx (w : World) : Value → Rx → Prop where
  | node (op : Int) (a b c d : Nat) (ks : List Rx) (A : Option Addr) (cap blk off : Nat) (V : Nat → Nat → Value) (hcap : ks.length ≤ cap) (hA : A = none → cap = 0) (hp : 0 < ks.length → A = some ⟨blk, off, none⟩)
      (hc : ∀ j i, j < ks.length → i < 6 → w.cell? ⟨blk, off + j * 6 + i, none⟩ = some (V j i)) (hk : ∀ j, j < ks.length → IsRx w (val6 (V j)) (Rx.nth ks j)) :
      IsRx w (.agg #[.int .i64 op, .int .u64 (a : Int), .int .u64 (b : Int), .int .u64 (c : Int), .int .u64 (d : Int), .slice A ks.length cap]) (.mk op a b c d ks)
theorem IsRx.grown {w w' : World} {v : Value} {t : Rx} (h : IsRx w v t) (hb : Below w.heap.size w w') : IsRx w' v t := by
  induction h with
  | node op a b c d ks A cap blk off V hcap hA hp hc hk ih =>
    exact .node op a b c d ks A cap blk off V hcap hA hp (fun j i hj hi => (hb.cell (World.block_lt_of_cell? w _ (hc j i hj hi))).trans (hc j i hj hi)) (fun j hj => ih j hj)

theorem Rx.all_end {ks : List Rx} {k : Nat} (h : ks.length ≤ k) : Rx.isAll (ks.drop k) = true := by rw [List.drop_of_length_le h]; rfl
theorem Rx.all_step {ks : List Rx} {k : Nat} (h : k < ks.length) : Rx.isAll (ks.drop k) = (Rx.isRex (Rx.nth ks k) && Rx.isAll (ks.drop (k + 1))) := by rw [Rx.drop_nth h]; rfl

theorem Tryz.one64 : Tryz.prog.cellsOf 122 = 1 := by kernel_rfl
theorem set_eql (a b c d a' b' c' d' : Int) : ∀ W, (binOp .eql 132 (.agg #[.int .u64 a, .int .u64 b, .int .u64 c, .int .u64 d]) (.agg #[.int .u64 a', .int .u64 b', .int .u64 c', .int .u64 d'])).run Tryz.prog W = .ok (.bool (a == a' && b == b' && c == c' && d == d')) W := by
  intro W
  obtain ⟨i, hi⟩ : ∃ i, Tryz.prog.info? 122 = some i := Option.isSome_iff_exists.1 (by kernel_rfl)
  have he := Tryz.underlying122
  have q := fun x y => run_equalIn_int (P := Tryz.prog) W 9998 122 .u64 .u64 x y he
  have u := run_underlying (w := W) he
  rw [run_eql_struct, show (10000 : Nat) = 9999 + 1 from rfl, run_equalIn_array W 9999 _ _ Tryz.underlying132 hi, Tryz.one64]
  have e : List.range 4 = [0, 1, 2, 3] := rfl
  rw [e]
  simp [Op.eqItems, part, isAgg, u, q, Sem.run_bind]
  by_cases h1 : a = a' <;> by_cases h2 : b = b' <;> by_cases h3 : c = c' <;> by_cases h4 : d = d' <;> simp [h1, h2, h3, h4]

set_option maxRecDepth 100000 in
set_option maxHeartbeats 4000000 in
theorem risrex_any : ∀ (n : Nat) (t : Rx) (v : Value) (w : World), n ≤ 1000 → Rx.count t ≤ n → IsRx w v t → Calls Tryz.prog 132 #[v] w fun e w' => e = .returned (.bool (Rx.isRex t)) ∧ Below w.heap.size w w' := by
  intro n
  induction n with
  | zero => intro t v w _ hs; have := Rx.count_pos t; omega
  | succ n ih =>
    intro t v w hn hs h
    cases h with
    | node op a b c d ks A cap blk off V hcap hA hp hc hk =>
      rw [Rx.count] at hs
      have hsmall := Rx.len_count ks
      have IH : Hid (∀ j, j < ks.length → ∀ W, Below w.heap.size w W → Calls Tryz.prog 132 #[val6 (V j)] W fun e w' => e = .returned (.bool (Rx.isRex (Rx.nth ks j))) ∧ Below W.heap.size W w') := fun j hj W hW => ih _ _ W (by omega) (by have := Rx.nth_count hj; omega) ((hk j hj).grown hW)
      have HC : Hid (∀ W, Below w.heap.size w W → ∀ j i, j < ks.length → i < 6 → W.cell? ⟨blk, off + j * 6 + i, none⟩ = some (V j i)) := fun W hW j i hj hi => (hW.cell (World.block_lt_of_cell? w _ (hc j i hj hi))).trans (hc j i hj hi)
      have HP := Lib.hid hp
      have DR := Lib.hid (fun k => Rx.all_step (ks := ks) (k := k))
      have DE := Lib.hid (Rx.all_end (Nat.le_refl ks.length))
      clear hp hc hk ih hA
      obtain ⟨N, hN⟩ : ∃ N, ks.length = N := ⟨_, rfl⟩
      have RX0 : Hid (Rx.isRex (.mk op a b c d ks) = if op = 1 then N == 0 else Rx.may op N && Rx.isAll ks && (a == 0 && b == 0 && c == 0 && d == 0)) := by show _ = _; rw [← hN]; rfl
      rw [hN] at hcap IH HC HP DR DE hsmall ⊢
      have hN1 : N ≤ 1000 := by omega
      clear hN hs hsmall hcap
      have BX : Hid (∀ W, Below (w.heap.size + 1) (w.alloc (.cells #[.int .i64 op, .int .u64 (a : Int), .int .u64 (b : Int), .int .u64 (c : Int), .int .u64 (d : Int), .slice A N cap] 135)) W → (W.cell? ⟨w.heap.size, 5, none⟩ = some (.slice A N cap) ∧ W.cell? ⟨w.heap.size, 1, none⟩ = some (.int .u64 (a : Int)) ∧ W.cell? ⟨w.heap.size, 2, none⟩ = some (.int .u64 (b : Int)) ∧ W.cell? ⟨w.heap.size, 3, none⟩ = some (.int .u64 (c : Int)) ∧ W.cell? ⟨w.heap.size, 4, none⟩ = some (.int .u64 (d : Int))) ∧ Below w.heap.size w W) := fun W hW => by
        have e := heap_alloc_new w (.cells #[.int .i64 op, .int .u64 (a : Int), .int .u64 (b : Int), .int .u64 (c : Int), .int .u64 (d : Int), .slice A N cap] 135)
        have e2 : W.heap[w.heap.size]? = _ := (hW.block w.heap.size (by omega)).trans e
        refine ⟨⟨?_, ?_, ?_, ?_, ?_⟩, ((Below.refl _ _).alloc (Nat.le_refl _) _).trans (hW.mono (by omega))⟩ <;> (rw [cell_of_row _ w.heap.size _ _ 135 (0, 0) e2]; rfl)
      have BW0 : Hid (Below w.heap.size w (w.alloc (.cells #[.int .i64 op, .int .u64 (a : Int), .int .u64 (b : Int), .int .u64 (c : Int), .int .u64 (d : Int), .slice A N cap] 135))) := (Below.refl _ _).alloc (Nat.le_refl _) _
      go_enter Tryz.func132, Tryz.ntmps132
      by_cases o1 : op = 1
      · subst o1
        have RX : Hid (Rx.isRex (.mk 1 a b c d ks) = (N == 0)) := RX0.out
        have e0 : ((N : Int) == 0) = (N == 0) := by rw [Bool.eq_iff_iff]; simp
        clear RX0
        go_wp2
        go_ret
        exact ⟨by rw [RX.out, ← e0]; rfl, BW0.out⟩
      have SZ0 : Hid (w.heap.size + 1 ≤ (w.alloc (.cells #[.int .i64 op, .int .u64 (a : Int), .int .u64 (b : Int), .int .u64 (c : Int), .int .u64 (d : Int), .slice A N cap] 135)).heap.size) := by show _ ≤ _; simp
      by_cases o2 : op = 2
      · subst o2
        have RX : Hid (Rx.isRex (.mk 2 a b c d ks) = (Rx.isAll ks && (a == 0 && b == 0 && c == 0 && d == 0))) := RX0.out
        clear RX0 o1
        go_wp2
        obtain ⟨w0, hw0⟩ : ∃ w0, w.alloc (.cells #[.int .i64 2, .int .u64 (a : Int), .int .u64 (b : Int), .int .u64 (c : Int), .int .u64 (d : Int), .slice A N cap] 135) = w0 := ⟨_, rfl⟩
        rw [hw0] at BX BW0 SZ0 ⊢
        clear hw0
        go_loopw [4] (fun i wr => ∃ k : Nat, k ≤ N ∧ i = .int .i64 (k : Int) ∧ Hid (Below (w.heap.size + 1) w0 wr ∧ Rx.isAll (ks.drop k) = Rx.isAll ks)) (fun i _ => N - (intOf i).toNat)
        case atStart => exact ⟨0, by omega, rfl, Below.refl _ _, rfl⟩
        case round =>
          obtain ⟨k, hk, rfl, HI⟩ := hrel
          obtain ⟨⟨q5, q1, q2, q3, q4⟩, BW⟩ := BX.out wr HI.out.1
          have BWH := Lib.hid BW
          have A1 := Lib.hid HI.out.1
          have A2 := Lib.hid HI.out.2
          clear BW HI
          by_cases hkn : k < N
          · have hkz : (k : Int) < (N : Int) := by omega
            have hAe := HP.out (by omega)
            subst hAe
            have c0 := HC.out wr BWH.out k 0 hkn (by omega)
            have c1 := HC.out wr BWH.out k 1 hkn (by omega)
            have c2 := HC.out wr BWH.out k 2 hkn (by omega)
            have c3 := HC.out wr BWH.out k 3 hkn (by omega)
            have c4 := HC.out wr BWH.out k 4 hkn (by omega)
            have c5 := HC.out wr BWH.out k 5 hkn (by omega)
            simp only [Nat.add_zero] at c0
            have CK := Lib.hid (IH.out k hkn wr BWH.out)
            unfold val6 at CK
            have DN := Lib.hid (DR.out k hkn)
            generalize V k 0 = v0 at *
            generalize V k 1 = v1 at *
            generalize V k 2 = v2 at *
            generalize V k 3 = v3 at *
            generalize V k 4 = v4 at *
            generalize V k 5 = v5 at *
            clear q1 q2 q3 q4 HC
            cases hr : Rx.isRex (Rx.nth ks k)
            · rw [hr] at CK DN
              have R : Hid (Rx.isAll ks = false) := by show _ = _; rw [← A2.out, DN.out]; rfl
              clear hr
              go_wp2_with fail
              refine CK.out.mono ?_
              rintro e w' ⟨rfl, b'⟩
              have B := Lib.hid (BWH.out.trans (b'.mono BWH.out.size))
              clear b' CK c0 c1 c2 c3 c4 c5 q5
              go_wp2
              go_ret
              exact ⟨by rw [RX.out, R.out]; rfl, B.out⟩
            · rw [hr] at CK DN
              have R : Hid (Rx.isAll (ks.drop (k + 1)) = Rx.isAll ks) := by show _ = _; rw [← A2.out, DN.out]; rfl
              clear hr
              go_wp2_with fail
              refine CK.out.mono ?_
              rintro e w' ⟨rfl, b'⟩
              have B := Lib.hid (A1.out.trans (b'.mono (by have := A1.out.size; have := SZ0.out; omega)))
              clear b' CK c0 c1 c2 c3 c4 c5 q5
              go_wp2
              go_roundw
              case rel => exact ⟨k + 1, by omega, by go_num, B.out, R.out⟩
              case measure => simp [intOf]; omega
          · obtain rfl : k = N := by omega
            have hkz : ¬ (k : Int) < (k : Int) := by omega
            have R : Hid (Rx.isAll ks = true) := by show _ = _; rw [← A2.out, DE.out]
            clear HC IH
            have EQ := set_eql (a : Int) b c d 0 0 0 0
            go_wp2
            go_ret
            have e4 : (((a : Int) == 0 && (b : Int) == 0 && (c : Int) == 0 && (d : Int) == 0)) = (a == 0 && b == 0 && c == 0 && d == 0) := by rw [Bool.eq_iff_iff]; simp
            exact ⟨by rw [RX.out, R.out, ← e4]; rfl, BWH.out⟩
      by_cases o3 : op = 3
      · subst o3
        clear o1 o2
        by_cases h1 : N < 1
        · have h1z : (N : Int) < 1 := by omega
          have RX : Hid (Rx.isRex (.mk 3 a b c d ks) = false) := by show _ = _; rw [RX0.out]; simp [Rx.may]; omega
          clear RX0
          go_wp2
          go_ret
          exact ⟨by rw [RX.out]; rfl, BW0.out⟩
        · have h1z : ¬ (N : Int) < 1 := by omega
          have h1n : 1 ≤ N := by omega
          have RX : Hid (Rx.isRex (.mk 3 a b c d ks) = (Rx.isAll ks && (a == 0 && b == 0 && c == 0 && d == 0))) := by show _ = _; rw [RX0.out]; simp [Rx.may, h1n]
          clear RX0
          go_wp2
          obtain ⟨w0, hw0⟩ : ∃ w0, w.alloc (.cells #[.int .i64 3, .int .u64 (a : Int), .int .u64 (b : Int), .int .u64 (c : Int), .int .u64 (d : Int), .slice A N cap] 135) = w0 := ⟨_, rfl⟩
          rw [hw0] at BX BW0 SZ0 ⊢
          clear hw0
          go_loopw [4] (fun i wr => ∃ k : Nat, k ≤ N ∧ i = .int .i64 (k : Int) ∧ Hid (Below (w.heap.size + 1) w0 wr ∧ Rx.isAll (ks.drop k) = Rx.isAll ks)) (fun i _ => N - (intOf i).toNat)
          case atStart => exact ⟨0, by omega, rfl, Below.refl _ _, rfl⟩
          case round =>
            obtain ⟨k, hk, rfl, HI⟩ := hrel
            obtain ⟨⟨q5, q1, q2, q3, q4⟩, BW⟩ := BX.out wr HI.out.1
            have BWH := Lib.hid BW
            have A1 := Lib.hid HI.out.1
            have A2 := Lib.hid HI.out.2
            clear BW HI
            by_cases hkn : k < N
            · have hkz : (k : Int) < (N : Int) := by omega
              have hAe := HP.out (by omega)
              subst hAe
              have c0 := HC.out wr BWH.out k 0 hkn (by omega)
              have c1 := HC.out wr BWH.out k 1 hkn (by omega)
              have c2 := HC.out wr BWH.out k 2 hkn (by omega)
              have c3 := HC.out wr BWH.out k 3 hkn (by omega)
              have c4 := HC.out wr BWH.out k 4 hkn (by omega)
              have c5 := HC.out wr BWH.out k 5 hkn (by omega)
              simp only [Nat.add_zero] at c0
              have CK := Lib.hid (IH.out k hkn wr BWH.out)
              unfold val6 at CK
              have DN := Lib.hid (DR.out k hkn)
              generalize V k 0 = v0 at *
              generalize V k 1 = v1 at *
              generalize V k 2 = v2 at *
              generalize V k 3 = v3 at *
              generalize V k 4 = v4 at *
              generalize V k 5 = v5 at *
              clear q1 q2 q3 q4 HC
              cases hr : Rx.isRex (Rx.nth ks k)
              · rw [hr] at CK DN
                have R : Hid (Rx.isAll ks = false) := by show _ = _; rw [← A2.out, DN.out]; rfl
                clear hr
                go_wp2_with fail
                refine CK.out.mono ?_
                rintro e w' ⟨rfl, b'⟩
                have B := Lib.hid (BWH.out.trans (b'.mono BWH.out.size))
                clear b' CK c0 c1 c2 c3 c4 c5 q5
                go_wp2
                go_ret
                exact ⟨by rw [RX.out, R.out]; rfl, B.out⟩
              · rw [hr] at CK DN
                have R : Hid (Rx.isAll (ks.drop (k + 1)) = Rx.isAll ks) := by show _ = _; rw [← A2.out, DN.out]; rfl
                clear hr
                go_wp2_with fail
                refine CK.out.mono ?_
                rintro e w' ⟨rfl, b'⟩
                have B := Lib.hid (A1.out.trans (b'.mono (by have := A1.out.size; have := SZ0.out; omega)))
                clear b' CK c0 c1 c2 c3 c4 c5 q5
                go_wp2
                go_roundw
                case rel => exact ⟨k + 1, by omega, by go_num, B.out, R.out⟩
                case measure => simp [intOf]; omega
            · obtain rfl : k = N := by omega
              have hkz : ¬ (k : Int) < (k : Int) := by omega
              have R : Hid (Rx.isAll ks = true) := by show _ = _; rw [← A2.out, DE.out]
              clear HC IH
              have EQ := set_eql (a : Int) b c d 0 0 0 0
              go_wp2
              go_ret
              have e4 : (((a : Int) == 0 && (b : Int) == 0 && (c : Int) == 0 && (d : Int) == 0)) = (a == 0 && b == 0 && c == 0 && d == 0) := by rw [Bool.eq_iff_iff]; simp
              exact ⟨by rw [RX.out, R.out, ← e4]; rfl, BWH.out⟩
      by_cases o4 : op = 4
      · subst o4
        clear o1 o2 o3
        by_cases h1 : N = 1
        · have h1z : ((N : Int) != 1) = false := by simp; omega
          have RX : Hid (Rx.isRex (.mk 4 a b c d ks) = (Rx.isAll ks && (a == 0 && b == 0 && c == 0 && d == 0))) := by show _ = _; rw [RX0.out]; simp [Rx.may, h1]
          clear RX0
          have hN0 : 0 < N := by omega
          clear h1
          go_wp2
          obtain ⟨w0, hw0⟩ : ∃ w0, w.alloc (.cells #[.int .i64 4, .int .u64 (a : Int), .int .u64 (b : Int), .int .u64 (c : Int), .int .u64 (d : Int), .slice A N cap] 135) = w0 := ⟨_, rfl⟩
          rw [hw0] at BX BW0 SZ0 ⊢
          clear hw0
          go_loopw [4] (fun i wr => ∃ k : Nat, k ≤ N ∧ i = .int .i64 (k : Int) ∧ Hid (Below (w.heap.size + 1) w0 wr ∧ Rx.isAll (ks.drop k) = Rx.isAll ks)) (fun i _ => N - (intOf i).toNat)
          case atStart => exact ⟨0, by omega, rfl, Below.refl _ _, rfl⟩
          case round =>
            obtain ⟨k, hk, rfl, HI⟩ := hrel
            obtain ⟨⟨q5, q1, q2, q3, q4⟩, BW⟩ := BX.out wr HI.out.1
            have BWH := Lib.hid BW
            have A1 := Lib.hid HI.out.1
            have A2 := Lib.hid HI.out.2
            clear BW HI
            by_cases hkn : k < N
            · have hkz : (k : Int) < (N : Int) := by omega
              have hAe := HP.out (by omega)
              subst hAe
              have c0 := HC.out wr BWH.out k 0 hkn (by omega)
              have c1 := HC.out wr BWH.out k 1 hkn (by omega)
              have c2 := HC.out wr BWH.out k 2 hkn (by omega)
              have c3 := HC.out wr BWH.out k 3 hkn (by omega)
              have c4 := HC.out wr BWH.out k 4 hkn (by omega)
              have c5 := HC.out wr BWH.out k 5 hkn (by omega)
              simp only [Nat.add_zero] at c0
              have CK := Lib.hid (IH.out k hkn wr BWH.out)
              unfold val6 at CK
              have DN := Lib.hid (DR.out k hkn)
              generalize V k 0 = v0 at *
              generalize V k 1 = v1 at *
              generalize V k 2 = v2 at *
              generalize V k 3 = v3 at *
              generalize V k 4 = v4 at *
              generalize V k 5 = v5 at *
              clear q1 q2 q3 q4 HC
              cases hr : Rx.isRex (Rx.nth ks k)
              · rw [hr] at CK DN
                have R : Hid (Rx.isAll ks = false) := by show _ = _; rw [← A2.out, DN.out]; rfl
                clear hr
                go_wp2_with fail
                refine CK.out.mono ?_
                rintro e w' ⟨rfl, b'⟩
                have B := Lib.hid (BWH.out.trans (b'.mono BWH.out.size))
                clear b' CK c0 c1 c2 c3 c4 c5 q5
                go_wp2
                go_ret
                exact ⟨by rw [RX.out, R.out]; rfl, B.out⟩
              · rw [hr] at CK DN
                have R : Hid (Rx.isAll (ks.drop (k + 1)) = Rx.isAll ks) := by show _ = _; rw [← A2.out, DN.out]; rfl
                clear hr
                go_wp2_with fail
                refine CK.out.mono ?_
                rintro e w' ⟨rfl, b'⟩
                have B := Lib.hid (A1.out.trans (b'.mono (by have := A1.out.size; have := SZ0.out; omega)))
                clear b' CK c0 c1 c2 c3 c4 c5 q5
                go_wp2
                go_roundw
                case rel => exact ⟨k + 1, by omega, by go_num, B.out, R.out⟩
                case measure => simp [intOf]; omega
            · obtain rfl : k = N := by omega
              have hkz : ¬ (k : Int) < (k : Int) := by omega
              have R : Hid (Rx.isAll ks = true) := by show _ = _; rw [← A2.out, DE.out]
              clear HC IH
              have EQ := set_eql (a : Int) b c d 0 0 0 0
              go_wp2
              go_ret
              have e4 : (((a : Int) == 0 && (b : Int) == 0 && (c : Int) == 0 && (d : Int) == 0)) = (a == 0 && b == 0 && c == 0 && d == 0) := by rw [Bool.eq_iff_iff]; simp
              exact ⟨by rw [RX.out, R.out, ← e4]; rfl, BWH.out⟩
        · have h1z : ((N : Int) != 1) = true := by simp; omega
          have RX : Hid (Rx.isRex (.mk 4 a b c d ks) = false) := by show _ = _; rw [RX0.out]; simp [Rx.may]; intro h; exact absurd h h1
          clear RX0
          go_wp2
          go_ret
          exact ⟨by rw [RX.out]; rfl, BW0.out⟩
      by_cases o5 : op = 5
      · subst o5
        clear o1 o2 o3 o4
        by_cases h1 : N = 1
        · have h1z : ((N : Int) != 1) = false := by simp; omega
          have RX : Hid (Rx.isRex (.mk 5 a b c d ks) = (Rx.isAll ks && (a == 0 && b == 0 && c == 0 && d == 0))) := by show _ = _; rw [RX0.out]; simp [Rx.may, h1]
          clear RX0
          have hN0 : 0 < N := by omega
          clear h1
          go_wp2
          obtain ⟨w0, hw0⟩ : ∃ w0, w.alloc (.cells #[.int .i64 5, .int .u64 (a : Int), .int .u64 (b : Int), .int .u64 (c : Int), .int .u64 (d : Int), .slice A N cap] 135) = w0 := ⟨_, rfl⟩
          rw [hw0] at BX BW0 SZ0 ⊢
          clear hw0
          go_loopw [4] (fun i wr => ∃ k : Nat, k ≤ N ∧ i = .int .i64 (k : Int) ∧ Hid (Below (w.heap.size + 1) w0 wr ∧ Rx.isAll (ks.drop k) = Rx.isAll ks)) (fun i _ => N - (intOf i).toNat)
          case atStart => exact ⟨0, by omega, rfl, Below.refl _ _, rfl⟩
          case round =>
            obtain ⟨k, hk, rfl, HI⟩ := hrel
            obtain ⟨⟨q5, q1, q2, q3, q4⟩, BW⟩ := BX.out wr HI.out.1
            have BWH := Lib.hid BW
            have A1 := Lib.hid HI.out.1
            have A2 := Lib.hid HI.out.2
            clear BW HI
            by_cases hkn : k < N
            · have hkz : (k : Int) < (N : Int) := by omega
              have hAe := HP.out (by omega)
              subst hAe
              have c0 := HC.out wr BWH.out k 0 hkn (by omega)
              have c1 := HC.out wr BWH.out k 1 hkn (by omega)
              have c2 := HC.out wr BWH.out k 2 hkn (by omega)
              have c3 := HC.out wr BWH.out k 3 hkn (by omega)
              have c4 := HC.out wr BWH.out k 4 hkn (by omega)
              have c5 := HC.out wr BWH.out k 5 hkn (by omega)
              simp only [Nat.add_zero] at c0
              have CK := Lib.hid (IH.out k hkn wr BWH.out)
              unfold val6 at CK
              have DN := Lib.hid (DR.out k hkn)
              generalize V k 0 = v0 at *
              generalize V k 1 = v1 at *
              generalize V k 2 = v2 at *
              generalize V k 3 = v3 at *
              generalize V k 4 = v4 at *
              generalize V k 5 = v5 at *
              clear q1 q2 q3 q4 HC
              cases hr : Rx.isRex (Rx.nth ks k)
              · rw [hr] at CK DN
                have R : Hid (Rx.isAll ks = false) := by show _ = _; rw [← A2.out, DN.out]; rfl
                clear hr
                go_wp2_with fail
                refine CK.out.mono ?_
                rintro e w' ⟨rfl, b'⟩
                have B := Lib.hid (BWH.out.trans (b'.mono BWH.out.size))
                clear b' CK c0 c1 c2 c3 c4 c5 q5
                go_wp2
                go_ret
                exact ⟨by rw [RX.out, R.out]; rfl, B.out⟩
              · rw [hr] at CK DN
                have R : Hid (Rx.isAll (ks.drop (k + 1)) = Rx.isAll ks) := by show _ = _; rw [← A2.out, DN.out]; rfl
                clear hr
                go_wp2_with fail
                refine CK.out.mono ?_
                rintro e w' ⟨rfl, b'⟩
                have B := Lib.hid (A1.out.trans (b'.mono (by have := A1.out.size; have := SZ0.out; omega)))
                clear b' CK c0 c1 c2 c3 c4 c5 q5
                go_wp2
                go_roundw
                case rel => exact ⟨k + 1, by omega, by go_num, B.out, R.out⟩
                case measure => simp [intOf]; omega
            · obtain rfl : k = N := by omega
              have hkz : ¬ (k : Int) < (k : Int) := by omega
              have R : Hid (Rx.isAll ks = true) := by show _ = _; rw [← A2.out, DE.out]
              clear HC IH
              have EQ := set_eql (a : Int) b c d 0 0 0 0
              go_wp2
              go_ret
              have e4 : (((a : Int) == 0 && (b : Int) == 0 && (c : Int) == 0 && (d : Int) == 0)) = (a == 0 && b == 0 && c == 0 && d == 0) := by rw [Bool.eq_iff_iff]; simp
              exact ⟨by rw [RX.out, R.out, ← e4]; rfl, BWH.out⟩
        · have h1z : ((N : Int) != 1) = true := by simp; omega
          have RX : Hid (Rx.isRex (.mk 5 a b c d ks) = false) := by show _ = _; rw [RX0.out]; simp [Rx.may]; intro h; exact absurd h h1
          clear RX0
          go_wp2
          go_ret
          exact ⟨by rw [RX.out]; rfl, BW0.out⟩
      by_cases o6 : op = 6
      · subst o6
        clear o1 o2 o3 o4 o5
        by_cases h1 : N = 1
        · have h1z : ((N : Int) != 1) = false := by simp; omega
          have RX : Hid (Rx.isRex (.mk 6 a b c d ks) = (Rx.isAll ks && (a == 0 && b == 0 && c == 0 && d == 0))) := by show _ = _; rw [RX0.out]; simp [Rx.may, h1]
          clear RX0
          have hN0 : 0 < N := by omega
          clear h1
          go_wp2
          obtain ⟨w0, hw0⟩ : ∃ w0, w.alloc (.cells #[.int .i64 6, .int .u64 (a : Int), .int .u64 (b : Int), .int .u64 (c : Int), .int .u64 (d : Int), .slice A N cap] 135) = w0 := ⟨_, rfl⟩
          rw [hw0] at BX BW0 SZ0 ⊢
          clear hw0
          go_loopw [4] (fun i wr => ∃ k : Nat, k ≤ N ∧ i = .int .i64 (k : Int) ∧ Hid (Below (w.heap.size + 1) w0 wr ∧ Rx.isAll (ks.drop k) = Rx.isAll ks)) (fun i _ => N - (intOf i).toNat)
          case atStart => exact ⟨0, by omega, rfl, Below.refl _ _, rfl⟩
          case round =>
            obtain ⟨k, hk, rfl, HI⟩ := hrel
            obtain ⟨⟨q5, q1, q2, q3, q4⟩, BW⟩ := BX.out wr HI.out.1
            have BWH := Lib.hid BW
            have A1 := Lib.hid HI.out.1
            have A2 := Lib.hid HI.out.2
            clear BW HI
            by_cases hkn : k < N
            · have hkz : (k : Int) < (N : Int) := by omega
              have hAe := HP.out (by omega)
              subst hAe
              have c0 := HC.out wr BWH.out k 0 hkn (by omega)
              have c1 := HC.out wr BWH.out k 1 hkn (by omega)
              have c2 := HC.out wr BWH.out k 2 hkn (by omega)
              have c3 := HC.out wr BWH.out k 3 hkn (by omega)
              have c4 := HC.out wr BWH.out k 4 hkn (by omega)
              have c5 := HC.out wr BWH.out k 5 hkn (by omega)
              simp only [Nat.add_zero] at c0
              have CK := Lib.hid (IH.out k hkn wr BWH.out)
              unfold val6 at CK
              have DN := Lib.hid (DR.out k hkn)
              generalize V k 0 = v0 at *
              generalize V k 1 = v1 at *
              generalize V k 2 = v2 at *
              generalize V k 3 = v3 at *
              generalize V k 4 = v4 at *
              generalize V k 5 = v5 at *
              clear q1 q2 q3 q4 HC
              cases hr : Rx.isRex (Rx.nth ks k)
              · rw [hr] at CK DN
                have R : Hid (Rx.isAll ks = false) := by show _ = _; rw [← A2.out, DN.out]; rfl
                clear hr
                go_wp2_with fail
                refine CK.out.mono ?_
                rintro e w' ⟨rfl, b'⟩
                have B := Lib.hid (BWH.out.trans (b'.mono BWH.out.size))
                clear b' CK c0 c1 c2 c3 c4 c5 q5
                go_wp2
                go_ret
                exact ⟨by rw [RX.out, R.out]; rfl, B.out⟩
              · rw [hr] at CK DN
                have R : Hid (Rx.isAll (ks.drop (k + 1)) = Rx.isAll ks) := by show _ = _; rw [← A2.out, DN.out]; rfl
                clear hr
                go_wp2_with fail
                refine CK.out.mono ?_
                rintro e w' ⟨rfl, b'⟩
                have B := Lib.hid (A1.out.trans (b'.mono (by have := A1.out.size; have := SZ0.out; omega)))
                clear b' CK c0 c1 c2 c3 c4 c5 q5
                go_wp2
                go_roundw
                case rel => exact ⟨k + 1, by omega, by go_num, B.out, R.out⟩
                case measure => simp [intOf]; omega
            · obtain rfl : k = N := by omega
              have hkz : ¬ (k : Int) < (k : Int) := by omega
              have R : Hid (Rx.isAll ks = true) := by show _ = _; rw [← A2.out, DE.out]
              clear HC IH
              have EQ := set_eql (a : Int) b c d 0 0 0 0
              go_wp2
              go_ret
              have e4 : (((a : Int) == 0 && (b : Int) == 0 && (c : Int) == 0 && (d : Int) == 0)) = (a == 0 && b == 0 && c == 0 && d == 0) := by rw [Bool.eq_iff_iff]; simp
              exact ⟨by rw [RX.out, R.out, ← e4]; rfl, BWH.out⟩
        · have h1z : ((N : Int) != 1) = true := by simp; omega
          have RX : Hid (Rx.isRex (.mk 6 a b c d ks) = false) := by show _ = _; rw [RX0.out]; simp [Rx.may]; intro h; exact absurd h h1
          clear RX0
          go_wp2
          go_ret
          exact ⟨by rw [RX.out]; rfl, BW0.out⟩
      have RX : Hid (Rx.isRex (.mk op a b c d ks) = false) := by show _ = _; rw [RX0.out, if_neg o1]; simp [Rx.may, o2, o3, o4, o5, o6]
      have p1 : (op == 1) = false := by simpa using o1
      have p2 : (op == 2) = false := by simpa using o2
      have p3 : (op == 3) = false := by simpa using o3
      have p4 : (op == 4) = false := by simpa using o4
      have p5 : (op == 5) = false := by simpa using o5
      have p6 : (op == 6) = false := by simpa using o6
      clear RX0 o1 o2 o3 o4 o5 o6
      go_wp2
      go_ret
      exact ⟨by rw [RX.out]; rfl, BW0.out⟩

end Go.Proofs.YtlfcjjlgkcfkdaaGreatDoor

