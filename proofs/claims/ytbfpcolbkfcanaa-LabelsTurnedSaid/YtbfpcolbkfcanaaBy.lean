/-
  Slices of bytes in a walk: a slice that a call has made, a slice that reads as a list of bytes, as a string, cut, appended to. No conditions; of the program only the numbers of its types.
-/
import Derived.Test.YtbfpcolbkfcanaaProg
import Derived.Test.YtbfpcolbkfcanaaVm
import Derived.WalkKit
import Derived.WalkSpells
import Derived.WalkLawsBesides
import Derived.Lib.Hide
import Derived.Lib.AppendStr
import Derived.Laws.BytesArg
import Derived.Shelf.Bytes.SlSmallAll
import Derived.Laws.AppendOwnNone
import Derived.KernelRfl
namespace Go.Proofs.Ytbfpcolbkfcanaa
open Go.RowKit

theorem Try.info5 : (Try.prog.info? 5).map (fun i => (i.zero, i.size, i.bytes)) = some (some (.int .u8 0), 1, 1) := by kernel_rfl

/-- Bytes as cells. -/
def by8 (l : List Nat) : List Value := l.map fun k : Nat => Value.int .u8 (k : Int)

/-- A call has returned a new slice of bytes, and has written nothing that was there. -/
def MadeBytes (w : World) (l : List Nat) (e : Ending) (w' : World) : Prop :=
  ∃ v, e = .returned v ∧ w'.ownsRow w.heap.size 5 1 v l.length (by8 l) ∧ Below w.heap.size w w'

theorem one8 (x : Int) : ∀ u ∈ [Value.int .u8 x], u.oneCell' = true := by intro u hu; simp at hu; subst hu; rfl
theorem len_ok {k : Nat} (h : k ≤ 9) : k + 1 ≤ maxLen := by unfold maxLen; omega
theorem bel_size {w wr : World} (hb : Below w.heap.size w wr) {o : Obj} : w.heap.size ≤ (wr.alloc o).heap.size := by have := hb.size; simp; omega
theorem own_ge {w : World} {base e n : Nat} {v : Value} {xs : List Value} (h : w.ownsRow base e 1 v n xs) : ∀ g, v.ownBlock = some g → base ≤ g := fun g hg => (h.lt g hg).1

/-- The slice at address a reads as the bytes l. -/
def IsBytes (w : World) (a : Option Addr) (l : List Nat) : Prop :=
  (∀ j, l.getD j 0 < 256) ∧ (0 < l.length → ∃ b off, a = some ⟨b, off, none⟩ ∧ ∀ j, j < l.length → w.cell? ⟨b, off + j, none⟩ = some (.int .u8 ((l.getD j 0 : Nat) : Int)))

/-- A text's bytes. -/
def textL (s : ByteArray) : List Nat := s.data.toList.map UInt8.toNat
theorem textL_length (s : ByteArray) : (textL s).length = s.size := by rw [textL, List.length_map, Array.length_toList]; rfl
theorem by8_text (s : ByteArray) : by8 (textL s) = Lib.strCells s := by simp [by8, textL, Lib.strCells]
theorem by8_app (a b : List Nat) : by8 (a ++ b) = by8 a ++ by8 b := by simp [by8]

def strOf (l : List Nat) : ByteArray := strOfNums (l.map fun k : Nat => (k : Int))

theorem cut_string {w : World} {l : List Nat} {b off k n c : Nat} (hc : ∀ j, j < l.length → w.cell? ⟨b, off + j, none⟩ = some (.int .u8 ((l.getD j 0 : Nat) : Int))) (h : k + n ≤ l.length) :
    (convert 28 9 (.slice (some ⟨b, off + k, none⟩) n c)).run Try.prog w = .ok (.string (strOf ((l.drop k).take n))) w := by
  refine run_convert_bytes_arg w 28 5 Try.underlying28 Try.underlying5 b (off + k) n c _ (by simp; omega) (fun i hi => ?_) 9 Try.underlying9
  have hk := hc (k + i) (by omega)
  rw [Nat.add_assoc, hk]
  simp [List.getElem?_drop, hi, List.getElem?_eq_getElem (show k + i < l.length by omega)]

theorem cut_none {w : World} {l : List Nat} {A : Option Addr} {k c : Nat} : (convert 28 9 (.slice A 0 c)).run Try.prog w = .ok (.string (strOf ((l.drop k).take 0))) w := by
  have h := run_convert_bytes_zero (P := Try.prog) w 28 5 Try.underlying28 Try.underlying5 A c 9 Try.underlying9
  rw [h]; rfl

theorem own_len {w : World} {base n : Nat} {v : Value} {l : List Nat} (h : w.ownsRow base 5 1 v n (by8 l)) : l.length = n := by
  have := h.1; simpa [by8] using this
/-- The shape of a slice that a call has made. -/
theorem own_form {w : World} {base n : Nat} {v : Value} {l : List Nat} (h : w.ownsRow base 5 1 v n (by8 l)) : ∃ A cap, v = .slice A n cap ∧ n ≤ cap := by
  rcases h.2 with ⟨rfl, rfl⟩ | ⟨g, cap, cur, rfl, _, _, hc, _⟩
  · exact ⟨_, _, rfl, by omega⟩
  · exact ⟨_, _, rfl, hc⟩
theorem own_is {w : World} {base n cap : Nat} {A : Option Addr} {l : List Nat} (h : w.ownsRow base 5 1 (.slice A n cap) n (by8 l)) (hb : ∀ x ∈ l, x < 256) : IsBytes w A l := by
  have hl := own_len h
  refine ⟨Vm.getD_lt hb, fun hp => ?_⟩
  rcases h.2 with ⟨_, e⟩ | ⟨g, c, cur, e, _⟩
  · omega
  · injection e with e1 e2 e3
    subst e1
    refine ⟨g, 0, rfl, fun j hj => ?_⟩
    have := h.cellAt (g := g) j (by omega)
    rw [Nat.zero_add, this]
    simp [by8, List.getElem?_eq_getElem hj]
theorem is_conv {w : World} {A : Option Addr} {c : Nat} {l : List Nat} (h : IsBytes w A l) : (convert 28 9 (.slice A l.length c)).run Try.prog w = .ok (.string (strOf l)) w := by
  by_cases h0 : l.length = 0
  · obtain rfl : l = [] := List.eq_nil_of_length_eq_zero h0
    exact cut_none (l := []) (k := 0)
  · obtain ⟨b, off, rfl, hc⟩ := h.2 (by omega)
    have := cut_string (k := 0) (n := l.length) (c := c) hc (by omega)
    simpa using this
theorem own_conv {w : World} {base n : Nat} {v : Value} {l : List Nat} (h : w.ownsRow base 5 1 v n (by8 l)) (hb : ∀ x ∈ l, x < 256) : (convert 28 9 v).run Try.prog w = .ok (.string (strOf l)) w := by
  obtain ⟨A, cap, rfl, _⟩ := own_form h
  have hi := own_is h hb
  have hl := own_len h
  subst hl
  exact is_conv hi
theorem lit_is (w : World) (g : Nat) (l : List Nat) (hb : ∀ x ∈ l, x < 256) (cs : Array Value) (h : cs = (by8 l).toArray) (hg : w.heap.size = g) : IsBytes (w.alloc (.cells cs 5)) (some ⟨g, 0, none⟩) l := by
  subst h
  refine ⟨Vm.getD_lt hb, fun _ => ⟨g, 0, rfl, fun j hj => ?_⟩⟩
  rw [World.cell?_alloc_at _ _ _ _ hg.symm]
  simp [by8, List.getElem?_eq_getElem hj]
theorem below_two (w : World) (a b : Obj) : Below w.heap.size w ((w.alloc a).alloc b) := ((Below.refl _ _).alloc (Nat.le_refl _) a).alloc (by simp) b

theorem own_keep {w1 w2 : World} {base e n : Nat} {v : Value} {xs : List Value} (h : w1.ownsRow base e 1 v n xs) (hb : Below w1.heap.size w1 w2) : w2.ownsRow base e 1 v n xs := by
  refine ⟨h.1, ?_⟩
  rcases h.2 with hn | ⟨g, cap, cur, rfl, hbg, hg, rest⟩
  · exact .inl hn
  · exact .inr ⟨g, cap, cur, rfl, hbg, (hb.block g (Array.getElem?_eq_some_iff.1 hg).1).trans hg, rest⟩
theorem own_head {w : World} {base n : Nat} {v : Value} {l : List Nat} (h : w.ownsRow base 5 1 v n (by8 l)) (hn : 0 < n) :
    ∃ g cap, v = .slice (some ⟨g, 0, none⟩) n cap ∧ n ≤ cap ∧ g < w.heap.size ∧ ∀ j, j < n → w.cell? ⟨g, j, none⟩ = some (.int .u8 ((l.getD j 0 : Nat) : Int)) := by
  have hl := own_len h
  rcases h.2 with ⟨_, e⟩ | ⟨g, c, cur, rfl, _, hg, hc, _⟩
  · omega
  · refine ⟨g, c, rfl, hc, (Array.getElem?_eq_some_iff.1 hg).1, fun j hj => ?_⟩
    rw [h.cellAt (g := g) j (by omega)]
    simp [by8, List.getElem?_eq_getElem (show j < l.length by omega)]

theorem str_back {l : List Nat} (h : ∀ x ∈ l, x < 256) : (strOf l).toList.map UInt8.toNat = l := by
  rw [ByteArray.toList_eq, strOf, strOfNums_data, List.map_map, List.map_map]
  conv => rhs; rw [← List.map_id l]
  exact List.map_congr_left fun x hx => by
    have := h x hx
    simp [UInt8.toNat_ofNat']; omega
theorem str_eq {l m : List Nat} (h1 : ∀ x ∈ l, x < 256) (h2 : ∀ x ∈ m, x < 256) : ((strOf l).toList == (strOf m).toList) = decide (l = m) := by
  rw [Bool.eq_iff_iff, beq_iff_eq, decide_eq_true_iff]
  refine ⟨fun h => ?_, fun h => by rw [h]⟩
  rw [← str_back h1, ← str_back h2, h]

theorem isBytes_below {w w' : World} {A : Option Addr} {l : List Nat} (h : IsBytes w A l) (hb : Below w.heap.size w w') : IsBytes w' A l := by
  refine ⟨h.1, fun hp => ?_⟩
  obtain ⟨b, off, e, hc⟩ := h.2 hp
  refine ⟨b, off, e, fun j hj => ?_⟩
  have h1 := hc j hj
  exact (hb.cell (World.block_lt_of_cell? w _ h1)).trans h1
theorem isBytes_take {w : World} {A : Option Addr} {l : List Nat} (h : IsBytes w A l) (k : Nat) : IsBytes w A (l.take k) := by
  refine ⟨fun j => ?_, fun hp => ?_⟩
  · by_cases hj : j < k
    · have := h.1 j
      simp only [List.getD, List.getElem?_take, hj, if_true] at this ⊢
      exact this
    · simp [List.getElem?_take, hj]
  · obtain ⟨b, off, e, hc⟩ := h.2 (by simp at hp; omega)
    refine ⟨b, off, e, fun j hj => ?_⟩
    have hj' : j < k ∧ j < l.length := by simp at hj; omega
    rw [hc j hj'.2]
    simp [hj'.1]

theorem mem_of_getD {l : List Nat} (h : ∀ j, l.getD j 0 < 256) : ∀ x ∈ l, x < 256 := by
  intro x hx
  obtain ⟨j, hj, rfl⟩ := List.getElem_of_mem hx
  have := h j
  simpa [List.getD, List.getElem?_eq_getElem hj] using this
theorem by8_one (l : List Nat) : ∀ u ∈ by8 l, u.oneCell' = true := by
  intro u hu
  simp only [by8, List.mem_map] at hu
  obtain ⟨_, _, rfl⟩ := hu
  rfl

theorem wpList_app {ops : Array Oper} {rest : List Oper} {o : Oper} {a : Act} {Q : Exit → Act → World → Prop} (w : World) (hgd : o.guard = none) (s x : Operand)
    (ho : o.op = .call { callee := .builtin .append, args := #[s, x], argTypes := #[28, 28] })
    (base : Nat) (v : Value) (xs l : List Nat) (n L : Nat) (hn : xs.length = n) (hL : l.length = L) (hs : a.eval s = v) (hown : w.ownsRow base 5 1 v n (by8 xs)) (A : Option Addr) (c : Nat)
    (hx : a.eval x = .slice A L c) (hA : A = none → c = 0) (hi : IsBytes w A l) (hlen : n + L ≤ 140737488355328) (hbase : base ≤ w.heap.size)
    (h : ∀ v' w', w'.ownsRow base 5 1 v' (n + L) (by8 (xs ++ l)) → w.grownBy w' v.ownBlock → wpList Try.prog ops Q rest (a.put o.dst v') w') : wpList Try.prog ops Q (o :: rest) a w := by
  obtain ⟨i0, hi0, hz0, hz1, hz2⟩ := info_parts Try.info5
  subst hL hn
  have hml : xs.length + l.length ≤ maxLen := by unfold maxLen; omega
  rcases A with _ | ad
  · obtain rfl := hA rfl
    have hl0 : l.length = 0 := by
      rcases Nat.eq_zero_or_pos l.length with h0 | h0
      · exact h0
      · obtain ⟨b, off, e, _⟩ := hi.2 h0; cases e
    obtain rfl : l = [] := List.eq_nil_of_length_eq_zero hl0
    refine wpList_append_own_none hgd s x 28 ho base 5 i0 1 Try.underlying28 hi0 v _ _ hs hown hx ?_
    exact h v w (by simpa using hown) (World.grownBy.refl w _)
  · have hcells : ∀ j u, (by8 l)[j]? = some u → w.cell? (ad.add j) = some u := by
      intro j u hu
      by_cases hj : j < l.length
      · obtain ⟨b, off, e, hc⟩ := hi.2 (by omega)
        injection e with e
        subst e
        have e2 : (⟨b, off, none⟩ : Addr).add j = ⟨b, off + j, none⟩ := by unfold Addr.add; split <;> simp_all
        rw [e2, hc j hj, ← hu]
        simp [by8, List.getElem?_eq_getElem hj]
      · rw [List.getElem?_eq_none (by simp [by8]; omega)] at hu; cases hu
    refine wpList_append_own w hgd s x 28 ho base 5 i0 (.int .u8 0) 1 1 Try.underlying28 hi0 hz0 hz1 hz2 rfl (by decide) v _ _ hs hown ad l.length c (by8 l) hx (by simp [by8]) hcells (by8_one l) hml (by omega) hbase ?_
    intro v' w' h1 h2 _
    exact h v' w' (by rw [by8_app]; exact h1) h2

theorem strOf_text (s : ByteArray) : strOf (textL s) = s := by
  have h : (strOf (textL s)).data.toList = s.data.toList := by
    rw [strOf, strOfNums_data, textL, List.map_map, List.map_map]
    conv => rhs; rw [← List.map_id s.data.toList]
    exact List.map_congr_left fun x _ => by simp
  exact WideShapes.bytes_inj h

end Go.Proofs.Ytbfpcolbkfcanaa
