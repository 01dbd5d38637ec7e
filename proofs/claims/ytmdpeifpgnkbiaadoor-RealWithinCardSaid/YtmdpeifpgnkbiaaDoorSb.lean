/-
  Words of 32 bits as the model spells them, in terms of BitVec 32: sums, exclusive or, and, or, not, shifts; a cell that holds a word; an array of words or bytes in a block. No conditions; nothing of any program.
-/
import Derived.WalkKit
import Derived.WalkSpells
import Derived.WalkLawsBesides
import Derived.Lib.Hide
import Derived.Laws.BitsAllLaws
namespace Go.Proofs.YtmdpeifpgnkbiaaDoor
open Go.RowKit

/-- A word as an integer of the model. -/
def wi (x : BitVec 32) : Int := (x.toNat : Int)
theorem wi_lo (x : BitVec 32) : 0 ≤ wi x := by unfold wi; omega
theorem wi_hi (x : BitVec 32) : wi x ≤ 4294967295 := by unfold wi; have := x.isLt; omega
theorem wi_add (x y : BitVec 32) : IntKind.u32.wrap (wi x + wi y) = wi (x + y) := by
  unfold wi
  rw [BitVec.toNat_add]
  simp [IntKind.wrap, IntKind.bits, IntKind.signed]
theorem wi_xor (x y : BitVec 32) : bits .xor .u32 (wi x) (wi y) = wi (x ^^^ y) := by
  unfold wi; rw [u32_xor_nat _ _ x.isLt y.isLt, BitVec.toNat_xor]
theorem wi_and (x y : BitVec 32) : bits .and .u32 (wi x) (wi y) = wi (x &&& y) := by
  unfold wi; rw [u32_and_nat _ _ x.isLt y.isLt, BitVec.toNat_and]
theorem wi_or (x y : BitVec 32) : bits .or .u32 (wi x) (wi y) = wi (x ||| y) := by
  unfold wi; rw [u32_or_nat _ _ x.isLt y.isLt, BitVec.toNat_or]
theorem wi_not (x : BitVec 32) : bits .xor .u32 IntKind.u32.max (wi x) = wi (~~~x) := by
  have e : IntKind.u32.max = wi (BitVec.allOnes 32) := by decide
  rw [e, wi_xor, BitVec.allOnes_xor]
theorem wi_shr (x : BitVec 32) (n : Nat) : wi x / 2 ^ n = wi (x >>> n) := by
  unfold wi; rw [BitVec.toNat_ushiftRight, Nat.shiftRight_eq_div_pow]; simp
theorem wi_shl (x : BitVec 32) (n : Nat) : IntKind.u32.wrap (wi x * 2 ^ n) = wi (x <<< n) := by
  unfold wi
  rw [BitVec.toNat_shiftLeft, Nat.shiftLeft_eq]
  simp [IntKind.wrap, IntKind.bits, IntKind.signed]

theorem wi_add' (x y : BitVec 32) : (wi x + wi y) % (4294967296 : Int) = wi (x + y) := by
  unfold wi
  rw [BitVec.toNat_add]
  simp
theorem wi_shl' (x : BitVec 32) (n : Nat) : wi x * 2 ^ n % (4294967296 : Int) = wi (x <<< n) := by
  unfold wi
  rw [BitVec.toNat_shiftLeft, Nat.shiftLeft_eq]
  simp
theorem wi_sum5 (a b c d e : BitVec 32) : (wi a + wi b + wi c + wi d + wi e) % (4294967296 : Int) = wi (a + b + c + d + e) := by
  unfold wi; simp only [BitVec.toNat_add]; omega
theorem wi_sum14 (a b c d e : BitVec 32) : (wi a + (wi b + wi c + wi d + wi e)) % (4294967296 : Int) = wi (a + (b + c + d + e)) := by
  unfold wi; simp only [BitVec.toNat_add]; omega
theorem rotr_def (x : BitVec 32) (n : Nat) (hn : n < 32) : x >>> n ||| x <<< (32 - n) = x.rotateRight n := by
  rw [BitVec.rotateRight_eq_rotateRightAux_of_lt hn]; rfl
theorem wi_byte {c : Nat} (_h : c < 256) : IntKind.u32.wrap (c : Int) = wi (BitVec.ofNat 32 c) := by
  unfold wi
  rw [BitVec.toNat_ofNat]
  simp [IntKind.wrap, IntKind.bits, IntKind.signed]
theorem wi_byte' {c : Nat} (h : c < 256) : (c : Int) = wi (BitVec.ofNat 32 c) := by
  unfold wi
  rw [BitVec.toNat_ofNat, Nat.mod_eq_of_lt (by omega)]
theorem wi_shl24 (x : BitVec 32) : IntKind.u32.wrap (wi x * (16777216 : Int)) = wi (x <<< 24) := wi_shl x 24
theorem wi_shl16 (x : BitVec 32) : IntKind.u32.wrap (wi x * (65536 : Int)) = wi (x <<< 16) := wi_shl x 16
theorem wi_shl8 (x : BitVec 32) : IntKind.u32.wrap (wi x * (256 : Int)) = wi (x <<< 8) := wi_shl x 8
theorem wi_shr3 (x : BitVec 32) : wi x / (8 : Int) = wi (x >>> 3) := wi_shr x 3
theorem wi_shr10 (x : BitVec 32) : wi x / (1024 : Int) = wi (x >>> 10) := wi_shr x 10
/-- Words, bytes as cells. -/
def w32 (l : List (BitVec 32)) : List Value := l.map fun x => Value.int .u32 (wi x)

/-- A block that is known whole, of which nothing is frozen. -/
def Has (w : World) (g : Nat) (t : TypeId) (cs : Array Value) : Prop := w.heap[g]? = some (.cells cs t (0, 0))
theorem Has.cell {w : World} {g : Nat} {t : TypeId} {cs : Array Value} (h : Has w g t cs) (i : Nat) : w.cell? ⟨g, i, none⟩ = cs[i]? := cell_of_row w g i cs t (0, 0) h
theorem Has.frozen {w : World} {g : Nat} {t : TypeId} {cs : Array Value} (h : Has w g t cs) (i : Nat) : w.frozen? ⟨g, i, none⟩ = false := by
  unfold Has at h
  simp [World.frozen?, h]
theorem Has.new (w : World) (t : TypeId) (cs : Array Value) : Has (w.alloc (.cells cs t)) w.heap.size t cs := heap_alloc_new w _
theorem Has.lt {w : World} {g : Nat} {t : TypeId} {cs : Array Value} (h : Has w g t cs) : g < w.heap.size := (Array.getElem?_eq_some_iff.1 h).1
theorem Has.alloc {w : World} {g : Nat} {t : TypeId} {cs : Array Value} (h : Has w g t cs) (o : Obj) : Has (w.alloc o) g t cs := (Below.heap_alloc w o g h.lt).trans h
theorem Has.stored {w : World} {g : Nat} {t : TypeId} {cs : Array Value} (h : Has w g t cs) (i : Nat) (u : Value) : Has (w.setCell ⟨g, i, none⟩ u) g t (cs.setIfInBounds i u) := by
  unfold Has at h ⊢
  simp [World.setCell, Array.getElem?_modify, h]
theorem Has.far {w : World} {g : Nat} {t : TypeId} {cs : Array Value} (h : Has w g t cs) {p : Addr} (hp : g ≠ p.block) (u : Value) : Has (w.setCell p u) g t cs := (Below.heap_setCell w p u g hp).trans h
theorem Has.drewN {w : World} {g : Nat} {t : TypeId} {cs : Array Value} (h : Has w g t cs) (n : Nat) : Has (w.drewN n) g t cs := h
theorem Has.below {w w' : World} {B g : Nat} {t : TypeId} {cs : Array Value} (h : Has w g t cs) (hb : Below B w w') (hg : g < B) : Has w' g t cs := (hb.block g hg).trans h

end Go.Proofs.YtmdpeifpgnkbiaaDoor
