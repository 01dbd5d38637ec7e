/-
  What the reference's Round does, for every state and every block: it returns what one block makes of the state (Sm.round), and writes nothing that was there. Conditions: the block has 64 bytes; the table of constants lies in its variable.
-/
import Derived.Test.YtolokcmlpecpdaaDoorBy
import Derived.Test.YtolokcmlpecpdaaDoorSb
import Derived.BigRegion
import Derived.BigQuiet
import Derived.StillTailTactics
import Derived.Test.YtolokcmlpecpdaaDoorSm
namespace Go.Proofs.YtolokcmlpecpdaaDoor
open Go.RowKit

set_option maxRecDepth 100000 in
set_option maxHeartbeats 1000000 in
theorem rturned_any (x : BitVec 32) (n : Nat) (hn : n < 32) (w : World) : Calls Tryd.prog 20 #[.int .u32 (wi x), .int .u64 (n : Int)] w fun e w' => e = .returned (.int .u32 (wi (x.rotateRight n))) ∧ w = w' := by
  have h1 := wi_lo x
  have h2 := wi_hi x
  go_enter Tryd.func20, Tryd.ntmps20
  go_wp2
  go_ret
  exact ⟨by rw [← rotr_def x n hn, ← wi_or, ← wi_shr, ← wi_shl']; rfl, rfl⟩

theorem rt (x : BitVec 32) (n : Nat) (m : Int) (hm : (n : Int) = m) (hn : n < 32) (w : World) : Calls Tryd.prog 20 #[.int .u32 (wi x), .int .u64 m] w fun e w' => e = .returned (.int .u32 (wi (x.rotateRight n))) ∧ w = w' := by
  subst hm; exact rturned_any x n hn w
theorem rtm (x : BitVec 32) (m : Int) (h0 : 0 ≤ m) (hn : m < 32) (w : World) : Calls Tryd.prog 20 #[.int .u32 (wi x), .int .u64 m] w fun e w' => e = .returned (.int .u32 (wi (x.rotateRight m.toNat))) ∧ w' = w := by
  obtain ⟨n, rfl⟩ := Int.eq_ofNat_of_zero_le h0
  exact (rturned_any x n (by omega) w).mono fun e w' h => ⟨h.1, h.2.symm⟩
/-- Words of the schedule that are there, and noughts. -/
def wcells (b : List Nat) (k : Nat) : Array Value := (w32 (Sm.wd b k ++ List.replicate (64 - k) 0)).toArray
structure Four (w : World) (hs bs : Array Value) (b : List Nat) (k : Nat) (wr : World) : Prop where
  fh : Has wr w.heap.size 29 hs
  fb : Has wr (w.heap.size + 1) 30 bs
  fr : Has wr (w.heap.size + 1 + 1) 29 (w32 (List.replicate 8 0)).toArray
  fs : Has wr (w.heap.size + 1 + 1 + 1) 38 (wcells b k)
  fe : Below w.heap.size w wr
theorem Four.start (w : World) (hs bs : Array Value) (b : List Nat) : Four w hs bs b 0 ((((w.alloc (.cells hs 29)).alloc (.cells bs 30)).alloc (.cells (w32 (List.replicate 8 0)).toArray 29)).alloc (.cells (wcells b 0) 38)) := by
  have h1 : ∀ (w : World) (o : Obj), (w.alloc o).heap.size = w.heap.size + 1 := fun w o => by simp
  refine ⟨((Has.new _ _ _).alloc _).alloc _ |>.alloc _, ?_, ?_, ?_, ?_⟩
  · have := (Has.new (w.alloc (.cells hs 29)) 30 bs); rw [h1] at this; exact (this.alloc _).alloc _
  · have := (Has.new ((w.alloc (.cells hs 29)).alloc (.cells bs 30)) 29 (w32 (List.replicate 8 0)).toArray); rw [h1, h1] at this; exact this.alloc _
  · have := (Has.new (((w.alloc (.cells hs 29)).alloc (.cells bs 30)).alloc (.cells (w32 (List.replicate 8 0)).toArray 29)) 38 (wcells b 0)); rw [h1, h1, h1] at this; exact this
  · exact ((((Below.refl _ _).alloc (Nat.le_refl _) _).alloc (by simp) _).alloc (by simp; omega) _).alloc (by simp; omega) _

theorem blk_cell {wr : World} {g : Nat} {t : TypeId} {bs : Array Value} {b : List Nat} (h : Has wr g t bs) (hbs : (by8 b).toArray = bs) (hb : b.length = 64) (j : Nat) (hj : j < 64) : wr.cell? ⟨g, j, none⟩ = some (.int .u8 ((b.getD j 0 : Nat) : Int)) := by
  subst hbs
  rw [h.cell]
  simp [by8, List.getElem?_eq_getElem (show j < b.length by omega)]
theorem w_cell {wr : World} {g : Nat} {t : TypeId} {b : List Nat} {k : Nat} (h : Has wr g t (wcells b k)) (hk : k < 64) : ∃ u, wr.cell? ⟨g, k, none⟩ = some u := by
  rw [h.cell, wcells]
  have : k < (w32 (Sm.wd b k ++ List.replicate (64 - k) 0)).length := by simp [w32, Sm.wd_len]; omega
  exact ⟨_, by simp only [List.getElem?_toArray]; exact List.getElem?_eq_getElem this⟩

theorem w_set {b : List Nat} {k : Nat} {x : BitVec 32} (hk : k < 64) (hx : x = if k < 16 then Sm.word4 b k else Sm.nextW (Sm.wd b k)) : (wcells b k).setIfInBounds k (.int .u32 (wi x)) = wcells b (k + 1) := by
  obtain ⟨m, hm⟩ : ∃ m, 64 - k = m + 1 := ⟨63 - k, by omega⟩
  have hm' : 64 - (k + 1) = m := by omega
  have hl : (w32 (Sm.wd b k)).length = k := by simp [w32, Sm.wd_len]
  simp only [wcells, hm, hm', List.replicate_succ, List.setIfInBounds_toArray]
  congr 1
  have e1 : w32 (Sm.wd b k ++ 0 :: List.replicate m 0) = w32 (Sm.wd b k) ++ (Value.int .u32 (wi 0) :: w32 (List.replicate m 0)) := by simp [w32]
  have e2 : w32 (Sm.wd b (k + 1) ++ List.replicate m 0) = w32 (Sm.wd b k) ++ (Value.int .u32 (wi x) :: w32 (List.replicate m 0)) := by rw [Sm.wd, ← hx]; simp [w32]
  rw [e1, e2, List.set_append_right _ _ (by omega), hl, Nat.sub_self]
  rfl
theorem Four.step {w : World} {hs bs : Array Value} {b : List Nat} {k : Nat} {wr : World} (F : Four w hs bs b k wr) {x : BitVec 32} (hk : k < 64) (hx : x = if k < 16 then Sm.word4 b k else Sm.nextW (Sm.wd b k)) :
    Four w hs bs b (k + 1) (wr.setCell ⟨w.heap.size + 1 + 1 + 1, k, none⟩ (.int .u32 (wi x))) := by
  refine ⟨F.fh.far (by show w.heap.size ≠ w.heap.size + 1 + 1 + 1; omega) _, F.fb.far (by show w.heap.size + 1 ≠ w.heap.size + 1 + 1 + 1; omega) _, F.fr.far (by show w.heap.size + 1 + 1 ≠ w.heap.size + 1 + 1 + 1; omega) _, ?_, F.fe.setCell (by show w.heap.size ≤ w.heap.size + 1 + 1 + 1; omega) _⟩
  have := F.fs.stored k (.int .u32 (wi x))
  rw [w_set hk hx] at this
  exact this
theorem Four.drew {w : World} {hs bs : Array Value} {b : List Nat} {k : Nat} {wr : World} (F : Four w hs bs b k wr) : Four w hs bs b k wr.drew := ⟨F.fh, F.fb, F.fr, F.fs, F.fe.drew⟩
theorem Four.drewN {w : World} {hs bs : Array Value} {b : List Nat} {k : Nat} {wr : World} (F : Four w hs bs b k wr) (n : Nat) : Four w hs bs b k (wr.drewN n) := ⟨F.fh, F.fb, F.fr, F.fs, ⟨F.fe.os, F.fe.tape, F.fe.output, F.fe.size, F.fe.block⟩⟩
theorem s_cell {wr : World} {g : Nat} {t : TypeId} {b : List Nat} {k : Nat} (h : Has wr g t (wcells b k)) (j : Nat) (hj : j < k) : wr.cell? ⟨g, j, none⟩ = some (.int .u32 (wi ((Sm.wd b k).getD j 0))) := by
  have hl := Sm.wd_len b k
  rw [h.cell, wcells, List.getElem?_toArray, w32, List.map_append, List.getElem?_append_left (by simp; omega)]
  simp [List.getElem?_eq_getElem (show j < (Sm.wd b k).length by omega)]

/-- The cells of a state. -/
def st8 (s : Sm.St) : Array Value := #[.int .u32 (wi s.a), .int .u32 (wi s.b), .int .u32 (wi s.c), .int .u32 (wi s.d), .int .u32 (wi s.e), .int .u32 (wi s.f), .int .u32 (wi s.g), .int .u32 (wi s.h)]
/-- The table lies in the block of its variable. -/
def KTab (w : World) (g : Nat) : Prop := g < w.heap.size ∧ ∀ j, j < 64 → w.cell? ⟨g, j, none⟩ = some (.int .u32 (wi (Sm.ks.getD j 0)))
structure Five (w : World) (hs bs : Array Value) (b : List Nat) (G g : Nat) (t : Sm.St) (wr : World) : Prop where
  gh : Has wr w.heap.size 29 hs
  gr : Has wr (w.heap.size + 1 + 1) 29 (w32 (List.replicate 8 0)).toArray
  gs : Has wr (w.heap.size + 1 + 1 + 1) 38 (wcells b 64)
  gx : Has wr G 29 (st8 t)
  ge : Below w.heap.size w wr
  gk : KTab wr g
theorem KTab.below {w wr : World} {g : Nat} (h : KTab w g) (hb : Below w.heap.size w wr) : KTab wr g := ⟨Nat.lt_of_lt_of_le h.1 hb.size, fun j hj => (hb.cell (p := ⟨g, j, none⟩) h.1).trans (h.2 j hj)⟩
theorem Five.start {w : World} {hs bs : Array Value} {b : List Nat} {wr : World} {g : Nat} (F : Four w hs bs b 64 wr) (hk : KTab w g) (t : Sm.St) : Five w hs bs b wr.heap.size g t (wr.alloc (.cells (st8 t) 29)) :=
  ⟨F.fh.alloc _, F.fr.alloc _, F.fs.alloc _, Has.new _ _ _, F.fe.alloc F.fe.size _, hk.below (F.fe.alloc F.fe.size _)⟩
theorem Five.drewN {w : World} {hs bs : Array Value} {b : List Nat} {G g : Nat} {t : Sm.St} {wr : World} (F : Five w hs bs b G g t wr) (n : Nat) : Five w hs bs b G g t (wr.drewN n) :=
  ⟨F.gh, F.gr, F.gs, F.gx, ⟨F.ge.os, F.ge.tape, F.ge.output, F.ge.size, F.ge.block⟩, F.gk⟩

/-- What a step reads. -/
def Rd (wr : World) (B G g k : Nat) (t : Sm.St) (y z : BitVec 32) : Prop :=
  wr.cell? ⟨G, 0, none⟩ = some (.int .u32 (wi t.a)) ∧ wr.cell? ⟨G, 1, none⟩ = some (.int .u32 (wi t.b)) ∧ wr.cell? ⟨G, 2, none⟩ = some (.int .u32 (wi t.c)) ∧ wr.cell? ⟨G, 3, none⟩ = some (.int .u32 (wi t.d)) ∧
  wr.cell? ⟨G, 4, none⟩ = some (.int .u32 (wi t.e)) ∧ wr.cell? ⟨G, 5, none⟩ = some (.int .u32 (wi t.f)) ∧ wr.cell? ⟨G, 6, none⟩ = some (.int .u32 (wi t.g)) ∧ wr.cell? ⟨G, 7, none⟩ = some (.int .u32 (wi t.h)) ∧
  wr.cell? ⟨B, k, none⟩ = some (.int .u32 (wi y)) ∧ wr.cell? ⟨g, k, none⟩ = some (.int .u32 (wi z))
theorem Five.rd {w : World} {hs bs : Array Value} {b : List Nat} {G g : Nat} {t : Sm.St} {wr : World} (T : Five w hs bs b G g t wr) {k : Nat} (h64 : k < 64) : Rd wr (w.heap.size + 1 + 1 + 1) G g k t ((Sm.wd b 64).getD k 0) (Sm.ks.getD k 0) := by
  refine ⟨?_, ?_, ?_, ?_, ?_, ?_, ?_, ?_, s_cell T.gs k h64, T.gk.2 k h64⟩ <;> (rw [T.gx.cell]; rfl)
theorem Rd.drewN {wr : World} {B G g k : Nat} {t : Sm.St} {y z : BitVec 32} (h : Rd wr B G g k t y z) (n : Nat) : Rd (wr.drewN n) B G g k t y z := h

/-- Eight cells of a block stored, one behind the other. -/
def puts (G : Nat) : Nat → List Value → World → World
  | _, [], W => W
  | i, u :: r, W => puts G (i + 1) r (W.setCell ⟨G, i, none⟩ u)
theorem puts_far {G B : Nat} {ty : TypeId} {cs : Array Value} (hB : B ≠ G) : ∀ (l : List Value) (i : Nat) (W : World), Has W B ty cs → Has (puts G i l W) B ty cs
  | [], _, _, h => h
  | u :: r, i, _, h => puts_far hB r (i + 1) _ (h.far (p := ⟨G, i, none⟩) hB u)
theorem puts_below {G B : Nat} {w : World} (hB : B ≤ G) : ∀ (l : List Value) (i : Nat) (W : World), Below B w W → Below B w (puts G i l W)
  | [], _, _, h => h
  | u :: r, i, _, h => puts_below hB r (i + 1) _ (h.setCell (p := ⟨G, i, none⟩) hB u)
theorem puts_has {G : Nat} {ty : TypeId} : ∀ (l : List Value) (i : Nat) (W : World) (cs : List Value), Has W G ty cs.toArray → i + l.length = cs.length → Has (puts G i l W) G ty (cs.take i ++ l).toArray
  | [], i, W, cs, h, e => by
    have : cs.take i = cs := List.take_of_length_le (by simp at e; omega)
    rw [this, List.append_nil]; exact h
  | u :: r, i, W, cs, h, e => by
    have h1 := h.stored i u
    rw [List.setIfInBounds_toArray] at h1
    have h2 := puts_has r (i + 1) _ (cs.set i u) h1 (by simp at e ⊢; omega)
    have hi : i < cs.length := by simp at e; omega
    have e2 : (cs.set i u).take (i + 1) = cs.take i ++ [u] := by
      rw [List.take_succ_eq_append_getElem (by simpa using hi), List.take_set_of_le (Nat.le_refl i)]
      simp
    rw [e2, List.append_assoc] at h2
    exact h2
/-- The cells of a state, as a list. -/
def stL (s : Sm.St) : List Value := [.int .u32 (wi s.a), .int .u32 (wi s.b), .int .u32 (wi s.c), .int .u32 (wi s.d), .int .u32 (wi s.e), .int .u32 (wi s.f), .int .u32 (wi s.g), .int .u32 (wi s.h)]
theorem Five.step {w : World} {hs bs : Array Value} {b : List Nat} {G g : Nat} {t t' : Sm.St} {wr : World} (T : Five w hs bs b G g t wr) (hG : w.heap.size + 1 + 1 + 1 < G) (hg : KTab w g) :
    Five w hs bs b G g t' (puts G 0 (stL t') wr) := by
  have be := puts_below (G := G) (B := w.heap.size) (by omega) (stL t') 0 wr T.ge
  exact ⟨puts_far (by omega) _ _ _ T.gh, puts_far (by omega) _ _ _ T.gr, puts_far (by omega) _ _ _ T.gs, puts_has (stL t') 0 wr (stL t) T.gx rfl, be, hg.below be⟩

/-- k words added, the rest not yet. -/
def mix (t s : List (BitVec 32)) (k : Nat) : List (BitVec 32) := (List.zipWith (· + ·) t s).take k ++ t.drop k
theorem mix_at {t s : List (BitVec 32)} {k : Nat} (hk : k < t.length) (hl : t.length = s.length) : (mix t s k)[k]? = some (t.getD k 0) := by
  have h1 : ((List.zipWith (· + ·) t s).take k).length = k := by simp; omega
  rw [mix, List.getElem?_append_right (by omega), h1, Nat.sub_self, List.getElem?_drop]
  simp [List.getElem?_eq_getElem hk]
theorem mix_set {t s : List (BitVec 32)} {k : Nat} (hk : k < t.length) (hl : t.length = s.length) : (mix t s k).set k (t.getD k 0 + s.getD k 0) = mix t s (k + 1) := by
  have h1 : ((List.zipWith (· + ·) t s).take k).length = k := by simp; omega
  have hz : k < (List.zipWith (· + ·) t s).length := by simp; omega
  rw [mix, mix, List.set_append_right _ _ (by omega), h1, Nat.sub_self, List.drop_eq_getElem_cons hk, List.set_cons_zero, List.take_succ_eq_append_getElem hz, List.append_assoc]
  simp [List.getElem?_eq_getElem hk, List.getElem?_eq_getElem (show k < s.length by omega)]
structure Sum3 (w : World) (s t : Sm.St) (G k : Nat) (wr : World) : Prop where
  sh : Has wr w.heap.size 29 (w32 (Sm.wl s)).toArray
  sr : Has wr (w.heap.size + 1 + 1) 29 (w32 (List.replicate 8 0)).toArray
  sx : Has wr G 29 (w32 (mix (Sm.wl t) (Sm.wl s) k)).toArray
  se : Below w.heap.size w wr
theorem w32_set (l : List (BitVec 32)) (k : Nat) (x : BitVec 32) : (w32 l).set k (.int .u32 (wi x)) = w32 (l.set k x) := by simp [w32, List.map_set]
theorem w32_get (l : List (BitVec 32)) (k : Nat) (x : BitVec 32) (h : l[k]? = some x) : (w32 l)[k]? = some (.int .u32 (wi x)) := by simp [w32, h]
theorem Sum3.drew {w : World} {s t : Sm.St} {G k : Nat} {wr : World} (T : Sum3 w s t G k wr) : Sum3 w s t G k wr.drew := ⟨T.sh, T.sr, T.sx, T.se.drew⟩
theorem Sum3.step {w : World} {s t : Sm.St} {G k : Nat} {wr : World} (T : Sum3 w s t G k wr) (hk : k < 8) (hG : w.heap.size + 1 + 1 + 1 < G) :
    Sum3 w s t G (k + 1) (wr.setCell ⟨G, k, none⟩ (.int .u32 (wi ((Sm.wl t).getD k 0 + (Sm.wl s).getD k 0)))) := by
  refine ⟨T.sh.far (by show _ ≠ G; omega) _, T.sr.far (by show _ ≠ G; omega) _, ?_, T.se.setCell (by show _ ≤ G; omega) _⟩
  have := T.sx.stored k (.int .u32 (wi ((Sm.wl t).getD k 0 + (Sm.wl s).getD k 0)))
  rw [List.setIfInBounds_toArray, w32_set, mix_set (t := Sm.wl t) (s := Sm.wl s) hk rfl] at this
  exact this
theorem Five.sum {w : World} {hs bs : Array Value} {b : List Nat} {G g : Nat} {s t : Sm.St} {wr : World} (T : Five w hs bs b G g t wr) (hs8 : st8 s = hs) : Sum3 w s t G 0 wr := by
  subst hs8
  exact ⟨T.gh, T.gr, T.gx, T.ge⟩
theorem Sum3.cells {w : World} {s t : Sm.St} {G k : Nat} {wr : World} (T : Sum3 w s t G k wr) (hk : k < 8) : wr.cell? ⟨G, k, none⟩ = some (.int .u32 (wi ((Sm.wl t).getD k 0))) ∧ wr.cell? ⟨w.heap.size, k, none⟩ = some (.int .u32 (wi ((Sm.wl s).getD k 0))) := by
  constructor
  · rw [T.sx.cell, List.getElem?_toArray]; exact w32_get _ _ _ (mix_at (by exact hk) rfl)
  · rw [T.sh.cell, List.getElem?_toArray]; exact w32_get _ _ _ (by simp [List.getElem?_eq_getElem (show k < (Sm.wl s).length from hk)])

section
attribute [local go_sem] wi_not wi_or wi_xor wi_and wi_add wi_shl24 wi_shl16 wi_shl8 wi_shr3 wi_shr10
set_option maxRecDepth 100000 in
set_option maxHeartbeats 1000000 in
theorem rround_any (s : Sm.St) (b : List Nat) (hb : b.length = 64) (hb8 : ∀ j, b.getD j 0 < 256) (w : World) (hKT : KTab w 1) :
    Calls Tryd.prog 12 #[.agg (st8 s), .agg (by8 b).toArray] w fun e w' => e = .returned (.agg (st8 (Sm.round s b))) ∧ Below w.heap.size w w' := by
  have HB := Lib.hid hb8
  have H2 := Lib.hid hb
  clear hb8 hb
  generalize hhs : st8 s = hs
  generalize hbs : (by8 b).toArray = bs
  have HHS := Lib.hid hhs
  have HBS := Lib.hid hbs
  clear hhs hbs
  go_enter Tryd.func12, Tryd.ntmps12
  go_wp2
  go_loopw [6] (fun i wr => ∃ k : Nat, k ≤ 64 ∧ i = .int .i64 (k : Int) ∧ Four w hs bs b k wr) (fun i _ => 64 - (intOf i).toNat)
  case atStart => exact ⟨0, by omega, rfl, Four.start w hs bs b⟩
  case round =>
    obtain ⟨k, hk, rfl, F⟩ := hrel
    by_cases h64 : k < 64
    · by_cases h16 : k < 16
      · have d0 := blk_cell F.fb HBS.out H2.out (4 * k) (by omega)
        have d1 := blk_cell F.fb HBS.out H2.out (4 * k + 1) (by omega)
        have d2 := blk_cell F.fb HBS.out H2.out (4 * k + 2) (by omega)
        have d3 := blk_cell F.fb HBS.out H2.out (4 * k + 3) (by omega)
        have e0 := HB.out (4 * k)
        have e1 := HB.out (4 * k + 1)
        have e2 := HB.out (4 * k + 2)
        have e3 := HB.out (4 * k + 3)
        generalize hc0 : b.getD (4 * k) 0 = c0 at d0 e0
        generalize hc1 : b.getD (4 * k + 1) 0 = c1 at d1 e1
        generalize hc2 : b.getD (4 * k + 2) 0 = c2 at d2 e2
        generalize hc3 : b.getD (4 * k + 3) 0 = c3 at d3 e3
        have C := Lib.hid (And.intro hc0 (And.intro hc1 (And.intro hc2 hc3)))
        clear hc0 hc1 hc2 hc3
        obtain ⟨u, d4⟩ := w_cell F.fs h64
        have f0 := wi_byte e0
        have f1 := wi_byte e1
        have f2 := wi_byte e2
        have f3 := wi_byte e3
        have d5 := F.fs.frozen k
        have m0 : IntKind.i64.wrap (4 * (k : Int)) = 4 * (k : Int) := IntWalk.i64_in _ (by omega)
        have m1 : IntKind.i64.wrap (4 * (k : Int) + 1) = 4 * (k : Int) + 1 := IntWalk.i64_in _ (by omega)
        have m2 : IntKind.i64.wrap (4 * (k : Int) + 2) = 4 * (k : Int) + 2 := IntWalk.i64_in _ (by omega)
        have m3 : IntKind.i64.wrap (4 * (k : Int) + 3) = 4 * (k : Int) + 3 := IntWalk.i64_in _ (by omega)
        have t0 : (4 * (k : Int)).toNat = 4 * k := by omega
        have t1 : (4 * (k : Int) + 1).toNat = 4 * k + 1 := by omega
        have t2 : (4 * (k : Int) + 2).toNat = 4 * k + 2 := by omega
        have t3 : (4 * (k : Int) + 3).toNat = 4 * k + 3 := by omega
        have n0 : (0 : Int) ≤ 4 * (k : Int) := by omega
        have n1 : (0 : Int) ≤ 4 * (k : Int) + 1 := by omega
        have n2 : (0 : Int) ≤ 4 * (k : Int) + 2 := by omega
        have n3 : (0 : Int) ≤ 4 * (k : Int) + 3 := by omega
        have l0 : 4 * (k : Int) < 64 := by omega
        have l1 : 4 * (k : Int) + 1 < 64 := by omega
        have l2 : 4 * (k : Int) + 2 < 64 := by omega
        have l3 : 4 * (k : Int) + 3 < 64 := by omega
        go_wp2
        go_still_tail 31, (by kernel_rfl)
        change wpList _ _ _ _ _ wr.drew
        have R := (F.step h64 (x := BitVec.ofNat 32 c0 <<< 24 ||| BitVec.ofNat 32 c1 <<< 16 ||| BitVec.ofNat 32 c2 <<< 8 ||| BitVec.ofNat 32 c3) (by rw [if_pos h16, Sm.word4, C.out.1, C.out.2.1, C.out.2.2.1, C.out.2.2.2])).drew
        go_wp2
        go_roundw
        case rel => exact ⟨k + 1, by omega, by go_num, R⟩
        case measure => simp [intOf]; omega
      · have d0 := s_cell F.fs (k - 16) (by omega)
        have d1 := s_cell F.fs (k - 15) (by omega)
        have d2 := s_cell F.fs (k - 7) (by omega)
        have d3 := s_cell F.fs (k - 2) (by omega)
        have HX : Hid (Sm.nextW (Sm.wd b k) = (((Sm.wd b k).getD (k - 16) 0 + Sm.sig0 ((Sm.wd b k).getD (k - 15) 0)) + (Sm.wd b k).getD (k - 7) 0) + Sm.sig1 ((Sm.wd b k).getD (k - 2) 0)) := by
          rw [Sm.nextW, Sm.wd_len]; exact rfl
        generalize (Sm.wd b k).getD (k - 16) 0 = x0 at d0 HX
        generalize (Sm.wd b k).getD (k - 15) 0 = x1 at d1 HX
        generalize (Sm.wd b k).getD (k - 7) 0 = x2 at d2 HX
        generalize (Sm.wd b k).getD (k - 2) 0 = x3 at d3 HX
        obtain ⟨u, d4⟩ := w_cell F.fs h64
        have d5 := F.fs.frozen k
        have m0 : IntKind.i64.wrap ((k : Int) - 16) = (k : Int) - 16 := IntWalk.i64_in _ (by omega)
        have m1 : IntKind.i64.wrap ((k : Int) - 15) = (k : Int) - 15 := IntWalk.i64_in _ (by omega)
        have m2 : IntKind.i64.wrap ((k : Int) - 7) = (k : Int) - 7 := IntWalk.i64_in _ (by omega)
        have m3 : IntKind.i64.wrap ((k : Int) - 2) = (k : Int) - 2 := IntWalk.i64_in _ (by omega)
        have t0 : ((k : Int) - 16).toNat = k - 16 := by omega
        have t1 : ((k : Int) - 15).toNat = k - 15 := by omega
        have t2 : ((k : Int) - 7).toNat = k - 7 := by omega
        have t3 : ((k : Int) - 2).toNat = k - 2 := by omega
        have n0 : (0 : Int) ≤ (k : Int) - 16 := by omega
        have n1 : (0 : Int) ≤ (k : Int) - 15 := by omega
        have n2 : (0 : Int) ≤ (k : Int) - 7 := by omega
        have n3 : (0 : Int) ≤ (k : Int) - 2 := by omega
        have p0 : (16 : Int) ≤ (k : Int) := by omega
        have p1 : (15 : Int) ≤ (k : Int) := by omega
        have p2 : (7 : Int) ≤ (k : Int) := by omega
        have p3 : (2 : Int) ≤ (k : Int) := by omega
        have l0 : (k : Int) - 16 < 64 := by omega
        have l1 : (k : Int) - 15 < 64 := by omega
        have l2 : (k : Int) - 7 < 64 := by omega
        have l3 : (k : Int) - 2 < 64 := by omega
        go_wp2
        go_quiet (fail)
        go_wp2_with fail
        refine (rt x1 7 _ rfl (by decide) _).mono ?_
        rintro e w' ⟨rfl, rfl⟩
        go_wp2_with fail
        refine (rt x1 18 _ rfl (by decide) _).mono ?_
        rintro e w' ⟨rfl, rfl⟩
        go_wp2_with fail
        refine (rt x3 17 _ rfl (by decide) _).mono ?_
        rintro e w' ⟨rfl, rfl⟩
        go_wp2_with fail
        refine (rt x3 19 _ rfl (by decide) _).mono ?_
        rintro e w' ⟨rfl, rfl⟩
        go_wp2_with fail
        replace F := F.drewN nq
        replace d0 : (wr.drewN nq).cell? ⟨w.heap.size + 1 + 1 + 1, k - 16, none⟩ = some (.int .u32 (wi x0)) := d0
        replace d2 : (wr.drewN nq).cell? ⟨w.heap.size + 1 + 1 + 1, k - 7, none⟩ = some (.int .u32 (wi x2)) := d2
        replace d4 : (wr.drewN nq).cell? ⟨w.heap.size + 1 + 1 + 1, k, none⟩ = some u := d4
        replace d5 : (wr.drewN nq).frozen? ⟨w.heap.size + 1 + 1 + 1, k, none⟩ = false := d5
        clear d1 d3
        generalize wr.drewN nq = wq at F d0 d2 d4 d5 ⊢
        have R := (F.step h64 (x := ((x0 + Sm.sig0 x1) + x2) + Sm.sig1 x3) (by rw [if_neg h16, HX.out])).drew
        unfold Sm.sig0 Sm.sig1 at R
        go_still_tail 15, (by kernel_rfl)
        change wpList _ _ _ _ _ wq.drew
        go_wp2
        go_roundw
        case rel => exact ⟨k + 1, by omega, by go_num, R⟩
        case measure => simp [intOf]; omega
    · obtain rfl : k = 64 := by omega
      have d0 : wr.cell? ⟨w.heap.size, 0, none⟩ = some (.int .u32 (wi s.a)) := by rw [F.fh.cell, ← HHS.out]; rfl
      have d1 : wr.cell? ⟨w.heap.size, 1, none⟩ = some (.int .u32 (wi s.b)) := by rw [F.fh.cell, ← HHS.out]; rfl
      have d2 : wr.cell? ⟨w.heap.size, 2, none⟩ = some (.int .u32 (wi s.c)) := by rw [F.fh.cell, ← HHS.out]; rfl
      have d3 : wr.cell? ⟨w.heap.size, 3, none⟩ = some (.int .u32 (wi s.d)) := by rw [F.fh.cell, ← HHS.out]; rfl
      have d4 : wr.cell? ⟨w.heap.size, 4, none⟩ = some (.int .u32 (wi s.e)) := by rw [F.fh.cell, ← HHS.out]; rfl
      have d5 : wr.cell? ⟨w.heap.size, 5, none⟩ = some (.int .u32 (wi s.f)) := by rw [F.fh.cell, ← HHS.out]; rfl
      have d6 : wr.cell? ⟨w.heap.size, 6, none⟩ = some (.int .u32 (wi s.g)) := by rw [F.fh.cell, ← HHS.out]; rfl
      have d7 : wr.cell? ⟨w.heap.size, 7, none⟩ = some (.int .u32 (wi s.h)) := by rw [F.fh.cell, ← HHS.out]; rfl
      have hG := F.fs.lt
      have e64 : ((64 : Nat) : Int) = (64 : Int) := rfl
      simp only [e64]
      have S5 := Five.start F hKT s
      go_wp2
      clear d0 d1 d2 d3 d4 d5 d6 d7
      generalize wr.heap.size = G at hG S5 ⊢
      go_loopw [12] (fun i w2 => ∃ k : Nat, k ≤ 64 ∧ i = .int .i64 (k : Int) ∧ Five w hs bs b G 1 (Sm.steps s b k) w2) (fun i _ => 64 - (intOf i).toNat)
      case atStart => exact ⟨0, by omega, rfl, S5⟩
      case round =>
        obtain ⟨k, hk64, rfl, T⟩ := hrel
        clear F S5
        by_cases h64 : k < 64
        · have D := T.rd h64
          have HT : Hid (Sm.steps s b (k + 1) = Sm.step (Sm.steps s b k) (Sm.ks.getD k 0) ((Sm.wd b 64).getD k 0)) := rfl
          generalize (Sm.wd b 64).getD k 0 = y0 at D HT
          generalize Sm.ks.getD k 0 = z0 at D HT
          generalize Sm.steps s b k = t at T D HT
          have HD := Lib.hid D
          obtain ⟨x0, x1, x2, x3, x4, x5, x6, x7, y, z⟩ := D
          go_wp2
          go_quiet (fail)
          go_wp2_with fail
          replace T := T.drewN nq
          have HD2 := Lib.hid (HD.out.drewN nq)
          clear x0 x1 x2 x3 x4 x5 x6 x7 y z HD
          generalize wr.drewN nq = wq at T HD2 ⊢
          obtain ⟨x0, x1, x2, x3, x4, x5, x6, x7, y, z⟩ := HD2.out
          go_quiet ((go_at_call 20; exact Calls.quiet_of_same (rtm _ _ (by decide) (by decide) _)))
          go_wp2_with fail
          replace T := T.drewN nq
          have HD3 := Lib.hid (HD2.out.drewN nq)
          clear x0 x1 x2 x3 x4 x5 x6 x7 y z HD2
          generalize wq.drewN nq = wp at T HD3 ⊢
          obtain ⟨x0, x1, x2, x3, x4, x5, x6, x7, y, z⟩ := HD3.out
          have q0 := T.gx.frozen 0
          have q1 := T.gx.frozen 1
          have q2 := T.gx.frozen 2
          have q3 := T.gx.frozen 3
          have q4 := T.gx.frozen 4
          have q5 := T.gx.frozen 5
          have q6 := T.gx.frozen 6
          have q7 := T.gx.frozen 7
          go_quiet ((go_at_call 20; exact Calls.quiet_of_same (rtm _ _ (by decide) (by decide) _)))
          have R := (T.drewN nq).step (t' := Sm.step t z0 y0) hG hKT
          go_wp2
          go_roundw
          case rel =>
            refine ⟨k + 1, by omega, by go_num, ?_⟩
            rw [HT.out, wi_sum5, wi_sum14]
            exact R
          case measure => simp [intOf]; omega
        · obtain rfl : k = 64 := by omega
          have e64 : ((64 : Nat) : Int) = (64 : Int) := rfl
          simp only [e64]
          have U := T.sum HHS.out
          have HR : Hid (Sm.round s b = Sm.add (Sm.steps s b 64) s) := rfl
          generalize Sm.steps s b 64 = t at U HR
          clear T
          go_wp2
          go_loopw [17] (fun i w3 => ∃ k : Nat, k ≤ 8 ∧ i = .int .i64 (k : Int) ∧ Sum3 w s t G k w3) (fun i _ => 8 - (intOf i).toNat)
          case atStart => exact ⟨0, by omega, rfl, U⟩
          case round =>
            obtain ⟨k, hk8, rfl, T⟩ := hrel
            clear U
            by_cases h8 : k < 8
            · obtain ⟨d0, d1⟩ := T.cells h8
              have R := (T.step h8 hG).drew
              generalize (Sm.wl t).getD k 0 = x0 at d0 R
              generalize (Sm.wl s).getD k 0 = x1 at d1 R
              have d2 := T.sx.frozen k
              go_wp2
              go_still_tail 9, (by kernel_rfl)
              change wpList _ _ _ _ _ wr.drew
              go_wp2
              go_roundw
              case rel => exact ⟨k + 1, by omega, by go_num, R⟩
              case measure => simp [intOf]; omega
            · obtain rfl : k = 8 := by omega
              have d0 : wr.cell? ⟨G, 0, none⟩ = some (.int .u32 (wi (t.a + s.a))) := by rw [T.sx.cell]; rfl
              have d1 : wr.cell? ⟨G, 1, none⟩ = some (.int .u32 (wi (t.b + s.b))) := by rw [T.sx.cell]; rfl
              have d2 : wr.cell? ⟨G, 2, none⟩ = some (.int .u32 (wi (t.c + s.c))) := by rw [T.sx.cell]; rfl
              have d3 : wr.cell? ⟨G, 3, none⟩ = some (.int .u32 (wi (t.d + s.d))) := by rw [T.sx.cell]; rfl
              have d4 : wr.cell? ⟨G, 4, none⟩ = some (.int .u32 (wi (t.e + s.e))) := by rw [T.sx.cell]; rfl
              have d5 : wr.cell? ⟨G, 5, none⟩ = some (.int .u32 (wi (t.f + s.f))) := by rw [T.sx.cell]; rfl
              have d6 : wr.cell? ⟨G, 6, none⟩ = some (.int .u32 (wi (t.g + s.g))) := by rw [T.sx.cell]; rfl
              have d7 : wr.cell? ⟨G, 7, none⟩ = some (.int .u32 (wi (t.h + s.h))) := by rw [T.sx.cell]; rfl
              have r0 : wr.cell? ⟨w.heap.size + 1 + 1, 0, none⟩ = some (.int .u32 (wi 0)) := by rw [T.sr.cell]; rfl
              have r1 : wr.cell? ⟨w.heap.size + 1 + 1, 1, none⟩ = some (.int .u32 (wi 0)) := by rw [T.sr.cell]; rfl
              have r2 : wr.cell? ⟨w.heap.size + 1 + 1, 2, none⟩ = some (.int .u32 (wi 0)) := by rw [T.sr.cell]; rfl
              have r3 : wr.cell? ⟨w.heap.size + 1 + 1, 3, none⟩ = some (.int .u32 (wi 0)) := by rw [T.sr.cell]; rfl
              have r4 : wr.cell? ⟨w.heap.size + 1 + 1, 4, none⟩ = some (.int .u32 (wi 0)) := by rw [T.sr.cell]; rfl
              have r5 : wr.cell? ⟨w.heap.size + 1 + 1, 5, none⟩ = some (.int .u32 (wi 0)) := by rw [T.sr.cell]; rfl
              have r6 : wr.cell? ⟨w.heap.size + 1 + 1, 6, none⟩ = some (.int .u32 (wi 0)) := by rw [T.sr.cell]; rfl
              have r7 : wr.cell? ⟨w.heap.size + 1 + 1, 7, none⟩ = some (.int .u32 (wi 0)) := by rw [T.sr.cell]; rfl
              have q0 := T.sr.frozen 0
              have q1 := T.sr.frozen 1
              have q2 := T.sr.frozen 2
              have q3 := T.sr.frozen 3
              have q4 := T.sr.frozen 4
              have q5 := T.sr.frozen 5
              have q6 := T.sr.frozen 6
              have q7 := T.sr.frozen 7
              have Z := puts_has (stL (Sm.add t s)) 0 wr (w32 (List.replicate 8 0)) T.sr rfl
              have E := puts_below (G := w.heap.size + 1 + 1) (B := w.heap.size) (by omega) (stL (Sm.add t s)) 0 wr T.se
              go_wp2
              change bodyPost _ _ _ _ _ (puts (w.heap.size + 1 + 1) 0 (stL (Sm.add t s)) wr)
              clear d0 d1 d2 d3 d4 d5 d6 d7 r0 r1 r2 r3 r4 r5 r6 r7 q0 q1 q2 q3 q4 q5 q6 q7 T
              generalize puts (w.heap.size + 1 + 1) 0 (stL (Sm.add t s)) wr = wz at Z E ⊢
              have c0 : wz.cell? ⟨w.heap.size + 1 + 1, 0, none⟩ = some (.int .u32 (wi (t.a + s.a))) := by rw [Z.cell]; rfl
              have c1 : wz.cell? ⟨w.heap.size + 1 + 1, 1, none⟩ = some (.int .u32 (wi (t.b + s.b))) := by rw [Z.cell]; rfl
              have c2 : wz.cell? ⟨w.heap.size + 1 + 1, 2, none⟩ = some (.int .u32 (wi (t.c + s.c))) := by rw [Z.cell]; rfl
              have c3 : wz.cell? ⟨w.heap.size + 1 + 1, 3, none⟩ = some (.int .u32 (wi (t.d + s.d))) := by rw [Z.cell]; rfl
              have c4 : wz.cell? ⟨w.heap.size + 1 + 1, 4, none⟩ = some (.int .u32 (wi (t.e + s.e))) := by rw [Z.cell]; rfl
              have c5 : wz.cell? ⟨w.heap.size + 1 + 1, 5, none⟩ = some (.int .u32 (wi (t.f + s.f))) := by rw [Z.cell]; rfl
              have c6 : wz.cell? ⟨w.heap.size + 1 + 1, 6, none⟩ = some (.int .u32 (wi (t.g + s.g))) := by rw [Z.cell]; rfl
              have c7 : wz.cell? ⟨w.heap.size + 1 + 1, 7, none⟩ = some (.int .u32 (wi (t.h + s.h))) := by rw [Z.cell]; rfl
              exact bodyPost_ret (v := .agg (st8 (Sm.add t s))) (by simp [results, Tryd.results12, go_sem, c0, c1, c2, c3, c4, c5, c6, c7, st8, Sm.add]) rfl ⟨by rw [HR.out], E⟩
end
end Go.Proofs.YtolokcmlpecpdaaDoor
