/-
  What the reference's Ripe does. Conditions: lengths fit.
-/
import Derived.Test.YtlbhiiciajfphaaBo
namespace Go.Proofs.Ytlbhiiciajfphaa
open Go.RowKit Go.Sort

/-- What Ripe's loop keeps. -/
structure RiI (w : World) (b : Nat) (l : List Rw) (A : Option Addr) (now : Int) (k : Nat) (v : Value) (wr : World) (Ak : Option Addr) (ck : Nat) : Prop where
  ko : wr.ownsRow w.heap.size 3 1 v k (zs (Qu.ids (l.take k)))
  rq : RqAt wr b (l.drop k) Ak ck
  on : Only (fun j => j = b) w wr
  nr : ∀ a, Ak = some a → ∃ a0, A = some a0 ∧ a.block = a0.block
  up : ∀ j, j < k → (Qu.nr l j).1 ≤ now
/-- What Ripe hands out. -/
def RipeOut (w : World) (b : Nat) (A : Option Addr) (now : Int) (l : List Rw) (v2 : Value) (w' : World) : Prop :=
  w'.ownsRow w.heap.size 3 1 v2 (Qu.ripe now l).length (zs (Qu.ids (Qu.ripe now l))) ∧ RqTo w b A (Qu.late now l) w'
theorem RiI.out {w : World} {b : Nat} {l : List Rw} {A : Option Addr} {now : Int} {k : Nat} {v : Value} {wr : World} {Ak : Option Addr} {ck : Nat} (h : RiI w b l A now k v wr Ak ck) (hk : k ≤ l.length) (h2 : k = l.length ∨ ¬ (Qu.nr l k).1 ≤ now) :
    RipeOut w b A now l v wr := by
  obtain ⟨e1, e2⟩ := Qu.ripe_at hk h.up h2
  refine ⟨?_, Ak, ck, by rw [e2]; exact h.rq, h.on, fun a e => .inl ?_⟩
  · rw [e1, List.length_take, Nat.min_eq_left hk]; exact h.ko
  · obtain ⟨a0, h0, h1⟩ := h.nr a e
    exact ⟨a0, h0, h1⟩
set_option maxRecDepth 100000 in
set_option maxHeartbeats 4000000 in
theorem rripe_any {w : World} {b c : Nat} {l : List Rw} {A : Option Addr} (h : RqAt w b l A c) (now : Int) :
    Calls Try.prog 25 #[.pointer (some ⟨b, 0, none⟩), .int .u64 now] w fun e w' => ∃ v2, e = .returned v2 ∧ RipeOut w b A now l v2 w' := by
  have HH := Lib.hid h
  have hNb : l.length ≤ 1048576 := h.sm
  clear h
  obtain ⟨N, hN⟩ : ∃ N, l.length = N := ⟨_, rfl⟩
  rw [hN] at hNb
  have HN := Lib.hid hN
  clear hN
  go_enter Try.func25, Try.ntmps25
  go_wp2
  go_loopw [5] (fun v wr => ∃ (k : Nat) (A' : Option Addr) (c' : Nat) (Ak : Option Addr) (ck : Nat), k ≤ N ∧ v = .slice A' k c' ∧ Hid (RiI w b l A now k (.slice A' k c') wr Ak ck)) (fun v _ => match v with | .slice _ n _ => N - n | _ => 0)
  case atStart => exact ⟨0, none, 0, A, c, by omega, rfl, World.ownsRow_nil _ _ _ _, HH.out, Only.refl _ _, fun a e => ⟨a, e, rfl⟩, fun j hj => by omega⟩
  case round =>
    obtain ⟨k, A', c', Ak, ck, hk, rfl, HI⟩ := hrel
    have hlen : (l.drop k).length = N - k := by rw [List.length_drop, HN.out]
    have c0 := HI.out.rq.c0
    rw [hlen] at c0
    by_cases hkn : k < N
    · have hk2 : k < l.length := by rw [HN.out]; exact hkn
      obtain ⟨g, off, rfl, -⟩ := HI.out.rq.rd (by omega)
      obtain ⟨x0, x1⟩ := HI.out.rq.rd.cells (j := 0) (by omega)
      have hnr : Qu.nr (l.drop k) 0 = Qu.nr l k := by rw [Qu.nr_eq (by omega), Qu.nr_eq hk2, List.getElem_drop]; rfl
      rw [Nat.zero_mul, Nat.add_zero, hnr] at x0 x1
      obtain ⟨r, hr⟩ : ∃ r, Qu.nr l k = r := ⟨_, rfl⟩
      rw [hr] at x0 x1
      have HR := Lib.hid hr
      clear hr hnr
      obtain ⟨r1, r2⟩ := r
      have hp1 : (0 : Int) < ((N - k : Nat) : Int) := by omega
      have hp2 : 0 < N - k := by omega
      have hcb : ck ≤ 9223372036854775807 := by have := HI.out.rq.cm; unfold maxLen at this; omega
      have hcl : N - k ≤ ck := by rw [← hlen]; exact HI.out.rq.le
      by_cases hq : r1 ≤ now
      · have UP : Hid (∀ j, j < k + 1 → (Qu.nr l j).1 ≤ now) := fun j hj => by
          rcases Nat.lt_or_ge j k with h1 | h1
          · exact HI.out.up j h1
          · obtain rfl : j = k := by omega
            rw [HR.out]; exact hq
        have PY : Hid (Qu.ids (l.take (k + 1)) = Qu.ids (l.take k) ++ [r2]) := by
          show _ = _
          rw [List.take_add_one, List.getElem?_eq_getElem hk2]
          have := Qu.nr_eq hk2
          rw [HR.out] at this
          simp [Qu.ids, ← this]
        have LZ := Lib.hid (lit_z wr r2)
        have BA : Below wr.heap.size wr (wr.alloc (.cells #[.int .i64 r2] 3)) := (Below.refl _ _).alloc (Nat.le_refl _) _
        have KO := Lib.hid (own_grow HI.out.ko BA)
        have LW : Hid (w.heap.size ≤ (wr.alloc (.cells #[.int .i64 r2] 3)).heap.size) := Nat.le_trans HI.out.on.size BA.size
        have STEP : Hid (∀ v2 w5, w5.ownsRow w.heap.size 3 1 v2 (k + 1) (zs (Qu.ids (l.take k) ++ [r2])) → (wr.alloc (.cells #[.int .i64 r2] 3)).grownBy w5 (Value.slice A' k c').ownBlock →
            RqAt w5 b (l.drop k) (some ⟨g, off, none⟩) ck ∧ RiI w b l A now (k + 1) v2 (w5.setCell ⟨b, 0, none⟩ (.slice (if ck = 1 then some ⟨g, off, none⟩ else some ⟨g, off + 2, none⟩) (N - k - 1) (ck - 1))) (if ck = 1 then some ⟨g, off, none⟩ else some ⟨g, off + 2, none⟩) (ck - 1)) := fun v2 w5 o2 g2 => by
          have bw : b < w.heap.size := HH.out.lt
          have nv : ∀ j, (Value.slice A' k c').ownBlock = some j → w.heap.size ≤ j := own_geZ KO.out
          have tg : Only (fun j => (Value.slice A' k c').ownBlock = some j) (wr.alloc (.cells #[.int .i64 r2] 3)) w5 := Only.ofGrown g2 fun j hj => hj
          have hAk : ∀ a, some (⟨g, off, none⟩ : Addr) = some a → a.block < w.heap.size := fun a e => by
            obtain ⟨a0, h0, h1⟩ := HI.out.nr a e
            rw [h1]
            exact HH.out.bl a0 h0
          have q5 : RqAt w5 b (l.drop k) (some ⟨g, off, none⟩) ck := (HI.out.rq.below BA).only tg (fun e => by have := nv b e; omega) (fun a e hs => by have := nv _ hs; have := hAk a e; omega)
          have q6 := q5.next (by omega)
          rw [hlen, List.drop_drop] at q6
          have tw : Only (fun j => j = b) w w5 := (HI.out.on.trans (Only.ofBelow BA)).after tg fun j hj hv => by have := nv j hv; omega
          refine ⟨q5, ⟨?_, q6, tw.trans (Only.ofSet (S := fun j => j = b) rfl _), fun a e => ?_, UP.out⟩⟩
          · rw [PY.out]
            exact own_only o2 (Only.ofSet (S := fun j => j = b) rfl _) fun j hj hs => by have := own_geZ o2 j hj; have hs : j = b := hs; omega
          · obtain ⟨a0, h0, h1⟩ := HI.out.nr ⟨g, off, none⟩ rfl
            refine ⟨a0, h0, ?_⟩
            rw [← h1]
            split at e <;> (injection e with e; subst e; rfl)
        have hk1 : k + 1 ≤ 1099511627776 := by omega
        have OB := Lib.hid BA
        have hq' : decide (r1 ≤ now) = true := decide_eq_true hq
        clear HI hlen
        go_wp2_with ((refine wpList_appZ rfl (.tmp 23) (.tmp 31) rfl w.heap.size (.slice A' k c') k (Qu.ids (l.take k)) rfl KO.out (some ⟨wr.heap.size, 0, none⟩) 1 1 [r2] rfl rfl (fun e => by cases e) LZ.out hk1 LW.out ?_); (intro v2 w5 o2 g2); (obtain ⟨A3, c3, rfl, _⟩ := own_z o2); (have q5 := (STEP.out _ _ o2 g2).1); (have R := Lib.hid (STEP.out _ _ o2 g2).2); (have d0 := q5.c0); (have df := q5.fr 0); (rw [List.length_drop, HN.out] at d0); (clear q5 o2 g2 KO LZ STEP))
        go_roundw
        case rel => exact ⟨k + 1, _, _, _, _, by omega, rfl, R⟩
        case measure => simp; omega
      · have R := Lib.hid (HI.out.out (by omega) (.inr (by rw [HR.out]; exact hq)))
        have hq' : decide (r1 ≤ now) = false := decide_eq_false hq
        clear HI hlen
        go_wp2
        go_ret
        exact ⟨_, rfl, R.out⟩
    · obtain rfl : k = N := by omega
      have R := Lib.hid (HI.out.out (by rw [HN.out]; exact hk) (.inl HN.out.symm))
      rw [Nat.sub_self] at c0
      clear HI hlen
      go_wp2
      go_ret
      exact ⟨_, rfl, R.out⟩
end Go.Proofs.Ytlbhiiciajfphaa
