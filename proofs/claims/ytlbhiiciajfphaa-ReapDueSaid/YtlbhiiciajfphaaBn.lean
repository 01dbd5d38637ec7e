/-
  What a queue's Due does. Conditions: lengths fit.
-/
import Derived.Test.YtlbhiiciajfphaaBm
import Derived.Test.YtlbhiiciajfphaaIc
namespace Go.Proofs.Ytlbhiiciajfphaa
open Go.RowKit Go.Sort

theorem delete_first (base : Nat) (v : Value) (n : Nat) (l : List Rw) (j : Nat) (w : World) (hown : w.ownsRow base 56 2 v n (fl pc l)) (hj : j ≤ n) (hn : n ≤ 1099511627776) :
    Calls Try.prog 22 #[v, .int .i64 0, .int .i64 (j : Int)] w fun e w' => ∃ v', e = .returned v' ∧ v'.ownBlock = v.ownBlock ∧
      w'.ownsRow base 56 2 v' (n - j) (fl pc (l.drop j)) ∧ Only (fun k => v.ownBlock = some k) w w' := by
  rcases Nat.eq_zero_or_pos j with rfl | h
  · refine (delete_none base v n (fl pc l) w hown (by omega)).mono ?_
    rintro e w' ⟨rfl, rfl⟩
    exact ⟨v, rfl, rfl, hown, Only.refl _ _⟩
  · refine (delete_any base v n l 0 j w hown h hj hn).mono ?_
    rintro e w' ⟨v', rfl, e2, o, t⟩
    exact ⟨v', rfl, e2, by rw [List.take_zero, List.nil_append, Nat.zero_add] at o; exact o, t⟩
/-- What Due's loop keeps. -/
structure DuI (w : World) (l : List Rw) (now : Int) (k : Nat) (v : Value) (wr : World) : Prop where
  ko : wr.ownsRow w.heap.size 3 1 v k (zs (Qu.ids (l.take k)))
  kb : Below w.heap.size w wr
  up : ∀ j, j < k → (Qu.nr l j).1 ≤ now
/-- What Due hands out. -/
def DueOut (w0 w : World) (b : Nat) (v : Value) (now : Int) (l : List Rw) (v2 : Value) (w' : World) : Prop :=
  w'.ownsRow w.heap.size 3 1 v2 (Qu.ripe now l).length (zs (Qu.ids (Qu.ripe now l))) ∧ ∃ v', Qs w0 w' b (Qu.late now l) v' ∧ Only (Qb b v) w w' ∧ Near w v v' ∧ Aside b v' v2
theorem due_out {w0 w wr w2 : World} {b : Nat} {l : List Rw} {v v' vi : Value} {now : Int} {k : Nat} (h : Qs w0 w b l v) (hd : DuI w l now k vi wr) (hk : k ≤ l.length) (h2 : k = l.length ∨ ¬ (Qu.nr l k).1 ≤ now)
    (e : v'.ownBlock = v.ownBlock) (o : w2.ownsRow (b + 1) 56 2 v' (l.length - k) (fl pc (l.drop k))) (t : Only (fun k => v.ownBlock = some k) wr w2) : DueOut w0 w b v now l vi (w2.setCell ⟨b, 0, none⟩ v') := by
  obtain ⟨e1, e2⟩ := Qu.ripe_at hk hd.up h2
  have hl : (l.drop k).length = l.length - k := List.length_drop
  have h1 := h.at_.below hd.kb
  have sb : (l.drop k).Sublist l := List.drop_sublist _ _
  have hp := h1.put (l' := l.drop k) t (by rw [hl]; exact o) (h.at_.srt.sub sb) (by have := h.at_.sm; omega)
  have tt : Only (Qb b v) w (w2.setCell ⟨b, 0, none⟩ v') := (((Only.ofBelow hd.kb).trans (t.mono fun k _ hk => .inr hk)).trans (Only.ofSet (.inl rfl) _))
  have hvi : ∀ g, vi.ownBlock = some g → w.heap.size ≤ g := own_geZ hd.ko
  refine ⟨?_, v', ⟨by rw [e2]; exact hp, h.bel.trans (tt.below (fun k hk => Nat.le_trans h.hb (h.at_.blocks k hk).1) h.bel.size), h.hb⟩, tt, fun g hg => .inl (e ▸ hg), fun g hg hq => ?_⟩
  · rw [e1, List.length_take, Nat.min_eq_left hk]
    refine own_only (own_only hd.ko t fun g hg hs => ?_) (Only.ofSet (S := fun k => k = b) rfl _) fun g hg hs => ?_
    · have := hvi g hg; have := (h.at_.blocks g (.inr hs)).2; omega
    · have := hvi g hg; have := h.at_.lt; have : g = b := hs; omega
  · have := hvi g hg
    have : Qb b v g := hq.imp (fun h => h) fun h => e ▸ h
    have := (h.at_.blocks g this).2
    omega
set_option maxRecDepth 100000 in
set_option maxHeartbeats 4000000 in
theorem qdue_any {w0 w : World} {b : Nat} {l : List Rw} {v : Value} (h : Qs w0 w b l v) (now : Int) :
    Calls Try.prog 12 #[.pointer (some ⟨b, 0, none⟩), .int .u64 now] w fun e w' => ∃ v2, e = .returned v2 ∧ DueOut w0 w b v now l v2 w' := by
  have HH := Lib.hid h
  obtain ⟨A, cap, rfl, ha⟩ := h.at_.row
  have HA := Lib.hid ha
  have c0 := h.at_.c0
  have SM := Lib.hid h.at_.sm
  clear h ha
  obtain ⟨N, hN⟩ : ∃ N, l.length = N := ⟨_, rfl⟩
  have HN := Lib.hid hN
  rw [hN] at c0
  have V : Hid (Value.slice A l.length cap = .slice A N cap) := by show _ = _; rw [hN]
  have hNb : N ≤ 1048576 := by rw [← hN]; exact SM.out
  clear hN
  go_enter Try.func12, Try.ntmps12
  go_wp2
  go_loopw [5, 13] (fun v i wr => ∃ (k : Nat) (A' : Option Addr) (c : Nat), k ≤ N ∧ i = .int .i64 (k : Int) ∧ v = .slice A' k c ∧ Hid (DuI w l now k v wr)) (fun _ i _ => N - (intOf i).toNat)
  case atStart => exact ⟨0, none, 0, by omega, rfl, rfl, World.ownsRow_nil _ _ _ _, Below.refl _ _, fun j hj => by omega⟩
  case round =>
    obtain ⟨k, A', c, hk, rfl, rfl, HI⟩ := hrel
    have FIN : Hid (k = N ∨ ¬ (Qu.nr l k).1 ≤ now → ∀ wr2, DuI w l now k (.slice A' k c) wr2 → Calls Try.prog 22 #[.slice A N cap, .int .i64 0, .int .i64 (k : Int)] wr2 fun e w2 => ∃ v', e = .returned v' ∧ v'.ownBlock = (Value.slice A N cap).ownBlock ∧ (∃ A2 c2, v' = .slice A2 (N - k) c2) ∧
        w2.cell? ⟨b, 0, none⟩ = some (.slice A N cap) ∧ w2.frozen? ⟨b, 0, none⟩ = false ∧ DueOut w0 w b (.slice A l.length cap) now l (.slice A' k c) (w2.setCell ⟨b, 0, none⟩ v')) := fun h2 wr2 hd => by
      have h1 := HH.out.at_.below hd.kb
      refine (delete_first (b + 1) (.slice A N cap) N l k wr2 (by have := h1.own; rwa [HN.out] at this) hk (by have := SM.out; have := HN.out; omega)).mono ?_
      rintro e w2 ⟨v', rfl, e2, o, t⟩
      have t' : Only (fun k => (Value.slice A l.length cap).ownBlock = some k) wr2 w2 := by rw [V.out]; exact t
      have nb : ¬ (Value.slice A N cap).ownBlock = some b := fun e => by have := h1.own.lt b (by rw [V.out]; exact e); omega
      have hb2 := t.block b h1.lt nb
      refine ⟨v', rfl, e2, ?_, ?_, (World.frozen?_of_block (a := ⟨b, 0, none⟩) hb2).trans (h1.fr 0), due_out HH.out hd (by rw [HN.out]; exact hk) (by rw [HN.out]; exact h2) (by rw [V.out]; exact e2) (by rw [HN.out]; exact o) t'⟩
      · obtain ⟨A2, c2, e⟩ := own_slice o
        exact ⟨A2, c2, e⟩
      · rw [(World.cell?_of_block (a := ⟨b, 0, none⟩) hb2).trans h1.c0, HN.out]
    have OB : Hid (b < w.heap.size) := HH.out.at_.lt
    by_cases hkn : k < N
    · have hk2 : k < l.length := by rw [HN.out]; exact hkn
      obtain ⟨g, off, rfl, hc⟩ := (HA.out.below HI.out.kb) (by omega)
      obtain ⟨k0, k1⟩ := hc k hk2
      have hkz : (k : Int) < (N : Int) := by omega
      obtain ⟨r, hr⟩ : ∃ r, Qu.nr l k = r := ⟨_, rfl⟩
      rw [hr] at k0 k1
      have HR := Lib.hid hr
      clear hr hc HA
      obtain ⟨r1, r2⟩ := r
      obtain ⟨x0, x1⟩ := box2 (w := wr) (v0 := .int .u64 r1) (v1 := .int .i64 r2) (ty := 56) (Below.refl _ _)
      have AB : Below wr.heap.size wr (wr.alloc (.cells #[.int .u64 r1, .int .i64 r2] 56)) := (Below.refl _ _).alloc (Nat.le_refl _) _
      have HJ : Hid (DuI w l now k (.slice A' k c) (wr.alloc (.cells #[.int .u64 r1, .int .i64 r2] 56))) := ⟨own_grow HI.out.ko AB, HI.out.kb.trans (AB.mono HI.out.kb.size), HI.out.up⟩
      have LW : Hid (w.heap.size ≤ wr.heap.size) := HI.out.kb.size
      have m0 : (wr.alloc (.cells #[.int .u64 r1, .int .i64 r2] 56)).cell? ⟨b, 0, none⟩ = some (.slice (some ⟨g, off, none⟩) N cap) := (HJ.out.kb.cell (p := ⟨b, 0, none⟩) OB.out).trans c0
      clear HI AB
      by_cases hq : r1 ≤ now
      · have hz : ¬ now < r1 := by omega
        have UP : Hid (∀ j, j < k + 1 → (Qu.nr l j).1 ≤ now) := fun j hj => by
          rcases Nat.lt_or_ge j k with h1 | h1
          · exact HJ.out.up j h1
          · obtain rfl : j = k := by omega
            rw [HR.out]; exact hq
        have PY : Hid (Qu.ids (l.take (k + 1)) = Qu.ids (l.take k) ++ [r2]) := by
          show _ = _
          rw [List.take_add_one, List.getElem?_eq_getElem hk2]
          have := Qu.nr_eq hk2
          rw [HR.out] at this
          simp [Qu.ids, ← this]
        clear FIN
        go_upto_region 6 with fail
        generalize (wr.alloc (.cells #[.int .u64 r1, .int .i64 r2] 56)) = wB at *
        have LZ := Lib.hid (lit_z wB r2)
        have KO := Lib.hid (own_grow HJ.out.ko ((Below.refl _ _).alloc (Nat.le_refl _) (.cells #[.int .i64 r2] 3)))
        have AZ : Hid (Below w.heap.size w (wB.alloc (.cells #[.int .i64 r2] 3))) := HJ.out.kb.alloc HJ.out.kb.size _
        have KL : Hid (k + 1 ≤ 1099511627776) := by have := SM.out; have := HN.out; show _ ≤ _; omega
        clear HJ LW SM m0 k0 k1
        go_wp2_with ((refine wpList_appZ rfl (.tmp 21) (.tmp 24) rfl w.heap.size (.slice A' k c) k (Qu.ids (l.take k)) rfl KO.out (some ⟨wB.heap.size, 0, none⟩) 1 1 [r2] rfl rfl (fun e => by cases e) LZ.out KL.out AZ.out.size ?_); (intro v2 w5 o2 g2); (have R : Hid (DuI w l now (k + 1) v2 w5) := ⟨by rw [PY.out]; exact o2, AZ.out.grown g2 AZ.out.size (fun g hg => own_geZ KO.out g hg), UP.out⟩); (obtain ⟨A3, c3, rfl, _⟩ := own_z o2); (clear o2 g2 KO AZ LZ))
        go_roundw
        case rel => exact ⟨k + 1, _, _, by omega, by go_num, rfl, R⟩
        case measure => simp [intOf]; omega
      · have hz : now < r1 := by omega
        have K := Lib.hid (FIN.out (.inr (by rw [HR.out]; exact hq)) _ HJ.out)
        clear FIN
        go_wp2_with fail
        refine K.out.mono ?_
        rintro e w2 ⟨v', rfl, e2, ⟨A2, c2, rfl⟩, d0, d1, D⟩
        have R := Lib.hid D
        clear K D e2 HJ
        go_wp2
        go_ret
        exact ⟨_, rfl, by have := R.out; exact this⟩
    · obtain rfl : k = N := by omega
      have hkz : ¬ (k : Int) < (k : Int) := by omega
      have m0 : wr.cell? ⟨b, 0, none⟩ = some (.slice A k cap) := (HI.out.kb.cell (p := ⟨b, 0, none⟩) OB.out).trans c0
      have K := Lib.hid (FIN.out (.inl rfl) _ HI.out)
      clear FIN HI
      go_wp2_with fail
      refine K.out.mono ?_
      rintro e w2 ⟨v', rfl, e2, ⟨A2, c2, hv⟩, d0, d1, D⟩
      rw [Nat.sub_self] at hv
      subst hv
      have R := Lib.hid D
      clear K D e2
      go_wp2
      go_ret
      exact ⟨_, rfl, by have := R.out; exact this⟩
end Go.Proofs.Ytlbhiiciajfphaa
