/-
  What slices.symMergeCmpFunc does to a row of ints: two sorted parts become one: the code behind its last loop. Conditions as in XQi.
-/
import Derived.Test.YtmdpeifpgnkbiaaDoorQt
import Derived.Deep.Cut
import Derived.Deep.CutRange
namespace Go.Proofs.YtmdpeifpgnkbiaaDoor
open Go.RowKit
/-- Does the code begin with that region? -/
def starts (k : Nat) : Code → Bool
  | .region i _ _ => i == k
  | .seq a _ => starts k a
  | .block _ c => starts k c
  | .scope c => starts k c
  | _ => false
/-- The code from the statement on that begins with a region. -/
def fromRegion (k : Nat) : Code → Option Code
  | .seq a b => if starts k a then some (.seq a b) else match fromRegion k a with
    | some c => some c
    | none => fromRegion k b
  | .block _ c => fromRegion k c
  | .scope c => fromRegion k c
  | .loop c => fromRegion k c
  | .cond _ a b => match fromRegion k a with
    | some c => some c
    | none => fromRegion k b
  | _ => none
noncomputable def tl39 : Code := ((Tryd.f59.body.bind (fromRegion 39)).getD .skip)
noncomputable def tl41 : Code := ((Tryd.f59.body.bind (fromRegion 41)).getD .skip)
section
variable {B n : Nat} {c : FuncId} {cb : Array Value} {cf : Nat → Nat → Int} {S : (Nat → Nat) → World → Prop} {R : Nat → Nat → Prop}
/-- A merge of [a, b) at m, called in w. -/
def Merges (S : (Nat → Nat) → World → Prop) (R : Nat → Nat → Prop) (B n : Nat) (c : FuncId) (cb : Array Value) (cap a m b : Nat) (d : Nat → Nat) (w : World) : Prop :=
  Calls Tryd.prog 59 #[.slice (some ⟨B, 0, none⟩) n cap, .int .i64 (a : Int), .int .i64 (m : Int), .int .i64 (b : Int), .func (.func c) #[] cb] w fun e w' => e = .returned (.tuple #[]) ∧ ∃ d', S d' w' ∧ So.Via a b d d' ∧ So.Sorted R d' a b
set_option maxRecDepth 100000 in
set_option maxHeartbeats 4000000 in
theorem merge_tail41 (T : SortW B n c cb cf S) (O : So.Ord R (ltf cf)) (cap a m b mid s e : Nat) (d : Nat → Nat) (w : World) (C : So.Cut R d a m b mid s e) (hS : S (So.rot d s m e) w) (hV : So.Via a b d (So.rot d s m e)) (h3 : b ≤ n) (m1 : a + 1 < mid) (m2 : mid + 1 < b)
    (IH : ∀ a' m' b' d' w', b' - a' < b - a → S d' w' → a' < m' → m' < b' → b' ≤ n → So.Sorted R d' a' m' → So.Sorted R d' m' b' → So.Cross d' a' m' b' → Merges S R B n c cb cap a' m' b' d' w')
    (c5 c6 c7 c8 c9 c10 c11 c12 c13 c14 c15 c16 c17 c19 c21 c22 c23 c25 c26 c27 c28 c29 c30 c31 c32 c33 c34 c35 c36 c37 c38 c39 c40 c41 c42 c43 c44 c45 c46 c47 c48 c49 c50 c51 c52 c53 c54 c55 c56 c57 c58 c59 c60 c61 c62 c63 c64 c65 c66 c67 c68 c69 c70 c71 c72 c73 c74 c75 c76 c77 c78 c79 c80 c81 c82 c83 c84 c85 c86 c87 c88 c89 c90 c91 c92 c93 c94 c95 c96 c97 c98 c99 c100 c101 c102 c103 c104 c105 c106 c107 c108 c109 c110 c111 c112 c113 c114 c115 c116 c117 c118 c119 c120 c121 c122 c123 c124 c125 c126 c127 c128 c129 c130 c131 c132 c133 c134 c135 c136 c137 c138 c139 c140 c141 c142 c143 c144 c145 c146 c147 c148 c149 c150 c151 c152 c153 c154 c155 c156 c157 c158 c159 c160 c161 c162 c163 c164 c165 c166 c167 c168 c169 c170 c171 c172 c173 c174 c175 c176 c177 c178 c179 c180 c181 c182 c183 c184 c185 c186 c187 c188 c189 c190 c191 c192 c193 c194 c195 c196 c197 c198 c199 c200 c201 c202 c203 c204 c205 c206 c207 c208 c209 c210 c211 c212 c213 c214 c215 c216 c217 c218 c219 : Value) : Code.wp Tryd.prog tl41 (bodyPost Tryd.prog Tryd.f59 fun e' w' => e' = .returned (.tuple #[]) ∧ ∃ d', S d' w' ∧ So.Via a b d d' ∧ So.Sorted R d' a b)
      ⟨List.toArray (Value.slice (some ⟨B, 0, none⟩) n cap :: Value.int .i64 (a : Int) :: Value.int .i64 (m : Int) :: Value.int .i64 (b : Int) :: Value.func (.func c) #[] cb :: c5 :: c6 :: c7 :: c8 :: c9 :: c10 :: c11 :: c12 :: c13 :: c14 :: c15 :: c16 :: c17 :: Value.int .i64 (mid : Int) :: c19 :: Value.int .i64 (s : Int) :: c21 :: c22 :: c23 :: Value.int .i64 (e : Int) :: c25 :: c26 :: c27 :: c28 :: c29 :: c30 :: c31 :: c32 :: c33 :: c34 :: c35 :: c36 :: c37 :: c38 :: c39 :: c40 :: c41 :: c42 :: c43 :: c44 :: c45 :: c46 :: c47 :: c48 :: c49 :: c50 :: c51 :: c52 :: c53 :: c54 :: c55 :: c56 :: c57 :: c58 :: c59 :: c60 :: c61 :: c62 :: c63 :: c64 :: c65 :: c66 :: c67 :: c68 :: c69 :: c70 :: c71 :: c72 :: c73 :: c74 :: c75 :: c76 :: c77 :: c78 :: c79 :: c80 :: c81 :: c82 :: c83 :: c84 :: c85 :: c86 :: c87 :: c88 :: c89 :: c90 :: c91 :: c92 :: c93 :: c94 :: c95 :: c96 :: c97 :: c98 :: c99 :: c100 :: c101 :: c102 :: c103 :: c104 :: c105 :: c106 :: c107 :: c108 :: c109 :: c110 :: c111 :: c112 :: c113 :: c114 :: c115 :: c116 :: c117 :: c118 :: c119 :: c120 :: c121 :: c122 :: c123 :: c124 :: c125 :: c126 :: c127 :: c128 :: c129 :: c130 :: c131 :: c132 :: c133 :: c134 :: c135 :: c136 :: c137 :: c138 :: c139 :: c140 :: c141 :: c142 :: c143 :: c144 :: c145 :: c146 :: c147 :: c148 :: c149 :: c150 :: c151 :: c152 :: c153 :: c154 :: c155 :: c156 :: c157 :: c158 :: c159 :: c160 :: c161 :: c162 :: c163 :: c164 :: c165 :: c166 :: c167 :: c168 :: c169 :: c170 :: c171 :: c172 :: c173 :: c174 :: c175 :: c176 :: c177 :: c178 :: c179 :: c180 :: c181 :: c182 :: c183 :: c184 :: c185 :: c186 :: c187 :: c188 :: c189 :: c190 :: c191 :: c192 :: c193 :: c194 :: c195 :: c196 :: c197 :: c198 :: c199 :: c200 :: c201 :: c202 :: c203 :: c204 :: c205 :: c206 :: c207 :: c208 :: c209 :: c210 :: c211 :: c212 :: c213 :: c214 :: c215 :: c216 :: c217 :: c218 :: c219 :: []), []⟩ w := by
  unfold Merges at IH
  have HT := Lib.hid T
  have HO := Lib.hid O
  have hn := T.len
  have CUT := Lib.hid C
  have HIH := Lib.hid IH
  have k1 := C.as
  have k2 := C.sm
  have k3 := C.me
  have k4 := C.eb
  have k5 : s ≤ mid := by have := C.sum; omega
  have k6 : mid ≤ e := by have := C.sum; omega
  have HI1 := Lib.hid hS
  have HV1 := Lib.hid hV
  clear T O C IH hS hV
  conv => arg 2; whnf
  go_upto_region 41 with fail
  go_cut [199] from 25 (fun vb wd => vb = .bool (decide (a < s ∧ s < mid)) ∧ wd = w)
  case first =>
    by_cases x1 : a < s
    · have x1z : (a : Int) < (s : Int) := by omega
      have x1d : decide ((a : Int) < (s : Int)) = true := decide_eq_true x1z
      by_cases x2 : s < mid
      · have x2z : (s : Int) < (mid : Int) := by omega
        have X : Hid (decide (a < s ∧ s < mid) = true) := decide_eq_true ⟨x1, x2⟩
        go_wp2
        go_meet
        case rel => exact ⟨by rw [X.out], rfl⟩
      · have x2z : ¬ (s : Int) < (mid : Int) := by omega
        have X : Hid (decide (a < s ∧ s < mid) = false) := decide_eq_false (fun h => x2 h.2)
        go_wp2
        go_meet
        case rel => exact ⟨by rw [X.out], rfl⟩
    · have x1z : ¬ (a : Int) < (s : Int) := by omega
      have x1d : decide ((a : Int) < (s : Int)) = false := decide_eq_false x1z
      have X : Hid (decide (a < s ∧ s < mid) = false) := decide_eq_false (fun h => x1 h.1)
      go_wp2
      go_meet
      case rel => exact ⟨by rw [X.out], rfl⟩
  case rest =>
    obtain ⟨rfl, rfl⟩ := hcut
    have HM2 : Hid (a < s ∧ s < mid → Calls Tryd.prog 59 #[.slice (some ⟨B, 0, none⟩) n cap, .int .i64 (a : Int), .int .i64 (s : Int), .int .i64 (mid : Int), .func (.func c) #[] cb] wc fun e' w' => e' = .returned (.tuple #[]) ∧ ∃ d2, S d2 w' ∧ So.Via a mid (So.rot d s m e) d2 ∧ So.Sorted R d2 a mid) := fun h =>
      HIH.out a s mid (So.rot d s m e) wc (by omega) HI1.out h.1 h.2 (by omega) CUT.out.f1 CUT.out.f2 CUT.out.c1
    have HSK : Hid (¬ (a < s ∧ s < mid) → So.Sorted R (So.rot d s m e) a mid) := fun h => by
      rcases (by omega : s = a ∨ s = mid) with h | h
      · exact CUT.out.f2.sub (by omega) (by omega)
      · exact CUT.out.f1.sub (by omega) (by omega)
    go_upto_if 199 with fail
    go_cut [] from 25 (fun wx => Hid (∃ d2, S d2 wx ∧ So.Via a mid (So.rot d s m e) d2 ∧ So.Sorted R d2 a mid))
    case first =>
      by_cases X : a < s ∧ s < mid
      · rw [decide_eq_true X]
        have HR := Lib.hid (HM2.out X)
        clear HM2 HSK HI1
        go_wp2_with fail
        refine HR.out.mono ?_
        rintro e' w' ⟨rfl, r1⟩
        have R1 := Lib.hid r1
        clear r1 HR
        go_wp2
        go_meet
        case rel => exact R1
      · rw [decide_eq_false X]
        have E := Lib.hid (HSK.out X)
        clear HM2 HSK
        go_wp2
        go_meet
        case rel => exact ⟨_, HI1.out, .refl, E.out⟩
    case rest =>
      obtain ⟨d2, s2, v2, o2⟩ := hcut.out
      have HI2 := Lib.hid s2
      have V2 := Lib.hid v2
      have O2 := Lib.hid o2
      clear HM2 HSK HI1 hcut s2 v2 o2
      go_upto_region 43 with fail
      go_cut [213] from 25 (fun vb wd => vb = .bool (decide (mid < e ∧ e < b)) ∧ wd = wc)
      case first =>
        by_cases x1 : mid < e
        · have x1z : (mid : Int) < (e : Int) := by omega
          have x1d : decide ((mid : Int) < (e : Int)) = true := decide_eq_true x1z
          by_cases x2 : e < b
          · have x2z : (e : Int) < (b : Int) := by omega
            have X : Hid (decide (mid < e ∧ e < b) = true) := decide_eq_true ⟨x1, x2⟩
            go_wp2
            go_meet
            case rel => exact ⟨by rw [X.out], rfl⟩
          · have x2z : ¬ (e : Int) < (b : Int) := by omega
            have X : Hid (decide (mid < e ∧ e < b) = false) := decide_eq_false (fun h => x2 h.2)
            go_wp2
            go_meet
            case rel => exact ⟨by rw [X.out], rfl⟩
        · have x1z : ¬ (mid : Int) < (e : Int) := by omega
          have x1d : decide ((mid : Int) < (e : Int)) = false := decide_eq_false x1z
          have X : Hid (decide (mid < e ∧ e < b) = false) := decide_eq_false (fun h => x1 h.1)
          go_wp2
          go_meet
          case rel => exact ⟨by rw [X.out], rfl⟩
      case rest =>
        obtain ⟨rfl, rfl⟩ := hcut
        have SRT : Hid (So.Sorted R d2 mid e ∧ So.Sorted R d2 e b ∧ So.Cross d2 mid e b) := by
          have ot : ∀ k, mid ≤ k → d2 k = So.rot d s m e k := fun k hk => V2.out.out k (.inr hk)
          refine ⟨CUT.out.f3.congr fun k k1 _ => ot k k1, CUT.out.f4.congr fun k k1 _ => ot k (by omega), fun i j i1 i2 j1 j2 => ?_⟩
          rw [ot i i1, ot j (by omega)]
          exact CUT.out.c2 i j i1 i2 j1 j2
        have END : Hid (∀ d3, So.Via mid b d2 d3 → So.Sorted R d3 mid b → So.Via a b d d3 ∧ So.Sorted R d3 a b) := fun d3 v3 o3 =>
          ⟨(HV1.out.trans (V2.out.mono (Nat.le_refl _) (by omega))).trans (v3.mono (by omega) (Nat.le_refl _)), CUT.out.whole HO.out V2.out O2.out v3 o3⟩
        by_cases X : mid < e ∧ e < b
        · rw [decide_eq_true X]
          have HR : Hid (Calls Tryd.prog 59 #[.slice (some ⟨B, 0, none⟩) n cap, .int .i64 (mid : Int), .int .i64 (e : Int), .int .i64 (b : Int), .func (.func c) #[] cb] wc fun e' w' => e' = .returned (.tuple #[]) ∧ ∃ d3, S d3 w' ∧ So.Via mid b d2 d3 ∧ So.Sorted R d3 mid b) :=
            HIH.out mid e b d2 wc (by omega) HI2.out X.1 X.2 h3 SRT.out.1 SRT.out.2.1 SRT.out.2.2
          go_wp2_with fail
          refine HR.out.mono ?_
          rintro e' w' ⟨rfl, r1⟩
          have R1 := Lib.hid r1
          clear r1 HR
          go_wp2
          go_end0
          obtain ⟨d3, s3, v3, o3⟩ := R1.out
          exact ⟨rfl, d3, s3, END.out d3 v3 o3⟩
        · rw [decide_eq_false X]
          have E : Hid (So.Sorted R d2 mid b) := by
            show So.Sorted _ _ _ _
            rcases (by omega : e = mid ∨ e = b) with h | h
            · exact SRT.out.2.1.sub (by omega) (by omega)
            · exact SRT.out.1.sub (by omega) (by omega)
          go_wp2
          go_end0
          exact ⟨rfl, d2, HI2.out, END.out d2 .refl E.out⟩
set_option maxRecDepth 100000 in
set_option maxHeartbeats 4000000 in
theorem merge_tail39 (T : SortW B n c cb cf S) (O : So.Ord R (ltf cf)) (cap a m b mid s e : Nat) (d : Nat → Nat) (w : World) (C : So.Cut R d a m b mid s e) (hS : S d w) (h3 : b ≤ n) (m1 : a + 1 < mid) (m2 : mid + 1 < b)
    (IH : ∀ a' m' b' d' w', b' - a' < b - a → S d' w' → a' < m' → m' < b' → b' ≤ n → So.Sorted R d' a' m' → So.Sorted R d' m' b' → So.Cross d' a' m' b' → Merges S R B n c cb cap a' m' b' d' w')
    (c5 c6 c7 c8 c9 c10 c11 c12 c13 c14 c15 c16 c17 c19 c21 c22 c23 c25 c26 c27 c28 c29 c30 c31 c32 c33 c34 c35 c36 c37 c38 c39 c40 c41 c42 c43 c44 c45 c46 c47 c48 c49 c50 c51 c52 c53 c54 c55 c56 c57 c58 c59 c60 c61 c62 c63 c64 c65 c66 c67 c68 c69 c70 c71 c72 c73 c74 c75 c76 c77 c78 c79 c80 c81 c82 c83 c84 c85 c86 c87 c88 c89 c90 c91 c92 c93 c94 c95 c96 c97 c98 c99 c100 c101 c102 c103 c104 c105 c106 c107 c108 c109 c110 c111 c112 c113 c114 c115 c116 c117 c118 c119 c120 c121 c122 c123 c124 c125 c126 c127 c128 c129 c130 c131 c132 c133 c134 c135 c136 c137 c138 c139 c140 c141 c142 c143 c144 c145 c146 c147 c148 c149 c150 c151 c152 c153 c154 c155 c156 c157 c158 c159 c160 c161 c162 c163 c164 c165 c166 c167 c168 c169 c170 c171 c172 c173 c174 c175 c176 c177 c178 c179 c180 c181 c182 c183 c184 c185 c186 c187 c188 c189 c190 c191 c192 c193 c194 c195 c196 c197 c198 c199 c200 c201 c202 c203 c204 c205 c206 c207 c208 c209 c210 c211 c212 c213 c214 c215 c216 c217 c218 c219 : Value) : Code.wp Tryd.prog tl39 (bodyPost Tryd.prog Tryd.f59 fun e' w' => e' = .returned (.tuple #[]) ∧ ∃ d', S d' w' ∧ So.Via a b d d' ∧ So.Sorted R d' a b)
      ⟨List.toArray (Value.slice (some ⟨B, 0, none⟩) n cap :: Value.int .i64 (a : Int) :: Value.int .i64 (m : Int) :: Value.int .i64 (b : Int) :: Value.func (.func c) #[] cb :: c5 :: c6 :: c7 :: c8 :: c9 :: c10 :: c11 :: c12 :: c13 :: c14 :: c15 :: c16 :: c17 :: Value.int .i64 (mid : Int) :: c19 :: Value.int .i64 (s : Int) :: c21 :: c22 :: c23 :: Value.int .i64 (e : Int) :: c25 :: c26 :: c27 :: c28 :: c29 :: c30 :: c31 :: c32 :: c33 :: c34 :: c35 :: c36 :: c37 :: c38 :: c39 :: c40 :: c41 :: c42 :: c43 :: c44 :: c45 :: c46 :: c47 :: c48 :: c49 :: c50 :: c51 :: c52 :: c53 :: c54 :: c55 :: c56 :: c57 :: c58 :: c59 :: c60 :: c61 :: c62 :: c63 :: c64 :: c65 :: c66 :: c67 :: c68 :: c69 :: c70 :: c71 :: c72 :: c73 :: c74 :: c75 :: c76 :: c77 :: c78 :: c79 :: c80 :: c81 :: c82 :: c83 :: c84 :: c85 :: c86 :: c87 :: c88 :: c89 :: c90 :: c91 :: c92 :: c93 :: c94 :: c95 :: c96 :: c97 :: c98 :: c99 :: c100 :: c101 :: c102 :: c103 :: c104 :: c105 :: c106 :: c107 :: c108 :: c109 :: c110 :: c111 :: c112 :: c113 :: c114 :: c115 :: c116 :: c117 :: c118 :: c119 :: c120 :: c121 :: c122 :: c123 :: c124 :: c125 :: c126 :: c127 :: c128 :: c129 :: c130 :: c131 :: c132 :: c133 :: c134 :: c135 :: c136 :: c137 :: c138 :: c139 :: c140 :: c141 :: c142 :: c143 :: c144 :: c145 :: c146 :: c147 :: c148 :: c149 :: c150 :: c151 :: c152 :: c153 :: c154 :: c155 :: c156 :: c157 :: c158 :: c159 :: c160 :: c161 :: c162 :: c163 :: c164 :: c165 :: c166 :: c167 :: c168 :: c169 :: c170 :: c171 :: c172 :: c173 :: c174 :: c175 :: c176 :: c177 :: c178 :: c179 :: c180 :: c181 :: c182 :: c183 :: c184 :: c185 :: c186 :: c187 :: c188 :: c189 :: c190 :: c191 :: c192 :: c193 :: c194 :: c195 :: c196 :: c197 :: c198 :: c199 :: c200 :: c201 :: c202 :: c203 :: c204 :: c205 :: c206 :: c207 :: c208 :: c209 :: c210 :: c211 :: c212 :: c213 :: c214 :: c215 :: c216 :: c217 :: c218 :: c219 :: []), []⟩ w := by
  have HT := Lib.hid T
  have HO := Lib.hid O
  have hn := T.len
  have CUT := Lib.hid C
  have HIH := Lib.hid IH
  have k1 := C.as
  have k2 := C.sm
  have k3 := C.me
  have k4 := C.eb
  have k5 : s ≤ mid := by have := C.sum; omega
  have k6 : mid ≤ e := by have := C.sum; omega
  have HI := Lib.hid hS
  clear T O C IH hS
  conv => arg 2; whnf
  go_upto_region 39 with fail
  go_cut [185] from 25 (fun vb wc => vb = .bool (decide (s < m ∧ m < e)) ∧ wc = w)
  case first =>
    by_cases x1 : s < m
    · have x1z : (s : Int) < (m : Int) := by omega
      have x1d : decide ((s : Int) < (m : Int)) = true := decide_eq_true x1z
      by_cases x2 : m < e
      · have x2z : (m : Int) < (e : Int) := by omega
        have X : Hid (decide (s < m ∧ m < e) = true) := decide_eq_true ⟨x1, x2⟩
        go_wp2
        go_meet
        case rel => exact ⟨by rw [X.out], rfl⟩
      · have x2z : ¬ (m : Int) < (e : Int) := by omega
        have X : Hid (decide (s < m ∧ m < e) = false) := decide_eq_false (fun h => x2 h.2)
        go_wp2
        go_meet
        case rel => exact ⟨by rw [X.out], rfl⟩
    · have x1z : ¬ (s : Int) < (m : Int) := by omega
      have x1d : decide ((s : Int) < (m : Int)) = false := decide_eq_false x1z
      have X : Hid (decide (s < m ∧ m < e) = false) := decide_eq_false (fun h => x1 h.1)
      go_wp2
      go_meet
      case rel => exact ⟨by rw [X.out], rfl⟩
  case rest =>
    obtain ⟨rfl, rfl⟩ := hcut
    have HRO : Hid (s < m ∧ m < e → Calls Tryd.prog 60 #[.slice (some ⟨B, 0, none⟩) n cap, .int .i64 (s : Int), .int .i64 (m : Int), .int .i64 (e : Int), .func (.func c) #[] cb] wc fun e' w' => e' = .returned (.tuple #[]) ∧ S (So.rot d s m e) w' ∧ So.Via a b d (So.rot d s m e)) := fun h =>
      (rotate_any HT.out cap s m e d wc HI.out h.1 h.2 (by omega)).mono fun _ _ ⟨h1, h2, h3⟩ => ⟨h1, h2, h3.mono k1 k4⟩
    have HSK : Hid (¬ (s < m ∧ m < e) → So.rot d s m e = d) := fun h => by
      rcases (by omega : s = m ∨ e = m) with rfl | rfl
      · exact So.rot_left d s e
      · exact So.rot_right d s e
    go_upto_if 185 with fail
    go_cut [] from 25 (fun wx => Hid (S (So.rot d s m e) wx) ∧ Hid (So.Via a b d (So.rot d s m e)))
    case first =>
      by_cases X : s < m ∧ m < e
      · rw [decide_eq_true X]
        have HR := Lib.hid (HRO.out X)
        clear HRO HSK HI
        go_wp2_with fail
        refine HR.out.mono ?_
        rintro e' w' ⟨rfl, r1, r2⟩
        have R1 := Lib.hid r1
        have R2 := Lib.hid r2
        clear r1 r2 HR
        go_wp2
        go_meet
        case rel => exact ⟨R1, R2⟩
      · rw [decide_eq_false X]
        have E := Lib.hid (HSK.out X)
        clear HRO HSK
        go_wp2
        go_meet
        case rel => exact ⟨by show S _ _; rw [E.out]; exact HI.out, by show So.Via _ _ _ _; rw [E.out]; exact .refl⟩
    case rest =>
      obtain ⟨HI1, HV1⟩ := hcut
      clear HRO HSK HI
      apply_assumption
      exact merge_tail41 HT.out HO.out cap a m b mid s e d wc CUT.out HI1.out HV1.out h3 m1 m2 HIH.out _ _ _ _ _ _ _ _ _ _ _ _ _ _ _ _ _ _ _ _ _ _ _ _ _ _ _ _ _ _ _ _ _ _ _ _ _ _ _ _ _ _ _ _ _ _ _ _ _ _ _ _ _ _ _ _ _ _ _ _ _ _ _ _ _ _ _ _ _ _ _ _ _ _ _ _ _ _ _ _ _ _ _ _ _ _ _ _ _ _ _ _ _ _ _ _ _ _ _ _ _ _ _ _ _ _ _ _ _ _ _ _ _ _ _ _ _ _ _ _ _ _ _ _ _ _ _ _ _ _ _ _ _ _ _ _ _ _ _ _ _ _ _ _ _ _ _ _ _ _ _ _ _ _ _ _ _ _ _ _ _ _ _ _ _ _ _ _ _ _ _ _ _ _ _ _ _ _ _ _ _ _ _ _ _ _ _ _ _ _ _ _ _ _ _ _ _ _ _ _ _ _ _ _ _ _ _ _ _ _ _ _
end
end Go.Proofs.YtmdpeifpgnkbiaaDoor
