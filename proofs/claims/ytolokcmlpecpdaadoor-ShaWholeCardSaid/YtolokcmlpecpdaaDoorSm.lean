/-
  SHA-256 as plain mathematics over BitVec 32 (no Go in it): the words of a block, one round, a block into a state. No conditions.
-/
import Derived.Below
namespace Go.Proofs.YtolokcmlpecpdaaDoor.Sm

/-- The word at place i of a block. -/
def word4 (b : List Nat) (i : Nat) : BitVec 32 := ((BitVec.ofNat 32 (b.getD (4 * i) 0) <<< 24 ||| BitVec.ofNat 32 (b.getD (4 * i + 1) 0) <<< 16) ||| BitVec.ofNat 32 (b.getD (4 * i + 2) 0) <<< 8) ||| BitVec.ofNat 32 (b.getD (4 * i + 3) 0)
def sig0 (x : BitVec 32) : BitVec 32 := (x.rotateRight 7 ^^^ x.rotateRight 18) ^^^ (x >>> 3)
def sig1 (x : BitVec 32) : BitVec 32 := (x.rotateRight 17 ^^^ x.rotateRight 19) ^^^ (x >>> 10)
/-- The next word behind k words. -/
def nextW (l : List (BitVec 32)) : BitVec 32 := ((l.getD (l.length - 16) 0 + sig0 (l.getD (l.length - 15) 0)) + l.getD (l.length - 7) 0) + sig1 (l.getD (l.length - 2) 0)
/-- The first k words. -/
def wd (b : List Nat) : Nat → List (BitVec 32)
  | 0 => []
  | k + 1 => wd b k ++ [if k < 16 then word4 b k else nextW (wd b k)]
theorem wd_len (b : List Nat) : ∀ k, (wd b k).length = k
  | 0 => rfl
  | k + 1 => by rw [wd, List.length_append, wd_len b k]; rfl

/-- A state. -/
structure St where
  a : BitVec 32
  b : BitVec 32
  c : BitVec 32
  d : BitVec 32
  e : BitVec 32
  f : BitVec 32
  g : BitVec 32
  h : BitVec 32
def t1 (s : St) (k w : BitVec 32) : BitVec 32 := (((s.h + ((s.e.rotateRight 6 ^^^ s.e.rotateRight 11) ^^^ s.e.rotateRight 25)) + ((s.e &&& s.f) ^^^ (~~~s.e &&& s.g))) + k) + w
def t2 (s : St) : BitVec 32 := ((s.a.rotateRight 2 ^^^ s.a.rotateRight 13) ^^^ s.a.rotateRight 22) + (((s.a &&& s.b) ^^^ (s.a &&& s.c)) ^^^ (s.b &&& s.c))
/-- One of the 64 steps. -/
def step (s : St) (k w : BitVec 32) : St := ⟨t1 s k w + t2 s, s.a, s.b, s.c, s.d + t1 s k w, s.e, s.f, s.g⟩
/-- The table of constants. -/
def ks : List (BitVec 32) := [0x428a2f98#32, 0x71374491#32, 0xb5c0fbcf#32, 0xe9b5dba5#32, 0x3956c25b#32, 0x59f111f1#32, 0x923f82a4#32, 0xab1c5ed5#32,
  0xd807aa98#32, 0x12835b01#32, 0x243185be#32, 0x550c7dc3#32, 0x72be5d74#32, 0x80deb1fe#32, 0x9bdc06a7#32, 0xc19bf174#32,
  0xe49b69c1#32, 0xefbe4786#32, 0x0fc19dc6#32, 0x240ca1cc#32, 0x2de92c6f#32, 0x4a7484aa#32, 0x5cb0a9dc#32, 0x76f988da#32,
  0x983e5152#32, 0xa831c66d#32, 0xb00327c8#32, 0xbf597fc7#32, 0xc6e00bf3#32, 0xd5a79147#32, 0x06ca6351#32, 0x14292967#32,
  0x27b70a85#32, 0x2e1b2138#32, 0x4d2c6dfc#32, 0x53380d13#32, 0x650a7354#32, 0x766a0abb#32, 0x81c2c92e#32, 0x92722c85#32,
  0xa2bfe8a1#32, 0xa81a664b#32, 0xc24b8b70#32, 0xc76c51a3#32, 0xd192e819#32, 0xd6990624#32, 0xf40e3585#32, 0x106aa070#32,
  0x19a4c116#32, 0x1e376c08#32, 0x2748774c#32, 0x34b0bcb5#32, 0x391c0cb3#32, 0x4ed8aa4a#32, 0x5b9cca4f#32, 0x682e6ff3#32,
  0x748f82ee#32, 0x78a5636f#32, 0x84c87814#32, 0x8cc70208#32, 0x90befffa#32, 0xa4506ceb#32, 0xbef9a3f7#32, 0xc67178f2#32]
def steps (s : St) (b : List Nat) : Nat → St
  | 0 => s
  | k + 1 => step (steps s b k) (ks.getD k 0) ((wd b 64).getD k 0)
def add (s t : St) : St := ⟨s.a + t.a, s.b + t.b, s.c + t.c, s.d + t.d, s.e + t.e, s.f + t.f, s.g + t.g, s.h + t.h⟩
/-- A block into a state. -/
def round (s : St) (b : List Nat) : St := add (steps s b 64) s

/-- The first state. -/
def first : St := ⟨0x6a09e667#32, 0xbb67ae85#32, 0x3c6ef372#32, 0xa54ff53a#32, 0x510e527f#32, 0x9b05688c#32, 0x1f83d9ab#32, 0x5be0cd19#32⟩
/-- The state behind k blocks. -/
def blocks (p : List Nat) : Nat → St
  | 0 => first
  | k + 1 => round (blocks p k) ((p.drop (64 * k)).take 64)
/-- The words of a state, as a list. -/
def wl (s : St) : List (BitVec 32) := [s.a, s.b, s.c, s.d, s.e, s.f, s.g, s.h]
/-- Byte i of a state. -/
def dbyte (s : St) (i : Nat) : Nat := ((wl s).getD (i / 4) 0).toNat / 2 ^ (24 - 8 * (i % 4)) % 256
def dig (s : St) : Nat → List Nat
  | 0 => []
  | i + 1 => dig s i ++ [dbyte s i]
theorem dig_len (s : St) : ∀ i, (dig s i).length = i
  | 0 => rfl
  | i + 1 => by rw [dig, List.length_append, dig_len s i]; rfl

end Go.Proofs.YtolokcmlpecpdaaDoor.Sm
