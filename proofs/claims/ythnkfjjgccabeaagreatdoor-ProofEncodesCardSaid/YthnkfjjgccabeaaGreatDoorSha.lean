/- SHA-256 as a function on lists of bytes (plain words of 32 bits). -/
namespace Go.Proofs.YthnkfjjgccabeaaGreatDoor

def rotr (x : BitVec 32) (n : Nat) : BitVec 32 := x <<< (32 - n) ||| x >>> n
/-- The eight words of a state. -/
structure H8 where
  a : BitVec 32
  b : BitVec 32
  c : BitVec 32
  d : BitVec 32
  e : BitVec 32
  f : BitVec 32
  g : BitVec 32
  h : BitVec 32
def chooseB (e f g : BitVec 32) : BitVec 32 := (e &&& f) ^^^ (~~~e &&& g)
def majorB (a b c : BitVec 32) : BitVec 32 := (a &&& b) ^^^ (a &&& c) ^^^ (b &&& c)
def sumE (e : BitVec 32) : BitVec 32 := rotr e 6 ^^^ rotr e 11 ^^^ rotr e 25
def sumA (a : BitVec 32) : BitVec 32 := rotr a 2 ^^^ rotr a 13 ^^^ rotr a 22
def t1B (s : H8) (k w : BitVec 32) : BitVec 32 := s.h + sumE s.e + chooseB s.e s.f s.g + k + w
def t2B (s : H8) : BitVec 32 := sumA s.a + majorB s.a s.b s.c
def roundB (s : H8) (k w : BitVec 32) : H8 := ⟨t1B s k w + t2B s, s.a, s.b, s.c, s.d + t1B s k w, s.e, s.f, s.g⟩
def addB (s t : H8) : H8 := ⟨s.a + t.a, s.b + t.b, s.c + t.c, s.d + t.d, s.e + t.e, s.f + t.f, s.g + t.g, s.h + t.h⟩
def firstB : H8 := ⟨0x6a09e667, 0xbb67ae85, 0x3c6ef372, 0xa54ff53a, 0x510e527f, 0x9b05688c, 0x1f83d9ab, 0x5be0cd19⟩
def constsB : List (BitVec 32) := [
  0x428a2f98, 0x71374491, 0xb5c0fbcf, 0xe9b5dba5, 0x3956c25b, 0x59f111f1, 0x923f82a4, 0xab1c5ed5,
  0xd807aa98, 0x12835b01, 0x243185be, 0x550c7dc3, 0x72be5d74, 0x80deb1fe, 0x9bdc06a7, 0xc19bf174,
  0xe49b69c1, 0xefbe4786, 0x0fc19dc6, 0x240ca1cc, 0x2de92c6f, 0x4a7484aa, 0x5cb0a9dc, 0x76f988da,
  0x983e5152, 0xa831c66d, 0xb00327c8, 0xbf597fc7, 0xc6e00bf3, 0xd5a79147, 0x06ca6351, 0x14292967,
  0x27b70a85, 0x2e1b2138, 0x4d2c6dfc, 0x53380d13, 0x650a7354, 0x766a0abb, 0x81c2c92e, 0x92722c85,
  0xa2bfe8a1, 0xa81a664b, 0xc24b8b70, 0xc76c51a3, 0xd192e819, 0xd6990624, 0xf40e3585, 0x106aa070,
  0x19a4c116, 0x1e376c08, 0x2748774c, 0x34b0bcb5, 0x391c0cb3, 0x4ed8aa4a, 0x5b9cca4f, 0x682e6ff3,
  0x748f82ee, 0x78a5636f, 0x84c87814, 0x8cc70208, 0x90befffa, 0xa4506ceb, 0xbef9a3f7, 0xc67178f2]

def byteB (c : UInt8) : BitVec 32 := BitVec.ofNat 32 c.toNat
def wordB (a b c d : UInt8) : BitVec 32 := byteB a <<< 24 ||| byteB b <<< 16 ||| byteB c <<< 8 ||| byteB d
def wordAt (l : List UInt8) (i : Nat) : BitVec 32 := wordB (l.getD (4 * i) 0) (l.getD (4 * i + 1) 0) (l.getD (4 * i + 2) 0) (l.getD (4 * i + 3) 0)
def firstW (l : List UInt8) : List (BitVec 32) := (List.range 16).map (wordAt l)
def s0B (x : BitVec 32) : BitVec 32 := rotr x 7 ^^^ rotr x 18 ^^^ x >>> 3
def s1B (y : BitVec 32) : BitVec 32 := rotr y 17 ^^^ rotr y 19 ^^^ y >>> 10
def nextB (w : List (BitVec 32)) : BitVec 32 := w.getD (w.length - 16) 0 + s0B (w.getD (w.length - 15) 0) + w.getD (w.length - 7) 0 + s1B (w.getD (w.length - 2) 0)
def extB : Nat → List (BitVec 32) → List (BitVec 32)
  | 0, w => w
  | k + 1, w => extB k (w ++ [nextB w])
def schedB (l : List UInt8) : List (BitVec 32) := extB 48 (firstW l)
def roundsB (s : H8) (w : List (BitVec 32)) : Nat → H8
  | 0 => s
  | k + 1 => roundB (roundsB s w k) (constsB.getD k 0) (w.getD k 0)
def compB (s : H8) (l : List UInt8) : H8 := addB s (roundsB s (schedB l) 64)
def absB : Nat → H8 → List UInt8 → H8
  | 0, s, _ => s
  | k + 1, s, l => absB k (compB s (l.take 64)) (l.drop 64)
/-- The last bytes of a number, the greatest first. -/
def bigE (v : Nat) : Nat → List UInt8
  | 0 => []
  | k + 1 => UInt8.ofNat (v / 256 ^ k) :: bigE v k
def padB (n : Nat) : List UInt8 := 128 :: (List.replicate ((55 + 64 - n % 64) % 64) 0 ++ bigE (n * 8) 8)
def outB (s : H8) : List UInt8 := bigE s.a.toNat 4 ++ bigE s.b.toNat 4 ++ bigE s.c.toNat 4 ++ bigE s.d.toNat 4 ++ bigE s.e.toNat 4 ++ bigE s.f.toNat 4 ++ bigE s.g.toNat 4 ++ bigE s.h.toNat 4
def shaL (l : List UInt8) : List UInt8 := outB (absB ((l ++ padB l.length).length / 64) firstB (l ++ padB l.length))
theorem bigE_len (v : Nat) : ∀ k, (bigE v k).length = k
  | 0 => rfl
  | k + 1 => by rw [bigE, List.length_cons, bigE_len]
theorem outB_len (s : H8) : (outB s).length = 32 := by simp [outB, bigE_len]
theorem shaL_len (l : List UInt8) : (shaL l).length = 32 := outB_len _
theorem extB_len : ∀ (k : Nat) (w : List (BitVec 32)), (extB k w).length = w.length + k
  | 0, w => rfl
  | k + 1, w => by rw [extB, extB_len]; simp; omega
theorem padB_len (n : Nat) : (padB n).length = 9 + (55 + 64 - n % 64) % 64 := by simp [padB, bigE_len]; omega
theorem whole_len (l : List UInt8) : (l ++ padB l.length).length % 64 = 0 := by rw [List.length_append, padB_len]; omega
theorem sha_abc : shaL [97, 98, 99] = [186, 120, 22, 191, 143, 1, 207, 234, 65, 65, 64, 222, 93, 174, 34, 35, 176, 3, 97, 163, 150, 23, 122, 156, 180, 16, 255, 97, 242, 0, 21, 173] := by decide +kernel
end Go.Proofs.YthnkfjjgccabeaaGreatDoor
