/- The digest of bytes as plain mathematics: words of 32 bits, the 64 words of a block, the rounds, the padding. Nothing here speaks of a program. -/
import Derived.Test.YtjgnbmkhibdcfaaMath
namespace Go.Proofs.Ytjgnbmkhibdcfaa.Crc

def ad (a b : R) : R := a + b
def sl (k : Nat) (a : R) : R := a <<< k
def og (a b : R) : R := a ||| b
def an (a b : R) : R := a &&& b
def turnR (n : Nat) (x : R) : R := og (sr n x) (sl (32 - n) x)
def word (b0 b1 b2 b3 : UInt8) : R := og (og (og (sl 24 (bx b0)) (sl 16 (bx b1))) (sl 8 (bx b2))) (bx b3)
def smallS (x : R) : R := xr (xr (turnR 7 x) (turnR 18 x)) (sr 3 x)
def smallT (x : R) : R := xr (xr (turnR 17 x) (turnR 19 x)) (sr 10 x)
def by8 (l : List UInt8) (i : Nat) : UInt8 := l.getD i 0
def by32 (l : List R) (i : Nat) : R := l.getD i 0
/-- the words of a block: 16, then 48 more -/
def wordAt (blk : List UInt8) (i : Nat) : R := word (by8 blk (4 * i)) (by8 blk (4 * i + 1)) (by8 blk (4 * i + 2)) (by8 blk (4 * i + 3))
def words (blk : List UInt8) : Nat → List R
  | 0 => []
  | k + 1 => words blk k ++ [wordAt blk k]
def wnext (l : List R) (i : Nat) : R := ad (ad (ad (by32 l (i - 16)) (smallS (by32 l (i - 15)))) (by32 l (i - 7))) (smallT (by32 l (i - 2)))
def wl (l : List R) : Nat → List R
  | 0 => l
  | k + 1 => wl l k ++ [wnext (wl l k) (16 + k)]
def sched (blk : List UInt8) : List R := wl (words blk 16) 48
def keyList : List R := [
  0x428a2f98, 0x71374491, 0xb5c0fbcf, 0xe9b5dba5, 0x3956c25b, 0x59f111f1, 0x923f82a4, 0xab1c5ed5,
  0xd807aa98, 0x12835b01, 0x243185be, 0x550c7dc3, 0x72be5d74, 0x80deb1fe, 0x9bdc06a7, 0xc19bf174,
  0xe49b69c1, 0xefbe4786, 0x0fc19dc6, 0x240ca1cc, 0x2de92c6f, 0x4a7484aa, 0x5cb0a9dc, 0x76f988da,
  0x983e5152, 0xa831c66d, 0xb00327c8, 0xbf597fc7, 0xc6e00bf3, 0xd5a79147, 0x06ca6351, 0x14292967,
  0x27b70a85, 0x2e1b2138, 0x4d2c6dfc, 0x53380d13, 0x650a7354, 0x766a0abb, 0x81c2c92e, 0x92722c85,
  0xa2bfe8a1, 0xa81a664b, 0xc24b8b70, 0xc76c51a3, 0xd192e819, 0xd6990624, 0xf40e3585, 0x106aa070,
  0x19a4c116, 0x1e376c08, 0x2748774c, 0x34b0bcb5, 0x391c0cb3, 0x4ed8aa4a, 0x5b9cca4f, 0x682e6ff3,
  0x748f82ee, 0x78a5636f, 0x84c87814, 0x8cc70208, 0x90befffa, 0xa4506ceb, 0xbef9a3f7, 0xc67178f2]
structure St where
  (a b c d e f g h : R)
def sumX (s : St) (k w : R) : R := ad (ad (ad (ad s.h (xr (xr (turnR 6 s.e) (turnR 11 s.e)) (turnR 25 s.e))) (xr (an s.e s.f) (an (nt s.e) s.g))) k) w
def sumY (s : St) : R := ad (xr (xr (turnR 2 s.a) (turnR 13 s.a)) (turnR 22 s.a)) (xr (xr (an s.a s.b) (an s.a s.c)) (an s.b s.c))
def rnd (k w : R) (s : St) : St := ⟨ad (sumX s k w) (sumY s), s.a, s.b, s.c, ad s.d (sumX s k w), s.e, s.f, s.g⟩
def rounds (ws : List R) : Nat → St → St
  | 0, s => s
  | n + 1, s => rnd (by32 keyList n) (by32 ws n) (rounds ws n s)
def addSt (s t : St) : St := ⟨ad s.a t.a, ad s.b t.b, ad s.c t.c, ad s.d t.d, ad s.e t.e, ad s.f t.f, ad s.g t.g, ad s.h t.h⟩
def blockR (s : St) (blk : List UInt8) : St := addSt (rounds (sched blk) 64 s) s
def st0 : St := ⟨0x6a09e667, 0xbb67ae85, 0x3c6ef372, 0xa54ff53a, 0x510e527f, 0x9b05688c, 0x1f83d9ab, 0x5be0cd19⟩
def runBlocks (bs : List UInt8) : Nat → St
  | 0 => st0
  | k + 1 => blockR (runBlocks bs k) ((bs.drop (64 * k)).take 64)
def padZ (n : Nat) : Nat := (119 - n % 64) % 64
def bitBytes (n : Nat) : Nat → List UInt8
  | 0 => []
  | k + 1 => UInt8.ofNat (8 * n / 2 ^ (8 * k)) :: bitBytes n k
def padded (bs : List UInt8) : List UInt8 := bs ++ [128] ++ List.replicate (padZ bs.length) 0 ++ bitBytes bs.length 8
def four (x : R) : List UInt8 := [low8 (sr 24 x), low8 (sr 16 x), low8 (sr 8 x), low8 x]
def stBytes (s : St) : List UInt8 := four s.a ++ four s.b ++ four s.c ++ four s.d ++ four s.e ++ four s.f ++ four s.g ++ four s.h
def sha (bs : List UInt8) : List UInt8 := stBytes (runBlocks (padded bs) ((padded bs).length / 64))

theorem by8_get {l : List UInt8} {i : Nat} (h : i < l.length) : l[i]? = some (by8 l i) := by simp [by8, List.getD, h]
theorem by32_get {l : List R} {i : Nat} (h : i < l.length) : l[i]? = some (by32 l i) := by simp [by32, List.getD, h]
theorem by32_left {l m : List R} {i : Nat} (h : i < l.length) : by32 (l ++ m) i = by32 l i := by
  unfold by32; rw [List.getD, List.getElem?_append_left h]; rfl
theorem words_length (blk : List UInt8) : ∀ k, (words blk k).length = k
  | 0 => rfl
  | k + 1 => by rw [words, List.length_append, words_length blk k]; rfl
theorem wl_length (l : List R) : ∀ k, (wl l k).length = l.length + k
  | 0 => rfl
  | k + 1 => by rw [wl, List.length_append, wl_length l k]; simp; omega

theorem padZ_go {n z : Nat} (h : z < padZ n) : (n + 1 + z + 8) % 64 ≠ 0 := by unfold padZ at h; omega
theorem padZ_stop (n : Nat) : (n + 1 + padZ n + 8) % 64 = 0 := by unfold padZ; omega
theorem padZ_lt (n : Nat) : padZ n < 64 := by unfold padZ; omega
theorem bitBytes_length (n : Nat) : ∀ k, (bitBytes n k).length = k
  | 0 => rfl
  | k + 1 => by rw [bitBytes, List.length_cons, bitBytes_length n k]
theorem padded_length (bs : List UInt8) : (padded bs).length = bs.length + 1 + padZ bs.length + 8 := by
  simp [padded, bitBytes_length]; omega

theorem padded_blocks (n : Nat) : ∃ M, n + 1 + padZ n + 8 = 64 * M := ⟨(n + 1 + padZ n + 8) / 64, by have := padZ_stop n; omega⟩

theorem sha_abc : sha [97, 98, 99] = [0xba, 0x78, 0x16, 0xbf, 0x8f, 0x01, 0xcf, 0xea, 0x41, 0x41, 0x40, 0xde, 0x5d, 0xae, 0x22, 0x23, 0xb0, 0x03, 0x61, 0xa3, 0x96, 0x17, 0x7a, 0x9c, 0xb4, 0x10, 0xff, 0x61, 0xf2, 0x00, 0x15, 0xad] := by decide +kernel
theorem sha_none : sha [] = [0xe3, 0xb0, 0xc4, 0x42, 0x98, 0xfc, 0x1c, 0x14, 0x9a, 0xfb, 0xf4, 0xc8, 0x99, 0x6f, 0xb9, 0x24, 0x27, 0xae, 0x41, 0xe4, 0x64, 0x9b, 0x93, 0x4c, 0xa4, 0x95, 0x99, 0x1b, 0x78, 0x52, 0xb8, 0x55] := by decide +kernel
end Go.Proofs.Ytjgnbmkhibdcfaa.Crc
