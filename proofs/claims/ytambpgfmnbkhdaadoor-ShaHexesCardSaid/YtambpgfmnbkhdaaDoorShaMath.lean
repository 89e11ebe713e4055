/- Plain facts on SHA-256: the document's own answer as a function of bytes. It names no program and proves no statement. -/
import Derived.Test.YtambpgfmnbkhdaaDoorLe
import Derived.Test.YtambpgfmnbkhdaaDoorNums
import Derived.Test.YtambpgfmnbkhdaaDoorPut
namespace Go.Proofs.YtambpgfmnbkhdaaDoor
open Go.RowKit
set_option linter.unusedVariables false
set_option linter.unusedSimpArgs false

/-- 2^32. -/
def m32 : Nat := 4294967296
/-- Turned to the right. -/
def rr (x n : Nat) : Nat := rotl 32 x (32 - n)
def sgA (x : Nat) : Nat := rr x 7 ^^^ rr x 18 ^^^ x / 8
def sgB (x : Nat) : Nat := rr x 17 ^^^ rr x 19 ^^^ x / 1024
def bgA (x : Nat) : Nat := rr x 2 ^^^ rr x 13 ^^^ rr x 22
def bgE (x : Nat) : Nat := rr x 6 ^^^ rr x 11 ^^^ rr x 25
def chN (e f g : Nat) : Nat := (e &&& f) ^^^ ((4294967295 ^^^ e) &&& g)
def mjN (a b c : Nat) : Nat := (a &&& b) ^^^ (a &&& c) ^^^ (b &&& c)
/-- The word of four bytes, the highest first. -/
def wd (b : List UInt8) (i : Nat) : Nat := leNum ((b.drop (4 * i)).take 4).reverse
def wNext (l : List Nat) (i : Nat) : Nat := (l.getD (i - 16) 0 + sgA (l.getD (i - 15) 0) + l.getD (i - 7) 0 + sgB (l.getD (i - 2) 0)) % m32
def wAt (b : List UInt8) (l : List Nat) (i : Nat) : Nat := if i < 16 then wd b i else wNext l i
/-- The first n words of a block. -/
def wTo (b : List UInt8) : Nat → List Nat
  | 0 => []
  | n + 1 => wTo b n ++ [wAt b (wTo b n) n]
def kT : List Nat := [
  0x428a2f98, 0x71374491, 0xb5c0fbcf, 0xe9b5dba5, 0x3956c25b, 0x59f111f1, 0x923f82a4, 0xab1c5ed5,
  0xd807aa98, 0x12835b01, 0x243185be, 0x550c7dc3, 0x72be5d74, 0x80deb1fe, 0x9bdc06a7, 0xc19bf174,
  0xe49b69c1, 0xefbe4786, 0x0fc19dc6, 0x240ca1cc, 0x2de92c6f, 0x4a7484aa, 0x5cb0a9dc, 0x76f988da,
  0x983e5152, 0xa831c66d, 0xb00327c8, 0xbf597fc7, 0xc6e00bf3, 0xd5a79147, 0x06ca6351, 0x14292967,
  0x27b70a85, 0x2e1b2138, 0x4d2c6dfc, 0x53380d13, 0x650a7354, 0x766a0abb, 0x81c2c92e, 0x92722c85,
  0xa2bfe8a1, 0xa81a664b, 0xc24b8b70, 0xc76c51a3, 0xd192e819, 0xd6990624, 0xf40e3585, 0x106aa070,
  0x19a4c116, 0x1e376c08, 0x2748774c, 0x34b0bcb5, 0x391c0cb3, 0x4ed8aa4a, 0x5b9cca4f, 0x682e6ff3,
  0x748f82ee, 0x78a5636f, 0x84c87814, 0x8cc70208, 0x90befffa, 0xa4506ceb, 0xbef9a3f7, 0xc67178f2]
/-- A state of eight words. -/
structure S8 where
  a : Nat
  b : Nat
  c : Nat
  d : Nat
  e : Nat
  f : Nat
  g : Nat
  h : Nat
def tN (s : S8) (k w : Nat) : Nat := (s.h + bgE s.e + chN s.e s.f s.g + k + w) % m32
def uN (s : S8) : Nat := (bgA s.a + mjN s.a s.b s.c) % m32
def S8.step (s : S8) (k w : Nat) : S8 := ⟨(tN s k w + uN s) % m32, s.a, s.b, s.c, (s.d + tN s k w) % m32, s.e, s.f, s.g⟩
def rnds (s : S8) (w : List Nat) : Nat → S8
  | 0 => s
  | n + 1 => (rnds s w n).step (kT.getD n 0) (w.getD n 0)
def S8.add (s t : S8) : S8 := ⟨(s.a + t.a) % m32, (s.b + t.b) % m32, (s.c + t.c) % m32, (s.d + t.d) % m32, (s.e + t.e) % m32, (s.f + t.f) % m32, (s.g + t.g) % m32, (s.h + t.h) % m32⟩
def S8.list (s : S8) : List Nat := [s.a, s.b, s.c, s.d, s.e, s.f, s.g, s.h]
/-- The state behind one block. -/
def blkN (s : S8) (b : List UInt8) : S8 := s.add (rnds s (wTo b 64) 64)
/-- The state behind n blocks of l. -/
def shRun (s : S8) (l : List UInt8) : Nat → S8
  | 0 => s
  | n + 1 => blkN (shRun s l n) ((l.drop (64 * n)).take 64)
def sh0 : S8 := ⟨0x6a09e667, 0xbb67ae85, 0x3c6ef372, 0xa54ff53a, 0x510e527f, 0x9b05688c, 0x1f83d9ab, 0x5be0cd19⟩
/-- What stands behind a text of n bytes. -/
def shEnd (n : Nat) : List UInt8 := 128 :: (List.replicate ((119 - n % 64) % 64) 0 ++ (leBytes (8 * n) 8).reverse)
def wB (x : Nat) : List UInt8 := (leBytes x 4).reverse
def idB (l : List Nat) : List UInt8 := (l.map wB).flatten
def shSum (l : List UInt8) : List UInt8 := idB (shRun sh0 (l ++ shEnd l.length) ((l ++ shEnd l.length).length / 64)).list

theorem sh_nil : (shSum []).getD 0 0 = 0xe3 := by decide +kernel
end Go.Proofs.YtambpgfmnbkhdaaDoor
