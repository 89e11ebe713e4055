package roll_test

import (
	"bytes"
	"math"
	"math/bits"
	"slices"
	"testing"

	"hoard/roll"
)

// seeds are of all sorts; with 61c88647 the byte 0, and with c8864700 the byte 255, begins with 0 and has the word 0.
var seeds = []uint32{0, 1, 2, 0x12345678, math.MaxInt32, 1 << 31, 0x61c88647, 0xc8864700, 0x9e3779b9, math.MaxUint32 - 1, math.MaxUint32}

// text answers n bytes of all sorts, the same ones each time.
func text(n int, seed uint64) []byte {
	b := make([]byte, n)
	for i := range b {
		seed = seed*6364136223846793005 + 1442695040888963407
		b[i] = byte(seed >> 56)
	}
	return b
}

// word answers a byte's word by the chapter's words, each number brought back below 2^32 by itself.
func word(seed uint32, c byte) uint32 {
	const modulus = 1 << 32
	x := (uint64(seed) + (uint64(c)+1)*0x9e3779b9%modulus) % modulus
	x = (x ^ x/65536) * 0x85ebca6b % modulus
	x = (x ^ x/8192) * 0xc2b2ae35 % modulus
	return uint32(x ^ x/65536)
}

// sum answers a text's sum by the chapter's words: each byte's word turned by itself.
func sum(seed uint32, b []byte) uint32 {
	var s uint32
	for i, c := range b {
		s ^= bits.RotateLeft32(word(seed, c), (len(b)-1-i)%32)
	}
	return s
}

// P10.1
func TestWord(t *testing.T) {
	for _, c := range []struct {
		seed uint32
		c    byte
		want uint32
	}{
		{0x00000000, 0, 0x92ca2f0e},
		{0x00000000, 1, 0x3cd6e3f3},
		{0x00000000, 'a', 0xf2ebe3a2},
		{0x00000000, 254, 0x8987eb0e},
		{0x00000000, 255, 0x7970d887},
		{0x00000001, 0, 0x96a0f96b},
		{0x00000001, 255, 0x3f8bd05e},
		{0x12345678, 'a', 0x62bfaf00},
		{0x80000000, 127, 0x08b42f88},
		{0x80000000, 128, 0x42d1dda5},
		{0xffffffff, 0, 0x36deb503},
		{0xffffffff, 1, 0xfc2fb9b6},
		{0xffffffff, 255, 0x860ec4fd},
		{0x61c88646, 0, 0x81f16f39},
		{0x61c88647, 0, 0},
		{0xc8864700, 255, 0},
	} {
		if w := roll.Word(c.seed, c.c); w != c.want {
			t.Errorf("word of %08x, %d: %08x, not %08x", c.seed, c.c, w, c.want)
		}
	}
}

// P10.1, P10.4: each byte's word, and that no two bytes have the same.
func TestWordOfEachByte(t *testing.T) {
	all := slices.Clone(seeds)
	for i := range 32 {
		all = append(all, 1<<i, 1<<i-1, -(1 << i))
	}
	for i := range uint32(200) {
		all = append(all, i*0x01234567+89)
	}
	for _, seed := range all {
		had := map[uint32]int{}
		for c := range 256 {
			w := roll.Word(seed, byte(c))
			if want := word(seed, byte(c)); w != want {
				t.Fatalf("word of %08x, %d: %08x, not %08x", seed, c, w, want)
			}
			if other, is := had[w]; is {
				t.Fatalf("seed %08x: %d and %d have the same word %08x", seed, other, c, w)
			}
			had[w] = c
		}
	}
}

// P10.2
func TestSum(t *testing.T) {
	for _, c := range []struct {
		seed uint32
		b    string
		want uint32
	}{
		{0, "", 0},
		{7, "", 0},
		{math.MaxUint32, "", 0},
		{0, "a", 0xf2ebe3a2},
		{0, "ab", 0x0bb9dd82},
		{0, "ba", 0x2e37d62d},
		{0, "aa", 0x173c24e7},
		{0, "abc", 0x5222d561},
		{1, "abc", 0xe80a5d5a},
		{math.MaxUint32, "123456789", 0xd8855876},
		{0x12345678, "The quick brown fox jumps over the lazy dog", 0x488f2a59},
	} {
		if s := roll.Sum(c.seed, []byte(c.b)); s != c.want {
			t.Errorf("sum of %08x, %q: %08x, not %08x", c.seed, c.b, s, c.want)
		}
	}
	for _, c := range []struct {
		b    []byte
		want uint32
	}{
		{nil, 0},
		{make([]byte, 31), 0xb69ae878},
		{make([]byte, 32), 0xffffffff}, // each of a word's bits stands at each place once
		{make([]byte, 33), 0x6d35d0f1},
		{make([]byte, 64), 0},
		{bytes.Repeat([]byte{255}, 63), 0xbcb86c43},
		{bytes.Repeat([]byte{'a'}, 33), 0x0d141c5d},
	} {
		if s := roll.Sum(0, c.b); s != c.want {
			t.Errorf("sum of %x: %08x, not %08x", c.b, s, c.want)
		}
	}
}

// P10.2: all small sizes, and long texts, of which words are turned round more than once.
func TestSumIsWordsTurned(t *testing.T) {
	for _, seed := range seeds {
		if s := roll.Sum(seed, nil); s != 0 {
			t.Fatalf("sum of %08x and nil: %08x", seed, s)
		}
		for c := range 256 {
			if s := roll.Sum(seed, []byte{byte(c)}); s != roll.Word(seed, byte(c)) {
				t.Fatalf("sum of %08x, %d: %08x is not its word", seed, c, s)
			}
		}
		for n := range 200 {
			for _, b := range [][]byte{text(n, uint64(seed)+uint64(n)), make([]byte, n), bytes.Repeat([]byte{255}, n)} {
				if s, want := roll.Sum(seed, b), sum(seed, b); s != want {
					t.Fatalf("sum of %08x, %x: %08x, not %08x", seed, b, s, want)
				}
			}
		}
	}
	for _, n := range []int{255, 256, 1000, 8192, 1 << 18, 1<<20 + 7} {
		b := text(n, 5)
		if s, want := roll.Sum(9, b), sum(9, b); s != want {
			t.Errorf("sum of %d bytes: %08x, not %08x", n, s, want)
		}
	}
}

// P10.4: one byte more ahead, and one more behind.
func TestSumGoesOn(t *testing.T) {
	for _, seed := range seeds {
		for n := range 130 {
			b := text(n, uint64(n))
			s := roll.Sum(seed, b)
			for c := 0; c < 256; c += 51 {
				w := roll.Word(seed, byte(c))
				ahead := roll.Sum(seed, append([]byte{byte(c)}, b...))
				if want := s ^ bits.RotateLeft32(w, n%32); ahead != want {
					t.Fatalf("seed %08x, %d ahead of %x: %08x, not %08x", seed, c, b, ahead, want)
				}
				behind := roll.Sum(seed, append(slices.Clone(b), byte(c)))
				if want := bits.RotateLeft32(s, 1) ^ w; behind != want {
					t.Fatalf("seed %08x, %d behind %x: %08x, not %08x", seed, c, b, behind, want)
				}
			}
		}
	}
}

// R3, R4: what is handed in is not changed, nor does what stands behind it play a part.
func TestSumLeavesTextsAlone(t *testing.T) {
	b := text(100, 3)
	was := slices.Clone(b)
	s := roll.Sum(4, b[:40])
	if roll.Sum(5, b[:40]); !bytes.Equal(b, was) {
		t.Error("what was handed in is changed")
	}
	clear(b[40:])
	if again := roll.Sum(4, b[:40:40]); again != s {
		t.Errorf("the same call: %08x, then %08x", s, again)
	}
}
