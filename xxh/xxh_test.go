package xxh_test

import (
	"encoding/binary"
	"math"
	mathbits "math/bits"
	"slices"
	"testing"

	"hoard/xxh"
)

// seeds are of all sorts, also those by which the lanes' beginnings run over.
var seeds = []uint64{0, 1, 2, 20141025, math.MaxInt64, 1 << 63, math.MaxUint64, 0x9e3779b185ebca87, 0x61c8864e7a143579, 0x123456789abcdef0}

// text answers n bytes of all sorts, the same ones each time.
func text(n int, seed uint64) []byte {
	b := make([]byte, n)
	for i := range b {
		seed = seed*6364136223846793005 + 1442695040888963407
		b[i] = byte(seed >> 56)
	}
	return b
}

// texts answers texts of so many bytes: of all sorts, of noughts, of ones.
func texts(n int) [][]byte {
	return [][]byte{text(n, uint64(n)), make([]byte, n), slices.Repeat([]byte{0xff}, n)}
}

// The chapter's five primes.
const (
	p1 = 0x9e3779b185ebca87
	p2 = 0xc2b2ae3d27d4eb4f
	p3 = 0x165667b19e3779f9
	p4 = 0x85ebca77c2b2ae63
	p5 = 0x27d4eb2f165667c5
)

// lane is the chapter's.
func lane(a, w uint64) uint64 {
	a += w * p2
	a = mathbits.RotateLeft64(a, 31)
	return a * p1
}

// fourLanes answers h as the chapter has it of 32 bytes or more, and the bytes that are left.
func fourLanes(b []byte, seed uint64) (uint64, []byte) {
	one := uint64(1)
	a1, a2, a3, a4 := seed+one*p1+one*p2, seed+one*p2, seed, seed-one*p1
	for len(b) >= 32 {
		a1 = lane(a1, binary.LittleEndian.Uint64(b))
		a2 = lane(a2, binary.LittleEndian.Uint64(b[8:]))
		a3 = lane(a3, binary.LittleEndian.Uint64(b[16:]))
		a4 = lane(a4, binary.LittleEndian.Uint64(b[24:]))
		b = b[32:]
	}
	h := mathbits.RotateLeft64(a1, 1) + mathbits.RotateLeft64(a2, 7) + mathbits.RotateLeft64(a3, 12) + mathbits.RotateLeft64(a4, 18)
	h = (h^lane(0, a1))*p1 + p4
	h = (h^lane(0, a2))*p1 + p4
	h = (h^lane(0, a3))*p1 + p4
	h = (h^lane(0, a4))*p1 + p4
	return h, b
}

// sum answers a whole text's sum, word by word as the chapter has it.
func sum(b []byte, seed uint64) uint64 {
	h, left := seed+p5, b
	if len(b) >= 32 {
		h, left = fourLanes(b, seed)
	}
	h += uint64(len(b))
	for len(left) >= 8 {
		h ^= lane(0, binary.LittleEndian.Uint64(left))
		h = mathbits.RotateLeft64(h, 27)*p1 + p4
		left = left[8:]
	}
	if len(left) >= 4 {
		h ^= uint64(binary.LittleEndian.Uint32(left)) * p1
		h = mathbits.RotateLeft64(h, 23)*p2 + p3
		left = left[4:]
	}
	for len(left) > 0 {
		h ^= uint64(left[0]) * p5
		h = mathbits.RotateLeft64(h, 11) * p1
		left = left[1:]
	}
	h ^= h >> 33
	h *= p2
	h ^= h >> 29
	h *= p3
	return h ^ h>>32
}

// P3.1: sums that others know too.
func TestKnownSums(t *testing.T) {
	for _, c := range []struct {
		b    string
		seed uint64
		want uint64
	}{
		{"", 0, 0xef46db3751d8e999},
		{"a", 0, 0xd24ec4f1a98c6e5b},
		{"abc", 0, 0x44bc2cf5ad770999},
		{"xxhash", 20141025, 0xb559b98d844e0635},
		{"Nobody inspects the spammish repetition", 0, 0xfbcea83c8a378bf1},
	} {
		if s := xxh.Sum([]byte(c.b), c.seed); s != c.want {
			t.Errorf("sum of %q, seed %d: %016x, not %016x", c.b, c.seed, s, c.want)
		}
		if s := sum([]byte(c.b), c.seed); s != c.want {
			t.Errorf("the chapter's sum of %q, seed %d: %016x, not %016x", c.b, c.seed, s, c.want)
		}
	}
}

// P3.1: texts of each size with words, halves and bytes behind none, one, or several blocks.
func TestSum(t *testing.T) {
	for n := range 200 {
		for _, b := range texts(n) {
			for _, seed := range seeds {
				if s, want := xxh.Sum(b, seed), sum(b, seed); s != want {
					t.Fatalf("sum of %x, seed %x: %016x, not %016x", b, seed, s, want)
				}
			}
		}
	}
	for _, n := range []int{1000, 1023, 1024, 1025, 4095, 65536, 1<<20 + 31} {
		for _, b := range texts(n) {
			if s, want := xxh.Sum(b, 5), sum(b, 5); s != want {
				t.Errorf("sum of %d bytes: %016x, not %016x", n, s, want)
			}
		}
	}
}

// P3.1: each byte at each place tells.
func TestEachByteTells(t *testing.T) {
	for n := 1; n < 80; n++ {
		b := make([]byte, n)
		seen := map[uint64]bool{xxh.Sum(b, 0): true}
		for at := range n {
			for _, c := range []byte{1, 0x80, 0xff} {
				b[at] = c
				s := xxh.Sum(b, 0)
				if want := sum(b, 0); s != want {
					t.Fatalf("sum of %x: %016x, not %016x", b, s, want)
				}
				if seen[s] {
					t.Fatalf("byte %d of %d does not tell", at, n)
				}
				seen[s] = true
			}
			b[at] = 0
		}
	}
}

// P3.1, R3, R4: what is handed in is not changed, nil is an empty text, what stands behind a text is not taken.
func TestTextsAreLeftAlone(t *testing.T) {
	b := text(100, 3)
	was := slices.Clone(b)
	s := xxh.Sum(b[:75], 9)
	h := xxh.New(9)
	h.Write(b[:40])
	h.Write(b[40:75])
	if h.Sum() != s || string(b) != string(was) {
		t.Error("what was handed in is changed, or answered otherwise")
	}
	if xxh.Sum(b[:75:75], 9) != s || xxh.Sum(slices.Clone(b[:75]), 9) != s {
		t.Error("the sum hangs on what stands behind the text")
	}
	for _, seed := range seeds {
		if x, y := xxh.Sum(nil, seed), xxh.Sum([]byte{}, seed); x != y || x != sum(nil, seed) {
			t.Errorf("nothing, seed %x: %016x, %016x", seed, x, y)
		}
	}
}

// P3.2: one that was given nothing, or nothing over and over.
func TestNewHasherWasGivenNothing(t *testing.T) {
	for _, seed := range seeds {
		h := xxh.New(seed)
		want := sum(nil, seed)
		for range 3 {
			if s := h.Sum(); s != want {
				t.Errorf("nothing, seed %x: %016x, not %016x", seed, s, want)
			}
			h.Write(nil)
			h.Write([]byte{})
		}
	}
}

// P3.2: what New did not make stays so.
func TestHasherThatNewDidNotMake(t *testing.T) {
	var none *xxh.Hasher
	var zero xxh.Hasher
	for _, h := range []*xxh.Hasher{none, &zero, new(xxh.Hasher)} {
		for _, n := range []int{0, 1, 31, 32, 100} {
			h.Write(text(n, 1))
			if s := h.Sum(); s != 0 {
				t.Errorf("%d bytes: %016x", n, s)
			}
		}
	}
	if zero != (xxh.Hasher{}) {
		t.Error("Write did something")
	}
}

// P3.2, R3: a hasher keeps nothing of what it was handed.
func TestHasherKeepsNothing(t *testing.T) {
	for _, n := range []int{1, 7, 31, 32, 33, 63, 64, 65, 100} {
		b := text(n, 2)
		want := sum(b, 4)
		h := xxh.New(4)
		h.Write(b)
		clear(b)
		if s := h.Sum(); s != want {
			t.Errorf("%d bytes, spoilt behind: %016x, not %016x", n, s, want)
		}
	}
}

// P3.2, R4: hashers know nothing of one another.
func TestHashersApart(t *testing.T) {
	a, b := text(150, 1), text(170, 2)
	g, h := xxh.New(0), xxh.New(1)
	for i := range 10 {
		g.Write(a[15*i : 15*i+15])
		h.Write(b[17*i : 17*i+17])
	}
	if g.Sum() != sum(a, 0) || h.Sum() != sum(b, 1) {
		t.Errorf("%016x and %016x", g.Sum(), h.Sum())
	}
}

// P3.3: by each two cuts.
func TestThreePieces(t *testing.T) {
	for _, n := range []int{0, 1, 8, 31, 32, 33, 63, 64, 65, 100} {
		b := text(n, 8)
		want := sum(b, 3)
		for i := range n + 1 {
			for j := i; j <= n; j++ {
				h := xxh.New(3)
				h.Write(b[:i])
				h.Write(b[i:j])
				h.Write(b[j:])
				if s := h.Sum(); s != want {
					t.Fatalf("%d bytes, cut at %d and %d: %016x, not %016x", n, i, j, s, want)
				}
			}
		}
	}
}

// P3.3: in pieces of each size, asked for behind each as often as one likes.
func TestManyPieces(t *testing.T) {
	b := text(2000, 6)
	for _, size := range []int{1, 2, 3, 5, 7, 8, 9, 15, 16, 17, 31, 32, 33, 47, 63, 64, 65, 96, 100, 999, 1999, 2000} {
		h, quiet := xxh.New(7), xxh.New(7)
		given := 0
		for piece := range slices.Chunk(b, size) {
			h.Write(piece)
			quiet.Write(piece)
			given += len(piece)
			want := sum(b[:given], 7)
			if s, again := h.Sum(), h.Sum(); s != want || again != want {
				t.Fatalf("%d bytes in pieces of %d: %016x, %016x, not %016x", given, size, s, again, want)
			}
		}
		if s := quiet.Sum(); s != sum(b, 7) {
			t.Errorf("pieces of %d, asked for once: %016x", size, s)
		}
	}
}

// P3.3: in pieces of all sizes, one behind the other.
func TestUnlikePieces(t *testing.T) {
	b := text(5000, 10)
	for seed := range uint64(40) {
		h := xxh.New(seed)
		sizes := text(5000, seed)
		at := 0
		for _, c := range sizes {
			n := min(int(c)%(int(seed)*3+1), len(b)-at)
			h.Write(b[at : at+n])
			at += n
		}
		if s, want := h.Sum(), sum(b[:at], seed); s != want {
			t.Errorf("%d bytes in unlike pieces: %016x, not %016x", at, s, want)
		}
	}
}
