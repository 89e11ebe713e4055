package crc_test

import (
	"hash/crc32"
	"math"
	"slices"
	"testing"

	"hoard/bits"
	"hoard/crc"
)

// counts are how many bytes a sum is moved by: few, many, and the edges of what a number can be.
var counts = []int{0, 1, 2, 3, 4, 5, 7, 8, 31, 32, 33, 255, 256, 1000, 65535, 1 << 29, 1<<29 + 1, math.MaxInt32, 1 << 31, math.MaxUint32 - 1, math.MaxUint32, math.MaxUint32 + 1, 1 << 62, math.MaxInt - 1, math.MaxInt}

// belowOne are counts by which nothing is moved.
var belowOne = []int{0, -1, -2, -8, math.MinInt32, math.MinInt + 1, math.MinInt}

// text answers n bytes of all sorts, the same ones each time.
func text(n int, seed uint64) []byte {
	b := make([]byte, n)
	for i := range b {
		seed = seed*6364136223846793005 + 1442695040888963407
		b[i] = byte(seed >> 56)
	}
	return b
}

// sums answers words of all sorts: none of their bits, all, each alone, and others.
func sums() []uint32 {
	l := []uint32{0, math.MaxUint32, 0xedb88320, 0x04c11db7, 0xcbf43926, 0x12345678}
	for i := range 32 {
		l = append(l, 1<<i)
	}
	for i := range uint64(30) {
		x, _ := bits.Get(text(4, i))
		l = append(l, uint32(x))
	}
	return l
}

// register answers a text's sum by the chapter's other words, bit by bit, from a register's state on.
func register(r uint32, b []byte) uint32 {
	for _, c := range b {
		r ^= uint32(c)
		for range 8 {
			out := r & 1
			r >>= 1
			if out == 1 {
				r ^= 0xedb88320
			}
		}
	}
	return r
}

// powers are those of the polynomial by which is divided, beside x^32.
var powers = []int{26, 23, 22, 16, 12, 11, 10, 8, 7, 5, 4, 2, 1, 0}

// left answers what is left of a polynomial, divided in the long way: p has its coefficients, the highest power first, and
// is used up. The answer's lowest bit is the coefficient of x^31, as in sums.
func left(p []byte) uint32 {
	for i := range len(p) - 32 {
		if p[i] == 0 {
			continue
		}
		p[i] = 0
		for _, k := range powers {
			p[i+32-k] ^= 1
		}
	}
	var s uint32
	for i, c := range p[len(p)-32:] {
		s |= uint32(c) << i
	}
	return s
}

// divided answers a text's sum by the chapter's first words.
func divided(b []byte) uint32 {
	p := make([]byte, 8*len(b)+32)
	for i := range 8 * len(b) {
		p[i] = b[i/8] >> (i % 8) & 1
	}
	for i := range 32 {
		p[i] ^= 1
	}
	return ^left(p)
}

// moved answers a sum times x^(8 n), divided in the long way.
func moved(s uint32, n int) uint32 {
	p := make([]byte, 32+8*n)
	for i := range 32 {
		p[i] = byte(s >> i & 1)
	}
	return left(p)
}

// P2.1
func TestSum(t *testing.T) {
	for _, c := range []struct {
		b    string
		want uint32
	}{
		{"", 0},
		{"\x00", 0xd202ef8d},
		{"\xff", 0xff000000},
		{"a", 0xe8b7be43},
		{"abc", 0x352441c2},
		{"123456789", 0xcbf43926},
		{"\x00\x00\x00\x00", 0x2144df1c},
		{"\xff\xff\xff\xff", 0xffffffff},
		{"The quick brown fox jumps over the lazy dog", 0x414fa339},
	} {
		if s := crc.Sum([]byte(c.b)); s != c.want {
			t.Errorf("sum of %q: %08x, not %08x", c.b, s, c.want)
		}
		if s := crc.Add(0, []byte(c.b)); s != c.want {
			t.Errorf("Add of %q to the sum of nothing: %08x, not %08x", c.b, s, c.want)
		}
	}
	if s := crc.Sum(nil); s != 0 {
		t.Errorf("sum of nil: %08x", s)
	}
}

// P2.1: each byte alone, at each of the places that the register's words make unlike.
func TestSumOfEachByte(t *testing.T) {
	for c := range 256 {
		for _, at := range []int{0, 1, 3, 4, 6} {
			b := make([]byte, 7)
			b[at] = byte(c)
			if s, want := crc.Sum(b), crc32.ChecksumIEEE(b); s != want {
				t.Fatalf("sum of %x: %08x, not %08x", b, s, want)
			}
		}
		b := []byte{byte(c)}
		if s, want := crc.Sum(b), ^register(math.MaxUint32, b); s != want {
			t.Fatalf("sum of %x: %08x, not %08x", b, s, want)
		}
	}
}

// P2.1: both of the chapter's wordings, of texts shorter and longer than the register.
func TestSumIsWhatIsLeft(t *testing.T) {
	for n := range 70 {
		for seed := range uint64(4) {
			b := text(n, seed)
			s := crc.Sum(b)
			if want := divided(b); s != want {
				t.Fatalf("sum of %x: %08x, what is left is %08x", b, s, want)
			}
			if want := ^register(math.MaxUint32, b); s != want {
				t.Fatalf("sum of %x: %08x, the register says %08x", b, s, want)
			}
		}
	}
}

// P2.1
func TestSumOfLongTexts(t *testing.T) {
	for _, n := range []int{255, 256, 257, 1000, 4095, 65536, 1 << 20} {
		for _, b := range [][]byte{text(n, 7), make([]byte, n), slices.Repeat([]byte{0xff}, n)} {
			if s, want := crc.Sum(b), crc32.ChecksumIEEE(b); s != want {
				t.Errorf("sum of %d bytes: %08x, not %08x", n, s, want)
			}
		}
	}
}

// P2.1: from any sum on; nothing is added by no bytes.
func TestAdd(t *testing.T) {
	for _, s := range sums() {
		if x, y := crc.Add(s, nil), crc.Add(s, []byte{}); x != s || y != s {
			t.Errorf("nothing added to %08x: %08x, %08x", s, x, y)
		}
		for _, n := range []int{1, 2, 3, 4, 5, 8, 33, 100} {
			b := text(n, uint64(s))
			x := crc.Add(s, b)
			if want := crc32.Update(s, crc32.IEEETable, b); x != want {
				t.Fatalf("%x added to %08x: %08x, not %08x", b, s, x, want)
			}
			if want := ^register(^s, b); x != want {
				t.Fatalf("%x added to %08x: %08x, the register says %08x", b, s, x, want)
			}
		}
	}
}

// P2.1, R3, R4: what is handed in is not changed, and nothing is kept from call to call.
func TestTextsAreLeftAlone(t *testing.T) {
	b := text(50, 3)
	was := slices.Clone(b)
	s, a := crc.Sum(b), crc.Add(9, b)
	if string(b) != string(was) {
		t.Error("what was handed in is changed")
	}
	crc.Join(crc.Add(5, b[:20]), 7, 1000)
	if crc.Sum(b) != s || crc.Add(9, b) != a {
		t.Error("the same call answered otherwise")
	}
	if x := crc.Sum(b[:20:20]); x != crc.Sum(b[:20]) {
		t.Error("the sum hangs on what stands behind the text")
	}
}

// P2.2
func TestShift(t *testing.T) {
	if s := crc.Shift(0x80000000, 1); s != 0x00800000 {
		t.Errorf("1 moved by one byte: %08x", s)
	}
	if s := crc.Shift(0x80000000, 4); s != 0xedb88320 {
		t.Errorf("1 moved by four bytes: %08x", s)
	}
	for _, s := range sums() {
		for n := range 40 {
			if x, want := crc.Shift(s, n), moved(s, n); x != want {
				t.Fatalf("%08x moved by %d: %08x, not %08x", s, n, x, want)
			}
		}
		for _, n := range []int{255, 256, 1000, 4097} {
			if x, want := crc.Shift(s, n), register(s, make([]byte, n)); x != want {
				t.Fatalf("%08x moved by %d: %08x, not %08x", s, n, x, want)
			}
		}
	}
}

// P2.2
func TestShiftByLessThanOne(t *testing.T) {
	for _, s := range sums() {
		for _, n := range belowOne {
			if x := crc.Shift(s, n); x != s {
				t.Errorf("%08x moved by %d: %08x", s, n, x)
			}
		}
	}
}

// P2.2: a thousand thousand bytes, and more than anybody could go through. x^(2^32 - 1) is 1 by that polynomial, so that
// x^(8 * 2^29) is x.
func TestShiftByMuch(t *testing.T) {
	long := make([]byte, 1_000_000)
	for _, s := range sums()[:8] {
		if x, want := crc.Shift(s, len(long)), register(s, long); x != want {
			t.Errorf("%08x moved by %d: %08x, not %08x", s, len(long), x, want)
		}
	}
	for _, s := range sums() {
		timesX := s >> 1
		if s&1 == 1 {
			timesX ^= 0xedb88320
		}
		if x := crc.Shift(s, 1<<29); x != timesX {
			t.Errorf("%08x moved by 2^29: %08x, not %08x", s, x, timesX)
		}
		if x := crc.Shift(s, math.MaxUint32); x != s {
			t.Errorf("%08x moved all round: %08x", s, x)
		}
		for _, n := range counts {
			if x, y := crc.Shift(s, n), crc.Shift(s, n%math.MaxUint32); x != y {
				t.Errorf("%08x moved by %d: %08x, not %08x", s, n, x, y)
			}
		}
	}
}

// P2.2: it multiplies, so that moves go together, and sums of sums are moved alike.
func TestShiftsGoTogether(t *testing.T) {
	l := sums()
	for i, s := range l {
		u := l[(i+7)%len(l)]
		for _, n := range counts {
			if x, y := crc.Shift(s^u, n), crc.Shift(s, n)^crc.Shift(u, n); x != y {
				t.Fatalf("%08x and %08x moved by %d: %08x, not %08x", s, u, n, x, y)
			}
			for _, m := range counts {
				if n > math.MaxInt-m {
					continue
				}
				if x, y := crc.Shift(crc.Shift(s, n), m), crc.Shift(s, n+m); x != y {
					t.Fatalf("%08x moved by %d and %d: %08x, not %08x", s, n, m, x, y)
				}
			}
		}
	}
}

// P2.2
func TestJoin(t *testing.T) {
	if s := crc.Join(crc.Sum([]byte("a")), crc.Sum([]byte("bc")), 2); s != 0x352441c2 {
		t.Errorf("a and bc: %08x", s)
	}
	l := sums()
	for i, s := range l {
		u := l[(i+5)%len(l)]
		for _, n := range counts {
			if x, want := crc.Join(s, u, n), crc.Shift(s, n)^u; x != want {
				t.Errorf("%08x and %08x of %d: %08x, not %08x", s, u, n, x, want)
			}
		}
		for _, n := range belowOne {
			if x := crc.Join(s, u, n); x != s^u {
				t.Errorf("%08x and %08x of %d: %08x, not %08x", s, u, n, x, s^u)
			}
		}
	}
}

// P2.3: by each cut, also ahead of the first byte and behind the last.
func TestPiecesComeToTheWhole(t *testing.T) {
	for _, n := range []int{0, 1, 2, 4, 5, 32, 100, 301} {
		b := text(n, 11)
		whole := crc.Sum(b)
		for i := range n + 1 {
			front, back := b[:i], b[i:]
			if s := crc.Add(crc.Sum(front), back); s != whole {
				t.Fatalf("%d bytes, cut at %d, by Add: %08x, not %08x", n, i, s, whole)
			}
			if s := crc.Join(crc.Sum(front), crc.Sum(back), len(back)); s != whole {
				t.Fatalf("%d bytes, cut at %d, by Join: %08x, not %08x", n, i, s, whole)
			}
		}
	}
}

// P2.3: many pieces, joined from the front and from the back.
func TestManyPiecesComeToTheWhole(t *testing.T) {
	b := text(10_000, 5)
	whole := crc.Sum(b)
	for _, size := range []int{1, 3, 7, 64, 1000, 9999, 10_000} {
		var added, joined, back uint32
		behind := 0
		for piece := range slices.Chunk(b, size) {
			added = crc.Add(added, piece)
			joined = crc.Join(joined, crc.Sum(piece), len(piece))
		}
		pieces := slices.Collect(slices.Chunk(b, size))
		for _, piece := range slices.Backward(pieces) {
			back = crc.Join(crc.Sum(piece), back, behind)
			behind += len(piece)
		}
		if added != whole || joined != whole || back != whole {
			t.Errorf("pieces of %d: %08x, %08x, %08x, not %08x", size, added, joined, back, whole)
		}
	}
}

// turnBits turns those of 32 bits of a text, from a place on, that are 1 in a word.
func turnBits(b []byte, at int, word uint32) {
	for i := range 32 {
		if word>>i&1 == 1 {
			b[(at+i)/8] ^= 1 << ((at + i) % 8)
		}
	}
}

// P2.3: at each place, all of 1 to 32 bits in a row, and some of them.
func TestTurnedBitsAreSeen(t *testing.T) {
	const n = 24
	for _, b := range [][]byte{text(n, 1), make([]byte, n), slices.Repeat([]byte{0xff}, n)} {
		s := crc.Sum(b)
		for size := 1; size <= 32; size++ {
			all := uint32(math.MaxUint32) >> (32 - size)
			ends := uint32(1) | 1<<(size-1)
			some, _ := bits.Get(text(4, uint64(size)))
			for _, word := range []uint32{all, ends, uint32(some)&all | ends} {
				for at := range 8*n - size + 1 {
					c := slices.Clone(b)
					turnBits(c, at, word)
					if crc.Sum(c) == s {
						t.Fatalf("%032b turned at bit %d of %x is not seen", word, at, b)
					}
				}
			}
		}
	}
}
