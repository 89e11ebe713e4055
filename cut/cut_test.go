package cut_test

import (
	"bytes"
	"math"
	"math/bits"
	"slices"
	"testing"

	"hoard/api"
	"hoard/cut"
)

const alphabet = "abcdefghijklmnopqrstuvwxyz"

const fox = "The quick brown fox jumps over the lazy dog"

// text answers n bytes of all sorts, the same ones each time.
func text(n int, seed uint64) []byte {
	b := make([]byte, n)
	for i := range b {
		seed = seed*6364136223846793005 + 1442695040888963407
		b[i] = byte(seed >> 56)
	}
	return b
}

// word answers a byte's word by the words of the chapter below.
func word(seed uint32, c byte) uint32 {
	x := seed + (uint32(c)+1)*0x9e3779b9
	x = (x ^ x>>16) * 0x85ebca6b
	x = (x ^ x>>13) * 0xc2b2ae35
	return x ^ x>>16
}

// sum answers a text's sum: each byte's word turned by itself.
func sum(seed uint32, b []byte) uint32 {
	var s uint32
	for i, c := range b {
		s ^= bits.RotateLeft32(word(seed, c), (len(b)-1-i)%32)
	}
	return s
}

// ends tells by the chapter's words whether a chunk that has those bytes ends.
func ends(s api.Shape, chunk []byte) bool {
	if len(chunk) == s.Most {
		return true
	}
	if len(chunk) < s.Least {
		return false
	}
	last := chunk[len(chunk)-s.Window:]
	modulus := uint32(1)
	for range s.Bits {
		modulus *= 2
	}
	return sum(s.Seed, last)%modulus == 0
}

// model answers the chunks of a stream by the chapter's words, byte by byte.
func model(s api.Shape, b []byte) [][]byte {
	var l [][]byte
	var chunk []byte
	for _, c := range b {
		chunk = append(chunk, c)
		if ends(s, chunk) {
			l = append(l, chunk)
			chunk = nil
		}
	}
	if len(chunk) > 0 {
		l = append(l, chunk)
	}
	return l
}

// sizesOf answers how many bytes each has.
func sizesOf(l [][]byte) []int {
	var sizes []int
	for _, b := range l {
		sizes = append(sizes, len(b))
	}
	return sizes
}

// same tells whether two lists of chunks are alike.
func same(a, b [][]byte) bool { return slices.EqualFunc(a, b, bytes.Equal) }

// shapes are right ones of all sorts: narrow and wide, with all edges.
func shapes() []api.Shape {
	l := []api.Shape{
		{Least: 1, Most: 1, Bits: 0, Window: 1},
		{Least: 1, Most: 1, Bits: 20, Window: 1},
		{Least: 63, Most: 63, Bits: 3, Window: 63},
		{Least: 63, Most: 64, Bits: 1, Window: 63},
		{Least: 63, Most: 500, Bits: 4, Window: 63, Seed: 9},
		{Least: 64, Most: 500, Bits: 4, Window: 63, Seed: 9},
		{Least: 1, Most: 8192, Bits: 20, Window: 1},
		{Least: 63, Most: 8192, Bits: 20, Window: 63, Seed: math.MaxUint32},
		{Least: 8192, Most: 8192, Bits: 20, Window: 63},
		{Least: 8191, Most: 8192, Bits: 1, Window: 7},
		{Least: 256, Most: 8192, Bits: 10, Window: 48, Seed: 0x12345678},
		{Least: 32, Most: 256, Bits: 6, Window: 16, Seed: 1},
	}
	for _, window := range []int{1, 2, 3, 7, 31, 32, 33, 62, 63} {
		for _, more := range []int{0, 1, 5} {
			for _, wide := range []int{0, 1, 2, 40, 300} {
				for _, bits := range []int{0, 1, 2, 5} {
					least := window + more
					l = append(l, api.Shape{Least: least, Most: least + wide, Bits: bits, Window: window, Seed: uint32(least * wide)})
				}
			}
		}
	}
	return l
}

// wrongShapes are shapes that are not right, each of one thing alone if not of more.
func wrongShapes() []api.Shape {
	good := api.Shape{Least: 64, Most: 256, Bits: 6, Window: 16, Seed: 1}
	l := []api.Shape{{}, {Seed: 5}}
	change := func(f func(s *api.Shape)) {
		s := good
		f(&s)
		l = append(l, s)
	}
	extremes := []int{-1, -2, math.MinInt32, math.MinInt, math.MinInt + 1, math.MaxInt32, math.MaxInt, math.MaxInt - 1, 1 << 32, 1<<32 + 64, -1 << 32}
	for _, x := range slices.Concat(extremes, []int{0, 64, 65}) {
		change(func(s *api.Shape) { s.Window = x })
		change(func(s *api.Shape) { s.Window, s.Least = x, x })
		change(func(s *api.Shape) { s.Window, s.Least, s.Most = x, x, x })
	}
	for _, x := range slices.Concat(extremes, []int{0, 1, 15, 257, 8192, 8193}) {
		change(func(s *api.Shape) { s.Least = x })
	}
	for _, x := range slices.Concat(extremes, []int{0, 1, 16, 63, 8193, 8194, 16384}) {
		change(func(s *api.Shape) { s.Most = x })
	}
	change(func(s *api.Shape) { s.Least, s.Most = 8193, 8193 })
	for _, x := range slices.Concat(extremes, []int{21, 22, 31, 32, 33, 63, 64}) {
		change(func(s *api.Shape) { s.Bits = x })
	}
	return l
}

// P11.1: the edges of each number.
func TestCheck(t *testing.T) {
	for _, c := range []struct {
		s    api.Shape
		want api.Errno
	}{
		{api.Shape{Least: 64, Most: 256, Bits: 6, Window: 16}, api.OK},
		{api.Shape{Least: 1, Most: 1, Bits: 0, Window: 1}, api.OK},
		{api.Shape{Least: 1, Most: 8192, Bits: 20, Window: 1, Seed: math.MaxUint32}, api.OK},
		{api.Shape{Least: 63, Most: 63, Bits: 0, Window: 63}, api.OK},
		{api.Shape{Least: 8192, Most: 8192, Bits: 20, Window: 63}, api.OK},
		{api.Shape{}, api.ErrArg},
		{api.Shape{Least: 1, Most: 1, Window: 0}, api.ErrArg},
		{api.Shape{Least: 0, Most: 1, Window: 0}, api.ErrArg},
		{api.Shape{Least: 0, Most: 1, Window: 1}, api.ErrArg},
		{api.Shape{Least: 64, Most: 64, Window: 63}, api.OK},
		{api.Shape{Least: 64, Most: 64, Window: 64}, api.ErrArg},
		{api.Shape{Least: 62, Most: 64, Window: 63}, api.ErrArg},
		{api.Shape{Least: 10, Most: 9, Window: 9}, api.ErrArg},
		{api.Shape{Least: 10, Most: 10, Window: 9}, api.OK},
		{api.Shape{Least: 10, Most: 8193, Window: 9}, api.ErrArg},
		{api.Shape{Least: 8193, Most: 8193, Window: 9}, api.ErrArg},
		{api.Shape{Least: 10, Most: 20, Window: 9, Bits: 21}, api.ErrArg},
		{api.Shape{Least: 10, Most: 20, Window: 9, Bits: -1}, api.ErrArg},
	} {
		if e := cut.Check(c.s); e != c.want {
			t.Errorf("%v: error %d, not %d", c.s, e, c.want)
		}
	}
	for _, s := range wrongShapes() {
		if e := cut.Check(s); e != api.ErrArg {
			t.Errorf("%v: error %d", s, e)
		}
	}
}

// P11.1: numbers at and about the edges, each with each.
func TestCheckOfAll(t *testing.T) {
	windows := []int{math.MinInt, -1, 0, 1, 2, 62, 63, 64, math.MaxInt}
	sizes := []int{math.MinInt, -1, 0, 1, 2, 61, 62, 63, 64, 65, 8191, 8192, 8193, math.MaxInt}
	for _, window := range windows {
		for _, least := range sizes {
			for _, most := range sizes {
				for _, bits := range []int{math.MinInt, -1, 0, 1, 19, 20, 21, 32, math.MaxInt} {
					right := 1 <= window && window <= 63 && window <= least && least <= most && most <= 8192 && 0 <= bits && bits <= 20
					s := api.Shape{Least: least, Most: most, Bits: bits, Window: window, Seed: uint32(bits)}
					if e := cut.Check(s); (e == api.OK) != right || e != api.OK && e != api.ErrArg {
						t.Fatalf("%v: error %d", s, e)
					}
				}
			}
		}
	}
}

// P11.2, P11.3: sizes that were worked out apart.
func TestSizes(t *testing.T) {
	for _, c := range []struct {
		s    api.Shape
		b    string
		want []int
	}{
		{api.Shape{Least: 2, Most: 6, Bits: 1, Window: 2}, alphabet, []int{2, 2, 3, 6, 5, 3, 2, 2, 1}},
		{api.Shape{Least: 2, Most: 6, Bits: 1, Window: 2}, fox, []int{3, 3, 5, 3, 3, 2, 2, 2, 3, 6, 2, 3, 3, 3}},
		{api.Shape{Least: 2, Most: 6, Bits: 1, Window: 2, Seed: 1}, alphabet, []int{2, 2, 2, 2, 3, 3, 4, 2, 2, 2, 2}},
		{api.Shape{Least: 1, Most: 6, Bits: 1, Window: 1}, alphabet, []int{1, 3, 4, 1, 3, 1, 1, 1, 2, 2, 4, 1, 2}},
		{api.Shape{Least: 2, Most: 8, Bits: 2, Window: 2}, fox, []int{4, 2, 8, 5, 2, 3, 8, 3, 5, 3}},
		{api.Shape{Least: 3, Most: 8, Bits: 2, Window: 2}, fox, []int{4, 8, 7, 5, 8, 3, 5, 3}},
		{api.Shape{Least: 2, Most: 8, Bits: 2, Window: 1}, alphabet, []int{4, 4, 4, 7, 5, 2}},
		{api.Shape{Least: 1, Most: 63, Bits: 3, Window: 1}, alphabet, []int{8, 4, 7, 5, 2}}, // behind h, l, s and x
		{api.Shape{Least: 1, Most: 63, Bits: 3, Window: 1, Seed: math.MaxUint32}, fox, []int{2, 3, 6, 4, 10, 8, 3, 7}},
		{api.Shape{Least: 4, Most: 12, Bits: 2, Window: 4, Seed: 0x12345678}, alphabet, []int{8, 7, 10, 1}},
	} {
		if l, e := cut.Sizes(c.s, []byte(c.b)); e != api.OK || !slices.Equal(l, c.want) {
			t.Errorf("%v, %q: %v, error %d, not %v", c.s, c.b, l, e, c.want)
		}
	}
}

// P11.2: how many of the lowest bits are noughts, up to the last one, and no other bit's.
func TestBits(t *testing.T) {
	for _, c := range []struct {
		seed uint32
		c    byte
		bits int // how many of the lowest ones of its word are noughts
	}{
		{0, 'b', 0},         // ee6e1ac7
		{0, 'd', 2},         // f23f1fc4
		{0, 'l', 6},         // 59d7d340
		{0x74c9, 0, 19},     // 15c80000
		{0xd8f4f, 0, 20},    // b1500000
		{0x9d55e, 0, 21},    // 79600000
		{0x61c88647, 0, 32}, // 0
	} {
		for bits := range 21 {
			s := api.Shape{Least: 1, Most: 9, Bits: bits, Window: 1, Seed: c.seed}
			want := []int{9, 4}
			if bits <= c.bits {
				want = []int{1, 1, 1, 1, 1, 1, 1, 1, 1, 1, 1, 1, 1}
			}
			if l, e := cut.Sizes(s, bytes.Repeat([]byte{c.c}, 13)); e != api.OK || !slices.Equal(l, want) {
				t.Errorf("%v, byte %d: %v, error %d, not %v", s, c.c, l, e, want)
			}
		}
	}
}

// P11.2: with these shapes a chunk ends behind an l, and not behind an a or a b.
func TestLeastAndMost(t *testing.T) {
	for _, c := range []struct {
		least, most int
		b           string
		want        []int
	}{
		{3, 5, "aal", []int{3}},
		{3, 5, "aala", []int{3, 1}},
		{3, 5, "alaal", []int{5}},
		{3, 5, "alall", []int{4, 1}},
		{3, 5, "alaaa", []int{5}},
		{3, 5, "alal", []int{4}},
		{3, 5, "llllll", []int{3, 3}},
		{3, 5, "lllllll", []int{3, 3, 1}},
		{3, 5, "ll", []int{2}},
		{3, 5, "llalla", []int{4, 2}},
		{3, 5, "llaaaa", []int{5, 1}},
		{3, 5, "abababababab", []int{5, 5, 2}},
		{3, 5, "ababababab", []int{5, 5}},
		{3, 5, "abab", []int{4}},
		{3, 5, "ababl", []int{5}},
		{3, 5, "abablaal", []int{5, 3}},
		{3, 3, "abcdefgh", []int{3, 3, 2}},
		{1, 5, "lalaa", []int{1, 2, 2}},
		{1, 5, "l", []int{1}},
		{1, 5, "a", []int{1}},
		{1, 1, "abl", []int{1, 1, 1}},
		{1, 5, "", nil},
	} {
		s := api.Shape{Least: c.least, Most: c.most, Bits: 5, Window: 1}
		if l, e := cut.Sizes(s, []byte(c.b)); e != api.OK || !slices.Equal(l, c.want) {
			t.Errorf("%d to %d, %q: %v, error %d, not %v", c.least, c.most, c.b, l, e, c.want)
		}
	}
}

// P11.2: the sum is one of the window's bytes, all of them, and no more of them.
func TestWindow(t *testing.T) {
	for window := 1; window <= 63; window++ {
		s := api.Shape{Least: window, Most: 8192, Bits: 3, Window: window, Seed: 3}
		cuts := 0
		for i := range 200 {
			b := text(window, uint64(i))
			want := sum(3, b)%8 == 0
			l, _ := cut.Sizes(s, append(b, make([]byte, 1)...))
			if ended := len(l) == 2; ended != want {
				t.Fatalf("window %d, %x: %v", window, b, l)
			}
			if want {
				cuts++
			}
		}
		if cuts == 0 {
			t.Errorf("window %d: no text ends a chunk", window)
		}
	}
}

// P11.2, P11.3, P11.5: all shapes, and texts of all sorts.
func TestSplitIsTheModels(t *testing.T) {
	for i, s := range shapes() {
		if e := cut.Check(s); e != api.OK {
			t.Fatalf("%v: error %d", s, e)
		}
		for _, n := range []int{0, 1, 2, s.Least - 1, s.Least, s.Least + 1, s.Most - 1, s.Most, s.Most + 1, 2 * s.Most, 2*s.Most + 1, 1000} {
			for _, b := range [][]byte{text(n, uint64(i)), make([]byte, n), bytes.Repeat(text(s.Window, 1), n/s.Window+1)} {
				want := model(s, b)
				if l, e := cut.Sizes(s, b); e != api.OK || !slices.Equal(l, sizesOf(want)) {
					t.Fatalf("sizes by %v of %d bytes: %v, error %d, not %v", s, len(b), l, e, sizesOf(want))
				}
				if l, e := cut.Split(s, b); e != api.OK || !same(l, want) {
					t.Fatalf("chunks by %v of %d bytes: %v, error %d, not %v", s, len(b), sizesOf(l), e, sizesOf(want))
				}
			}
		}
	}
}

// P11.3: of a stream as long as one may be, and of a longer one.
func TestLongStreams(t *testing.T) {
	for _, s := range []api.Shape{
		{Least: 256, Most: 8192, Bits: 10, Window: 48, Seed: 7},
		{Least: 1, Most: 8192, Bits: 20, Window: 1},
		{Least: 63, Most: 100, Bits: 2, Window: 63},
	} {
		for _, n := range []int{api.MaxStream, 1<<20 + 1} {
			b := text(n, 4)
			want := model(s, b)
			if l, e := cut.Split(s, b); e != api.OK || !same(l, want) {
				t.Errorf("%v, %d bytes: %d chunks, error %d, not %d chunks", s, n, len(l), e, len(want))
			}
		}
	}
}

// P11.5, and the examples.
func TestChunksFollow(t *testing.T) {
	for i, s := range shapes() {
		b := text(3000, uint64(i))
		l, e := cut.Split(s, b)
		if e != api.OK || !bytes.Equal(slices.Concat(l...), b) {
			t.Fatalf("%v: error %d, or the chunks are not the stream", s, e)
		}
		for k, chunk := range l {
			n := len(chunk)
			last := k == len(l)-1
			switch {
			case n == 0 || n > s.Most, !last && n < s.Least:
				t.Fatalf("%v: chunk %d has %d bytes", s, k, n)
			case !last && s.Bits == 0 && n != s.Least:
				t.Fatalf("%v: chunk %d has %d bytes, not the least", s, k, n)
			}
		}
	}
}

// P11.5: behind an end of a chunk it plays no part what was ahead of it.
func TestChunksBehindAnEnd(t *testing.T) {
	for i, s := range shapes() {
		b := text(800, uint64(i))
		l, _ := cut.Split(s, b)
		at := 0
		for k, chunk := range l {
			if rest, _ := cut.Split(s, b[at:]); !same(rest, l[k:]) {
				t.Fatalf("%v: from %d on: %v, not %v", s, at, sizesOf(rest), sizesOf(l[k:]))
			}
			at += len(chunk)
		}
	}
}

// P11.5: a byte put in at the beginning changes nothing behind the next end that both have.
func TestByteAhead(t *testing.T) {
	s := api.Shape{Least: 32, Most: 512, Bits: 6, Window: 16, Seed: 2}
	b := text(20000, 8)
	l, _ := cut.Split(s, b)
	for c := range 256 {
		other, _ := cut.Split(s, append([]byte{byte(c)}, b...))
		at, further := len(l), len(other)
		for at > 0 && further > 0 && bytes.Equal(l[at-1], other[further-1]) {
			at--
			further--
		}
		if at > 20 {
			t.Errorf("byte %d: %d of %d chunks are others", c, at, len(l))
		}
	}
}

// P11.1, P11.3: of shapes that are not right.
func TestWrongShapes(t *testing.T) {
	for _, s := range wrongShapes() {
		for _, b := range [][]byte{nil, {}, {1}, text(300, 1)} {
			if l, e := cut.Sizes(s, b); len(l) > 0 || e != api.ErrArg {
				t.Errorf("sizes by %v: %v, error %d", s, l, e)
			}
			if l, e := cut.Split(s, b); len(l) > 0 || e != api.ErrArg {
				t.Errorf("chunks by %v: %v, error %d", s, l, e)
			}
		}
		if c, e := cut.New(s); c != nil || e != api.ErrArg {
			t.Errorf("New by %v: %v, error %d", s, c != nil, e)
		}
	}
}

// P11.3: of nothing there is no chunk.
func TestNoBytes(t *testing.T) {
	for _, s := range shapes() {
		for _, b := range [][]byte{nil, {}, text(5, 1)[:0]} {
			sizes, e := cut.Sizes(s, b)
			l, f := cut.Split(s, b)
			if len(sizes) > 0 || len(l) > 0 || e != api.OK || f != api.OK {
				t.Fatalf("%v: %v, error %d; %v, error %d", s, sizes, e, l, f)
			}
		}
	}
}

// R3: what is handed in is left alone, and chunks are memory of their own.
func TestChunksAreNewMemory(t *testing.T) {
	s := api.Shape{Least: 4, Most: 60, Bits: 3, Window: 4}
	whole := text(1000, 9)
	was := slices.Clone(whole)
	b := whole[:900]
	l, _ := cut.Split(s, b)
	if cut.Sizes(s, b); !bytes.Equal(whole, was) {
		t.Error("what was handed in is changed")
	}
	want := model(s, was[:900])
	clear(b)
	if !same(l, want) {
		t.Error("the chunks are memory of the stream")
	}
	copy(whole, was)
	for i := range l {
		for k := range l[i] {
			l[i][k]++
		}
		_ = append(l[i], 1, 2, 3, 4, 5, 6, 7, 8)
		if !same(l[i+1:], want[i+1:]) || !bytes.Equal(whole, was) {
			t.Fatalf("chunk %d is memory of others", i)
		}
	}
	if again, _ := cut.Split(s, b); !same(again, want) {
		t.Error("the same call has another answer")
	}
}
