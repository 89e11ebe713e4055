package cut_test

import (
	"bytes"
	"slices"
	"testing"

	"hoard/api"
	"hoard/cut"
)

// open answers a cutter that was given nothing.
func open(t *testing.T, s api.Shape) *cut.Cutter {
	t.Helper()
	c, e := cut.New(s)
	if c == nil || e != api.OK {
		t.Fatalf("New by %v: %v, error %d", s, c != nil, e)
	}
	if c.Held() != 0 {
		t.Fatalf("New by %v: it has %d bytes", s, c.Held())
	}
	return c
}

// held answers how many bytes of a stream stand behind the last chunk that ended.
func held(s api.Shape, b []byte) int {
	l := model(s, b)
	if len(l) == 0 || ends(s, l[len(l)-1]) {
		return 0
	}
	return len(l[len(l)-1])
}

// ended answers the chunks of a stream that ended, whatever follows.
func ended(s api.Shape, b []byte) [][]byte {
	l := model(s, b)
	if held(s, b) > 0 {
		l = l[:len(l)-1]
	}
	return l
}

// goes fails, unless a cutter that has nothing tells of a stream in such pieces what it must, piece by piece.
func goes(t *testing.T, c *cut.Cutter, s api.Shape, pieces ...[]byte) {
	t.Helper()
	var b []byte
	had := 0
	for i, piece := range pieces {
		b = append(b, piece...)
		want := ended(s, b)
		if l := c.Write(piece); !same(l, want[had:]) {
			t.Fatalf("%v, piece %d of %d bytes: %v, not %v", s, i, len(piece), sizesOf(l), sizesOf(want[had:]))
		}
		had = len(want)
		if n := held(s, b); c.Held() != n {
			t.Fatalf("%v, behind piece %d: it has %d bytes, not %d", s, i, c.Held(), n)
		}
	}
	rest := b[len(b)-held(s, b):]
	if last := c.End(); !bytes.Equal(last, rest) {
		t.Fatalf("%v, %d bytes: the last chunk has %d bytes, not %d", s, len(b), len(last), len(rest))
	}
	if c.Held() != 0 {
		t.Fatalf("%v, behind its end: it has %d bytes", s, c.Held())
	}
}

// cutUp answers a text in pieces of such sizes, round about, and none at all among them.
func cutUp(b []byte, sizes ...int) [][]byte {
	var l [][]byte
	for i := 0; len(b) > 0; i++ {
		n := min(sizes[i%len(sizes)], len(b))
		l = append(l, b[:n])
		b = b[n:]
	}
	return l
}

// P11.4: by hand. With this shape a chunk ends behind an l, and not behind an a.
func TestWrite(t *testing.T) {
	c := open(t, api.Shape{Least: 3, Most: 5, Bits: 5, Window: 1})
	for i, step := range []struct {
		b    string
		want []string
		held int
	}{
		{"", nil, 0},
		{"aa", nil, 2},
		{"", nil, 2},
		{"l", []string{"aal"}, 0},
		{"", nil, 0},
		{"alaa", nil, 4},
		{"a", []string{"alaaa"}, 0},
		{"lllaa", []string{"lll"}, 2},
		{"laallaal", []string{"aal", "aal", "laal"}, 0},
		{"aaaaaaaaaaaa", []string{"aaaaa", "aaaaa"}, 2},
		{"aaa", []string{"aaaaa"}, 0},
		{"l", nil, 1},
	} {
		l := c.Write([]byte(step.b))
		told := []string{}
		for _, b := range l {
			told = append(told, string(b))
		}
		if !slices.Equal(told, step.want) || c.Held() != step.held {
			t.Fatalf("step %d: %q, with %d bytes left, not %q, %d", i, told, c.Held(), step.want, step.held)
		}
	}
	if b := c.End(); string(b) != "l" || c.Held() != 0 {
		t.Errorf("end: %q, with %d bytes left", b, c.Held())
	}
	if b := c.End(); len(b) != 0 || c.Held() != 0 {
		t.Errorf("end again: %q, with %d bytes left", b, c.Held())
	}
}

// P11.4, P11.5: in whatever pieces.
func TestPieces(t *testing.T) {
	for i, s := range shapes() {
		b := text(min(2*s.Most+7, 700), uint64(i))
		c := open(t, s)
		goes(t, c, s, b)
		goes(t, c, s, cutUp(b, s.Least)...)
		goes(t, c, s, cutUp(b, s.Most)...)
		goes(t, c, s, cutUp(b, s.Most+1, 0, 1)...)
		goes(t, c, s, cutUp(b, 37, 0, 1, 150, 2)...)
		goes(t, c, s, nil, []byte{}, b, nil)
		goes(t, c, s)
	}
}

// P11.4, P11.5: byte by byte, and each cut into two.
func TestEachCut(t *testing.T) {
	for _, s := range []api.Shape{
		{Least: 1, Most: 1, Bits: 4, Window: 1},
		{Least: 1, Most: 9, Bits: 2, Window: 1},
		{Least: 4, Most: 30, Bits: 3, Window: 4, Seed: 6},
		{Least: 5, Most: 30, Bits: 2, Window: 4, Seed: 6},
		{Least: 63, Most: 90, Bits: 3, Window: 63},
	} {
		b := text(200, 2)
		c := open(t, s)
		goes(t, c, s, cutUp(b, 1)...)
		for at := range len(b) + 1 {
			goes(t, c, s, b[:at], b[at:])
		}
	}
}

// P11.4: a stream that ends anywhere leaves nothing for the next one.
func TestEndIsABeginning(t *testing.T) {
	s := api.Shape{Least: 6, Most: 20, Bits: 2, Window: 5, Seed: 1}
	c := open(t, s)
	for n := range 60 {
		goes(t, c, s, text(n, uint64(n)))
		goes(t, c, s, cutUp(text(n+1, uint64(n+1)), 2)...)
		if b := c.End(); len(b) != 0 || c.Held() != 0 {
			t.Fatalf("behind an end: %x, with %d bytes left", b, c.Held())
		}
	}
}

// P11.4: a long stream, and the chunks together.
func TestLongStreamInPieces(t *testing.T) {
	b := text(api.MaxStream, 3)
	for _, s := range []api.Shape{
		{Least: 256, Most: 8192, Bits: 10, Window: 48, Seed: 7},
		{Least: 8192, Most: 8192, Bits: 20, Window: 63},
		{Least: 1, Most: 8192, Bits: 20, Window: 1},
		{Least: 1, Most: 64, Bits: 1, Window: 1},
	} {
		want := model(s, b)
		for _, sizes := range [][]int{{1}, {4096}, {8192}, {8193, 1}, {1 << 17}, {api.MaxStream}} {
			c := open(t, s)
			var l [][]byte
			for _, piece := range cutUp(b, sizes...) {
				l = append(l, c.Write(piece)...)
			}
			if last := c.End(); len(last) > 0 {
				l = append(l, last)
			}
			if !same(l, want) {
				t.Errorf("%v, pieces of %v: %d chunks, not %d", s, sizes, len(l), len(want))
			}
		}
	}
}

// R3: what is written is left alone and not kept, and chunks are memory of their own.
func TestCutterKeepsNothing(t *testing.T) {
	s := api.Shape{Least: 4, Most: 60, Bits: 3, Window: 4}
	b := text(1000, 9)
	want := model(s, b)
	c := open(t, s)
	var l [][]byte
	for _, piece := range cutUp(b, 7, 50, 1, 200) {
		mine := slices.Grow(slices.Clone(piece), 100)
		l = append(l, c.Write(mine)...)
		if !bytes.Equal(mine, piece) {
			t.Fatal("what was handed in is changed")
		}
		clear(mine[:cap(mine)])
		for i, chunk := range l {
			if !bytes.Equal(chunk, want[i]) {
				t.Fatalf("chunk %d is another one", i)
			}
			spoil(chunk)
			l[i] = slices.Clone(want[i])
		}
	}
	if last := c.End(); len(last) > 0 {
		l = append(l, last)
	}
	if !same(l, want) {
		t.Errorf("%v, not %v", sizesOf(l), sizesOf(want))
	}
}

// spoil changes all of a chunk's memory, also what lies behind it.
func spoil(chunk []byte) {
	whole := chunk[:cap(chunk)]
	for i := range whole {
		whole[i] ^= 0xff
	}
}

// R3: of one answer no chunk is another's memory, nor is the last one that of the next stream.
func TestChunksOfOneWrite(t *testing.T) {
	s := api.Shape{Least: 4, Most: 60, Bits: 3, Window: 4}
	b := text(1000, 5)
	want := ended(s, b)
	c := open(t, s)
	c.Write(b[:10])
	l := c.Write(b[10:])
	first := len(want) - len(l)
	for i := range l {
		if !same(l[i:], want[first+i:]) {
			t.Fatalf("chunk %d is memory of one ahead of it", i)
		}
		spoil(l[i])
	}
	last := c.End()
	if !bytes.Equal(last, b[len(b)-len(last):]) || len(last) != held(s, b) {
		t.Errorf("the last chunk: %x", last)
	}
	c.Write(b[:3])
	spoil(last)
	if again := c.End(); !bytes.Equal(again, b[:3]) {
		t.Errorf("the next stream: %x, not %x", again, b[:3])
	}
}

// R4: cutters know nothing of one another.
func TestCuttersAreApart(t *testing.T) {
	s := api.Shape{Least: 4, Most: 30, Bits: 3, Window: 4}
	other := api.Shape{Least: 4, Most: 30, Bits: 3, Window: 4, Seed: 1}
	a, b := text(300, 1), text(300, 2)
	x, y, z := open(t, s), open(t, other), open(t, s)
	var lx, ly, lz [][]byte
	for i := range a {
		lx = append(lx, x.Write(a[i:i+1])...)
		ly = append(ly, y.Write(a[i:i+1])...)
		lz = append(lz, z.Write(b[i:i+1])...)
	}
	if !same(lx, ended(s, a)) || !same(ly, ended(other, a)) || !same(lz, ended(s, b)) {
		t.Error("cutters at the same time tell others' chunks")
	}
	y.End()
	if x.Held() != held(s, a) || z.Held() != held(s, b) || y.Held() != 0 {
		t.Errorf("%d, %d, %d bytes are left", x.Held(), y.Held(), z.Held())
	}
}

// P11.4, R1: of a cutter that New did not make.
func TestCutterThatNobodyMade(t *testing.T) {
	refused, _ := cut.New(api.Shape{})
	for _, c := range []*cut.Cutter{nil, {}, new(cut.Cutter), refused} {
		for range 2 {
			for _, b := range [][]byte{nil, {}, {1}, text(10000, 1)} {
				if l := c.Write(b); len(l) != 0 || c.Held() != 0 {
					t.Errorf("Write: %v, with %d bytes left", sizesOf(l), c.Held())
				}
			}
			if b := c.End(); len(b) != 0 || c.Held() != 0 {
				t.Errorf("End: %x, with %d bytes left", b, c.Held())
			}
		}
	}
}
