package bits_test

import (
	"math"
	"testing"

	"hoard/api"
	"hoard/bits"
)

// stands fails, unless a reader has that error, that end, and so many bytes left.
func stands(t *testing.T, r *bits.Reader, err, end api.Errno, left int) {
	t.Helper()
	if r.Err() != err || r.End() != end || r.Left() != left {
		t.Errorf("error %d, end %d, %d left; not %d, %d, %d", r.Err(), r.End(), r.Left(), err, end, left)
	}
}

// answersNothing fails, unless all that is read of a reader is 0 and empty, and changes nothing.
func answersNothing(t *testing.T, r *bits.Reader) {
	t.Helper()
	err, end, left := r.Err(), r.End(), r.Left()
	for _, n := range []int{1, 0, -1, 2, 8, 9, math.MaxInt, math.MinInt} {
		if x := r.Num(n); x != 0 {
			t.Errorf("Num(%d): %x", n, x)
		}
		if b := r.Bytes(n); len(b) != 0 {
			t.Errorf("Bytes(%d): %x", n, b)
		}
		if s := r.Text(n); s != "" {
			t.Errorf("Text(%d): %q", n, s)
		}
		stands(t, r, err, end, left)
	}
}

// P1.3
func TestReaderGoesThrough(t *testing.T) {
	r := bits.Open([]byte("\x01\x02\x03abcd\xff\xff\xff\xff\xff\xff\xff\xff\x00z"))
	stands(t, r, api.OK, api.ErrRest, 17)
	if x := r.Num(1); x != 1 {
		t.Errorf("Num(1): %x", x)
	}
	if x := r.Num(2); x != 0x0302 {
		t.Errorf("Num(2): %x", x)
	}
	if b := r.Bytes(2); string(b) != "ab" {
		t.Errorf("Bytes(2): %q", b)
	}
	if s := r.Text(2); s != "cd" {
		t.Errorf("Text(2): %q", s)
	}
	stands(t, r, api.OK, api.ErrRest, 10)
	if x := r.Num(8); x != math.MaxUint64 {
		t.Errorf("Num(8): %x", x)
	}
	if b, s := r.Bytes(0), r.Text(0); len(b) != 0 || s != "" {
		t.Errorf("nothing: %q, %q", b, s)
	}
	stands(t, r, api.OK, api.ErrRest, 2)
	if s := r.Text(2); s != "\x00z" {
		t.Errorf("Text(2): %q", s)
	}
	stands(t, r, api.OK, api.OK, 0)
	if b, s := r.Bytes(0), r.Text(0); len(b) != 0 || s != "" {
		t.Errorf("nothing, in the end: %q, %q", b, s)
	}
	stands(t, r, api.OK, api.OK, 0)
}

// P1.3: each size of a number, just there and one byte short.
func TestReaderNumSizes(t *testing.T) {
	b := []byte{0xf8, 0xe7, 0xd6, 0xc5, 0xb4, 0xa3, 0x92, 0x81}
	for n := 1; n <= 8; n++ {
		want, _ := bits.Get(b[:n])
		r := bits.Open(b[:n])
		if x := r.Num(n); x != want {
			t.Errorf("Num(%d): %x", n, x)
		}
		stands(t, r, api.OK, api.OK, 0)
		r = bits.Open(b[:n-1])
		if x := r.Num(n); x != 0 {
			t.Errorf("Num(%d) of fewer: %x", n, x)
		}
		stands(t, r, api.ErrShort, api.ErrShort, n-1)
		answersNothing(t, r)
	}
}

// P1.3
func TestReaderOfNothing(t *testing.T) {
	for _, b := range [][]byte{nil, {}} {
		r := bits.Open(b)
		stands(t, r, api.OK, api.OK, 0)
		if b, s := r.Bytes(0), r.Text(0); len(b) != 0 || s != "" {
			t.Errorf("nothing: %q, %q", b, s)
		}
		stands(t, r, api.OK, api.OK, 0)
		r.Num(1)
		stands(t, r, api.ErrShort, api.ErrShort, 0)
	}
}

// P1.3: which error a call has; behind it nothing is read any more, and the error stays.
func TestReaderErrors(t *testing.T) {
	num := func(r *bits.Reader, n int) bool { return r.Num(n) == 0 }
	piece := func(r *bits.Reader, n int) bool { return len(r.Bytes(n)) == 0 }
	text := func(r *bits.Reader, n int) bool { return r.Text(n) == "" }
	for i, c := range []struct {
		b    string
		n    int
		read func(*bits.Reader, int) bool
		want api.Errno
	}{
		{"abc", 0, num, api.ErrArg},
		{"abc", -1, num, api.ErrArg},
		{"abc", 9, num, api.ErrArg},
		{"abcdefghij", 9, num, api.ErrArg},
		{"", 0, num, api.ErrArg},
		{"", 9, num, api.ErrArg},
		{"abc", math.MinInt, num, api.ErrArg},
		{"abc", math.MaxInt, num, api.ErrArg},
		{"abc", 4, num, api.ErrShort},
		{"", 8, num, api.ErrShort},
		{"abc", -1, piece, api.ErrArg},
		{"", -1, piece, api.ErrArg},
		{"abc", math.MinInt, piece, api.ErrArg},
		{"abc", 4, piece, api.ErrShort},
		{"", 1, piece, api.ErrShort},
		{"abc", math.MaxInt, piece, api.ErrShort},
		{"abc", -1, text, api.ErrArg},
		{"", -1, text, api.ErrArg},
		{"abc", math.MinInt, text, api.ErrArg},
		{"abc", 4, text, api.ErrShort},
		{"", 1, text, api.ErrShort},
		{"abc", math.MaxInt, text, api.ErrShort},
	} {
		r := bits.Open([]byte(c.b))
		if !c.read(r, c.n) {
			t.Errorf("row %d: something was read", i)
		}
		stands(t, r, c.want, c.want, len(c.b))
		answersNothing(t, r)
	}
}

// P1.3: what was read ahead of the error stays read.
func TestReaderErrorInTheMiddle(t *testing.T) {
	r := bits.Open([]byte("abcde"))
	if s := r.Text(3); s != "abc" {
		t.Errorf("Text(3): %q", s)
	}
	r.Bytes(3)
	stands(t, r, api.ErrShort, api.ErrShort, 2)
	answersNothing(t, r)
}

// P1.3: it keeps a copy.
func TestReaderKeepsACopy(t *testing.T) {
	b := []byte("abcdef")
	r := bits.Open(b)
	copy(b, "xxxxxx")
	if s := r.Text(2); s != "ab" {
		t.Errorf("Text(2): %q", s)
	}
	p := r.Bytes(2)
	p[0], p[1] = 'y', 'y'
	if string(b) != "xxxxxx" {
		t.Errorf("what was handed in is changed: %q", b)
	}
	if s := r.Text(2); s != "ef" {
		t.Errorf("Text(2): %q", s)
	}
}

// R3, Ways: nothing that is appended to an answer, or written into it, comes to what is left or to another answer.
func TestReaderHandsOutPieces(t *testing.T) {
	r := bits.Open([]byte("abcdef"))
	none, p, q := r.Bytes(0), r.Bytes(2), r.Bytes(1)
	if cap(none) != 0 || cap(p) != 2 || cap(q) != 1 {
		t.Errorf("room behind answers: %d, %d, %d", cap(none), cap(p), cap(q))
	}
	_ = append(none, "xxxxxx"...)
	_ = append(p, "yyyy"...)
	_ = append(q, "zzz"...)
	p[1] = 'w'
	if string(p) != "aw" || string(q) != "c" {
		t.Errorf("answers: %q, %q", p, q)
	}
	if s := r.Text(3); s != "def" {
		t.Errorf("what is left: %q", s)
	}
	stands(t, r, api.OK, api.OK, 0)
}

// P1.3: two readers of the same bytes go each by itself.
func TestReadersApart(t *testing.T) {
	b := []byte("abc")
	r, s := bits.Open(b), bits.Open(b)
	r.Bytes(2)[0] = 'x'
	r.Num(9)
	if x := s.Text(3); x != "abc" {
		t.Errorf("the other reader: %q", x)
	}
	stands(t, r, api.ErrArg, api.ErrArg, 1)
	stands(t, s, api.OK, api.OK, 0)
}

// P1.3, R1: a reader that Open did not make.
func TestReaderThatOpenDidNotMake(t *testing.T) {
	var none *bits.Reader
	for _, r := range []*bits.Reader{none, {}, new(bits.Reader)} {
		stands(t, r, api.ErrNil, api.ErrNil, 0)
		answersNothing(t, r)
		stands(t, r, api.ErrNil, api.ErrNil, 0)
	}
}
