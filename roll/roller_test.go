package roll_test

import (
	"bytes"
	"math"
	"slices"
	"testing"

	"hoard/api"
	"hoard/roll"
)

// windows are how many bytes a window may have.
func windows() []int {
	var l []int
	for w := 1; w <= 63; w++ {
		l = append(l, w)
	}
	return l
}

// open answers a roller that was given nothing.
func open(t *testing.T, seed uint32, window int) *roll.Roller {
	t.Helper()
	r, e := roll.New(seed, window)
	if r == nil || e != api.OK {
		t.Fatalf("New(%08x, %d): %v, error %d", seed, window, r != nil, e)
	}
	return r
}

// stands fails, unless a roller says what one does that was given those bytes.
func stands(t *testing.T, r *roll.Roller, seed uint32, window int, given []byte) {
	t.Helper()
	want := sum(seed, given[max(0, len(given)-window):])
	if v := r.Value(); v != want {
		t.Fatalf("seed %08x, window %d, behind %x: %08x, not %08x", seed, window, given, v, want)
	}
	if r.Full() != (len(given) >= window) {
		t.Fatalf("seed %08x, window %d, behind %d bytes: full is %v", seed, window, len(given), r.Full())
	}
}

// goesOn puts bytes to a roller that was given some, and fails, unless it says what it must at each step.
func goesOn(t *testing.T, r *roll.Roller, seed uint32, window int, given, b []byte) {
	t.Helper()
	all := slices.Concat(given, b)
	stands(t, r, seed, window, given)
	for i, c := range b {
		n := len(given) + i + 1
		want := sum(seed, all[max(0, n-window):n])
		if s := r.Put(c); s != want {
			t.Fatalf("seed %08x, window %d, put behind %x: %08x, not %08x", seed, window, all[:n], s, want)
		}
		stands(t, r, seed, window, all[:n])
		stands(t, r, seed, window, all[:n]) // to ask changes nothing
	}
}

// P10.3
func TestNew(t *testing.T) {
	for _, seed := range seeds {
		for _, w := range windows() {
			stands(t, open(t, seed, w), seed, w, nil)
		}
		for _, w := range []int{0, 64, -1, -63, 65, 127, 128, 256, 257, 319, 1 << 16, 1<<16 + 1, 1 << 32, 1<<32 + 1, math.MinInt32, math.MaxInt32, math.MinInt, math.MinInt + 1, math.MaxInt} {
			if r, e := roll.New(seed, w); r != nil || e != api.ErrArg {
				t.Errorf("New(%08x, %d): %v, error %d", seed, w, r != nil, e)
			}
		}
	}
}

// P10.3: the first bytes, up to the window's end and beyond it, by hand.
func TestPut(t *testing.T) {
	r := open(t, 0, 2)
	for _, c := range []struct {
		c    byte
		want uint32
		full bool
	}{
		{'a', 0xf2ebe3a2, false},
		{'b', 0x0bb9dd82, true}, // ab
		{'a', 0x2e37d62d, true}, // ba
		{'a', 0x173c24e7, true}, // aa
		{'a', 0x173c24e7, true},
		{'b', 0x0bb9dd82, true},
	} {
		if s := r.Put(c.c); s != c.want || r.Value() != c.want || r.Full() != c.full {
			t.Errorf("Put of %c: %08x, %08x, full %v; not %08x, %v", c.c, s, r.Value(), r.Full(), c.want, c.full)
		}
	}
	r.Clear()
	if r.Value() != 0 || r.Full() {
		t.Errorf("cleared: %08x, full %v", r.Value(), r.Full())
	}
}

// P10.3: each window, by texts of all sorts, and such by which the same byte comes in and goes out.
func TestRollerSaysTheSumOfTheLast(t *testing.T) {
	for _, w := range windows() {
		n := 4*w + 3
		for i, seed := range seeds {
			for _, b := range [][]byte{text(n, uint64(i+w)), make([]byte, n), bytes.Repeat([]byte{255}, n), bytes.Repeat(text(w, 9), 4), bytes.Repeat(text(w+1, 9), 3)} {
				goesOn(t, open(t, seed, w), seed, w, nil, b)
			}
		}
	}
}

// P10.3: far behind its beginning.
func TestRollerOfALongText(t *testing.T) {
	b := text(1<<18, 6)
	for _, w := range []int{1, 2, 31, 32, 33, 48, 62, 63} {
		r := open(t, 77, w)
		for i, c := range b {
			s := r.Put(c)
			if want := roll.Sum(77, b[max(0, i+1-w):i+1]); s != want || r.Value() != want || r.Full() != (i+1 >= w) {
				t.Fatalf("window %d, behind %d bytes: %08x, %08x, full %v; not %08x", w, i+1, s, r.Value(), r.Full(), want)
			}
		}
	}
}

// P10.3: each byte, alone and behind each other one.
func TestPutOfEachByte(t *testing.T) {
	for _, seed := range []uint32{0, 5, math.MaxUint32} {
		for _, w := range []int{1, 2, 3, 32, 63} {
			for c := range 256 {
				r := open(t, seed, w)
				goesOn(t, r, seed, w, nil, []byte{byte(c)})
				goesOn(t, r, seed, w, []byte{byte(c)}, []byte{byte(255 - c), byte(c)})
			}
		}
	}
}

// P10.3: cleared anywhere, it is as New made it; of what it was given ahead of that nothing is left.
func TestClear(t *testing.T) {
	for _, w := range windows() {
		r := open(t, 3, w)
		r.Clear()
		stands(t, r, 3, w, nil)
		for n := range 2*w + 2 {
			for _, c := range text(n, uint64(n)) {
				r.Put(c)
			}
			r.Clear()
			stands(t, r, 3, w, nil)
			r.Clear()
			goesOn(t, r, 3, w, nil, text(w+n%5, uint64(w+n)))
			r.Clear()
		}
	}
}

// P10.4: it hangs on the last bytes alone; and they do all play a part.
func TestRollerForgets(t *testing.T) {
	for _, w := range windows() {
		last := text(w, uint64(w))
		for n := range 3 * w {
			r := open(t, 11, w)
			for _, c := range slices.Concat(text(n, uint64(n)), last) {
				r.Put(c)
			}
			if v, want := r.Value(), roll.Sum(11, last); v != want || !r.Full() {
				t.Fatalf("window %d, behind %d bytes more: %08x, full %v; not %08x", w, n, v, r.Full(), want)
			}
		}
		for i := range last {
			r := open(t, 11, w)
			spoilt := slices.Clone(last)
			spoilt[i] ^= 0x40
			for _, c := range spoilt {
				r.Put(c)
			}
			if v := r.Value(); v == roll.Sum(11, last) {
				t.Fatalf("window %d: the byte at %d plays no part", w, i)
			}
		}
	}
}

// R4: rollers know nothing of one another.
func TestRollersAreApart(t *testing.T) {
	a, b, c := text(300, 1), text(300, 2), text(300, 3)
	x, y, z := open(t, 1, 7), open(t, 2, 7), open(t, 1, 63)
	for i := range a {
		x.Put(a[i])
		y.Put(b[i])
		z.Put(c[i])
		stands(t, x, 1, 7, a[:i+1])
		stands(t, y, 2, 7, b[:i+1])
		stands(t, z, 1, 63, c[:i+1])
	}
	y.Clear()
	stands(t, x, 1, 7, a)
	stands(t, y, 2, 7, nil)
	stands(t, z, 1, 63, c)
}

// P10.3, R1: of a roller that New did not make.
func TestRollerThatNobodyMade(t *testing.T) {
	refused, _ := roll.New(1, 64)
	for _, r := range []*roll.Roller{nil, {}, new(roll.Roller), refused} {
		for range 3 {
			for _, c := range []byte{0, 1, 'a', 255} {
				if s := r.Put(c); s != 0 {
					t.Errorf("Put of %d: %08x", c, s)
				}
				if v := r.Value(); v != 0 || r.Full() {
					t.Errorf("%08x, full %v", v, r.Full())
				}
			}
			r.Clear()
			if v := r.Value(); v != 0 || r.Full() {
				t.Errorf("cleared: %08x, full %v", v, r.Full())
			}
		}
	}
}
