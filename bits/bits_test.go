package bits_test

import (
	"math"
	"slices"
	"testing"

	"hoard/bits"
)

// wrongSizes are none that a number can have.
var wrongSizes = []int{0, -1, 9, 64, math.MinInt, math.MaxInt}

// turns are places to turn by: none, few, the words' own sizes and what stands beside them, more than any word has.
var turns = []int{0, 1, 7, 8, 31, 32, 33, 63, 64, 65, 100, math.MaxInt, -1, -7, -31, -32, -33, -63, -64, -65, -100, math.MinInt, math.MinInt + 1}

// samples answers numbers of all sorts, the same ones each time.
func samples() []uint64 {
	l := []uint64{0, 1, 2, 0x7f, 0x80, 0xff, 0x100, 258, 1 << 31, 1 << 32, 1 << 63, math.MaxUint32, math.MaxUint64, 0x0102030405060708, 0x8090a0b0c0d0e0f0}
	x := uint64(12345)
	for range 200 {
		x = x*6364136223846793005 + 1442695040888963407
		l = append(l, x^x>>29)
	}
	return l
}

// P1.1
func TestPut(t *testing.T) {
	const x = 0x8192a3b4c5d6e7f8
	low := "\xf8\xe7\xd6\xc5\xb4\xa3\x92\x81"
	high := "\x81\x92\xa3\xb4\xc5\xd6\xe7\xf8"
	for n := 1; n <= 8; n++ {
		if b := bits.Put(x, n); string(b) != low[:n] {
			t.Errorf("Put by %d: %x", n, b)
		}
		if b := bits.Big(x, n); string(b) != high[8-n:] {
			t.Errorf("Big by %d: %x", n, b)
		}
	}
	if b := bits.Put(258, 4); string(b) != "\x02\x01\x00\x00" {
		t.Errorf("Put of 258: %x", b)
	}
	if b := bits.Big(258, 2); string(b) != "\x01\x02" {
		t.Errorf("Big of 258: %x", b)
	}
}

// P1.1
func TestPutWrongSizes(t *testing.T) {
	for _, n := range wrongSizes {
		if b := bits.Put(1, n); len(b) != 0 {
			t.Errorf("Put by %d: %x", n, b)
		}
		if b := bits.Big(1, n); len(b) != 0 {
			t.Errorf("Big by %d: %x", n, b)
		}
	}
}

// P1.1, R3
func TestPutNewMemory(t *testing.T) {
	for _, put := range []func(uint64, int) []byte{bits.Put, bits.Big} {
		a, b := put(0, 4), put(0, 4)
		for i := range a {
			a[i] = 9
		}
		if string(b) != "\x00\x00\x00\x00" || string(put(0, 4)) != "\x00\x00\x00\x00" {
			t.Error("an answer is shared")
		}
	}
}

// P1.1
func TestGet(t *testing.T) {
	low := []byte{0xf8, 0xe7, 0xd6, 0xc5, 0xb4, 0xa3, 0x92, 0x81}
	high := []byte{0x81, 0x92, 0xa3, 0xb4, 0xc5, 0xd6, 0xe7, 0xf8}
	for n := 1; n <= 8; n++ {
		want := uint64(0x8192a3b4c5d6e7f8)
		if n < 8 {
			want &= 1<<(8*n) - 1
		}
		if x, ok := bits.Get(low[:n]); x != want || !ok {
			t.Errorf("Get of %x: %x, %v", low[:n], x, ok)
		}
		if x, ok := bits.GetBig(high[8-n:]); x != want || !ok {
			t.Errorf("GetBig of %x: %x, %v", high[8-n:], x, ok)
		}
	}
	if low[0] != 0xf8 || low[7] != 0x81 || high[0] != 0x81 || high[7] != 0xf8 {
		t.Error("what was handed in is changed")
	}
	if x, ok := bits.Get([]byte{0}); x != 0 || !ok {
		t.Errorf("Get of one nought: %x, %v", x, ok)
	}
	if x, ok := bits.GetBig([]byte{0}); x != 0 || !ok {
		t.Errorf("GetBig of one nought: %x, %v", x, ok)
	}
}

// P1.1
func TestGetWrongSizes(t *testing.T) {
	for _, b := range [][]byte{nil, {}, {1, 2, 3, 4, 5, 6, 7, 8, 9}, make([]byte, 9), slices.Repeat([]byte{7}, 1000)} {
		if x, ok := bits.Get(b); x != 0 || ok {
			t.Errorf("Get of %d bytes: %x, %v", len(b), x, ok)
		}
		if x, ok := bits.GetBig(b); x != 0 || ok {
			t.Errorf("GetBig of %d bytes: %x, %v", len(b), x, ok)
		}
	}
}

// turned moves each bit of a word of size bits by itself.
func turned(x uint64, n, size int) uint64 {
	n = (n%size + size) % size
	var y uint64
	for i := range size {
		y |= x >> i & 1 << ((i + n) % size)
	}
	return y
}

// P1.2
func TestTurn(t *testing.T) {
	if x := bits.Turn32(1, -1); x != 0x80000000 {
		t.Errorf("Turn32 of 1 by -1: %x", x)
	}
	if x := bits.Turn32(0x80000001, 4); x != 0x18 {
		t.Errorf("Turn32 by 4: %x", x)
	}
	if x := bits.Turn64(1, -1); x != 0x8000000000000000 {
		t.Errorf("Turn64 of 1 by -1: %x", x)
	}
	if x := bits.Turn64(1, 65); x != 2 {
		t.Errorf("Turn64 of 1 by 65: %x", x)
	}
	for _, x := range samples() {
		for _, n := range turns {
			if y := bits.Turn32(uint32(x), n); uint64(y) != turned(x&math.MaxUint32, n, 32) {
				t.Fatalf("Turn32 of %x by %d: %x", uint32(x), n, y)
			}
			if y := bits.Turn64(x, n); y != turned(x, n, 64) {
				t.Fatalf("Turn64 of %x by %d: %x", x, n, y)
			}
		}
	}
}

// P1.2
func TestFlip(t *testing.T) {
	for i := range 32 {
		if x := bits.Flip32(1 << i); x != 1<<(31-i) {
			t.Errorf("Flip32 of bit %d: %x", i, x)
		}
	}
	for _, c := range [][2]uint32{{0, 0}, {math.MaxUint32, math.MaxUint32}, {0x12345678, 0x1e6a2c48}, {0xedb88320, 0x04c11db7}} {
		if x := bits.Flip32(c[0]); x != c[1] {
			t.Errorf("Flip32 of %x: %x", c[0], x)
		}
	}
}

// P1.4
func TestNumbersComeBack(t *testing.T) {
	for _, x := range samples() {
		for n := 1; n <= 8; n++ {
			want := x
			if n < 8 {
				want &= 1<<(8*n) - 1
			}
			p, b := bits.Put(x, n), bits.Big(x, n)
			if y, ok := bits.Get(p); y != want || !ok {
				t.Fatalf("Get of Put of %x by %d: %x", x, n, y)
			}
			if y, ok := bits.GetBig(b); y != want || !ok {
				t.Fatalf("GetBig of Big of %x by %d: %x", x, n, y)
			}
			slices.Reverse(b)
			if string(b) != string(p) {
				t.Fatalf("Big of %x by %d is not Put, back to front", x, n)
			}
		}
	}
}

// P1.4
func TestTurnsGoTogether(t *testing.T) {
	for _, x := range samples() {
		w := uint32(x)
		if bits.Flip32(bits.Flip32(w)) != w {
			t.Fatalf("flipped twice: %x", w)
		}
		for _, n := range turns {
			if bits.Turn32(bits.Turn32(w, n), -n) != w || bits.Turn64(bits.Turn64(x, n), -n) != x {
				t.Fatalf("turned by %d and back: %x", n, x)
			}
			if bits.Flip32(bits.Turn32(w, n)) != bits.Turn32(bits.Flip32(w), -n) {
				t.Fatalf("turned by %d and flipped: %x", n, w)
			}
			for _, m := range turns {
				if bits.Turn32(bits.Turn32(w, n), m) != bits.Turn32(w, n+m) || bits.Turn64(bits.Turn64(x, n), m) != bits.Turn64(x, n+m) {
					t.Fatalf("turned by %d and %d: %x", n, m, x)
				}
			}
		}
	}
}
