package wrap_test

import (
	"bytes"
	"encoding/binary"
	"encoding/hex"
	"slices"
	"strings"
	"testing"

	"hoard/api"
	"hoard/lz"
	"hoard/wrap"
)

// text answers n bytes of so many sorts, the same ones each time.
func text(n, sorts int, seed uint64) []byte {
	b := make([]byte, n)
	for i := range b {
		seed = seed*6364136223846793005 + 1442695040888963407
		b[i] = byte(seed >> 33 % uint64(sorts))
	}
	return b
}

// repeats answers n bytes in which pieces stand again, so that their block is not much shorter than they are.
func repeats(n int, seed uint64) []byte {
	r := text(3*n+3, 256, seed)
	b := text(4, 256, seed+1)
	for i := 0; len(b) < n; i += 3 {
		from := (int(r[i])<<8 | int(r[i+1])) % len(b)
		b = append(b, b[from:min(from+int(r[i+2]%12), len(b))]...)
		b = append(b, r[i:i+1+int(r[i+2]%3)]...)
	}
	return b[:n]
}

// samples answers texts of all sorts, up to the greatest.
func samples() [][]byte {
	var l [][]byte
	for n := range 80 {
		l = append(l, make([]byte, n), text(n, 2, uint64(n)), text(n, 256, uint64(n)), repeats(n, uint64(n)))
	}
	for i, n := range []int{100, 255, 256, 257, 300, 511, 512, 1000, 4096, 10000, 16377, 16378, 16379} {
		seed := uint64(i)
		l = append(l, bytes.Repeat([]byte{0xff}, n), text(n, 2, seed), text(n, 10, seed), text(n, 256, seed), repeats(n, seed))
	}
	return l
}

// few answers few texts, and small ones, for tests that go over them again and again.
func few() [][]byte {
	l := [][]byte{nil, []byte("abc"), []byte("abcd1234abcd56789012"), []byte("abcde123abcde5678901"), repeats(60, 1), text(40, 2, 3), text(30, 256, 1)}
	for _, n := range []int{12, 13, 20, 25, 26, 280, 300} {
		l = append(l, bytes.Repeat([]byte{'a'}, n))
	}
	return l
}

// block answers a text's block.
func block(t *testing.T, b []byte) []byte {
	t.Helper()
	w, e := lz.Squeeze(b)
	if e != api.OK {
		t.Fatalf("Squeeze of %d bytes: error %d", len(b), e)
	}
	return w
}

// tell answers a kind, a size, and what follows.
func tell(kind byte, size uint32, rest []byte) []byte {
	return slices.Concat([]byte{kind}, binary.LittleEndian.AppendUint32(nil, size), rest)
}

// wrapped answers a wrapped text by the chapter's words.
func wrapped(t *testing.T, b []byte, stored bool) []byte {
	t.Helper()
	if w := block(t, b); !stored && len(w) < len(b) {
		return tell(1, uint32(len(b)), w)
	}
	return tell(0, uint32(len(b)), b)
}

// looked answers what Look should, by the chapter's words.
func looked(w []byte) (int, int, api.Errno) {
	if len(w) < 5 {
		return 0, 0, api.ErrShort
	}
	size := int64(w[1]) + 256*(int64(w[2])+256*(int64(w[3])+256*int64(w[4])))
	if w[0] != 0 && w[0] != 1 || size > 16379 {
		return 0, 0, api.ErrForm
	}
	return int(w[0]), int(size), api.OK
}

// unwrapped answers what Unwrap should, by the chapter's words.
func unwrapped(t *testing.T, w []byte) ([]byte, api.Errno) {
	t.Helper()
	kind, size, e := looked(w)
	if e != api.OK {
		return nil, e
	}
	rest := w[5:]
	if kind == 0 {
		switch {
		case len(rest) < size:
			return nil, api.ErrShort
		case len(rest) > size:
			return nil, api.ErrRest
		}
		return rest, api.OK
	}
	b, e := lz.Loosen(rest, size)
	switch {
	case e == api.ErrBig:
		return nil, api.ErrForm
	case e != api.OK:
		return nil, e
	case len(b) < size, string(block(t, b)) != string(rest), len(rest) >= size:
		return nil, api.ErrForm
	}
	return b, api.OK
}

// bytesOf answers the bytes that hexadecimal digits are; blanks stand between them as one likes.
func bytesOf(t *testing.T, s string) []byte {
	t.Helper()
	b, err := hex.DecodeString(strings.ReplaceAll(s, " ", ""))
	if err != nil {
		t.Fatal(err)
	}
	return b
}

// wraps fails, unless a text is wrapped so.
func wraps(t *testing.T, b []byte, stored bool, want []byte) {
	t.Helper()
	if w, e := wrap.Wrap(b, stored); e != api.OK || !bytes.Equal(w, want) {
		t.Fatalf("Wrap of %d bytes %x, stored %v: %d bytes %x, error %d; not %d bytes %x", len(b), b[:min(len(b), 40)], stored, len(w), w[:min(len(w), 40)], e, len(want), want[:min(len(want), 40)])
	}
}

// unwraps fails, unless that text is wrapped.
func unwraps(t *testing.T, w, want []byte) {
	t.Helper()
	if b, e := wrap.Unwrap(w); e != api.OK || !bytes.Equal(b, want) {
		t.Fatalf("Unwrap of %d bytes %x: %d bytes %x, error %d; not %d bytes %x", len(w), w[:min(len(w), 40)], len(b), b[:min(len(b), 40)], e, len(want), want[:min(len(want), 40)])
	}
}

// refuses fails, unless unwrapping has that error, and nothing beside it.
func refuses(t *testing.T, w []byte, want api.Errno) {
	t.Helper()
	if b, e := wrap.Unwrap(w); e != want || len(b) != 0 {
		t.Fatalf("Unwrap of %d bytes %x: %d bytes, error %d; not error %d", len(w), w[:min(len(w), 40)], len(b), e, want)
	}
}

// looks fails, unless Look answers that.
func looks(t *testing.T, w []byte, kind, size int, want api.Errno) {
	t.Helper()
	if k, n, e := wrap.Look(w); k != kind || n != size || e != want {
		t.Fatalf("Look of %d bytes %x: %d, %d, error %d; not %d, %d, error %d", len(w), w[:min(len(w), 40)], k, n, e, kind, size, want)
	}
}

// agrees fails, unless Unwrap and Look answer what the chapter's words come to, and what is unwrapped is one of the two
// wrapped ones that its text has.
func agrees(t *testing.T, w []byte) {
	t.Helper()
	kind, size, e := looked(w)
	looks(t, w, kind, size, e)
	want, e := unwrapped(t, w)
	if e != api.OK {
		refuses(t, w, e)
		return
	}
	unwraps(t, w, want)
	if !bytes.Equal(w, wrapped(t, want, true)) && !bytes.Equal(w, wrapped(t, want, false)) {
		t.Fatalf("a third wrapped text: %x", w)
	}
}

// P9.1
func TestMaxPlain(t *testing.T) {
	if wrap.MaxPlain != 16379 {
		t.Errorf("MaxPlain: %d", wrap.MaxPlain)
	}
}

// P9.1, P9.2, P9.3: wrapped texts worked out by hand.
func TestByHand(t *testing.T) {
	a := func(n int) string { return strings.Repeat("a", n) }
	as := func(n int) string { return strings.Repeat("61", n) }
	for _, c := range []struct {
		b      string
		stored bool
		want   string
	}{
		{"", false, "00 00000000"},
		{"", true, "00 00000000"},
		{"abc", false, "00 03000000 616263"},
		{"abc", true, "00 03000000 616263"},
		{"\x00", false, "00 01000000 00"},
		{a(12), false, "00 0c000000" + as(12)},                 // a block of 13 bytes
		{a(13), false, "01 0d000000 13 61 0100 50 6161616161"}, // of 10
		{a(13), true, "00 0d000000" + as(13)},                  // stored, though it is longer
		{a(20), false, "01 14000000 1a 61 0100 50 6161616161"}, // the chapter's
		{a(20), true, "00 14000000" + as(20)},
		{a(255), true, "00 ff000000" + as(255)},
		{a(256), true, "00 00010000" + as(256)},
		{a(300), false, "01 2c010000 1f 61 0100 ff14 50 6161616161"},
		{a(515), true, "00 03020000" + as(515)},
		{a(16379), false, "01 fb3f0000 1f 61 0100" + strings.Repeat("ff", 64) + "22 50 6161616161"},
		{"abcd1234abcd56789012", false, "00 14000000 6162636431323334616263643536373839303132"},   // a block of as many bytes
		{"abcde123abcde5678901", false, "01 14000000 81 6162636465313233 0800 70 35363738393031"}, // of one fewer
		{"abcd1234abcd5678901", false, "00 13000000 61626364313233346162636435363738393031"},      // of two more
		{"abcdabcdabcdabcd", false, "01 10000000 43 61626364 0400 50 6461626364"},
		{"\xff\xfe\xfd\xfc\xfb\xfa\xf9\xf8\xf7\xf6\xf5\xf4\xf3", false, "00 0d000000 fffefdfcfbfaf9f8f7f6f5f4f3"},
	} {
		w := bytesOf(t, c.want)
		wraps(t, []byte(c.b), c.stored, w)
		unwraps(t, w, []byte(c.b))
		looks(t, w, int(w[0]), len(c.b), api.OK)
	}
}

// P9.1: against the chapter's words.
func TestWrapAsTheChapterSays(t *testing.T) {
	kinds := map[byte]int{}
	for _, b := range samples() {
		want := wrapped(t, b, false)
		kinds[want[0]]++
		wraps(t, b, false, want)
		wraps(t, b, true, tell(0, uint32(len(b)), b))
	}
	if kinds[0] < 50 || kinds[1] < 50 {
		t.Errorf("samples of which %d are stored, %d squeezed", kinds[0], kinds[1])
	}
}

// P9.1: a block with one byte fewer than the text, with as many, and with one more.
func TestWrapAboutTheEdge(t *testing.T) {
	seen := map[int]int{}
	for n := range 120 {
		for seed := range uint64(60) {
			b := repeats(n, seed)
			more := len(block(t, b)) - n
			seen[more]++
			w, e := wrap.Wrap(b, false)
			if e != api.OK || (w[0] == 1) != (more < 0) {
				t.Fatalf("Wrap of %x, whose block has %d bytes more: %x, error %d", b, more, w, e)
			}
		}
	}
	for _, more := range []int{-1, 0, 1} {
		if seen[more] < 3 {
			t.Errorf("%d texts whose block has %d bytes more", seen[more], more)
		}
	}
}

// P9.1, R2: more than a wrapped text may have, squeezed to little or not; the greatest one is an object yet.
func TestWrapTooBig(t *testing.T) {
	for _, n := range []int{16380, 16381, 16384, 16385, api.MaxBlock, api.MaxBlock + 1, 1 << 20} {
		for _, b := range [][]byte{make([]byte, n), text(n, 256, 1)} {
			for _, stored := range []bool{false, true} {
				if w, e := wrap.Wrap(b, stored); len(w) != 0 || e != api.ErrBig {
					t.Errorf("Wrap of %d bytes, stored %v: %d bytes, error %d", n, stored, len(w), e)
				}
			}
		}
	}
	for _, c := range []struct {
		b      []byte
		stored bool
		most   int
	}{
		{make([]byte, 16379), true, api.MaxObject},
		{make([]byte, 16379), false, 100},
		{text(16379, 256, 1), true, api.MaxObject},
		{text(16379, 256, 1), false, api.MaxObject},
	} {
		if w, e := wrap.Wrap(c.b, c.stored); e != api.OK || len(w) > c.most || len(w) < 10 {
			t.Errorf("Wrap of 16379 bytes, stored %v: %d bytes, error %d", c.stored, len(w), e)
		}
	}
}

// P9.2, P9.3: each error, and which comes ahead of which.
func TestUnwrapErrors(t *testing.T) {
	abc, as := "616263", strings.Repeat("61", 20)
	twenty := "1a 61 0100 50 6161616161"
	for _, c := range []struct {
		w          string
		unwrap     api.Errno
		kind, size int
		look       api.Errno
	}{
		{"", api.ErrShort, 0, 0, api.ErrShort},
		{"00", api.ErrShort, 0, 0, api.ErrShort},
		{"01", api.ErrShort, 0, 0, api.ErrShort},
		{"00 000000", api.ErrShort, 0, 0, api.ErrShort},
		{"00 030000", api.ErrShort, 0, 0, api.ErrShort},
		{"02 000000", api.ErrShort, 0, 0, api.ErrShort}, // ahead of ErrForm
		{"ff ffffff", api.ErrShort, 0, 0, api.ErrShort},
		{"00 fc3f00", api.ErrShort, 0, 0, api.ErrShort},

		{"02 00000000", api.ErrForm, 0, 0, api.ErrForm},
		{"02 03000000" + abc, api.ErrForm, 0, 0, api.ErrForm},
		{"03 14000000" + twenty, api.ErrForm, 0, 0, api.ErrForm},
		{"10 03000000" + abc, api.ErrForm, 0, 0, api.ErrForm},
		{"80 03000000" + abc, api.ErrForm, 0, 0, api.ErrForm},
		{"81 14000000" + twenty, api.ErrForm, 0, 0, api.ErrForm},
		{"ff 00000000", api.ErrForm, 0, 0, api.ErrForm},
		{"00 fc3f0000", api.ErrForm, 0, 0, api.ErrForm}, // 16380, ahead of the ErrShort of what follows
		{"01 fc3f0000", api.ErrForm, 0, 0, api.ErrForm},
		{"01 fc3f0000" + twenty, api.ErrForm, 0, 0, api.ErrForm},
		{"00 00400000", api.ErrForm, 0, 0, api.ErrForm},
		{"00 03000100" + abc, api.ErrForm, 0, 0, api.ErrForm},
		{"00 03000001" + abc, api.ErrForm, 0, 0, api.ErrForm},
		{"00 03000080" + abc, api.ErrForm, 0, 0, api.ErrForm},
		{"01 14000080" + twenty, api.ErrForm, 0, 0, api.ErrForm},
		{"00 ffffffff" + abc, api.ErrForm, 0, 0, api.ErrForm},
		{"01 ffffffff" + twenty, api.ErrForm, 0, 0, api.ErrForm},

		{"00 01000000", api.ErrShort, 0, 1, api.OK},
		{"00 03000000", api.ErrShort, 0, 3, api.OK},
		{"00 03000000 6162", api.ErrShort, 0, 3, api.OK},
		{"00 03010000" + abc, api.ErrShort, 0, 259, api.OK},
		{"00 fb3f0000", api.ErrShort, 0, 16379, api.OK},
		{"00 00000003" + abc, api.ErrForm, 0, 0, api.ErrForm}, // the lowest byte stands first
		{"00 00000000 00", api.ErrRest, 0, 0, api.OK},
		{"00 00000000" + abc, api.ErrRest, 0, 0, api.OK},
		{"00 03000000" + abc + "00", api.ErrRest, 0, 3, api.OK},
		{"00 02000000" + abc, api.ErrRest, 0, 2, api.OK},

		{"01 00000000", api.ErrShort, 1, 0, api.OK},
		{"01 14000000", api.ErrShort, 1, 20, api.OK},
		{"01 fb3f0000", api.ErrShort, 1, 16379, api.OK},
		{"01 14000000 1a 61 0100", api.ErrShort, 1, 20, api.OK},
		{"01 14000000 1a 61 01", api.ErrShort, 1, 20, api.OK},
		{"01 14000000 1a 61 0100 50 61616161", api.ErrShort, 1, 20, api.OK},
		{"01 14000000" + twenty + "00", api.ErrShort, 1, 20, api.OK},
		{"01 01000000 1a 61 01", api.ErrShort, 1, 1, api.OK},                 // of Loosen, ahead of its ErrBig
		{"01 14000000 1a 61 0000 50 6161616161", api.ErrForm, 1, 20, api.OK}, // of Loosen
		{"01 14000000 1a 61 0200 50 6161616161", api.ErrForm, 1, 20, api.OK},
		{"01 14000000" + twenty + "0000", api.ErrForm, 1, 20, api.OK},
		{"01 14000000" + twenty + "0100 00", api.ErrForm, 1, 20, api.OK}, // ErrBig of Loosen
		{"01 13000000" + twenty, api.ErrForm, 1, 19, api.OK},
		{"01 0f000000" + twenty, api.ErrForm, 1, 15, api.OK},
		{"01 00000000" + twenty, api.ErrForm, 1, 0, api.OK},
		{"01 14000000 1b 61 0100 50 6161616161", api.ErrForm, 1, 20, api.OK},
		{"01 15000000" + twenty, api.ErrForm, 1, 21, api.OK}, // fewer bytes
		{"01 fb3f0000" + twenty, api.ErrForm, 1, 16379, api.OK},
		{"01 03000000 00", api.ErrForm, 1, 3, api.OK},
		{"01 14000000 1a 61 0100 51 6161616161", api.ErrForm, 1, 20, api.OK}, // other blocks
		{"01 14000000 1a 61 0100 5f 6161616161", api.ErrForm, 1, 20, api.OK},
		{"01 14000000 1b 61 0100 40 61616161", api.ErrForm, 1, 20, api.OK},
		{"01 14000000 1e 61 0100 10 61", api.ErrForm, 1, 20, api.OK},
		{"01 14000000 1f 61 0100 00 00", api.ErrForm, 1, 20, api.OK},
		{"01 14000000 29 6161 0100 50 6161616161", api.ErrForm, 1, 20, api.OK},
		{"01 14000000 29 6161 0200 50 6161616161", api.ErrForm, 1, 20, api.OK},
		{"01 14000000 13 61 0100 03 0100 50 6161616161", api.ErrForm, 1, 20, api.OK},
		{"01 14000000 f0 05" + as, api.ErrForm, 1, 20, api.OK},
		{"01 00000000 00", api.ErrForm, 1, 0, api.OK}, // Squeeze's own, but no fewer bytes than the text
		{"01 03000000 30" + abc, api.ErrForm, 1, 3, api.OK},
		{"01 0c000000 c0 616161616161616161616161", api.ErrForm, 1, 12, api.OK},
		{"01 14000000 80 6162636431323334 0800 80 3536373839303132", api.ErrForm, 1, 20, api.OK}, // as many
		{"01 13000000 f004 616263643132333461626364353637 38393031", api.ErrForm, 1, 19, api.OK}, // more
	} {
		w := bytesOf(t, c.w)
		refuses(t, w, c.unwrap)
		looks(t, w, c.kind, c.size, c.look)
		agrees(t, w)
	}
}

// P9.2: blocks that tell a text with fewer bytes than it has, and are not Squeeze's.
func TestUnwrapOtherBlocks(t *testing.T) {
	for n := 14; n < 400; n++ {
		b := bytes.Repeat([]byte{'a'}, n)
		unwraps(t, tell(1, uint32(n), block(t, b)), b)
		for _, k := range []int{4, 5, 6, 7, 8, 12, 18} { // the last k bytes as they are, but five
			if k == 5 || n-1-k < 4 {
				continue
			}
			m := n - 1 - k - 4
			other := []byte{16 + byte(min(m, 15)), 'a', 1, 0}
			if m >= 15 {
				other = append(append(other, bytes.Repeat([]byte{255}, (m-15)/255)...), byte((m-15)%255))
			}
			other = append(other, byte(16*min(k, 15)))
			if k >= 15 {
				other = append(other, byte(k-15))
			}
			other = append(other, b[:k]...)
			if told, e := lz.Loosen(other, n); e != api.OK || !bytes.Equal(told, b) {
				t.Fatalf("%x tells %d bytes, error %d", other, len(told), e)
			}
			refuses(t, tell(1, uint32(n), other), api.ErrForm)
		}
	}
}

// P9.2: sizes that are not the text's.
func TestUnwrapOtherSizes(t *testing.T) {
	for _, b := range few() {
		plain, squeezed := wrapped(t, b, true)[5:], block(t, b)
		for size := range uint32(600) {
			switch {
			case int(size) < len(b):
				refuses(t, tell(0, size, plain), api.ErrRest)
				refuses(t, tell(1, size, squeezed), api.ErrForm)
			case int(size) > len(b):
				refuses(t, tell(0, size, plain), api.ErrShort)
				refuses(t, tell(1, size, squeezed), api.ErrForm)
			}
			agrees(t, tell(0, size, plain))
			agrees(t, tell(1, size, squeezed))
		}
	}
}

// P9.2, P9.3, P9.4: fronts, and bytes behind.
func TestUnwrapFronts(t *testing.T) {
	for _, b := range few() {
		for _, stored := range []bool{false, true} {
			w := wrapped(t, b, stored)
			for n := range w {
				agrees(t, w[:n:n])
				if n < 5 || w[0] == 0 {
					refuses(t, w[:n:n], api.ErrShort)
				} else if _, e := wrap.Unwrap(w[:n:n]); e != api.ErrShort && e != api.ErrForm { // a front may be a block of fewer bytes
					t.Fatalf("Unwrap of %x: error %d", w[:n], e)
				}
			}
			for _, rest := range [][]byte{{0}, {1}, {255}, {0, 0}, {1, 0}, {1, 0, 0}, {1, 0, 0x50, 'a', 'a', 'a', 'a', 'a'}, w} {
				long := slices.Concat(w, rest)
				if stored {
					refuses(t, long, api.ErrRest)
				}
				agrees(t, long)
				if _, e := wrap.Unwrap(long); e == api.OK {
					t.Fatalf("Unwrap of %x, with %x behind", w, rest)
				}
			}
		}
	}
}

// P9.2, P9.3, P9.4: each byte as each other one, each byte gone, and one put in at each place.
func TestUnwrapSpoilt(t *testing.T) {
	for _, b := range few() {
		for _, stored := range []bool{false, true} {
			w := wrapped(t, b, stored)
			for i := range min(len(w), 60) {
				for by := range 256 {
					spoilt := bytes.Clone(w)
					spoilt[i] = byte(by)
					agrees(t, spoilt)
				}
				agrees(t, slices.Concat(w[:i], w[i+1:]))
				for _, by := range []byte{0, 1, 4, 0x50, 'a', 255} {
					agrees(t, slices.Concat(w[:i], []byte{by}, w[i:]))
				}
			}
		}
	}
}

// P9.3: five bytes are enough, and what follows plays no part.
func TestLook(t *testing.T) {
	for _, kind := range []byte{0, 1} {
		for size := range uint32(16380) {
			looks(t, tell(kind, size, nil), int(kind), int(size), api.OK)
		}
		for _, size := range []uint32{16380, 16381, 16383, 16384, 1 << 15, 1 << 16, 1<<16 + 3, 1 << 24, 1<<24 + 3, 1 << 31, 1<<31 + 3, 1<<32 - 1} {
			looks(t, tell(kind, size, nil), 0, 0, api.ErrForm)
		}
		for _, rest := range []string{"", "a", "abc", "abcd", "\x30abc"} {
			looks(t, tell(kind, 3, []byte(rest)), int(kind), 3, api.OK)
		}
	}
	for kind := 2; kind < 256; kind++ {
		for _, size := range []uint32{0, 3, 16379, 16380, 1<<32 - 1} {
			looks(t, tell(byte(kind), size, []byte("abc")), 0, 0, api.ErrForm)
			refuses(t, tell(byte(kind), size, []byte("abc")), api.ErrForm)
		}
	}
	for n := range 5 {
		for _, by := range []byte{0, 1, 2, 255} {
			looks(t, bytes.Repeat([]byte{by}, n), 0, 0, api.ErrShort)
			refuses(t, bytes.Repeat([]byte{by}, n), api.ErrShort)
		}
	}
}

// P9.4: what is wrapped is unwrapped as it was, and how many bytes it has more.
func TestUnwrapOfWrap(t *testing.T) {
	for _, b := range samples() {
		for _, stored := range []bool{false, true} {
			w, e := wrap.Wrap(b, stored)
			if e != api.OK {
				t.Fatalf("Wrap of %d bytes: error %d", len(b), e)
			}
			unwraps(t, w, b)
			looks(t, w, int(w[0]), len(b), api.OK)
			if len(w) > len(b)+5 || w[0] == 0 && len(w) != len(b)+5 || w[0] == 1 && (len(w) == len(b)+5 || stored) {
				t.Fatalf("Wrap of %d bytes, stored %v: %d bytes of kind %d", len(b), stored, len(w), w[0])
			}
		}
	}
}

// R1: a text that was never wrapped, however long.
func TestUnwrapLong(t *testing.T) {
	const n = 1 << 22
	refuses(t, make([]byte, n), api.ErrRest)
	refuses(t, tell(0, 16379, make([]byte, n)), api.ErrRest)
	refuses(t, tell(1, 16379, make([]byte, n)), api.ErrForm)
	refuses(t, tell(1, 16379, bytes.Repeat([]byte{255}, n)), api.ErrShort)
	refuses(t, tell(1, 16379, bytes.Repeat([]byte{1}, n)), api.ErrForm)
	refuses(t, bytes.Repeat([]byte{255}, n), api.ErrForm)
}

// R3: what is handed in is neither changed nor kept, and answers share nothing.
func TestMemory(t *testing.T) {
	for _, b := range few() {
		for _, stored := range []bool{false, true} {
			want := wrapped(t, b, stored)
			room := slices.Concat(b, text(100, 256, 3))
			was := bytes.Clone(room)
			w, _ := wrap.Wrap(room[:len(b)], stored)
			if !bytes.Equal(room, was) {
				t.Fatal("Wrap changes what is handed in")
			}
			clear(room)
			if !bytes.Equal(w, want) {
				t.Fatal("Wrap keeps what is handed in")
			}
			clear(w)
			wraps(t, b, stored, want)

			room = slices.Concat(want, text(100, 256, 4))
			was = bytes.Clone(room)
			got, _ := wrap.Unwrap(room[:len(want)])
			wrap.Look(room[:len(want)])
			_ = append(got, 1, 2, 3)
			if !bytes.Equal(room, was) {
				t.Fatal("Unwrap changes what is handed in")
			}
			clear(room)
			if !bytes.Equal(got, b) {
				t.Fatal("Unwrap keeps what is handed in")
			}
			clear(got)
			unwraps(t, want, b)
		}
	}
}
