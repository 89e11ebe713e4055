package lz_test

import (
	"bytes"
	"encoding/hex"
	"math"
	"slices"
	"strings"
	"testing"

	"hoard/api"
	"hoard/lz"
)

// sequence is what one says: how many literals, and of one that is not the last how many bytes stand how far back.
type sequence struct{ a, d, k int }

// sequences answers what a whole block says.
func sequences(w []byte) []sequence {
	var l []sequence
	number := func(n int) int {
		for more := n == 15; more; w = w[1:] {
			n += int(w[0])
			more = w[0] == 255
		}
		return n
	}
	for {
		token := int(w[0])
		w = w[1:]
		s := sequence{a: number(token / 16)}
		w = w[s.a:]
		if len(w) == 0 {
			return append(l, s)
		}
		s.d = int(w[0]) + 256*int(w[1])
		w = w[2:]
		s.k = number(token%16) + 4
		l = append(l, s)
	}
}

// loosened answers what a block tells by the chapter's words.
func loosened(b []byte, most int) (told []byte, err api.Errno) {
	defer func() {
		if e, ok := recover().(api.Errno); ok {
			told, err = nil, e
		}
	}()
	unless := func(ok bool, e api.Errno) {
		if !ok {
			panic(e)
		}
	}
	at := 0
	next := func() int {
		unless(at < len(b), api.ErrShort)
		at++
		return int(b[at-1])
	}
	number := func(n int) int {
		for more := n == 15; more; {
			c := next()
			n, more = n+c, c == 255
		}
		return n
	}
	unless(most >= 0 && most <= 65536, api.ErrArg)
	for {
		token := next()
		a := number(token / 16)
		unless(at+a <= len(b), api.ErrShort)
		unless(len(told)+a <= most, api.ErrBig)
		told = append(told, b[at:at+a]...)
		at += a
		if at == len(b) {
			return told, api.OK
		}
		d := next()
		d += 256 * next()
		unless(d > 0 && d <= len(told), api.ErrForm)
		k := number(token%16) + 4
		unless(len(told)+k <= most, api.ErrBig)
		for piece := told[len(told)-d:]; k > 0; k -= min(k, d) {
			told = append(told, piece[:min(k, d)]...) // the same piece once more, as often as it reaches into itself
		}
	}
}

// loosens fails, unless a block tells that.
func loosens(t *testing.T, w []byte, most int, want []byte) {
	t.Helper()
	b, e := lz.Loosen(w, most)
	if e != api.OK || !bytes.Equal(b, want) {
		t.Fatalf("Loosen of %d bytes %x, most %d: %d bytes %x, error %d; not %d bytes %x", len(w), w[:min(len(w), 60)], most, len(b), b[:min(len(b), 60)], e, len(want), want[:min(len(want), 60)])
	}
}

// refuses fails, unless a block has that error, and nothing beside it.
func refuses(t *testing.T, w []byte, most int, want api.Errno) {
	t.Helper()
	if b, e := lz.Loosen(w, most); e != want || b != nil {
		t.Fatalf("Loosen of %d bytes %x, most %d: %d bytes, error %d; not error %d", len(w), w[:min(len(w), 60)], most, len(b), e, want)
	}
}

// agrees fails, unless Loosen answers what the chapter's words come to.
func agrees(t *testing.T, w []byte, most int) {
	t.Helper()
	want, e := loosened(w, most)
	if e != api.OK {
		refuses(t, w, most, e)
		return
	}
	loosens(t, w, most, want)
}

// block answers the bytes that hexadecimal digits are; blanks stand between them as one likes.
func block(t *testing.T, s string) []byte {
	t.Helper()
	b, err := hex.DecodeString(strings.ReplaceAll(s, " ", ""))
	if err != nil {
		t.Fatal(err)
	}
	return b
}

// P8.1: blocks worked out by hand, also such as Squeeze does not make.
func TestLoosenByHand(t *testing.T) {
	n := func(n int, s string) string { return strings.Repeat(s, n) }
	for _, c := range []struct{ w, want string }{
		{"00", ""},
		{"10 61", "a"},
		{"30 616263", "abc"},
		{"0f", ""}, // of the last sequence m plays no part
		{"1f 61", "a"},
		{"37 616263", "abc"},
		{"e0" + n(14, "61"), n(14, "a")},
		{"f000" + n(15, "61"), n(15, "a")},
		{"f001" + n(16, "61"), n(16, "a")},
		{"f0fe" + n(269, "61"), n(269, "a")},
		{"f0ff00" + n(270, "61"), n(270, "a")},
		{"f0ffff01" + n(526, "61"), n(526, "a")},
		{"1a 61 0100 50 6161616161", n(20, "a")},
		{"10 61 0100 00", n(5, "a")},
		{"1e 61 0100 00", n(19, "a")},
		{"1f 61 0100 00 00", n(20, "a")},
		{"1f 61 0100 fe 00", n(274, "a")},
		{"1f 61 0100 ff00 00", n(275, "a")},
		{"1f 61 0100 ffff01 00", n(531, "a")},
		{"20 6162 0200 00", "ababab"},
		{"23 6162 0200 00", "ababababa"},
		{"22 6162 0100 00", "abbbbbbb"},
		{"40 61626364 0400 00", "abcdabcd"},
		{"50 6162636465 0500 00", "abcdeabcd"},
		{"41 61626364 0400 00", "abcdabcda"},
		{"40 61626364 0400 00 0800 00", "abcdabcdabcd"}, // no literals, and back to the first byte
		{"40 61626364 0100 10 65 0200 00", "abcdddddedede"},
		{"40 61626364 0100 1f 65", "abcddddde"},
		{"f0 f1" + n(128, "6162") + "0001 00", n(130, "ab")},
		{"f0 f2" + n(128, "6162") + "63 0001 00", n(128, "ab") + "cbaba"},
		{"f0 f2" + n(128, "6162") + "63 0101 00", n(128, "ab") + "cabab"},
	} {
		w := block(t, c.w)
		loosens(t, w, len(c.want), []byte(c.want))
		loosens(t, w, api.MaxBlock, []byte(c.want))
		if b, e := loosened(w, len(c.want)); e != api.OK || string(b) != c.want {
			t.Errorf("the chapter's text of %s: %q, error %d", c.w, b, e)
		}
		if len(c.want) > 0 {
			refuses(t, w, len(c.want)-1, api.ErrBig)
			refuses(t, w, 0, api.ErrBig)
		}
	}
}

// P8.1: each error, and which comes ahead of which.
func TestLoosenErrors(t *testing.T) {
	n := func(n int, s string) string { return strings.Repeat(s, n) }
	for _, c := range []struct {
		w    string
		most int
		want api.Errno
	}{
		{"", 10, api.ErrShort},
		{"", 0, api.ErrShort},
		{"10", 10, api.ErrShort},
		{"20 61", 10, api.ErrShort},
		{"20 61", 0, api.ErrShort}, // ahead of ErrBig
		{"f0", 100, api.ErrShort},
		{"f0", 0, api.ErrShort},
		{"f0ff", 1000, api.ErrShort},
		{"f0ffffff", 0, api.ErrShort},
		{"f000", 100, api.ErrShort},
		{"f000" + n(14, "61"), 14, api.ErrShort},
		{"f0ff00" + n(269, "61"), 1000, api.ErrShort},
		{"f0ff00" + n(270, "61"), 269, api.ErrBig},
		{"10 61", 0, api.ErrBig},
		{"10 61 00", 0, api.ErrBig}, // ahead of the ErrShort of d
		{"10 61 0000", 0, api.ErrBig},
		{"10 61 01", 10, api.ErrShort},
		{"10 61 00", 10, api.ErrShort}, // ahead of ErrForm
		{"10 61 0000", 10, api.ErrForm},
		{"10 61 0000 00", 10, api.ErrForm},
		{"10 61 0200 00", 10, api.ErrForm},
		{"10 61 0001 00", 10, api.ErrForm},
		{"10 61 ffff 00", 10, api.ErrForm},
		{"00 0000 00", 10, api.ErrForm},
		{"00 0100 00", 10, api.ErrForm},
		{"20 6162 0300 00", 10, api.ErrForm},
		{"10 61 0100 10 62 0700 00", 100, api.ErrForm},
		{"10 61 0000 00", 1, api.ErrForm}, // ahead of the ErrBig of m
		{"1f 61 0000", 10, api.ErrForm},   // ahead of the ErrShort of m
		{"1f 61 0200", 1, api.ErrForm},
		{"1f 61 0100", 1000, api.ErrShort},
		{"1f 61 0100 ff", 1000, api.ErrShort},
		{"1f 61 0100", 1, api.ErrShort}, // ahead of the ErrBig of m
		{"1f 61 0100 ffff", 1, api.ErrShort},
		{"10 61 0100 00", 4, api.ErrBig},
		{"10 61 0100", 4, api.ErrBig}, // ahead of the next sequence's ErrShort
		{"1f 61 0100 00", 19, api.ErrBig},
		{"1f 61 0100 ff00 00", 274, api.ErrBig},
		{"10 61 0100", 5, api.ErrShort}, // a sequence is still to come
		{"1f 61 0100 00", 20, api.ErrShort},
		{"10 61 0100 20 62", 10, api.ErrShort},
		{"10 61 0100 20 6263", 6, api.ErrBig},
		{"10 61 0100 10 62 0100 00", 9, api.ErrBig},
	} {
		refuses(t, block(t, c.w), c.most, c.want)
		agrees(t, block(t, c.w), c.most)
	}
}

// P8.1: room that may not be, ahead of all that a block may have, and the greatest and the least that may.
func TestLoosenRoom(t *testing.T) {
	for _, most := range []int{-1, -2, -api.MaxBlock, math.MinInt32, math.MinInt, api.MaxBlock + 1, api.MaxBlock + 2, math.MaxInt32, math.MaxInt} {
		for _, s := range []string{"", "00", "10 61", "10 61 0000", "f0ff", "10 61 0100 00"} {
			refuses(t, block(t, s), most, api.ErrArg)
		}
	}
	loosens(t, []byte{0}, 0, nil)
	loosens(t, []byte{0}, api.MaxBlock, nil)
	for _, most := range []int{api.MaxBlock - 1, api.MaxBlock} {
		b := text(most+1, 256, 1)
		loosens(t, tellSequence(b[:most], 0, 0), most, b[:most])
		refuses(t, tellSequence(b, 0, 0), most, api.ErrBig)
		one, end := []byte{7}, []byte{0}
		loosens(t, append(tellSequence(one, 1, most-1), end...), most, bytes.Repeat(one, most))
		refuses(t, append(tellSequence(one, 1, most), end...), most, api.ErrBig)
	}
}

// P8.1: each distance, up to the furthest that two bytes can tell and to one more than was told.
func TestLoosenDistances(t *testing.T) {
	plain := text(65530, 256, 4)
	for d := 1; d <= 65530; d += 1 + d/20 {
		w := append(tellSequence(plain, d, 4), 0)
		agrees(t, w, api.MaxBlock)
		from := len(plain) - d
		want := slices.Concat(plain, slices.Repeat(plain[from:], 4)[:4])
		loosens(t, w, api.MaxBlock, want)
		refuses(t, append(tellSequence(plain[:d-1], d, 4), 0), api.MaxBlock, api.ErrForm)
	}
	furthest := append(tellSequence(nil, 65532, 4), 0)
	loosens(t, slices.Concat(tellSequence(plain[:65500], 65500, 32), furthest), api.MaxBlock, slices.Concat(plain[:65500], plain[:32], plain[:4]))
	refuses(t, slices.Concat(tellSequence(plain[:65500], 65500, 31), furthest), api.MaxBlock, api.ErrForm)
	refuses(t, slices.Concat(tellSequence(plain[:65500], 65500, 33), furthest), api.MaxBlock, api.ErrBig)
	beyond := tellSequence(nil, 65535, 4)
	refuses(t, slices.Concat(tellSequence(plain[:65500], 65500, 35), beyond), api.MaxBlock, api.ErrBig)
	refuses(t, slices.Concat(tellSequence(plain[:65500], 65500, 34), beyond), api.MaxBlock, api.ErrForm)
}

// P8.1: each front of a block.
func TestLoosenOfFronts(t *testing.T) {
	for seed := range uint64(30) {
		w := squeeze(t, repeats(500, seed))
		for n := range len(w) + 1 {
			for _, most := range []int{0, 100, 499, 500, api.MaxBlock} {
				agrees(t, w[:n], most)
			}
		}
	}
}

// P8.1: all blocks of a few bytes that play a part.
func TestLoosenOfAllSmallBlocks(t *testing.T) {
	sorts := []byte{0x00, 0x01, 0x02, 0x0f, 0x10, 0x11, 0x1f, 0x20, 0xf0, 0xff}
	for size := range 6 {
		w := make([]byte, size)
		places := make([]int, size)
		for more := true; more; {
			for i, p := range places {
				w[i] = sorts[p]
			}
			for _, most := range []int{0, 1, 5, api.MaxBlock} {
				agrees(t, w, most)
			}
			more = false
			for i := 0; i < size && !more; i++ {
				places[i] = (places[i] + 1) % len(sorts)
				more = places[i] > 0
			}
		}
	}
}

// P8.1: blocks of bytes of all sorts, and blocks that are spoilt.
func TestLoosenOfWhatever(t *testing.T) {
	for seed := range uint64(5000) {
		w := text(int(seed%80), 256, seed)
		for i := range w {
			if seed%3 > 0 {
				w[i] &= 0x13
			}
		}
		for _, most := range []int{0, 10, 100, api.MaxBlock} {
			agrees(t, w, most)
		}
		s := squeeze(t, repeats(60+int(seed%100), seed))
		s[int(seed*7)%len(s)] ^= 1 << (seed % 8)
		agrees(t, s, 60+int(seed%100))
		agrees(t, s, api.MaxBlock)
	}
}

// P8.1, R1: numbers that go on and on are ended with.
func TestLoosenOfEndlessNumbers(t *testing.T) {
	full := bytes.Repeat([]byte{0xff}, 1<<22)
	refuses(t, full, api.MaxBlock, api.ErrShort)
	refuses(t, append(block(t, "1f 61 0100"), full...), api.MaxBlock, api.ErrShort)
	refuses(t, slices.Concat(block(t, "1f 61 0100"), full, []byte{0, 0}), api.MaxBlock, api.ErrBig)
	refuses(t, append(slices.Clone(full), 0), 0, api.ErrShort)
}

// P8.1, R3: what is handed in is neither changed nor kept.
func TestLoosenMemory(t *testing.T) {
	for _, b := range [][]byte{text(100, 256, 1), repeats(1000, 2), make([]byte, 50)} {
		w := squeeze(t, b)
		room := slices.Concat(w, text(100, 256, 3))
		was := bytes.Clone(room)
		got, _ := lz.Loosen(room[:len(w)], len(b))
		if !bytes.Equal(room, was) {
			t.Fatal("what was handed in is changed")
		}
		clear(room)
		if !bytes.Equal(got, b) {
			t.Fatal("what was handed in is kept")
		}
		again, _ := lz.Loosen(w, len(b))
		clear(got)
		if !bytes.Equal(again, b) {
			t.Fatal("two answers share memory")
		}
	}
}
