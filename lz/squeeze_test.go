package lz_test

import (
	"bytes"
	"encoding/binary"
	"encoding/hex"
	"slices"
	"strings"
	"testing"

	"hoard/api"
	"hoard/lz"
)

// text answers n bytes of so many sorts, the same ones each time.
func text(n, sorts int, seed uint64) []byte {
	b := make([]byte, n)
	for i := range b {
		seed = seed*6364136223846793005 + 1442695040888963407
		b[i] = byte(seed >> 33 % uint64(sorts))
	}
	return b
}

// repeats answers n bytes in which pieces of all sizes stand again at all distances.
func repeats(n int, seed uint64) []byte {
	b := text(20, 256, seed)
	r := text(6*n, 256, seed+1)
	for i := 0; len(b) < n; i += 6 {
		from := (int(r[i])<<16 | int(r[i+1])<<8 | int(r[i+2])) % len(b)
		size := int(r[i+3]) >> (r[i+4] % 8)
		b = append(b, b[from:min(from+size, len(b))]...)
		b = append(b, r[i:i+int(r[i+5]%6)]...)
	}
	return b[:n]
}

// samples answers texts of all sorts: of one byte, of few and of many, with pieces that stand again near and far.
func samples() [][]byte {
	var l [][]byte
	for n := range 60 {
		l = append(l, make([]byte, n), text(n, 2, uint64(n)), text(n, 256, uint64(n)))
	}
	for i, n := range []int{100, 255, 256, 270, 283, 284, 300, 530, 1000, 4096, 5000, 16379, 20000, 65534, 65535, 65536} {
		seed := uint64(i)
		l = append(l, bytes.Repeat([]byte{0xff}, n), text(n, 2, seed), text(n, 3, seed), text(n, 10, seed), text(n, 256, seed), repeats(n, seed))
	}
	for n := range 200 {
		l = append(l, repeats(30+7*n, uint64(n)), text(20+n, 3, uint64(n)))
	}
	return l
}

// tellLength answers what of a number stands behind its token.
func tellLength(n int) []byte {
	if n < 15 {
		return nil
	}
	return append(bytes.Repeat([]byte{255}, (n-15)/255), byte((n-15)%255))
}

// tellSequence answers a sequence's bytes; without a distance it is the last.
func tellSequence(plain []byte, d, k int) []byte {
	if d == 0 {
		return slices.Concat([]byte{byte(16 * min(len(plain), 15))}, tellLength(len(plain)), plain)
	}
	token := byte(16*min(len(plain), 15) + min(k-4, 15))
	return slices.Concat([]byte{token}, tellLength(len(plain)), plain, []byte{byte(d % 256), byte(d / 256)}, tellLength(k-4))
}

// squeezed answers a text's block by the chapter's words.
func squeezed(b []byte) []byte {
	n, told, i := len(b), 0, 0
	table := map[uint64]int{}
	var out []byte
	for i <= n-12 {
		hash := uint64(binary.LittleEndian.Uint32(b[i:])) * 2654435761 % (1 << 32) / (1 << 20)
		c, there := table[hash]
		table[hash] = i
		if there && i-c <= 65535 && string(b[c:c+4]) == string(b[i:i+4]) {
			k := 4
			for i+k+1 <= n-5 && string(b[c+4:c+k+1]) == string(b[i+4:i+k+1]) {
				k++
			}
			out = append(out, tellSequence(b[told:i], i-c, k)...)
			i += k
			told = i
		} else {
			i++
		}
	}
	return append(out, tellSequence(b[told:], 0, 0)...)
}

// squeeze answers a text's block, and fails without any.
func squeeze(t *testing.T, b []byte) []byte {
	t.Helper()
	w, e := lz.Squeeze(b)
	if e != api.OK || len(w) == 0 {
		t.Fatalf("Squeeze of %d bytes: %d bytes, error %d", len(b), len(w), e)
	}
	return w
}

// squeezes fails, unless a text has that block.
func squeezes(t *testing.T, b, want []byte) {
	t.Helper()
	if w := squeeze(t, b); !bytes.Equal(w, want) {
		t.Fatalf("Squeeze of %d bytes %x: %d bytes %x, not %d bytes %x", len(b), b[:min(len(b), 60)], len(w), w[:min(len(w), 60)], len(want), want[:min(len(want), 60)])
	}
}

// P8.2: blocks worked out by hand.
func TestSqueezeByHand(t *testing.T) {
	a := func(n int) string { return strings.Repeat("a", n) }
	for _, c := range []struct{ b, want string }{
		{"", "00"},
		{"a", "10" + "61"},
		{"abc", "30" + "616263"},
		{a(11), "b0" + strings.Repeat("61", 11)},
		{a(12), "c0" + strings.Repeat("61", 12)},
		{a(13), "13" + "61" + "0100" + "50" + "6161616161"},
		{a(20), "1a" + "61" + "0100" + "50" + "6161616161"},
		{a(24), "1e" + "61" + "0100" + "50" + "6161616161"},
		{a(25), "1f" + "61" + "0100" + "00" + "50" + "6161616161"},
		{a(26), "1f" + "61" + "0100" + "01" + "50" + "6161616161"},
		{a(279), "1f" + "61" + "0100" + "fe" + "50" + "6161616161"},
		{a(280), "1f" + "61" + "0100" + "ff00" + "50" + "6161616161"},
		{a(535), "1f" + "61" + "0100" + "ffff00" + "50" + "6161616161"},
		{"abcdabcdabcdabcd", "43" + "61626364" + "0400" + "50" + "6461626364"},
		{"abcdefghijklmn", "e0" + "6162636465666768696a6b6c6d6e"},
		{"abcdefghijklmno", "f000" + "6162636465666768696a6b6c6d6e6f"},
		{"abcd1abcd2abcd345678901234", "50" + "6162636431" + "0500" + "10" + "32" + "0500" + "c0" + "333435363738393031323334"}, // the latest place is taken
		{"abcd1234abcd56789012", "80" + "6162636431323334" + "0800" + "80" + "3536373839303132"},                                // i is n - 12: it begins yet
		{"abcd1234abcd5678901", "f004" + "616263643132333461626364353637" + "38393031"},                                         // i is n - 11: it does not
		{"abcdefg12345abcdefg67890", "c3" + "616263646566673132333435" + "0c00" + "50" + "3637383930"},                          // up to n - 5
		{"abcdefgh1234abcdefgh5678", "c3" + "616263646566676831323334" + "0c00" + "50" + "6835363738"},                          // and no further
		{"abcdef123456abcdef789012", "c2" + "616263646566313233343536" + "0c00" + "60" + "373839303132"},
	} {
		want, err := hex.DecodeString(c.want)
		if err != nil {
			t.Fatal(err)
		}
		squeezes(t, []byte(c.b), want)
		if w := squeezed([]byte(c.b)); !bytes.Equal(w, want) {
			t.Errorf("the chapter's block of %q: %x, not %x", c.b, w, want)
		}
	}
}

// P8.2: numbers of literals about those that fill half a token, and each byte more; in the last sequence, and in one ahead
// of it.
func TestSqueezeLiterals(t *testing.T) {
	twice, end := []byte("wxyz123\xffwxyz123\xff"), []byte("!@#$%^&")
	for n := range 1200 {
		b := text(n, 128, 7) // not with the last byte of the piece told twice, which would make that longer
		squeezes(t, b, tellSequence(b, 0, 0))
		squeezes(t, slices.Concat(b, twice, end), slices.Concat(tellSequence(slices.Concat(b, twice[:8]), 8, 8), tellSequence(end, 0, 0)))
	}
}

// P8.2: pieces of each size told again, and from many distances back.
func TestSqueezePieces(t *testing.T) {
	for n := 13; n < 1200; n++ {
		b := bytes.Repeat([]byte{'a'}, n)
		squeezes(t, b, slices.Concat(tellSequence(b[:1], 1, n-6), tellSequence(b[:5], 0, 0)))
	}
	end := []byte("!@#$%^&*()")
	for _, d := range []int{10, 100, 254, 255, 256, 257, 511, 512, 513, 4095, 4096, 4097, 32767, 32768} {
		b := slices.Concat([]byte("wxyz"), bytes.Repeat([]byte{1}, d-4), []byte("wxyz"), end)
		squeezes(t, b, slices.Concat(tellSequence([]byte("wxyz\x01"), 1, d-5), tellSequence(nil, d, 4), tellSequence(end, 0, 0)))
	}
}

// P8.2: the furthest distance that there is, to the first place of the greatest text.
func TestSqueezeFurthest(t *testing.T) {
	b := slices.Concat([]byte("wxyz"), make([]byte, api.MaxBlock-16), []byte("wxyz"), []byte("12345678"))
	squeezes(t, b, slices.Concat(tellSequence([]byte("wxyz\x00"), 1, 65519), tellSequence(nil, 65524, 4), tellSequence([]byte("12345678"), 0, 0)))
}

// ofOneHash answers two texts of four bytes that have one hash.
func ofOneHash() (string, string) {
	seen := map[uint32]uint32{}
	for x := uint32(0x61616161); ; x += 0x01030507 {
		h := x * 2654435761 >> 20
		if y, there := seen[h]; there {
			return string(binary.LittleEndian.AppendUint32(nil, y)), string(binary.LittleEndian.AppendUint32(nil, x))
		}
		seen[h] = x
	}
}

// P8.2: four bytes that have another four's hash are not told from there, and take their place in the table.
func TestSqueezeOfOneHash(t *testing.T) {
	a, b := ofOneHash()
	end := "123456789012"
	for _, c := range []struct {
		text string
		back []int // by how much told bytes stand back
	}{
		{a + "-" + b + end, nil},
		{a + "-" + b + "=" + a + end, nil},
		{a + "-" + b + "=" + b + end, []int{5}},
		{a + "-" + a + "=" + b + end, []int{5}},
		{a + "-" + a + "=" + b + "+" + a + end, []int{5}},
	} {
		squeezes(t, []byte(c.text), squeezed([]byte(c.text)))
		var back []int
		for _, s := range sequences(squeeze(t, []byte(c.text))) {
			if s.d != 0 {
				back = append(back, s.d)
			}
		}
		if !slices.Equal(back, c.back) {
			t.Errorf("Squeeze of %q tells from %v back, not %v", c.text, back, c.back)
		}
	}
}

// P8.2: places within a piece that is told from further back are not in the table.
func TestSqueezePassesOverPieces(t *testing.T) {
	b := []byte("abcdefgh1abcdefgh2cdefgh3456789012")
	want := slices.Concat(tellSequence([]byte("abcdefgh1"), 9, 8), tellSequence([]byte("2"), 16, 6), tellSequence([]byte("3456789012"), 0, 0))
	squeezes(t, b, want)
}

// P8.2: against the chapter's words.
func TestSqueezeAsTheChapterSays(t *testing.T) {
	for _, b := range samples() {
		squeezes(t, b, squeezed(b))
	}
	for n := range 300 {
		for seed := range uint64(20) {
			b := text(n, 2+int(seed%4), seed)
			squeezes(t, b, squeezed(b))
		}
	}
}

// P8.2
func TestSqueezeTooBig(t *testing.T) {
	for _, n := range []int{api.MaxBlock + 1, api.MaxBlock + 2, 2 * api.MaxBlock, 1 << 20} {
		for _, b := range [][]byte{make([]byte, n), text(n, 256, 1)} {
			if w, e := lz.Squeeze(b); w != nil || e != api.ErrBig {
				t.Errorf("Squeeze of %d bytes: %d bytes, error %d", n, len(w), e)
			}
		}
	}
	for _, n := range []int{api.MaxBlock - 1, api.MaxBlock} {
		squeeze(t, make([]byte, n))
		squeeze(t, text(n, 256, 1))
	}
}

// P8.2, R3: what is handed in is neither changed nor kept, and what stands behind it is not touched.
func TestSqueezeMemory(t *testing.T) {
	for _, b := range [][]byte{text(100, 256, 1), repeats(1000, 2), make([]byte, 50)} {
		room := slices.Concat(b, text(100, 256, 3))
		was := bytes.Clone(room)
		w := squeeze(t, room[:len(b)])
		first := bytes.Clone(w)
		if !bytes.Equal(room, was) {
			t.Fatal("what was handed in is changed")
		}
		clear(room)
		if !bytes.Equal(w, first) {
			t.Fatal("what was handed in is kept")
		}
		again := squeeze(t, b)
		clear(w)
		if !bytes.Equal(again, first) {
			t.Fatal("two answers share memory")
		}
	}
}

// P8.3: what was squeezed is loosened as it was; with less room ErrBig.
func TestLoosenOfSqueeze(t *testing.T) {
	for _, b := range samples() {
		w := squeeze(t, b)
		loosens(t, w, len(b), b)
		loosens(t, w, min(len(b)+1, api.MaxBlock), b)
		loosens(t, w, api.MaxBlock, b)
		for _, less := range []int{0, 1, 2, 3, 5, 10, len(b) / 2, len(b) - 6, len(b) - 5, len(b) - 4, len(b) - 2, len(b) - 1} {
			if less >= 0 && less < len(b) {
				refuses(t, w, less, api.ErrBig)
			}
		}
	}
}

// P8.3: how many bytes a block has, and how many literals its last sequence.
func TestSizeOfBlocks(t *testing.T) {
	for _, b := range samples() {
		n, w := len(b), squeeze(t, b)
		if len(w) > n+n/255+2 {
			t.Fatalf("Squeeze of %d bytes: %d", n, len(w))
		}
		l := sequences(w)
		if last := l[len(l)-1]; last.d != 0 || len(l) > 1 && last.a < 5 {
			t.Fatalf("Squeeze of %d bytes: %d sequences, the last with %d literals", n, len(l), last.a)
		}
	}
}

// P8.3: a text of one byte, over and over.
func TestSizeOfOneByte(t *testing.T) {
	for n := 0; n <= api.MaxBlock; n += 1 + n/300 {
		for _, by := range []byte{0, 'a', 0xff} {
			b := bytes.Repeat([]byte{by}, n)
			w := squeeze(t, b)
			if len(w) > n/255+13 {
				t.Fatalf("Squeeze of %d times %d: %d bytes", n, by, len(w))
			}
			loosens(t, w, n, b)
		}
	}
}
