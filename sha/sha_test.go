package sha_test

import (
	"bytes"
	"crypto/sha256"
	"math/rand/v2"
	"slices"
	"strings"
	"testing"

	"hoard/api"
	"hoard/sha"
)

// text answers n bytes of all sorts, the same ones each time.
func text(n int, seed byte) []byte {
	b := make([]byte, n)
	rand.NewChaCha8([32]byte{seed}).Read(b)
	return b
}

// given answers a hasher that was given pieces.
func given(pieces ...[]byte) *sha.Hasher {
	h := sha.New()
	for _, p := range pieces {
		h.Write(p)
	}
	return h
}

// stands fails, unless a hasher was given just that text.
func stands(t *testing.T, h *sha.Hasher, b []byte) {
	t.Helper()
	if d, want := h.Sum(), api.ID(sha256.Sum256(b)); d != want {
		t.Fatalf("%d bytes: %x, not %x", len(b), d, want)
	}
	if n := h.Len(); n != len(b) {
		t.Fatalf("Len: %d, not %d", n, len(b))
	}
}

// P4.1, P4.3: sums that others know too.
func TestKnownSums(t *testing.T) {
	for _, c := range []struct{ b, want string }{
		{"", "e3b0c44298fc1c149afbf4c8996fb92427ae41e4649b934ca495991b7852b855"},
		{"abc", "ba7816bf8f01cfea414140de5dae2223b00361a396177a9cb410ff61f20015ad"},
		{"abcdbcdecdefdefgefghfghighijhijkijkljklmklmnlmnomnopnopq", "248d6a61d20638b8e5c026930c3e6039a33ce45964ff2167f6ecedd419db06c1"},
		{"abcdefghbcdefghicdefghijdefghijkefghijklfghijklmghijklmnhijklmnoijklmnopjklmnopqklmnopqrlmnopqrsmnopqrstnopqrstu", "cf5b16a778af8380036ce59e7b0492370b249b11e8f07a51afac45037afee9d1"},
		{strings.Repeat("a", 1_000_000), "cdc76e5c9914fb9281a1c7e284d73e67f1809a48a497200e046d39ccc7112cd0"},
	} {
		if s := sha.Hex(sha.Sum([]byte(c.b))); s != c.want {
			t.Errorf("sum of %d bytes: %s, not %s", len(c.b), s, c.want)
		}
	}
	if sha.Sum(nil) != sha.Sum([]byte{}) {
		t.Error("nil is no empty text")
	}
}

// P4.1: each size around the places where what stands behind a text takes one block more.
func TestSum(t *testing.T) {
	for n := range 300 {
		for _, b := range [][]byte{text(n, byte(n)), make([]byte, n), slices.Repeat([]byte{0xff}, n)} {
			if d, want := sha.Sum(b), api.ID(sha256.Sum256(b)); d != want {
				t.Fatalf("sum of %x: %x, not %x", b, d, want)
			}
		}
	}
	for _, n := range []int{1000, 1023, 1024, 1025, 8191, 8192, 16379, 16384, 65536, 1<<20 + 55, 1<<20 + 56} {
		b := text(n, 1)
		if d, want := sha.Sum(b), api.ID(sha256.Sum256(b)); d != want {
			t.Errorf("sum of %d bytes: %x, not %x", n, d, want)
		}
	}
}

// P4.1: each bit at each place tells.
func TestEachBitTells(t *testing.T) {
	for _, n := range []int{1, 55, 56, 64, 65, 130} {
		b := text(n, 5)
		seen := map[api.ID]bool{sha.Sum(b): true}
		for i := range 8 * n {
			b[i/8] ^= 1 << (i % 8)
			d := sha.Sum(b)
			if want := api.ID(sha256.Sum256(b)); d != want {
				t.Fatalf("sum of %x: %x, not %x", b, d, want)
			}
			if seen[d] {
				t.Fatalf("bit %d of %d bytes does not tell", i, n)
			}
			seen[d] = true
			b[i/8] ^= 1 << (i % 8)
		}
	}
}

// P4.1: so many bytes that their bits are counted in more than 32 bits.
func TestSumOfVeryMuch(t *testing.T) {
	b := text(1<<20, 7)
	h, want := sha.New(), sha256.New()
	for range 512 {
		h.Write(b)
		want.Write(b)
	}
	h.Write(b[:3])
	want.Write(b[:3])
	if d := h.Sum(); string(d[:]) != string(want.Sum(nil)) {
		t.Errorf("sum of 2^29 bytes and three: %x", d)
	}
	if n := h.Len(); n != 1<<29+3 {
		t.Errorf("Len: %d", n)
	}
}

// P4.1, R3, R4: what is handed in is not changed, and what stands behind a text is not taken.
func TestTextsAreLeftAlone(t *testing.T) {
	b := text(200, 3)
	was := slices.Clone(b)
	d := sha.Sum(b[:150])
	h := given(b[:70], b[70:150])
	if h.Sum() != d || !bytes.Equal(b, was) {
		t.Error("what was handed in is changed, or answered otherwise")
	}
	if sha.Sum(b[:150:150]) != d || sha.Sum(slices.Clone(b[:150])) != d {
		t.Error("the sum hangs on what stands behind the text")
	}
}

// P4.2: one that was given nothing, or nothing over and over.
func TestNewHasherWasGivenNothing(t *testing.T) {
	h := sha.New()
	for range 3 {
		stands(t, h, nil)
		stands(t, h.Copy(), nil)
		h.Write(nil)
		h.Write([]byte{})
	}
}

// P4.2: what New did not make stays so.
func TestHasherThatNewDidNotMake(t *testing.T) {
	var none *sha.Hasher
	var zero sha.Hasher
	for _, h := range []*sha.Hasher{none, &zero, new(sha.Hasher), new(sha.Hasher).Copy(), none.Copy()} {
		for _, n := range []int{0, 1, 63, 64, 100} {
			h.Write(text(n, 1))
			if d := h.Sum(); d != (api.ID{}) {
				t.Errorf("%d bytes: %x", n, d)
			}
			if m := h.Len(); m != 0 {
				t.Errorf("%d bytes: Len %d", n, m)
			}
			if c := h.Copy(); c != nil {
				t.Errorf("%d bytes: a copy", n)
			}
		}
	}
	if zero != (sha.Hasher{}) {
		t.Error("Write did something")
	}
}

// P4.2, R3: a hasher, and a copy, keep nothing of what it was handed.
func TestHasherKeepsNothing(t *testing.T) {
	for _, n := range []int{1, 31, 55, 56, 63, 64, 65, 127, 128, 129} {
		b := text(n, 2)
		was := slices.Clone(b)
		h := given(b)
		c := h.Copy()
		clear(b)
		stands(t, h, was)
		stands(t, c, was)
	}
}

// P4.2: a copy was given the same, and each goes on by itself, also ahead of the other, and asked for its sum ahead.
func TestCopiesGoOnApart(t *testing.T) {
	b, x, y := text(300, 1), text(300, 2), text(300, 3)
	for _, n := range []int{0, 1, 55, 56, 63, 64, 65, 100, 128, 200} {
		for _, m := range []int{0, 1, 10, 63, 64, 65, 150} {
			h := given(b[:n])
			c := h.Copy()
			stands(t, c, b[:n])
			h.Write(x[:m])
			stands(t, c, b[:n])
			c.Write(y[:m])
			d := c.Copy()
			stands(t, h, slices.Concat(b[:n], x[:m]))
			h.Write(y)
			d.Write(x)
			c.Write(b)
			stands(t, h, slices.Concat(b[:n], x[:m], y))
			stands(t, d, slices.Concat(b[:n], y[:m], x))
			stands(t, c, slices.Concat(b[:n], y[:m], b))
		}
	}
}

// P4.2, R4: hashers know nothing of one another.
func TestHashersApart(t *testing.T) {
	a, b := text(150, 1), text(170, 2)
	g, h := sha.New(), sha.New()
	for i := range 10 {
		g.Write(a[15*i : 15*i+15])
		h.Write(b[17*i : 17*i+17])
		stands(t, g, a[:15*i+15])
	}
	stands(t, g, a)
	stands(t, h, b)
}

// P4.4: by each two cuts, copied at the first one or not.
func TestThreePieces(t *testing.T) {
	for _, n := range []int{0, 1, 55, 63, 64, 65, 100, 128, 130} {
		b := text(n, 8)
		for i := range n + 1 {
			front := given(b[:i])
			for j := i; j <= n; j++ {
				stands(t, given(b[:i], b[i:j], b[j:]), b)
				c := front.Copy()
				c.Write(b[i:j])
				c.Write(b[j:])
				stands(t, c, b)
			}
			stands(t, front, b[:i])
		}
	}
}

// P4.4: in pieces of each size, asked for behind each as often as one likes, and going on as a copy.
func TestManyPieces(t *testing.T) {
	b := text(2000, 6)
	for _, size := range []int{1, 2, 3, 7, 8, 31, 32, 33, 55, 56, 57, 63, 64, 65, 100, 127, 128, 129, 999, 1999, 2000} {
		h, quiet, copied := sha.New(), sha.New(), sha.New()
		at := 0
		for piece := range slices.Chunk(b, size) {
			h.Write(piece)
			quiet.Write(piece)
			copied = copied.Copy()
			copied.Write(piece)
			at += len(piece)
			stands(t, h, b[:at])
			stands(t, h, b[:at])
		}
		stands(t, quiet, b)
		stands(t, copied, b)
	}
}

// P4.4: in pieces of all sizes, one behind the other.
func TestUnlikePieces(t *testing.T) {
	b := text(5000, 10)
	for seed := range byte(40) {
		h := sha.New()
		at := 0
		for _, c := range text(200, seed) {
			n := min(int(c)%(5*int(seed)+1), len(b)-at)
			h.Write(b[at : at+n])
			at += n
		}
		stands(t, h, b[:at])
	}
}
