package sha_test

import (
	"encoding/hex"
	"strings"
	"testing"

	"hoard/api"
	"hoard/sha"
)

// ids are sums of all sorts: with each byte at each place, and of texts.
func ids() []api.ID {
	var l []api.ID
	for c := range 256 {
		var d api.ID
		for i := range d {
			d[i] = byte(c + 37*i)
		}
		l = append(l, d, api.ID{31: byte(c)}, api.ID{byte(c)}, sha.Sum([]byte{byte(c)}))
	}
	return l
}

// P4.3
func TestHexThereAndBack(t *testing.T) {
	for _, d := range ids() {
		s := sha.Hex(d)
		if want := hex.EncodeToString(d[:]); s != want {
			t.Fatalf("Hex: %s, not %s", s, want)
		}
		if e, ok := sha.FromHex(s); e != d || !ok {
			t.Fatalf("FromHex of %s: %x, %v", s, e, ok)
		}
	}
	if s := sha.Hex(api.ID{}); s != strings.Repeat("0", 64) {
		t.Errorf("Hex of noughts: %s", s)
	}
	if d, ok := sha.FromHex(strings.Repeat("0", 64)); d != (api.ID{}) || !ok {
		t.Errorf("FromHex of noughts: %x, %v", d, ok)
	}
}

// refused fails, unless a text is no sum.
func refused(t *testing.T, s string) {
	t.Helper()
	if d, ok := sha.FromHex(s); ok || d != (api.ID{}) {
		t.Errorf("FromHex of %q: %x, %v", s, d, ok)
	}
}

// P4.3: too few digits, too many, something around them, great letters.
func TestFromHexOfOtherTexts(t *testing.T) {
	s := sha.Hex(sha.Sum([]byte("abc")))
	for n := range 64 {
		refused(t, s[:n])
	}
	for _, x := range []string{
		s + "0", s + s, " " + s, s + " ", s + "\n", "0x" + s, "0x" + s[2:], "+" + s[1:], s + "\x00",
		strings.ToUpper(s), strings.ToUpper(s[:1]) + s[1:], strings.Repeat("A", 64), strings.Repeat("ff", 1<<16),
		strings.Repeat("é", 32), strings.Repeat("é", 64), strings.Repeat("٣", 32),
	} {
		refused(t, x)
	}
}

// P4.3: at each place each byte that is no digit, also behind digits that are right.
func TestFromHexOfNoDigit(t *testing.T) {
	s := []byte(sha.Hex(sha.Sum([]byte("abc"))))
	for i := range s {
		was := s[i]
		for c := range 256 {
			if strings.IndexByte("0123456789abcdef", byte(c)) >= 0 {
				continue
			}
			s[i] = byte(c)
			refused(t, string(s))
		}
		s[i] = was
	}
}
