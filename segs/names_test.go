package segs_test

import (
	"math"
	"slices"
	"strconv"
	"strings"
	"testing"

	"hoard/api"
	"hoard/segs"
)

// P14.1: all numbers, their files, and back.
func TestNames(t *testing.T) {
	if s := segs.Name(7); s != "seg.00000007" {
		t.Errorf("the example: %q", s)
	}
	ahead := ""
	for n := range 1048576 {
		s := segs.Name(n)
		k := n
		for i := 11; i >= 4; i-- {
			if len(s) != 12 || s[i] != byte('0'+k%10) {
				t.Fatalf("Name(%d): %q", n, s)
			}
			k /= 10
		}
		if s[:4] != "seg." || s <= ahead {
			t.Fatalf("Name(%d): %q, behind %q", n, s, ahead)
		}
		if back, ok := segs.Number(s); back != n || !ok {
			t.Fatalf("Number(%q): %d, %v", s, back, ok)
		}
		ahead = s
	}
	for _, n := range []int{-1, -2, 1048576, 1048577, 99999999, 100000000, 1 << 31, 1 << 32, math.MinInt, math.MaxInt, -1048575} {
		if s := segs.Name(n); s != "" {
			t.Errorf("Name(%d): %q", n, s)
		}
	}
}

// noFile fails, if a segment is found in a file of that name.
func noFile(t *testing.T, s string) {
	t.Helper()
	if n, ok := segs.Number(s); n != 0 || ok {
		t.Errorf("Number(%q): %d, %v", s, n, ok)
	}
}

// P14.1: names that no segment's file has.
func TestNoNumber(t *testing.T) {
	for _, s := range []string{
		"", "seg", "seg.", "7", "00000007", ".00000007", "seg00000007", "seg.7", "seg.0000007", "seg.000000007",
		"seg.+0000007", "seg.-0000007", "seg.-0000000", "seg.+1", "seg.-1", "SEG.00000007", "Seg.00000007",
		"seg-00000007", "seg..0000007", "idx.00000007", "use.00000007", "tmp", "config", "seg.01048576", "seg.01048577",
		"seg.99999999", "seg.10000000", "seg.100000000", " seg.00000007", "seg.00000007 ", "seg. 0000007", "seg.00000007\n",
		"seg.00000007\x00", "seg.0000_007", "seg.0x000007", "seg.0000000a", "seg.0000007.", "seg.1e000000", "seg.seg.00000007",
		"xseg.00000007", "seg.00000007seg.00000007", "seg.0000000\u0667", "seg.\uff10\uff10\uff10\uff10\uff10\uff10\uff10\uff17",
		"seg.18446744073709551623", "seg." + strings.Repeat("0", 1000) + "7", strings.Repeat("seg.", 1000),
	} {
		noFile(t, s)
	}
}

// P14.1: each other byte in a name's place, each byte too few, and one too many at each place.
func TestNumberOfOtherBytes(t *testing.T) {
	for _, name := range []string{"seg.00000007", "seg.00123456", "seg.01048575"} {
		for i := range name {
			noFile(t, name[:i]+name[i+1:])
			noFile(t, name[:i])
			for c := range 256 {
				b := string([]byte{byte(c)})
				noFile(t, name[:i]+b+name[i:])
				other := name[:i] + b + name[i+1:]
				want, err := strconv.Atoi(other[4:])
				if i < 4 && other != name || c < '0' && i >= 4 || c > '9' && i >= 4 || err != nil || want > 1048575 {
					noFile(t, other)
				} else if n, ok := segs.Number(other); n != want || !ok {
					t.Errorf("Number(%q): %d, %v", other, n, ok)
				}
			}
		}
	}
}

// P14.1, P14.2: of all files just those of segments play a part, whatever they have.
func TestOtherFiles(t *testing.T) {
	others := []string{"seg", "seg.", "seg.7", "seg.0000007", "seg.000000007", "seg.01048576", "seg.99999999", "seg-00000007",
		"idx.00000007", "use.00000007", "tmp", "config", "00000007", "a", "z", "seg.0000000a", "seg.00000007."}
	m := medium(t, 1000)
	for _, name := range others {
		file(t, m, name, "HOARDSEG")
	}
	l := open(t, m, 128)
	is(t, l, "next 0")
	goes(t, l, put(1), api.Place{Seg: 0, At: 8, Size: 42})
	is(t, l, "0=50 next 1 fresh 1")
	commits(t, l, 0)
	ok(t, l.Remove(0))
	is(t, l, "next 0")
	if files := m.List(); len(files) != len(others) {
		t.Errorf("files: %q", files)
	}
	for _, name := range others {
		if b, e := m.All(name); string(b) != "HOARDSEG" || e != api.OK {
			t.Errorf("%s: %q, %d", name, b, e)
		}
	}
	for _, n := range []int{1048575, 3, 0, 10, 9} {
		file(t, m, segs.Name(n), strings.Repeat("x", n%9))
	}
	l = open(t, m, 128)
	is(t, l, "0=0 3=3 9=0 10=1 1048575=3 next 1048576")
	if want := []int{0, 3, 9, 10, 1048575}; !slices.Equal(l.Segments(), want) {
		t.Errorf("segments: %d", l.Segments())
	}
}
