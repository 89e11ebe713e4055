package hints_test

import (
	"math"
	"slices"
	"strconv"
	"strings"
	"testing"

	"hoard/api"
	"hoard/hints"
)

// P16.1: all commits' files.
func TestNames(t *testing.T) {
	if s := hints.IndexName(7); s != "idx.00000007" {
		t.Errorf("the example: %q", s)
	}
	if s := hints.UsesName(7); s != "use.00000007" {
		t.Errorf("its uses: %q", s)
	}
	for n := range 1048576 {
		digits := strconv.Itoa(100000000 + n)[1:]
		if s := hints.IndexName(n); s != "idx."+digits {
			t.Fatalf("IndexName(%d): %q", n, s)
		}
		if s := hints.UsesName(n); s != "use."+digits {
			t.Fatalf("UsesName(%d): %q", n, s)
		}
	}
	for _, n := range []int{-1, -2, 1048576, 1048577, 99999999, 100000000, 1 << 31, 1 << 32, math.MinInt, math.MaxInt, -1048575} {
		if i, u := hints.IndexName(n), hints.UsesName(n); i != "" || u != "" {
			t.Errorf("of %d: %q, %q", n, i, u)
		}
	}
}

// others are files that are no hints.
var others = []string{
	"idx", "idx.", "idx.7", "idx.0000007", "idx.000000007", "idx.01048576", "idx.99999999", "idx.00000007.", "idx.0000000a",
	"idx-00000007", "idx00000007", "idx..0000007", "idx.-0000007", "idx.idx.00000007", "xidx.00000007", "use", "use.", "use.7",
	"use.0000007", "use.000000007", "use.01048576", "use.01048577", "use.99999999", "use.00000007.", "use.0000000a",
	"use-00000007", "use00000007", "use..0000007", "use.-0000007", "use.use.00000007", "xuse.00000007", "seg.00000007",
	"00000007", ".00000007", "7", "config", "tmp.", "tmp.00000007", "tm", "tmpp", "ttmp", "a", "z", "idxx00000007", "id.00000007",
	"us.00000007", "uses.00000007", "index.00000007", "ids.00000007", "udx.00000007", "usx.00000007", "idx.00000007-",
	"idx.00000007.idx", "ref.00000007",
}

// P16.1, P16.2, P16.4: other files play no part: they are not counted, nor Removed.
func TestOtherFiles(t *testing.T) {
	m, s := three(t)
	for _, name := range others {
		if name != "seg.00000007" {
			file(t, m, name, []byte("x"))
		}
	}
	newest(t, "others", m, -1)
	files := m.List()
	does(t, "Clean", hints.Clean(m), api.OK)
	has(t, "clean", m, files...)
	does(t, "Save", hints.Save(m, s), api.OK)
	newest(t, "saved", m, 1)
	loads(t, "saved", m, 1, threeSaid)
	saved := append([]string{"idx.00000001", "use.00000001"}, files...)
	slices.Sort(saved)
	has(t, "saved", m, saved...)
	does(t, "Clean", hints.Clean(m), api.OK)
	has(t, "clean again", m, files...)
}

// P16.1, P16.4: files of hints at the edges of all numbers, and with all digits.
func TestFilesOfHints(t *testing.T) {
	for _, n := range []int{0, 1, 9, 10, 12345, 678901, 234567, 890123, 1048575} {
		for _, name := range []string{hints.IndexName(n), hints.UsesName(n)} {
			m, s := three(t)
			file(t, m, name, nil)
			newest(t, name, m, n)
			fails(t, name, m, n, api.ErrNone)
			ok(t, hints.Save(m, s))
			has(t, name, m, "idx.00000001", "seg.00000000", "seg.00000001", "seg.00000002", "use.00000001")
			file(t, m, "tmp", nil)
			ok(t, hints.Clean(m))
			has(t, name, m, "seg.00000000", "seg.00000001", "seg.00000002")
		}
	}
}

// P16.4: the greatest number, whichever file has it.
func TestNewest(t *testing.T) {
	for _, c := range []struct {
		files string
		want  int
	}{
		{"", -1},
		{"tmp", -1},
		{"idx.00000000", 0},
		{"use.00000000", 0},
		{"idx.00000003 use.00000003", 3},
		{"idx.00000003 use.00000004", 4},
		{"idx.00000004 use.00000003", 4},
		{"idx.00000004 idx.00000010 use.00000009", 10},
		{"idx.00000009 use.00000004 use.00000010", 10},
		{"idx.00099999 idx.00100000 use.00000002 use.00020000", 100000},
		{"idx.00000003 seg.00000005 use.01048576", 3},
		{"idx.01048575 idx.01048576 use.00000000", 1048575},
	} {
		m := medium(t, 100)
		for _, name := range strings.Fields(c.files) {
			ok(t, m.Create(name))
		}
		newest(t, c.files, m, c.want)
	}
}

// P16.4: Clean removes by names, rising, whatever is in the files, up to the first error; it does not sync.
func TestCleanStepByStep(t *testing.T) {
	all := []string{"idx.00000003", "idx.00000010", "idx.01048575", "tmp", "use.00000000", "use.00000010"}
	stay := []string{"config", "seg.00000010", "use.x", "zzz"}
	for steps := range 8 {
		for lasts := range 8 {
			m := medium(t, 100)
			for i, name := range append(slices.Clone(all), stay...) {
				file(t, m, name, []byte{byte(i)})
			}
			ok(t, m.Arm(steps))
			want := api.OK
			if steps < len(all) {
				want = api.ErrDead
			}
			does(t, "Clean", hints.Clean(m), want)
			if steps >= len(all) {
				has(t, "clean", m, stay...)
			}
			m.Crash([]int{lasts})
			left := append(slices.Clone(all[min(lasts, steps, len(all)):]), stay...)
			slices.Sort(left)
			has(t, "behind a crash", m, left...)
		}
	}
}
