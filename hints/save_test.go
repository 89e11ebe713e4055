package hints_test

import (
	"bytes"
	"fmt"
	"math"
	"math/rand/v2"
	"slices"
	"strconv"
	"testing"

	"hoard/api"
	"hoard/hints"
	"hoard/media"
	"hoard/replay"
	"hoard/table"
)

// small is a state whose books are small: 64 and 32 bytes.
func small(last int) *replay.State {
	return &replay.State{
		Last:  last,
		Index: index(map[byte]api.Place{'a': {Seg: last, At: 8, Size: 41}}),
		Uses:  []api.Use{{Seg: last, Size: 58, Live: 41}},
	}
}

// saves does to a medium what the chapter says of Save, call by call.
func saves(t *testing.T, m *media.Medium, s *replay.State) api.Errno {
	t.Helper()
	number := strconv.Itoa(100000000 + s.Last)[1:]
	for _, f := range []struct {
		name string
		b    []byte
	}{{"idx." + number, indexBook(t, s.Index)}, {"use." + number, usesBook(t, s.Uses...)}} {
		if slices.Contains(m.List(), "tmp") {
			if e := m.Remove("tmp"); e != api.OK {
				return e
			}
		}
		if e := m.Create("tmp"); e != api.OK {
			return e
		}
		e := m.Append("tmp", f.b)
		if e == api.ErrFull && m.Remove("tmp") != api.OK {
			return api.ErrDead
		}
		if e != api.OK {
			return e
		}
		if e := m.Sync("tmp"); e != api.OK {
			return e
		}
		if e := m.Rename("tmp", f.name); e != api.OK {
			return e
		}
	}
	if e := m.SyncDir(); e != api.OK {
		return e
	}
	for _, name := range m.List() {
		if len(name) == 12 && (name[:4] == "idx." || name[:4] == "use.") && name[4:] != number && name[4:] < "01048576" {
			if e := m.Remove(name); e != api.OK {
				return e
			}
		}
	}
	return api.OK
}

// look answers all that calls see of a medium.
func look(m *media.Medium) string {
	s := fmt.Sprint(m.Power(), m.Used(), m.Room())
	for _, name := range m.List() {
		b, e := m.All(name)
		s += fmt.Sprintf(" %s %x %d", name, b, e)
	}
	return s
}

// laid answers a medium with files of their names' bytes, fast but for the last ones.
func laid(t *testing.T, fast, waiting []string) *media.Medium {
	t.Helper()
	m := medium(t, 1<<20)
	for _, name := range fast {
		file(t, m, name, []byte(name))
	}
	for _, name := range waiting {
		ok(t, m.Create(name), m.Append(name, []byte(name)))
	}
	return m
}

// alike fails, unless Save does to a medium just what the chapter says, whatever lasts of it; make answers the medium.
func alike(t *testing.T, what string, s *replay.State, steps int, make func() *media.Medium) {
	t.Helper()
	r := rand.New(rand.NewPCG(16, uint64(steps)))
	for crash := range 8 {
		a, b := make(), make()
		if steps >= 0 {
			ok(t, a.Arm(steps), b.Arm(steps))
		}
		got, want := hints.Save(a, s), saves(t, b, s)
		if got != want || look(a) != look(b) {
			t.Fatalf("%s, %d steps: %d, %s\nnot %d, %s", what, steps, got, look(a), want, look(b))
		}
		var lasts []int
		for range crash {
			lasts = append(lasts, r.IntN(16))
		}
		if crash == 7 {
			lasts = slices.Repeat([]int{100}, 30)
		}
		a.Crash(lasts)
		b.Crash(lasts)
		if look(a) != look(b) {
			t.Fatalf("%s, %d steps, crash %d: %s\nnot %s", what, steps, lasts, look(a), look(b))
		}
	}
}

// P16.2: call by call, with whatever files there, and the power off at each step.
func TestSaveStepByStep(t *testing.T) {
	for i, c := range []struct{ fast, waiting []string }{
		{nil, nil},
		{[]string{"tmp"}, nil},
		{nil, []string{"tmp"}},
		{[]string{"idx.00000003", "use.00000003", "config", "seg.00000003"}, nil},
		{[]string{"idx.00000003"}, []string{"use.00000003", "tmp"}},
		{[]string{"idx.00000002", "idx.00000004", "use.00000001", "use.01048575", "use.01048576", "tmp"}, nil},
		{[]string{"idx.00000001", "use.00000001"}, []string{"idx.00000002", "use.00000002"}},
		{[]string{"idx.00000003", "use.00000003", "tmp"}, []string{"idx.00000002", "use.00000002", "idx.00000000", "use.00000000"}},
	} {
		for steps := -1; steps < 22; steps++ {
			alike(t, "files "+strconv.Itoa(i), small(3), steps, func() *media.Medium { return laid(t, c.fast, c.waiting) })
		}
	}
}

// P16.2: with little room. Of the index 64 bytes, of the uses 32, must have room beside all files, and what was there of
// this commit goes when the new one is whole.
func TestSaveRooms(t *testing.T) {
	for i, c := range []struct {
		fast, waiting []string
		index, uses   int // what room each asks for
	}{
		{nil, nil, 64, 96},
		{[]string{"tmp"}, nil, 64, 96},
		{[]string{"abc", "idx.00000002", "use.00000002"}, []string{"tmp"}, 27 + 64, 27 + 96},
		{[]string{"idx.00000003", "use.00000003"}, nil, 24 + 64, 12 + 96},
	} {
		for room := range 140 {
			make := func() *media.Medium {
				m := laid(t, c.fast, c.waiting)
				ok(t, m.SetRoom(room))
				return m
			}
			m := make()
			want := api.OK
			if room < max(c.index, c.uses) {
				want = api.ErrFull
			}
			does(t, "Save with room for "+strconv.Itoa(room), hints.Save(m, small(3)), want)
			b, e := m.All("idx.00000003")
			if room >= c.index && (string(b) != string(indexBook(t, small(3).Index)) || e != api.OK) {
				t.Errorf("room %d: index %x, %d", room, b, e)
			}
			if slices.Contains(m.List(), "tmp") {
				t.Errorf("room %d: tmp is left", room)
			}
			for _, steps := range []int{-1, 0, 1, 2, 3, 4, 5, 6, 7, 8} {
				if room%16 == 0 || steps < 0 {
					alike(t, "room "+strconv.Itoa(room)+", files "+strconv.Itoa(i), small(3), steps, make)
				}
			}
		}
	}
}

// P16.2: ErrFull takes tmp away, unless the power goes off there; what was saved of elder commits stays.
func TestSaveFull(t *testing.T) {
	for room, left := range map[int][]string{
		24 + 63: {"idx.00000002", "use.00000002"},
		24 + 64: {"idx.00000002", "idx.00000003", "use.00000002"},
		24 + 95: {"idx.00000002", "idx.00000003", "use.00000002"},
	} {
		m := laid(t, []string{"idx.00000002", "use.00000002"}, nil)
		ok(t, m.SetRoom(room))
		does(t, "Save", hints.Save(m, small(3)), api.ErrFull)
		has(t, "full", m, left...)
		steps := 1 // Create, Remove
		if len(left) > 2 {
			steps = 5 // and all of the index: Create, Append, Sync, Rename
		}
		m = laid(t, []string{"idx.00000002", "use.00000002"}, nil)
		ok(t, m.SetRoom(room), m.Arm(steps))
		does(t, "Save, power off", hints.Save(m, small(3)), api.ErrDead)
		m.Crash([]int{100})
		left = append(slices.Clone(left), "tmp")
		slices.Sort(left)
		has(t, "power off", m, left...)
	}
}

// P16.2: with all files that a medium may have, and nearly so many.
func TestSaveManyFiles(t *testing.T) {
	for _, c := range []struct {
		files int
		more  []string
		want  api.Errno
	}{
		{500, nil, api.ErrLimit},
		{499, nil, api.ErrLimit},
		{498, nil, api.OK},
		{497, nil, api.OK},
		{499, []string{"tmp"}, api.ErrLimit},
		{498, []string{"tmp"}, api.OK},
		{498, []string{"idx.00000003", "use.00000003"}, api.ErrLimit},
		{497, []string{"idx.00000003", "use.00000003"}, api.OK},
		{497, []string{"idx.00000003", "use.00000003", "tmp"}, api.OK},
		{498, []string{"idx.00000002", "use.00000002"}, api.ErrLimit},
		{496, []string{"idx.00000002", "use.00000002"}, api.OK},
	} {
		make := func() *media.Medium {
			m := laid(t, c.more, nil)
			for i := range c.files {
				ok(t, m.Create("f"+strconv.Itoa(i)))
			}
			return m
		}
		does(t, fmt.Sprint("Save beside ", c.files, c.more), hints.Save(make(), small(3)), c.want)
		alike(t, fmt.Sprint(c.files, c.more), small(3), -1, make)
	}
}

// many answers an index of so many objects.
func many(n int, p api.Place) *table.Table[api.Place] {
	x := table.New[api.Place]()
	for i := range n {
		x.Put(api.ID{byte(i), byte(i >> 8), byte(i >> 16)}, p)
	}
	return x
}

// P16.2: what cannot be saved changes nothing, and takes no step; the first error is told, ahead of the medium's.
func TestSaveWrong(t *testing.T) {
	place := api.Place{Seg: 1, At: 8, Size: 41}
	good, large := many(3, place), many(65537, place)
	uses := []api.Use{{Seg: 1, Size: 200, Live: 123}}
	manyUses, wrongUses := []api.Use{}, []api.Use{{Seg: 1, Live: -1}, {Seg: 1}}
	for i := range 65537 {
		manyUses = append(manyUses, api.Use{Seg: i})
	}
	for i, c := range []struct {
		s    replay.State
		want api.Errno
	}{
		{replay.State{Last: -1, Index: good, Uses: uses}, api.ErrArg},
		{replay.State{Last: -1, Index: large, Uses: uses}, api.ErrArg},
		{replay.State{Last: -1, Index: good, Uses: manyUses}, api.ErrArg},
		{replay.State{Last: 1 << 20, Index: large, Uses: manyUses}, api.ErrArg},
		{replay.State{Last: 1<<20 + 1, Index: good, Uses: uses}, api.ErrArg},
		{replay.State{Last: math.MinInt, Index: good, Uses: uses}, api.ErrArg},
		{replay.State{Last: math.MaxInt, Index: good, Uses: uses}, api.ErrArg},
		{replay.State{Last: 1, Index: large, Uses: uses}, api.ErrLimit},
		{replay.State{Last: 1, Index: large, Uses: wrongUses}, api.ErrLimit},
		{replay.State{Last: 1, Index: many(65537, api.Place{Seg: -1}), Uses: uses}, api.ErrLimit},
		{replay.State{Last: 1, Index: many(3, api.Place{Seg: -1}), Uses: uses}, api.ErrArg},
		{replay.State{Last: 1, Index: many(3, api.Place{At: -1}), Uses: uses}, api.ErrArg},
		{replay.State{Last: 1, Index: many(3, api.Place{Size: 1 << 32}), Uses: manyUses}, api.ErrArg},
		{replay.State{Last: 1, Index: good, Uses: manyUses}, api.ErrLimit},
		{replay.State{Last: 1, Index: good, Uses: wrongUses}, api.ErrArg},
		{replay.State{Last: 1, Index: good, Uses: []api.Use{{Seg: 1 << 32}}}, api.ErrArg},
		{replay.State{Last: 1, Index: good, Uses: []api.Use{{Seg: 1}, {Seg: 0}}}, api.ErrOrder},
		{replay.State{Last: 1, Index: good, Uses: []api.Use{{Seg: 1}, {Seg: 1, Size: 3}}}, api.ErrOrder},
	} {
		what := "wrong state " + strconv.Itoa(i)
		m := laid(t, []string{"idx.00000000", "tmp", "use.00000000"}, nil)
		was := look(m)
		ok(t, m.Arm(0))
		does(t, what, hints.Save(m, &c.s), c.want)
		if got := look(m); got != was {
			t.Errorf("%s: %s, not %s", what, got, was)
		}
		off(t, m)
		does(t, what+", the power off", hints.Save(m, &c.s), c.want)
	}
}

// P16.2: the last and the first commit, as many rows as books have, and uses that say nothing are saved; Save does not
// ask whether the segments fit.
func TestSaveEdges(t *testing.T) {
	uses := []api.Use{}
	for i := range 65536 {
		uses = append(uses, api.Use{Seg: i, Size: math.MaxUint32})
	}
	for _, s := range []*replay.State{
		{Last: 0, Index: table.New[api.Place]()},
		{Last: 1<<20 - 1, Index: table.New[api.Place](), Tail: []int{7, 7, -1}},
		{Last: 7, Index: many(65536, api.Place{Seg: math.MaxUint32, At: 0, Size: math.MaxUint32}), Uses: uses},
	} {
		m := medium(t, 1<<23)
		does(t, "Save", hints.Save(m, s), api.OK)
		newest(t, "saved", m, s.Last)
		has(t, "saved", m, hints.IndexName(s.Last), hints.UsesName(s.Last))
		if b, _ := m.All(hints.IndexName(s.Last)); !bytes.Equal(b, indexBook(t, s.Index)) {
			t.Error("another index")
		}
		if b, _ := m.All(hints.UsesName(s.Last)); !bytes.Equal(b, usesBook(t, s.Uses...)) {
			t.Error("other uses")
		}
	}
}
