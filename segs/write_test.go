package segs_test

import (
	"bytes"
	"math"
	"slices"
	"testing"

	"hoard/api"
	"hoard/frame"
	"hoard/media"
	"hoard/segs"
)

// The chapter's example.
func TestExample(t *testing.T) {
	_, l := begin(t, 1000, 128)
	for n := range 3 {
		goes(t, l, put(60), api.Place{Seg: n, At: 8, Size: 101})
	}
	is(t, l, "0=109 1=109 2=109 next 3 fresh 3")
	for n := range 3 {
		holds(t, l, n, put(60))
	}
}

// fill lays Puts into segment 0 till it has just so many bytes, and answers them.
func fill(t *testing.T, l *segs.Log, to int) []api.Entry {
	t.Helper()
	var entries []api.Entry
	for at := 8; at < to; {
		n := to - at
		if n > 41+16384 {
			n = min(41+16384, n-41)
		}
		x := put(n - 41)
		goes(t, l, x, api.Place{Seg: 0, At: at, Size: n})
		entries = append(entries, x)
		at += n
	}
	return entries
}

// P14.3: an entry of whatever kind goes into the open segment as long as that has not more than the limit then.
func TestLimit(t *testing.T) {
	for _, limit := range []int{128, 129, 500, 16384, 16425, 20000, 1048575, 1048576} {
		for _, x := range []api.Entry{commit, {Tag: api.Delete, Key: api.ID{5}}, put(0), put(1), put(30)} {
			for over := -1; over <= 1; over++ {
				_, l := begin(t, api.MaxRoom, limit)
				size := frame.Size(x)
				entries := fill(t, l, limit+over-size)
				if over > 0 {
					goes(t, l, x, api.Place{Seg: 1, At: 8, Size: size})
					holds(t, l, 0, entries...)
					holds(t, l, 1, x)
				} else {
					goes(t, l, x, api.Place{Seg: 0, At: limit + over - size, Size: size})
					holds(t, l, 0, append(entries, x)...)
				}
			}
		}
	}
}

// P14.3, P14.4: the Commit goes where any entry of nine bytes would.
func TestLimitOfCommit(t *testing.T) {
	for over := -2; over <= 2; over++ {
		_, l := begin(t, 10000, 500)
		entries := fill(t, l, 500+over-9)
		if over > 0 {
			commits(t, l, 1)
			holds(t, l, 0, entries...)
			holds(t, l, 1, commit)
		} else {
			commits(t, l, 0)
			holds(t, l, 0, append(entries, commit)...)
		}
	}
}

// P14.3: an entry that is greater than any segment has one by itself.
func TestGreatEntries(t *testing.T) {
	_, l := begin(t, 100000, 128)
	goes(t, l, put(16384), api.Place{Seg: 0, At: 8, Size: 16425})
	goes(t, l, commit, api.Place{Seg: 1, At: 8, Size: 9})
	goes(t, l, put(80), api.Place{Seg: 2, At: 8, Size: 121})
	goes(t, l, put(79), api.Place{Seg: 3, At: 8, Size: 120})
	goes(t, l, put(16384), api.Place{Seg: 4, At: 8, Size: 16425})
	goes(t, l, put(70), api.Place{Seg: 5, At: 8, Size: 111})
	commits(t, l, 5)
	is(t, l, "0=16433 1=17 2=129 3=128 4=16433 5=128 next 6")
	holds(t, l, 4, put(16384))
	holds(t, l, 5, put(70), commit)
}

// P14.3: a segment that was committed, or opened, is filled no more.
func TestNotOpen(t *testing.T) {
	m, l := begin(t, 1000, 500)
	goes(t, l, put(1), api.Place{Seg: 0, At: 8, Size: 42})
	commits(t, l, 0)
	goes(t, l, put(2), api.Place{Seg: 1, At: 8, Size: 43})
	commits(t, l, 1)
	commits(t, l, 2)
	commits(t, l, 3)
	l = open(t, m, 500)
	commits(t, l, 4)
	holds(t, l, 0, put(1), commit)
	holds(t, l, 1, put(2), commit)
	holds(t, l, 4, commit)
	is(t, l, "0=59 1=60 2=17 3=17 4=17 next 5")
}

// wrongs are entries that have no bytes, each with its error.
var wrongs = []struct {
	x    api.Entry
	want api.Errno
}{
	{api.Entry{Tag: 3}, api.ErrForm},
	{api.Entry{Tag: -1}, api.ErrForm},
	{api.Entry{Tag: math.MaxInt}, api.ErrForm},
	{api.Entry{Tag: api.Delete, Data: []byte{1}}, api.ErrForm},
	{api.Entry{Tag: api.Commit, Data: []byte{1}}, api.ErrForm},
	{api.Entry{Tag: api.Commit, Key: api.ID{1}}, api.ErrForm},
	{api.Entry{Tag: api.Put, Data: make([]byte, 16385)}, api.ErrBig},
	{api.Entry{Tag: 3, Data: make([]byte, 16385)}, api.ErrForm},
}

// P14.3: entries that have no bytes change nothing, and are refused ahead of all else.
func TestAppendWrong(t *testing.T) {
	for _, c := range wrongs {
		m, l := begin(t, 100, 128)
		ok(t, m.Arm(0))
		errs(t, l, c.x, c.want)
		is(t, l, "next 0")
		ok(t, m.Arm(10))
		goes(t, l, put(10), api.Place{Seg: 0, At: 8, Size: 51})
		errs(t, l, c.x, c.want)
		is(t, l, "0=59 next 1 fresh 1")
		goes(t, l, commit, api.Place{Seg: 0, At: 59, Size: 9})
		ok(t, m.Arm(0))
		errs(t, l, c.x, c.want)
		does(t, "Sync", l.Sync(), api.ErrDead)
		errs(t, l, c.x, c.want)
	}
	m := medium(t, 1000)
	file(t, m, "seg.01048575", "")
	l := open(t, m, 128)
	for _, c := range wrongs {
		errs(t, l, c.x, c.want)
	}
	errs(t, l, put(1), api.ErrLimit)
}

// P14.3: without room for it in the open segment nothing is changed.
func TestAppendFullOpen(t *testing.T) {
	m, l := begin(t, 108, 128)
	goes(t, l, put(10), api.Place{Seg: 0, At: 8, Size: 51})
	errs(t, l, put(9), api.ErrFull)
	is(t, l, "0=59 next 1 fresh 1")
	goes(t, l, put(8), api.Place{Seg: 0, At: 59, Size: 49})
	commitErrs(t, l, api.ErrFull)
	is(t, l, "0=108 next 1 fresh 1")
	ok(t, m.SetRoom(117))
	commits(t, l, 0)
	holds(t, l, 0, put(10), put(8), commit)
}

// P14.3: without room for a new segment there is none, and none is open any more.
func TestAppendFullNew(t *testing.T) {
	for room := range 110 {
		m, l := begin(t, room, 128)
		if room < 17 {
			commitErrs(t, l, api.ErrFull)
		}
		if room < 109 {
			errs(t, l, put(60), api.ErrFull)
			is(t, l, "next 0")
			if files := m.List(); len(files) != 0 {
				t.Errorf("files: %q", files)
			}
			ok(t, m.SetRoom(109))
		}
		goes(t, l, put(60), api.Place{Seg: 0, At: 8, Size: 101})
		errs(t, l, put(0), api.ErrFull)
		is(t, l, "0=109 next 1 fresh 1")
		if files := m.List(); !slices.Equal(files, []string{"seg.00000000"}) {
			t.Errorf("files: %q", files)
		}
		ok(t, m.SetRoom(1000))
		goes(t, l, commit, api.Place{Seg: 1, At: 8, Size: 9})
		is(t, l, "0=109 1=17 next 2 fresh 2")
	}
}

// P14.3: where the power goes off at the Remove behind ErrFull, that is the answer.
func TestAppendFullPower(t *testing.T) {
	m, l := begin(t, 100, 128)
	ok(t, m.Arm(1))
	errs(t, l, put(60), api.ErrDead)
	is(t, l, "next 0")
	m, l = begin(t, 100, 128)
	ok(t, m.Arm(2))
	errs(t, l, put(60), api.ErrFull)
	does(t, "SyncDir", m.SyncDir(), api.ErrDead)
	m, l = begin(t, 120, 128)
	goes(t, l, put(60), api.Place{Seg: 0, At: 8, Size: 101})
	ok(t, m.Arm(2))
	errs(t, l, put(60), api.ErrDead)
	is(t, l, "0=109 next 1 fresh 1")
	m, l = begin(t, 120, 128)
	goes(t, l, put(60), api.Place{Seg: 0, At: 8, Size: 101})
	ok(t, m.Arm(3))
	errs(t, l, put(60), api.ErrFull)
	does(t, "SyncDir", m.SyncDir(), api.ErrDead)
}

// P14.3: the greatest number is itself allowed; behind it there is none.
func TestAppendLimit(t *testing.T) {
	m := medium(t, 1000)
	file(t, m, "seg.01048574", "")
	l := open(t, m, 128)
	goes(t, l, put(60), api.Place{Seg: 1048575, At: 8, Size: 101})
	is(t, l, "1048574=0 1048575=109 next 1048576 fresh 1")
	goes(t, l, commit, api.Place{Seg: 1048575, At: 109, Size: 9})
	errs(t, l, put(60), api.ErrLimit)
	errs(t, l, commit, api.ErrLimit) // it is open no more
	commitErrs(t, l, api.ErrLimit)
	is(t, l, "1048574=0 1048575=118 next 1048576 fresh 1")
	ok(t, l.Rollback())
	is(t, l, "1048574=0 next 1048575")
	commits(t, l, 1048575)
	commitErrs(t, l, api.ErrLimit)
	ok(t, m.Arm(0))
	does(t, "Sync", l.Sync(), api.ErrDead)
	commitErrs(t, l, api.ErrLimit)
	m.Crash(nil)
	l = open(t, m, 128)
	errs(t, l, put(60), api.ErrLimit)
	ok(t, l.Remove(1048575))
	goes(t, l, put(60), api.Place{Seg: 1048575, At: 8, Size: 101})
}

// P14.3: a file that the medium does not make is its error, and none is open any more.
func TestAppendNoFile(t *testing.T) {
	for _, many := range []bool{true, false} {
		m, l := begin(t, 1000, 128)
		goes(t, l, put(60), api.Place{Seg: 0, At: 8, Size: 101})
		name, want := "seg.00000001", api.ErrThere
		if many {
			name, want = "other", api.ErrLimit
			for i := range 498 {
				ok(t, m.Create("f"+segs.Name(i)))
			}
		}
		ok(t, m.Create(name))
		errs(t, l, put(60), want)
		is(t, l, "0=109 next 1 fresh 1")
		errs(t, l, commit, want) // though it would go into segment 0
		commitErrs(t, l, want)
		is(t, l, "0=109 next 1 fresh 1")
		ok(t, m.Remove(name))
		commits(t, l, 1)
		is(t, l, "0=109 1=17 next 2")
	}
}

// behind is a Log with an older segment, a fresh one, and an open one; of this nothing was synced.
func behind(t *testing.T) (*media.Medium, *segs.Log) {
	t.Helper()
	m, l := begin(t, 1000, 128)
	goes(t, l, put(1), api.Place{Seg: 0, At: 8, Size: 42})
	commits(t, l, 0)
	goes(t, l, put(60), api.Place{Seg: 1, At: 8, Size: 101})
	goes(t, l, put(59), api.Place{Seg: 2, At: 8, Size: 100})
	return m, l
}

// left answers what a medium has behind a crash of which nothing lasts that may be lost, but all names.
func left(m *media.Medium) []string {
	m.Crash([]int{99})
	var l []string
	for _, name := range m.List() {
		b, _ := m.All(name)
		l = append(l, name[4:]+"="+string(b))
	}
	return l
}

// has fails, unless that is left where all names last: each segment's bytes, by its number.
func has(t *testing.T, what string, m *media.Medium, want ...[]byte) {
	t.Helper()
	l := left(m)
	if len(l) != len(want) {
		t.Errorf("%s: %d files left, not %d", what, len(l), len(want))
		return
	}
	for i, b := range want {
		if l[i] != segs.Name(i)[4:]+"="+string(b) {
			t.Errorf("%s: %q is left, not %q", what, l[i], b)
		}
	}
}

// P14.3: what is ahead of a new segment is synced, and each step at which the power goes off leaves what it must.
func TestAppendSteps(t *testing.T) {
	first := bytesOf(put(1), commit)
	m, l := behind(t)
	if n := stepsOf(t, m, func() { goes(t, l, commit, api.Place{Seg: 2, At: 108, Size: 9}) }); n != 1 {
		t.Errorf("into the open one: %d steps", n)
	}
	m, l = behind(t)
	if n := stepsOf(t, m, func() { goes(t, l, put(0), api.Place{Seg: 3, At: 8, Size: 41}) }); n != 3 {
		t.Errorf("into a new one behind an open one: %d steps", n)
	}
	m, l = behind(t)
	ok(t, l.Remove(2))
	if n := stepsOf(t, m, func() { goes(t, l, put(0), api.Place{Seg: 2, At: 8, Size: 41}) }); n != 2 {
		t.Errorf("into a new one: %d steps", n)
	}
	for n := range 4 {
		m, l := behind(t)
		ok(t, m.Arm(n))
		if n < 3 {
			errs(t, l, put(2), api.ErrDead)
			is(t, l, "0=59 1=109 2=108 next 3 fresh 2")
		} else {
			goes(t, l, put(2), api.Place{Seg: 3, At: 8, Size: 43})
			is(t, l, "0=59 1=109 2=108 3=51 next 4 fresh 3")
		}
		switch n {
		case 0:
			has(t, "at Sync", m, first, bytesOf(put(60)), nil)
		case 1:
			has(t, "at Create", m, first, bytesOf(put(60)), bytesOf(put(59)))
		default:
			has(t, "at the append, or behind it", m, first, bytesOf(put(60)), bytesOf(put(59)), nil)
		}
	}
}

// P14.3: a new segment's Magic and its first entry come at once.
func TestAppendAtOnce(t *testing.T) {
	for n := range 3 {
		m, l := begin(t, 1000, 128)
		goes(t, l, put(9), api.Place{Seg: 0, At: 8, Size: 50})
		m.Crash([]int{1, n, 5})
		want := bytesOf(put(9))
		if n == 0 {
			want = want[:5]
		}
		if b, e := m.All("seg.00000000"); e != api.OK || !bytes.Equal(b, want) {
			t.Errorf("of %d changes %x is left, %d", n, b, e)
		}
	}
}

// P14.4: each step of a Commit: the entry, the Sync of its file, SyncDir.
func TestCommitSteps(t *testing.T) {
	first, second, third := bytesOf(put(1), commit), bytesOf(put(60)), bytesOf(put(59), commit)
	m, l := behind(t)
	if n := stepsOf(t, m, func() { commits(t, l, 2) }); n != 3 {
		t.Errorf("%d steps", n)
	}
	for n := range 4 {
		m, l := behind(t)
		ok(t, m.Arm(n))
		if n == 3 {
			commits(t, l, 2)
			is(t, l, "0=59 1=109 2=117 next 3")
			m.Crash(nil)
			has(t, "behind", m, first, second, third)
			continue
		}
		commitErrs(t, l, api.ErrDead)
		switch n {
		case 0:
			is(t, l, "0=59 1=109 2=108 next 3 fresh 2")
			has(t, "at the append", m, first, second, nil)
		case 1:
			is(t, l, "0=59 1=109 2=117 next 3 fresh 2")
			has(t, "at Sync", m, first, second, nil)
		case 2:
			is(t, l, "0=59 1=109 2=117 next 3 fresh 2")
			has(t, "at SyncDir", m, first, second, third)
		}
	}
	m, l = behind(t)
	ok(t, m.Arm(2))
	commitErrs(t, l, api.ErrDead)
	m.Crash(nil)
	has(t, "at SyncDir, and no name lasts", m, first)
}

// P14.4: a Commit for which the open one has no place has a segment of its own, and is answered by it.
func TestCommitAlone(t *testing.T) {
	m, l := begin(t, 1000, 128)
	goes(t, l, put(75), api.Place{Seg: 0, At: 8, Size: 116})
	goes(t, l, put(71), api.Place{Seg: 1, At: 8, Size: 112})
	if n := stepsOf(t, m, func() { commits(t, l, 2) }); n != 5 {
		t.Errorf("%d steps", n)
	}
	has(t, "behind", m, bytesOf(put(75)), bytesOf(put(71)), bytesOf(commit))
}

// P14.5: the fresh ones go, the last one first; the first error ends it.
func TestRollback(t *testing.T) {
	for n := range 5 {
		m, l := behind(t)
		goes(t, l, put(0), api.Place{Seg: 3, At: 8, Size: 41})
		ok(t, m.Arm(n))
		if n < 3 {
			does(t, "Rollback", l.Rollback(), api.ErrDead)
		} else {
			ok(t, l.Rollback())
		}
		is(t, l, []string{
			"0=59 1=109 2=108 3=49 next 4 fresh 3",
			"0=59 1=109 2=108 next 3 fresh 2",
			"0=59 1=109 next 2 fresh 1",
			"0=59 next 1", "0=59 next 1",
		}[n])
		if n < 4 {
			does(t, "Sync", l.Sync(), api.ErrDead) // it was no step of Rollback
		}
		names := []string{"seg.00000000", "seg.00000001", "seg.00000002", "seg.00000003"}
		m.Crash([]int{99})
		if files := m.List(); !slices.Equal(files, names[:4-min(n, 3)]) {
			t.Errorf("armed by %d: files %q", n, files)
		}
	}
	m, l := behind(t)
	ok(t, l.Rollback())
	goes(t, l, put(0), api.Place{Seg: 1, At: 8, Size: 41})
	holds(t, l, 0, put(1), commit)
	is(t, l, "0=59 1=49 next 2 fresh 1")
	ok(t, l.Rollback(), l.Rollback())
	commits(t, l, 1)
	has(t, "behind", m, bytesOf(put(1), commit), bytesOf(commit))
}

// P14.5: where a fresh file is gone, that is the medium's error, and those behind it are gone too.
func TestRollbackNoFile(t *testing.T) {
	m, l := behind(t)
	goes(t, l, put(0), api.Place{Seg: 3, At: 8, Size: 41})
	ok(t, m.Remove("seg.00000002"))
	does(t, "Rollback", l.Rollback(), api.ErrNone)
	is(t, l, "0=59 1=109 2=0 next 3 fresh 2")
	ok(t, m.Create("seg.00000002"), l.Rollback())
	is(t, l, "0=59 next 1")
}

// P14.6: older segments, fresh ones, the open one.
func TestRemove(t *testing.T) {
	m, l := behind(t)
	for _, n := range []int{-1, 3, 4, 1048575, 1048576, math.MinInt, math.MaxInt} {
		does(t, "Remove of none", l.Remove(n), api.ErrNone)
	}
	is(t, l, "0=59 1=109 2=108 next 3 fresh 2")
	ok(t, l.Remove(0))
	is(t, l, "1=109 2=108 next 3 fresh 2")
	does(t, "once more", l.Remove(0), api.ErrNone)
	none(t, l, api.Place{Seg: 0, At: 8, Size: 42}, api.ErrNone)
	goes(t, l, commit, api.Place{Seg: 2, At: 108, Size: 9}) // it is open as ever
	ok(t, l.Remove(1))
	is(t, l, "2=117 next 3 fresh 1")
	goes(t, l, commit, api.Place{Seg: 2, At: 117, Size: 9})
	ok(t, l.Remove(2))
	is(t, l, "next 0")
	goes(t, l, commit, api.Place{Seg: 0, At: 8, Size: 9}) // the open one is gone
	is(t, l, "0=17 next 1 fresh 1")
	if files := m.List(); !slices.Equal(files, []string{"seg.00000000"}) {
		t.Errorf("files: %q", files)
	}
	m, l = behind(t)
	ok(t, l.Remove(2))
	is(t, l, "0=59 1=109 next 2 fresh 1")
	goes(t, l, commit, api.Place{Seg: 2, At: 8, Size: 9}) // the last one is not open by that
	ok(t, l.Rollback())
	is(t, l, "0=59 next 1")
	m, l = behind(t)
	ok(t, l.Remove(1), l.Rollback())
	is(t, l, "0=59 next 1")
	m, l = behind(t)
	commits(t, l, 2)
	ok(t, l.Remove(2))
	is(t, l, "0=59 1=109 next 2")
	goes(t, l, put(0), api.Place{Seg: 2, At: 8, Size: 41})
	is(t, l, "0=59 1=109 2=49 next 3 fresh 1")
	ok(t, l.Rollback())
	is(t, l, "0=59 1=109 next 2")
	ok(t, l.Remove(0))
	is(t, l, "1=109 next 2")
}

// P14.6: it is one step, and lasts behind Sync.
func TestRemoveSteps(t *testing.T) {
	for n := range 3 {
		m, l := behind(t)
		commits(t, l, 2)
		ok(t, m.Arm(n))
		if n == 0 {
			does(t, "Remove", l.Remove(1), api.ErrDead)
			is(t, l, "0=59 1=109 2=117 next 3")
			continue
		}
		ok(t, l.Remove(1))
		want := "0=59 1=109 2=117 next 3"
		if n == 1 {
			does(t, "Sync", l.Sync(), api.ErrDead)
		} else {
			ok(t, l.Sync())
			want = "0=59 2=117 next 3"
		}
		is(t, l, "0=59 2=117 next 3")
		m.Crash(nil)
		is(t, open(t, m, 128), want)
	}
}

// P14.6: Sync makes names last, and no bytes.
func TestSync(t *testing.T) {
	m, l := begin(t, 1000, 128)
	ok(t, l.Sync())
	goes(t, l, put(60), api.Place{Seg: 0, At: 8, Size: 101})
	goes(t, l, put(59), api.Place{Seg: 1, At: 8, Size: 100})
	if n := stepsOf(t, m, func() { ok(t, l.Sync()) }); n != 1 {
		t.Errorf("%d steps", n)
	}
	is(t, open(t, m, 128), "0=109 1=0 next 2")
	m, l = begin(t, 1000, 128)
	goes(t, l, put(60), api.Place{Seg: 0, At: 8, Size: 101})
	ok(t, l.Sync())
	is(t, l, "0=109 next 1 fresh 1")
	goes(t, l, commit, api.Place{Seg: 0, At: 109, Size: 9}) // it is open as ever
}
