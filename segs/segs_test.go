package segs_test

import (
	"bytes"
	"math"
	"slices"
	"strconv"
	"strings"
	"testing"

	"hoard/api"
	"hoard/frame"
	"hoard/media"
	"hoard/segs"
)

// medium answers a medium of that room.
func medium(t *testing.T, room int) *media.Medium {
	t.Helper()
	m, e := media.New(room)
	if e != api.OK {
		t.Fatalf("New(%d): %d", room, e)
	}
	return m
}

// open answers a Log.
func open(t *testing.T, m *media.Medium, limit int) *segs.Log {
	t.Helper()
	l, e := segs.Open(m, limit)
	if l == nil || e != api.OK {
		t.Fatalf("Open by %d: %v, %d", limit, l, e)
	}
	return l
}

// begin answers a Log on a medium of its own.
func begin(t *testing.T, room, limit int) (*media.Medium, *segs.Log) {
	t.Helper()
	m := medium(t, room)
	return m, open(t, m, limit)
}

// file makes a file that lasts.
func file(t *testing.T, m *media.Medium, name, text string) {
	t.Helper()
	ok(t, m.Create(name), m.Append(name, []byte(text)), m.Sync(name), m.SyncDir())
}

// ok fails, unless nothing erred.
func ok(t *testing.T, l ...api.Errno) {
	t.Helper()
	for i, e := range l {
		if e != api.OK {
			t.Fatalf("call %d: %d", i, e)
		}
	}
}

// does fails, unless that is an error's number.
func does(t *testing.T, what string, got, want api.Errno) {
	t.Helper()
	if got != want {
		t.Errorf("%s: %d, not %d", what, got, want)
	}
}

// put answers a Put of so many bytes of data: an entry of 41 more.
func put(n int) api.Entry {
	x := api.Entry{Tag: api.Put, Key: api.ID{byte(n), 7}}
	for i := range n {
		x.Data = append(x.Data, byte(n+i))
	}
	return x
}

// state answers what a Log has, its open segment aside: 0=50 1=17 next 2 fresh 1.
func state(l *segs.Log) string {
	s := ""
	for _, n := range l.Segments() {
		s += strconv.Itoa(n) + "=" + strconv.Itoa(l.Size(n)) + " "
	}
	s += "next " + strconv.Itoa(l.Next())
	if n := l.Fresh(); n != 0 {
		s += " fresh " + strconv.Itoa(n)
	}
	return s
}

// is fails, unless a Log has just that.
func is(t *testing.T, l *segs.Log, want string) {
	t.Helper()
	if s := state(l); s != want {
		t.Errorf("it has %s; not %s", s, want)
	}
}

// goes fails, unless an entry goes to that place, and is read there.
func goes(t *testing.T, l *segs.Log, x api.Entry, want api.Place) {
	t.Helper()
	if p, e := l.Append(x); p != want || e != api.OK {
		t.Errorf("Append: %v, %d; not %v", p, e, want)
		return
	}
	reads(t, l, want, x)
}

// reads fails, unless that entry is read at a place.
func reads(t *testing.T, l *segs.Log, p api.Place, want api.Entry) {
	t.Helper()
	x, e := l.Read(p)
	if e != api.OK || x.Tag != want.Tag || x.Key != want.Key || !bytes.Equal(x.Data, want.Data) {
		t.Errorf("Read of %v: %v, %d; not %v", p, x, e, want)
	}
}

// errs fails, unless Append answers that error, and no place.
func errs(t *testing.T, l *segs.Log, x api.Entry, want api.Errno) {
	t.Helper()
	if p, e := l.Append(x); p != (api.Place{}) || e != want {
		t.Errorf("Append: %v, %d; not %d", p, e, want)
	}
}

// commits fails, unless a Commit goes to that segment.
func commits(t *testing.T, l *segs.Log, want int) {
	t.Helper()
	if n, e := l.Commit(); n != want || e != api.OK || l.Fresh() != 0 {
		t.Errorf("Commit: %d, %d, %d are fresh; not %d", n, e, l.Fresh(), want)
	}
}

// commitErrs fails, unless Commit answers that error.
func commitErrs(t *testing.T, l *segs.Log, want api.Errno) {
	t.Helper()
	if n, e := l.Commit(); n != 0 || e != want {
		t.Errorf("Commit: %d, %d; not %d", n, e, want)
	}
}

// bytesOf answers a segment's bytes that are made of these entries.
func bytesOf(l ...api.Entry) []byte {
	b := []byte("HOARDSEG")
	for _, x := range l {
		part, _ := frame.Encode(x)
		b = append(b, part...)
	}
	return b
}

// holds fails, unless a segment is made of just these entries.
func holds(t *testing.T, l *segs.Log, n int, entries ...api.Entry) {
	t.Helper()
	if b, e := l.Bytes(n); e != api.OK || !bytes.Equal(b, bytesOf(entries...)) {
		t.Errorf("segment %d: %x, %d", n, b, e)
	}
}

// commit is the entry that Commit appends.
var commit = api.Entry{Tag: api.Commit}

// stepsOf answers how many steps something takes.
func stepsOf(t *testing.T, m *media.Medium, do func()) int {
	t.Helper()
	ok(t, m.Arm(1000))
	do()
	left := 0
	for ; m.SyncDir() == api.OK; left++ {
	}
	m.Crash(nil)
	return 1000 - left
}

// P14.2: the medium's errors come ahead of the limit's.
func TestOpenErrors(t *testing.T) {
	off := medium(t, 100)
	ok(t, off.Arm(0))
	does(t, "SyncDir", off.SyncDir(), api.ErrDead)
	for _, limit := range []int{127, 128, 1 << 20, 1<<20 + 1, 0, -1, math.MinInt, math.MaxInt} {
		wrong := api.OK
		if limit < 128 || limit > 1048576 {
			wrong = api.ErrArg
		}
		for _, c := range []struct {
			m    *media.Medium
			want api.Errno
		}{{nil, api.ErrNil}, {&media.Medium{}, api.ErrNil}, {off, api.ErrDead}, {medium(t, 0), wrong}, {medium(t, 100), wrong}} {
			if l, e := segs.Open(c.m, limit); e != c.want || (l == nil) != (c.want != api.OK) {
				t.Errorf("Open by %d: %v, %d; not %d", limit, l, e, c.want)
			}
		}
	}
	off.Crash(nil)
	is(t, open(t, off, 128), "next 0")
}

// P14.2: of the segments that are there none is open, none is fresh, whoever made them, and however little they have.
func TestOpen(t *testing.T) {
	m, l := begin(t, 1000, 1000)
	goes(t, l, put(1), api.Place{Seg: 0, At: 8, Size: 42})
	is(t, l, "0=50 next 1 fresh 1")
	l = open(t, m, 1000)
	is(t, l, "0=50 next 1")
	goes(t, l, put(2), api.Place{Seg: 1, At: 8, Size: 43})
	ok(t, l.Rollback())
	is(t, l, "0=50 next 1")
	file(t, m, "seg.00000004", "")
	file(t, m, "seg.00000006", "HOARDSEG")
	l = open(t, m, 1000)
	is(t, l, "0=50 4=0 6=8 next 7")
	goes(t, l, commit, api.Place{Seg: 7, At: 8, Size: 9})
	is(t, l, "0=50 4=0 6=8 7=17 next 8 fresh 1")
}

// P14.2: Logs of media have nothing of one another.
func TestLogsApart(t *testing.T) {
	_, l := begin(t, 1000, 128)
	_, o := begin(t, 1000, 128)
	goes(t, l, put(1), api.Place{Seg: 0, At: 8, Size: 42})
	is(t, o, "next 0")
	goes(t, o, put(2), api.Place{Seg: 0, At: 8, Size: 43})
	ok(t, l.Remove(0))
	is(t, l, "next 0")
	is(t, o, "0=51 next 1 fresh 1")
}

// P14.2, P14.7: what only looks is no step.
func TestLookingIsNoStep(t *testing.T) {
	m, l := begin(t, 1000, 128)
	goes(t, l, put(60), api.Place{Seg: 0, At: 8, Size: 101})
	ok(t, m.Arm(0))
	open(t, m, 128)
	is(t, l, "0=109 next 1 fresh 1")
	holds(t, l, 0, put(60))
	reads(t, l, api.Place{Seg: 0, At: 8, Size: 101}, put(60))
	l.Read(api.Place{Seg: 0, At: 9, Size: 30})
	l.Bytes(1)
	does(t, "Remove of none", l.Remove(1), api.ErrNone)
	if !m.Power() {
		t.Error("the power is off")
	}
}

// P14.7: entries at their places, and what stands at others.
func TestRead(t *testing.T) {
	m, l := begin(t, 10000, 1000)
	entries := []api.Entry{put(0), put(60), {Tag: api.Delete, Key: api.ID{3}}, commit, put(1), commit}
	at := 8
	for _, x := range entries {
		p := api.Place{Seg: 0, At: at, Size: frame.Size(x)}
		goes(t, l, x, p)
		at += p.Size
	}
	commits(t, l, 0)
	all, _ := m.All("seg.00000000")
	for at := -2; at < len(all)+3; at++ {
		for n := -2; n < len(all)+3; n++ {
			wrong := api.ErrArg
			var want api.Entry
			if at >= 0 && n >= 0 {
				wrong = api.ErrShort
				if at+n <= len(all) {
					var size int
					want, size, wrong = frame.Read(all[at : at+n])
					if wrong == api.OK && size != n {
						want, wrong = api.Entry{}, api.ErrForm
					}
				}
			}
			x, e := l.Read(api.Place{Seg: 0, At: at, Size: n})
			if e != wrong || x.Tag != want.Tag || x.Key != want.Key || !bytes.Equal(x.Data, want.Data) {
				t.Fatalf("Read at %d of %d: %v, %d; not %v, %d", at, n, x, e, want, wrong)
			}
		}
	}
}

// none fails, unless the zero entry and that error are read at a place.
func none(t *testing.T, l *segs.Log, p api.Place, want api.Errno) {
	t.Helper()
	if x, e := l.Read(p); e != want || x.Tag != 0 || x.Key != (api.ID{}) || len(x.Data) != 0 {
		t.Errorf("Read of %v: %v, %d; not %d", p, x, e, want)
	}
}

// P14.7: each error of Read, and which comes first.
func TestReadErrors(t *testing.T) {
	m, l := begin(t, 10000, 1000)
	goes(t, l, put(5), api.Place{Seg: 0, At: 8, Size: 46})
	goes(t, l, commit, api.Place{Seg: 0, At: 54, Size: 9})
	for _, seg := range []int{-1, 1, 2, 1048575, 1048576, math.MinInt, math.MaxInt} {
		for _, at := range []int{-1, 8, 9, 1000} {
			none(t, l, api.Place{Seg: seg, At: at, Size: 46}, api.ErrNone)
		}
	}
	for _, c := range []struct {
		at, size int
		want     api.Errno
	}{
		{-1, 46, api.ErrArg}, {8, -1, api.ErrArg}, {math.MinInt, 46, api.ErrArg}, {8, math.MinInt, api.ErrArg}, {1000, -1, api.ErrArg},
		{54, 10, api.ErrShort}, {8, 56, api.ErrShort}, {63, 1, api.ErrShort}, {1000, 46, api.ErrShort}, {1000, 0, api.ErrShort},
		{8, math.MaxInt, api.ErrShort}, {math.MaxInt, 46, api.ErrShort}, {math.MaxInt, math.MaxInt, api.ErrShort},
		{8, 45, api.ErrShort}, {8, 8, api.ErrShort}, {8, 0, api.ErrShort}, {54, 8, api.ErrShort}, {63, 0, api.ErrShort},
		{0, 54, api.ErrForm}, {9, 46, api.ErrForm}, {6, 48, api.ErrForm}, {7, 47, api.ErrShort},
		{8, 47, api.ErrForm}, {8, 55, api.ErrForm},
	} {
		none(t, l, api.Place{Seg: 0, At: c.at, Size: c.size}, c.want)
	}
	m.Rot("seg.00000000", 60, 1) // the Commit's bytes behind its sum
	none(t, l, api.Place{Seg: 0, At: 54, Size: 9}, api.ErrForm)
	m.Rot("seg.00000000", 60, 1)
	for at := range 4 {
		m.Rot("seg.00000000", 8+at, 128)
		none(t, l, api.Place{Seg: 0, At: 8, Size: 46}, api.ErrSum)
		none(t, l, api.Place{Seg: 0, At: 8, Size: 55}, api.ErrSum)
		m.Rot("seg.00000000", 8+at, 128)
	}
	for at := range 37 {
		m.Rot("seg.00000000", 17+at, 16)
		none(t, l, api.Place{Seg: 0, At: 8, Size: 46}, api.ErrSum)
		m.Rot("seg.00000000", 17+at, 16)
	}
	reads(t, l, api.Place{Seg: 0, At: 8, Size: 46}, put(5))
	reads(t, l, api.Place{Seg: 0, At: 54, Size: 9}, commit)
	ok(t, m.Arm(0))
	does(t, "SyncDir", m.SyncDir(), api.ErrDead)
	none(t, l, api.Place{Seg: 0, At: 8, Size: 46}, api.ErrDead)
	none(t, l, api.Place{Seg: 0, At: -1, Size: -1}, api.ErrDead)
	none(t, l, api.Place{Seg: 1, At: 8, Size: 46}, api.ErrNone)
}

// P14.7: of segments that are there, and of those that are not, are not any more, or cannot be.
func TestBytesAndSize(t *testing.T) {
	m := medium(t, 1000)
	for _, n := range []int{1, 4, 1048575} {
		file(t, m, segs.Name(n), strings.Repeat("y", n%9))
	}
	l := open(t, m, 128)
	ok(t, l.Remove(4))
	for _, n := range []int{1, 1048575} {
		if b, e := l.Bytes(n); string(b) != strings.Repeat("y", n%9) || e != api.OK || l.Size(n) != n%9 {
			t.Errorf("segment %d: %q, %d; size %d", n, b, e, l.Size(n))
		}
	}
	for _, n := range []int{-1, 0, 2, 3, 4, 5, 1048574, 1048576, math.MinInt, math.MaxInt} {
		if b, e := l.Bytes(n); len(b) != 0 || e != api.ErrNone || l.Size(n) != 0 {
			t.Errorf("segment %d: %q, %d; size %d", n, b, e, l.Size(n))
		}
	}
}

// P14.7: what a segment has is what its file has, also where that was changed beside the Log.
func TestFilesAreAsked(t *testing.T) {
	m, l := begin(t, 1000, 128)
	goes(t, l, put(20), api.Place{Seg: 0, At: 8, Size: 61})
	ok(t, m.Truncate("seg.00000000", 30))
	is(t, l, "0=30 next 1 fresh 1")
	none(t, l, api.Place{Seg: 0, At: 8, Size: 61}, api.ErrShort)
	goes(t, l, put(57), api.Place{Seg: 0, At: 30, Size: 98})
	is(t, l, "0=128 next 1 fresh 1")
	ok(t, m.Remove("seg.00000000"))
	if b, e := l.Bytes(0); len(b) != 0 || e != api.ErrNone || l.Size(0) != 0 {
		t.Errorf("%q, %d; size %d", b, e, l.Size(0))
	}
	none(t, l, api.Place{Seg: 0, At: 8, Size: 61}, api.ErrNone)
	errs(t, l, put(1), api.ErrNone)
	does(t, "Remove", l.Remove(0), api.ErrNone)
	does(t, "Rollback", l.Rollback(), api.ErrNone)
}

// P14.7, R5: while the power is off a Log knows its segments, and can do nothing with them.
func TestPowerOff(t *testing.T) {
	m, l := begin(t, 1000, 128)
	goes(t, l, put(1), api.Place{Seg: 0, At: 8, Size: 42})
	commits(t, l, 0)
	goes(t, l, put(2), api.Place{Seg: 1, At: 8, Size: 43})
	ok(t, m.Arm(1))
	goes(t, l, put(3), api.Place{Seg: 1, At: 51, Size: 44})
	for range 3 {
		errs(t, l, put(4), api.ErrDead)
		errs(t, l, commit, api.ErrDead)
		commitErrs(t, l, api.ErrDead)
		does(t, "Rollback", l.Rollback(), api.ErrDead)
		does(t, "Remove", l.Remove(0), api.ErrDead)
		does(t, "Remove of the open one", l.Remove(1), api.ErrDead)
		does(t, "Remove of none", l.Remove(2), api.ErrNone)
		does(t, "Sync", l.Sync(), api.ErrDead)
		if b, e := l.Bytes(0); len(b) != 0 || e != api.ErrDead {
			t.Errorf("Bytes: %q, %d", b, e)
		}
		if b, e := l.Bytes(2); len(b) != 0 || e != api.ErrNone {
			t.Errorf("Bytes of none: %q, %d", b, e)
		}
		is(t, l, "0=59 1=95 next 2 fresh 1")
	}
	m.Crash(nil)
	l = open(t, m, 128)
	ok(t, m.Arm(0))
	does(t, "Sync", l.Sync(), api.ErrDead)
	is(t, l, "0=59 next 1")
}

// P14.5: where nothing is fresh nothing is to be done, also while the power is off.
func TestRollbackOfNothing(t *testing.T) {
	m, l := begin(t, 1000, 128)
	ok(t, l.Rollback())
	commits(t, l, 0)
	ok(t, l.Rollback(), m.Arm(0), l.Rollback())
	is(t, l, "0=17 next 1")
	does(t, "Sync", l.Sync(), api.ErrDead)
	ok(t, l.Rollback())
}

// R1: Logs that are nil, or that Open did not make.
func TestNoLog(t *testing.T) {
	for _, l := range []*segs.Log{nil, {}, new(segs.Log)} {
		for range 2 {
			errs(t, l, put(1), api.ErrNil)
			errs(t, l, api.Entry{Tag: 9}, api.ErrNil)
			commitErrs(t, l, api.ErrNil)
			does(t, "Rollback", l.Rollback(), api.ErrNil)
			does(t, "Remove", l.Remove(0), api.ErrNil)
			does(t, "Remove", l.Remove(-1), api.ErrNil)
			does(t, "Sync", l.Sync(), api.ErrNil)
			none(t, l, api.Place{}, api.ErrNil)
			if b, e := l.Bytes(0); len(b) != 0 || e != api.ErrNil {
				t.Errorf("Bytes: %q, %d", b, e)
			}
			if l.Next() != 0 || len(l.Segments()) != 0 || l.Fresh() != 0 || l.Size(0) != 0 {
				t.Errorf("it has %s", state(l))
			}
		}
	}
}

// R3: what is handed in is neither changed nor kept, answers are nobody else's.
func TestMemory(t *testing.T) {
	m, l := begin(t, 1000, 1000)
	data := []byte("abcdef")
	x := api.Entry{Tag: api.Put, Key: api.ID{1}, Data: data[:3]}
	p, _ := l.Append(x)
	q, _ := l.Append(x)
	if string(data) != "abcdef" || len(x.Data) != 3 {
		t.Errorf("handed in, and now %q", data)
	}
	data[0] = 'X'
	want := api.Entry{Tag: api.Put, Key: api.ID{1}, Data: []byte("abc")}
	holds(t, l, 0, want, want)
	one, _ := l.Read(p)
	other, _ := l.Read(p)
	b, _ := l.Bytes(0)
	numbers := l.Segments()
	clear(one.Data)
	clear(b)
	numbers[0] = 9
	_ = append(one.Data[:1], "12345"...)
	_ = append(numbers, 10)
	if string(other.Data) != "abc" {
		t.Errorf("read, and now %q", other.Data)
	}
	reads(t, l, p, want)
	reads(t, l, q, want)
	holds(t, l, 0, want, want)
	is(t, l, "0=96 next 1 fresh 1")
	numbers = l.Segments()
	commits(t, l, 0)
	goes(t, l, want, api.Place{Seg: 1, At: 8, Size: 44})
	ok(t, l.Remove(0))
	if !slices.Equal(numbers, []int{0}) {
		t.Errorf("answered, and now %d", numbers)
	}
	if files := m.List(); !slices.Equal(files, []string{"seg.00000001"}) {
		t.Errorf("files: %q", files)
	}
}
