package hints_test

import (
	"maps"
	"slices"
	"strconv"
	"strings"
	"testing"

	"hoard/api"
	"hoard/book"
	"hoard/frame"
	"hoard/hints"
	"hoard/media"
	"hoard/replay"
	"hoard/segs"
	"hoard/table"
)

// medium answers a medium of that room.
func medium(t *testing.T, room int) *media.Medium {
	t.Helper()
	m, e := media.New(room)
	if e != api.OK {
		t.Fatalf("New(%d): %d", room, e)
	}
	return m
}

// open answers a Log.
func open(t *testing.T, m *media.Medium) *segs.Log {
	t.Helper()
	l, e := segs.Open(m, 1000)
	if l == nil || e != api.OK {
		t.Fatalf("Open: %v, %d", l, e)
	}
	return l
}

// file makes a file that lasts.
func file(t *testing.T, m *media.Medium, name string, b []byte) {
	t.Helper()
	ok(t, m.Create(name), m.Append(name, b), m.Sync(name), m.SyncDir())
}

// off lets the power go off.
func off(t *testing.T, m *media.Medium) {
	t.Helper()
	ok(t, m.Arm(0))
	does(t, "SyncDir", m.SyncDir(), api.ErrDead)
}

// ok fails, unless nothing erred.
func ok(t *testing.T, l ...api.Errno) {
	t.Helper()
	for i, e := range l {
		if e != api.OK {
			t.Fatalf("call %d: %d", i, e)
		}
	}
}

// does fails, unless that is an error's number.
func does(t *testing.T, what string, got, want api.Errno) {
	t.Helper()
	if got != want {
		t.Errorf("%s: %d, not %d", what, got, want)
	}
}

// has fails, unless a medium has just these files.
func has(t *testing.T, what string, m *media.Medium, want ...string) {
	t.Helper()
	if got := m.List(); !slices.Equal(got, want) {
		t.Errorf("%s: %q, not %q", what, got, want)
	}
}

// newest fails, unless that is Newest.
func newest(t *testing.T, what string, m *media.Medium, want int) {
	t.Helper()
	if n := hints.Newest(m); n != want {
		t.Errorf("%s: Newest %d, not %d", what, n, want)
	}
}

// key answers a key.
func key(c byte) api.ID { return api.ID{5, c} }

// index answers an index: a key's byte, and its place.
func index(l map[byte]api.Place) *table.Table[api.Place] {
	t := table.New[api.Place]()
	for c, p := range l {
		t.Put(key(c), p)
	}
	return t
}

// indexBook answers an index as a book.
func indexBook(t *testing.T, x *table.Table[api.Place]) []byte {
	t.Helper()
	var l []api.Keyed
	for _, k := range x.Keys() {
		p, _ := x.Get(k)
		l = append(l, api.Keyed{Key: k, Place: p})
	}
	b, e := book.Index(l)
	ok(t, e)
	return b
}

// usesBook answers uses as a book.
func usesBook(t *testing.T, l ...api.Use) []byte {
	t.Helper()
	b, e := book.Uses(l)
	ok(t, e)
	return b
}

// show answers a state in words: last 0| a 0.8.42| 0=50/42|tail 1.
func show(s *replay.State) string {
	if s == nil {
		return "nil"
	}
	l := []string{"last " + strconv.Itoa(s.Last), ""}
	for k, p := range s.Index.All() {
		l[1] += " " + string(k[1:2]) + " " + strconv.Itoa(p.Seg) + "." + strconv.Itoa(p.At) + "." + strconv.Itoa(p.Size)
	}
	uses, tail := "", "tail"
	for _, u := range s.Uses {
		uses += " " + strconv.Itoa(u.Seg) + "=" + strconv.Itoa(u.Size) + "/" + strconv.Itoa(u.Live)
	}
	for _, n := range s.Tail {
		tail += " " + strconv.Itoa(n)
	}
	return strings.Join(append(l, uses, tail), "|")
}

// same tells whether two states say the same.
func same(a, b *replay.State) bool {
	return a.Last == b.Last && maps.Equal(maps.Collect(a.Index.All()), maps.Collect(b.Index.All())) &&
		slices.Equal(a.Uses, b.Uses) && slices.Equal(a.Tail, b.Tail)
}

// loads fails, unless Load answers that state.
func loads(t *testing.T, what string, m *media.Medium, n int, want string) {
	t.Helper()
	s, e := hints.Load(open(t, m), m, n)
	if got := show(s); got != want || e != api.OK {
		t.Errorf("%s: %s, %d; not %s", what, got, e, want)
	}
}

// fails fails, unless Load answers no state and that error.
func fails(t *testing.T, what string, m *media.Medium, n int, want api.Errno) {
	t.Helper()
	if s, e := hints.Load(open(t, m), m, n); s != nil || e != want {
		t.Errorf("%s: %s, %d; not %d", what, show(s), e, want)
	}
}

// put answers a Put of so many bytes of data: an entry of 41 more.
func put(c byte, n int) api.Entry {
	return api.Entry{Key: key(c), Data: []byte(strings.Repeat(string(rune(c)), n))}
}

// transaction commits entries.
func transaction(t *testing.T, l *segs.Log, entries ...api.Entry) {
	t.Helper()
	for _, x := range entries {
		_, e := l.Append(x)
		ok(t, e)
	}
	_, e := l.Commit()
	ok(t, e)
}

// state answers what a medium's segments say.
func state(t *testing.T, m *media.Medium) *replay.State {
	t.Helper()
	s, _, e := replay.Run(open(t, m))
	ok(t, e)
	return s
}

// three answers a medium of three segments, and their state: a Put that was put anew, one that was deleted, one that
// stays, and one that was not committed.
func three(t *testing.T) (*media.Medium, *replay.State) {
	t.Helper()
	m := medium(t, 1<<20)
	l := open(t, m)
	transaction(t, l, put('a', 3), put('b', 0), put('c', 9))
	transaction(t, l, put('a', 5), api.Entry{Tag: api.Delete, Key: key('b')})
	_, e := l.Append(put('d', 1))
	ok(t, e, m.Sync(segs.Name(2)), m.SyncDir())
	return m, state(t, m)
}

// threeSaid is their state.
const threeSaid = "last 1| a 1.8.46 c 0.93.50| 0=152/50 1=104/87|tail 2"

// P16.1 to P16.4: the state of three segments, saved, loaded and taken away.
func TestThree(t *testing.T) {
	m, s := three(t)
	if got := show(s); got != threeSaid {
		t.Fatalf("%s; not %s", got, threeSaid)
	}
	fails(t, "the example", m, 1, api.ErrNone)
	newest(t, "without any", m, -1)
	does(t, "Save", hints.Save(m, s), api.OK)
	newest(t, "saved", m, 1)
	has(t, "saved", m, "idx.00000001", "seg.00000000", "seg.00000001", "seg.00000002", "use.00000001")
	loads(t, "saved", m, 1, threeSaid)
	for _, n := range []int{-1, 0, 2, 1 << 20, 1<<20 + 1} {
		fails(t, "of "+strconv.Itoa(n), m, n, api.ErrNone)
	}
	want := indexBook(t, index(map[byte]api.Place{'a': {Seg: 1, At: 8, Size: 46}, 'c': {Seg: 0, At: 93, Size: 50}}))
	if b, e := m.All("idx.00000001"); string(b) != string(want) || e != api.OK {
		t.Errorf("the index: %x, %d; not %x", b, e, want)
	}
	want = usesBook(t, api.Use{Seg: 0, Size: 152, Live: 50}, api.Use{Seg: 1, Size: 104, Live: 87})
	if b, e := m.All("use.00000001"); string(b) != string(want) || e != api.OK {
		t.Errorf("the uses: %x, %d; not %x", b, e, want)
	}
	does(t, "Clean", hints.Clean(m), api.OK)
	has(t, "clean", m, "seg.00000000", "seg.00000001", "seg.00000002")
	newest(t, "clean", m, -1)
	fails(t, "clean", m, 1, api.ErrNone)
}

// P16.2: what Save made lasts, but that the elder ones may come back.
func TestSavedLasts(t *testing.T) {
	m, s := three(t)
	file(t, m, hints.IndexName(0), []byte("x"))
	file(t, m, hints.UsesName(9), []byte("x"))
	does(t, "Save", hints.Save(m, s), api.OK)
	has(t, "saved", m, "idx.00000001", "seg.00000000", "seg.00000001", "seg.00000002", "use.00000001")
	m.Crash(nil)
	has(t, "behind a crash of which nothing lasts", m,
		"idx.00000000", "idx.00000001", "seg.00000000", "seg.00000001", "seg.00000002", "use.00000001", "use.00000009")
	loads(t, "behind a crash", m, 1, threeSaid)
}

// P16.5: states without objects, and with all keys that differ in one byte, are loaded as they were.
func TestOtherStates(t *testing.T) {
	m := medium(t, 1<<20)
	l := open(t, m)
	transaction(t, l)
	ok(t, hints.Save(m, state(t, m)))
	loads(t, "a Commit alone", m, 0, "last 0|| 0=17/0|tail")
	var entries []api.Entry
	for i := range 32 {
		for _, c := range []byte{1, 128} {
			x := api.Entry{Data: make([]byte, i)}
			x.Key[i] = c
			entries = append(entries, x)
		}
	}
	transaction(t, l, append(entries, api.Entry{})...)
	want := state(t, m)
	ok(t, hints.Save(m, want))
	got, e := hints.Load(l, m, want.Last)
	if e != api.OK || !same(got, want) || got.Index.Len() != 65 {
		t.Errorf("%s, %d; not %s", show(got), e, show(want))
	}
	for i, x := range entries {
		p, _ := got.Index.Get(x.Key)
		if y, e := l.Read(p); y.Key != x.Key || len(y.Data) != i/2 || e != api.OK {
			t.Errorf("%x: %v at %v, %d", x.Key, y, p, e)
		}
	}
}

// R1, P16.2 to P16.4: of what is nil, or was made by nobody.
func TestNobodys(t *testing.T) {
	m, s := three(t)
	ok(t, hints.Save(m, s))
	l := open(t, m)
	for _, z := range []*media.Medium{nil, {}} {
		does(t, "Save", hints.Save(z, s), api.ErrNil)
		does(t, "Save of no commit", hints.Save(z, &replay.State{Last: -1, Index: s.Index}), api.ErrNil)
		does(t, "Clean", hints.Clean(z), api.ErrNil)
		newest(t, "nobody's", z, -1)
		if x, e := hints.Load(l, z, 1); x != nil || e != api.ErrNil {
			t.Errorf("Load: %s, %d", show(x), e)
		}
	}
	for _, z := range []*replay.State{nil, {}, {Last: -1}, {Last: 1, Uses: s.Uses}, {Last: 1, Uses: make([]api.Use, 1<<16+1)},
		{Last: 1, Index: new(table.Table[api.Place]), Uses: s.Uses}} {
		does(t, "Save", hints.Save(m, z), api.ErrNil)
		does(t, "Save", hints.Save(nil, z), api.ErrNil)
	}
	does(t, "Save of too much", hints.Save(nil, &replay.State{Last: 1, Index: many(65537, api.Place{})}), api.ErrNil)
	loads(t, "behind that", m, 1, threeSaid)
	off(t, m)
	for _, z := range []*segs.Log{nil, {}} {
		if x, e := hints.Load(z, m, 1); x != nil || e != api.ErrNil {
			t.Errorf("Load: %s, %d", show(x), e)
		}
	}
	does(t, "Save", hints.Save(m, nil), api.ErrNil)
	does(t, "Save", hints.Save(m, &replay.State{}), api.ErrNil)
}

// P16.3, P16.4, R5: while the power is off.
func TestDead(t *testing.T) {
	m, s := three(t)
	ok(t, hints.Save(m, s))
	l := open(t, m)
	off(t, m)
	for _, n := range []int{1, 0, -1, 1 << 20} {
		if x, e := hints.Load(l, m, n); x != nil || e != api.ErrDead {
			t.Errorf("Load(%d): %s, %d", n, show(x), e)
		}
	}
	does(t, "Save", hints.Save(m, s), api.ErrDead)
	does(t, "Clean", hints.Clean(m), api.ErrDead)
	newest(t, "off", m, -1)
	m.Crash(nil)
	loads(t, "on again", m, 1, threeSaid)
	m = medium(t, 10)
	off(t, m)
	does(t, "Clean of nothing", hints.Clean(m), api.ErrDead)
}

// P16.3, P16.4: looking is no step, and changes nothing.
func TestLooking(t *testing.T) {
	m, s := three(t)
	ok(t, hints.Save(m, s))
	files := m.List()
	ok(t, m.Arm(0))
	loads(t, "armed", m, 1, threeSaid)
	fails(t, "armed", m, 0, api.ErrNone)
	newest(t, "armed", m, 1)
	has(t, "armed", m, files...)
	m = medium(t, 10)
	ok(t, m.Arm(0))
	does(t, "Clean of nothing", hints.Clean(m), api.OK)
	does(t, "SyncDir", m.SyncDir(), api.ErrDead)
}

// R3, R4: what is saved is not kept, and each answer is memory of its own.
func TestNewMemory(t *testing.T) {
	m, s := three(t)
	slots, uses := s.Index.Cap(), slices.Clone(s.Uses)
	ok(t, hints.Save(m, s))
	if got := show(s); got != threeSaid || s.Index.Cap() != slots || !slices.Equal(s.Uses, uses) {
		t.Errorf("what was saved: %s; not %s", got, threeSaid)
	}
	l := open(t, m)
	a, _ := hints.Load(l, m, 1)
	b, _ := hints.Load(l, m, 1)
	for _, x := range []*replay.State{s, a} {
		x.Index.Put(key('a'), api.Place{Seg: 9})
		x.Index.Put(key('z'), api.Place{Seg: 9})
		x.Uses[0], x.Tail[0], x.Last = api.Use{Seg: 9}, 9, 9
		_ = append(x.Tail[:1], 8)
		_ = append(x.Uses[:1], api.Use{Seg: 8})
	}
	if got := show(b); got != threeSaid {
		t.Errorf("%s; not %s", got, threeSaid)
	}
	if got := l.Segments(); !slices.Equal(got, []int{0, 1, 2}) {
		t.Errorf("segments %d", got)
	}
	loads(t, "again", m, 1, threeSaid)
}

// The chapter's numbers are those of the layers below.
func TestLeast(t *testing.T) {
	if len(frame.Magic) != 8 || frame.Size(api.Entry{}) != 41 {
		t.Error("an entry's place is from 8 on, and has 41 bytes at least")
	}
}
