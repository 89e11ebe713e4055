package media_test

import (
	"bytes"
	"math"
	"slices"
	"strconv"
	"strings"
	"testing"

	"hoard/api"
	"hoard/media"
)

// fresh answers a medium of that room.
func fresh(t *testing.T, room int) *media.Medium {
	t.Helper()
	m, e := media.New(room)
	if m == nil || e != api.OK {
		t.Fatalf("New(%d): %v, %d", room, m, e)
	}
	return m
}

// does fails, unless that is an error's number.
func does(t *testing.T, what string, got, want api.Errno) {
	t.Helper()
	if got != want {
		t.Errorf("%s: %d, not %d", what, got, want)
	}
}

// ok fails, unless nothing erred.
func ok(t *testing.T, l ...api.Errno) {
	t.Helper()
	for i, e := range l {
		if e != api.OK {
			t.Fatalf("call %d: %d", i, e)
		}
	}
}

// told answers all names and bytes of a medium whose power is on, as one text: a=xy b=.
func told(t *testing.T, m *media.Medium) string {
	t.Helper()
	var l []string
	used := 0
	for _, name := range m.List() {
		b, e := m.All(name)
		n, e2 := m.Size(name)
		if e != api.OK || e2 != api.OK || n != len(b) {
			t.Errorf("%s: %d bytes, %d; size %d, %d", name, len(b), e, n, e2)
		}
		used += n
		l = append(l, name+"="+string(b))
	}
	if m.Used() != used {
		t.Errorf("used: %d, not %d", m.Used(), used)
	}
	return strings.Join(l, " ")
}

// has fails, unless a medium has just these names and bytes.
func has(t *testing.T, m *media.Medium, want string) {
	t.Helper()
	if s := told(t, m); s != want {
		t.Errorf("there is %q, not %q", s, want)
	}
}

// crashed answers what a medium has behind a crash by these numbers.
func crashed(t *testing.T, m *media.Medium, l ...int) string {
	t.Helper()
	m.Crash(l)
	return told(t, m)
}

// P6.1
func TestNew(t *testing.T) {
	for _, room := range []int{0, 1, 1000, api.MaxRoom - 1, api.MaxRoom} {
		m := fresh(t, room)
		if m.Room() != room || !m.Power() || m.Used() != 0 || len(m.List()) != 0 {
			t.Errorf("New(%d): room %d, power %v, %d used, names %q", room, m.Room(), m.Power(), m.Used(), m.List())
		}
		if s := crashed(t, m, 9, 9, 9); s != "" {
			t.Errorf("behind a crash: %q", s)
		}
	}
	for _, room := range []int{-1, api.MaxRoom + 1, math.MinInt, math.MaxInt} {
		if m, e := media.New(room); m != nil || e != api.ErrArg {
			t.Errorf("New(%d): %v, %d", room, m, e)
		}
	}
}

// P6.1: media have nothing of one another.
func TestMediaApart(t *testing.T) {
	m, o := fresh(t, 10), fresh(t, 10)
	ok(t, m.Create("a"), m.Append("a", []byte("x")), m.Arm(0))
	has(t, o, "")
	ok(t, o.Create("a"))
	has(t, o, "a=")
}

// names are bytes that each alone may be a name.
const names = "abcdefghijklmnopqrstuvwxyz0123456789.-"

// P6.2: each byte alone, and among others, at all places.
func TestNames(t *testing.T) {
	for c := range 256 {
		b := string([]byte{byte(c)})
		want := api.ErrName
		if strings.Contains(names, b) {
			want = api.OK
		}
		for _, name := range []string{b, b + "xy", "x" + b + "y", "xy" + b} {
			m := fresh(t, 0)
			does(t, "Create "+strconv.Quote(name), m.Create(name), want)
			m = fresh(t, 0)
			ok(t, m.Create("from"))
			does(t, "Rename to "+strconv.Quote(name), m.Rename("from", name), want)
		}
	}
	for n := range 60 {
		name := strings.Repeat("n", n)
		want := api.ErrName
		if n >= 1 && n <= 24 {
			want = api.OK
		}
		m := fresh(t, 0)
		does(t, "Create of "+strconv.Itoa(n)+" bytes", m.Create(name), want)
		m = fresh(t, 0)
		ok(t, m.Create("from"))
		does(t, "Rename to "+strconv.Itoa(n)+" bytes", m.Rename("from", name), want)
	}
}

// P6.2
func TestCreate(t *testing.T) {
	m := fresh(t, 100)
	ok(t, m.Create("b"), m.Create("a"), m.Append("a", []byte("xy")))
	does(t, "a again", m.Create("a"), api.ErrThere)
	does(t, "no name", m.Create("A"), api.ErrName)
	has(t, m, "a=xy b=")
	ok(t, m.Remove("a"), m.Create("a"))
	has(t, m, "a= b=")
}

// P6.2: as many files as may be, and one more.
func TestCreateLimit(t *testing.T) {
	m := fresh(t, 0)
	for i := range api.MaxFiles {
		ok(t, m.Create("f"+strconv.Itoa(i)))
	}
	does(t, "one more", m.Create("one"), api.ErrLimit)
	does(t, "one more that is no name", m.Create("ONE"), api.ErrName)
	does(t, "one more that is there", m.Create("f7"), api.ErrThere)
	if len(m.List()) != api.MaxFiles {
		t.Errorf("%d files", len(m.List()))
	}
	ok(t, m.Rename("f7", "g"))
	does(t, "one more behind a Rename", m.Create("one"), api.ErrLimit)
	ok(t, m.Remove("g"), m.Create("one"))
	does(t, "one more behind a Remove", m.Create("two"), api.ErrLimit)
	ok(t, m.Rename("one", "f8"), m.Create("two"))
	does(t, "one more behind a Rename over another", m.Create("three"), api.ErrLimit)
}

// P6.2: the room is all files'.
func TestAppend(t *testing.T) {
	m := fresh(t, 10)
	does(t, "no file", m.Append("a", nil), api.ErrNone)
	does(t, "no file, and no room", m.Append("a", make([]byte, 11)), api.ErrNone)
	ok(t, m.Create("a"), m.Create("b"))
	does(t, "eleven", m.Append("a", make([]byte, 11)), api.ErrFull)
	has(t, m, "a= b=")
	ok(t, m.Append("a", []byte("12")), m.Append("b", []byte("345")), m.Append("a", []byte("6")), m.Append("a", nil))
	has(t, m, "a=126 b=345")
	does(t, "five more", m.Append("b", []byte("78901")), api.ErrFull)
	ok(t, m.Append("b", []byte("7890")), m.Append("a", nil), m.Append("a", []byte{}))
	has(t, m, "a=126 b=3457890")
	does(t, "one more", m.Append("a", []byte("1")), api.ErrFull)
	ok(t, m.Truncate("b", 2), m.Append("a", []byte("12345")))
	has(t, m, "a=12612345 b=34")
	ok(t, m.Remove("a"), m.Append("b", []byte("12345678")))
	does(t, "one more", m.Append("b", []byte("1")), api.ErrFull)
	ok(t, m.Create("c"), m.Rename("c", "b"), m.Append("b", make([]byte, 10)))
}

// P6.2: a whole medium of the greatest room.
func TestAppendGreatestRoom(t *testing.T) {
	m := fresh(t, api.MaxRoom)
	ok(t, m.Create("a"), m.Append("a", make([]byte, api.MaxRoom-1)), m.Create("b"), m.Append("b", []byte{1}))
	does(t, "one more", m.Append("a", []byte{1}), api.ErrFull)
	if m.Used() != api.MaxRoom {
		t.Errorf("used: %d", m.Used())
	}
}

// P6.2
func TestTruncate(t *testing.T) {
	m := fresh(t, 10)
	does(t, "no file", m.Truncate("a", 0), api.ErrNone)
	does(t, "no file, and no size", m.Truncate("a", -1), api.ErrNone)
	ok(t, m.Create("a"), m.Append("a", []byte("12345")))
	for _, n := range []int{-1, 6, math.MinInt, math.MaxInt} {
		does(t, "Truncate to "+strconv.Itoa(n), m.Truncate("a", n), api.ErrArg)
	}
	has(t, m, "a=12345")
	ok(t, m.Truncate("a", 5))
	has(t, m, "a=12345")
	ok(t, m.Truncate("a", 2))
	has(t, m, "a=12")
	does(t, "more than is left", m.Truncate("a", 3), api.ErrArg)
	ok(t, m.Append("a", []byte("x")))
	has(t, m, "a=12x")
	ok(t, m.Truncate("a", 0), m.Truncate("a", 0))
	has(t, m, "a=")
}

// P6.2
func TestRename(t *testing.T) {
	m := fresh(t, 20)
	does(t, "no file", m.Rename("a", "b"), api.ErrNone)
	does(t, "no file, no name", m.Rename("a", "B"), api.ErrNone)
	does(t, "no name of a file", m.Rename("A", "b"), api.ErrNone)
	ok(t, m.Create("a"), m.Append("a", []byte("aa")), m.Create("b"), m.Append("b", []byte("bbb")))
	does(t, "no name", m.Rename("a", ""), api.ErrName)
	has(t, m, "a=aa b=bbb")
	ok(t, m.Rename("a", "c"))
	has(t, m, "b=bbb c=aa")
	does(t, "what was renamed", m.Rename("a", "d"), api.ErrNone)
	ok(t, m.Rename("c", "b"))
	has(t, m, "b=aa")
	ok(t, m.Rename("b", "b"))
	has(t, m, "b=aa")
	ok(t, m.Append("b", []byte("x")), m.Create("a"))
	has(t, m, "a= b=aax")
}

// P6.2
func TestRemove(t *testing.T) {
	m := fresh(t, 20)
	does(t, "no file", m.Remove("a"), api.ErrNone)
	does(t, "no name", m.Remove(""), api.ErrNone)
	ok(t, m.Create("a"), m.Append("a", []byte("aa")), m.Create("b"), m.Remove("a"))
	has(t, m, "b=")
	does(t, "once more", m.Remove("a"), api.ErrNone)
	does(t, "Append", m.Append("a", nil), api.ErrNone)
	does(t, "Sync", m.Sync("a"), api.ErrNone)
	ok(t, m.Sync("b"), m.SyncDir(), m.SyncDir())
	has(t, m, "b=")
}

// P6.2: all pieces of a file, and those that it does not have.
func TestRead(t *testing.T) {
	m := fresh(t, 20)
	for _, n := range []int{0, -1, 5} {
		if b, e := m.Read("a", n, n); len(b) != 0 || e != api.ErrNone {
			t.Errorf("no file, %d: %q, %d", n, b, e)
		}
	}
	text := "hello"
	ok(t, m.Create("a"), m.Append("a", []byte(text)), m.Create("empty"))
	for at := -2; at < 9; at++ {
		for n := -2; n < 9; n++ {
			want, err := "", api.OK
			switch {
			case at < 0 || n < 0:
				err = api.ErrArg
			case at+n > len(text):
				err = api.ErrShort
			default:
				want = text[at : at+n]
			}
			if b, e := m.Read("a", at, n); string(b) != want || e != err {
				t.Errorf("Read(%d, %d): %q, %d; not %q, %d", at, n, b, e, want, err)
			}
		}
	}
	for _, c := range []struct {
		at, n int
		err   api.Errno
	}{
		{math.MaxInt, math.MaxInt, api.ErrShort},
		{1, math.MaxInt, api.ErrShort},
		{math.MaxInt, 1, api.ErrShort},
		{math.MinInt, 1, api.ErrArg},
		{1, math.MinInt, api.ErrArg},
		{math.MaxInt, math.MinInt, api.ErrArg},
	} {
		if b, e := m.Read("a", c.at, c.n); len(b) != 0 || e != c.err {
			t.Errorf("Read(%d, %d): %q, %d", c.at, c.n, b, e)
		}
	}
	if b, e := m.Read("empty", 0, 0); len(b) != 0 || e != api.OK {
		t.Errorf("nothing of nothing: %q, %d", b, e)
	}
}

// P6.2
func TestAllAndSize(t *testing.T) {
	m := fresh(t, 20)
	if b, e := m.All("a"); len(b) != 0 || e != api.ErrNone {
		t.Errorf("All: %q, %d", b, e)
	}
	if n, e := m.Size("a"); n != 0 || e != api.ErrNone {
		t.Errorf("Size: %d, %d", n, e)
	}
	ok(t, m.Create("a"), m.Append("a", []byte{0, 255, 10}))
	if b, e := m.All("a"); !bytes.Equal(b, []byte{0, 255, 10}) || e != api.OK {
		t.Errorf("All: %q, %d", b, e)
	}
	if n, e := m.Size("a"); n != 3 || e != api.OK {
		t.Errorf("Size: %d, %d", n, e)
	}
}

// P6.2: names rise byte by byte, however they came.
func TestList(t *testing.T) {
	m := fresh(t, 0)
	want := strings.Fields("- -a . .. 0 10 9 a a- a. a0 aa b seg.00000009 seg.00000010 z")
	for i := range want {
		ok(t, m.Create(want[(i*7+3)%len(want)]))
	}
	slices.Sort(want)
	for range 20 {
		if l := m.List(); !slices.Equal(l, want) {
			t.Fatalf("%q, not %q", l, want)
		}
	}
}

// P6.2
func TestSetRoom(t *testing.T) {
	m := fresh(t, 10)
	ok(t, m.Create("a"), m.Append("a", []byte("12345")))
	for _, n := range []int{-1, api.MaxRoom + 1, math.MinInt, math.MaxInt} {
		does(t, "SetRoom "+strconv.Itoa(n), m.SetRoom(n), api.ErrArg)
		if m.Room() != 10 {
			t.Errorf("room: %d", m.Room())
		}
	}
	for _, n := range []int{api.MaxRoom, 0, 4} {
		ok(t, m.SetRoom(n))
		if m.Room() != n {
			t.Errorf("room: %d, not %d", m.Room(), n)
		}
		has(t, m, "a=12345")
	}
	does(t, "one more", m.Append("a", []byte("6")), api.ErrFull)
	does(t, "none more, though there are too many", m.Append("a", nil), api.ErrFull)
	ok(t, m.SetRoom(5), m.Append("a", nil))
	does(t, "one more", m.Append("a", []byte("6")), api.ErrFull)
	ok(t, m.SetRoom(6), m.Append("a", []byte("6")), m.SetRoom(1), m.Truncate("a", 0), m.Append("a", []byte("x")))
	has(t, m, "a=x")
	m.Crash(nil)
	if m.Room() != 1 {
		t.Errorf("room behind a crash: %d", m.Room())
	}
}

// R3: bytes handed in are neither changed nor kept, answers are nobody else's.
func TestMemory(t *testing.T) {
	m := fresh(t, 100)
	b, l := []byte("abc"), []int{7, 7, 7}
	ok(t, m.Create("a"), m.Append("a", b[:2]), m.SyncDir())
	if string(b) != "abc" {
		t.Errorf("handed in, and now %q", b)
	}
	b[0] = 'X'
	has(t, m, "a=ab")
	all, _ := m.All("a")
	piece, _ := m.Read("a", 0, 2)
	list := m.List()
	all[0], piece[1], list[0] = 'Y', 'Z', "other"
	_ = append(all[:1], "1234"...)
	_ = append(piece[:1], "1234"...)
	has(t, m, "a=ab")
	m.Crash(l)
	if !slices.Equal(l, []int{7, 7, 7}) {
		t.Errorf("handed in, and now %d", l)
	}
	all[0], piece[1], b[1] = '1', '2', '3'
	has(t, m, "a=ab")
	ok(t, m.Append("a", []byte("cd")))
	if s := crashed(t, m); s != "a=ab" {
		t.Errorf("behind crashes: %q", s)
	}
}

// refuses fails, unless all calls of a medium that answer an error answer that one, and the others nothing but the
// room.
func refuses(t *testing.T, m *media.Medium, want api.Errno, room int) {
	t.Helper()
	for i, e := range []api.Errno{
		m.Create("c"), m.Create("A"), m.Append("a", nil), m.Truncate("a", -1), m.Rename("a", "b"), m.Remove("a"),
		m.Remove("no"), m.Sync("a"), m.SyncDir(), m.SetRoom(7), m.SetRoom(-1), m.Arm(3), m.Arm(-1),
	} {
		if e != want {
			t.Errorf("call %d: %d, not %d", i, e, want)
		}
	}
	if b, e := m.Read("a", -1, 0); len(b) != 0 || e != want {
		t.Errorf("Read: %q, %d", b, e)
	}
	if b, e := m.All("a"); len(b) != 0 || e != want {
		t.Errorf("All: %q, %d", b, e)
	}
	if n, e := m.Size("a"); n != 0 || e != want {
		t.Errorf("Size: %d, %d", n, e)
	}
	if len(m.List()) != 0 || m.Used() != 0 || m.Room() != room || m.Power() {
		t.Errorf("names %q, %d used, room %d, power %v", m.List(), m.Used(), m.Room(), m.Power())
	}
}

// R1
func TestNoMedium(t *testing.T) {
	for _, m := range []*media.Medium{nil, {}} {
		for _, l := range [][]int{nil, {1, 2, 3}} {
			refuses(t, m, api.ErrNil, 0)
			if m.Rot("a", 0, 1) {
				t.Error("Rot")
			}
			m.Crash(l)
		}
		refuses(t, m, api.ErrNil, 0)
	}
}
