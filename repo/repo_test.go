package repo_test

import (
	"bytes"
	"math"
	"slices"
	"strconv"
	"strings"
	"testing"

	"hoard/api"
	"hoard/hints"
	"hoard/media"
	"hoard/replay"
	"hoard/repo"
	"hoard/segs"
	"hoard/table"
)

// medium answers a medium of that room.
func medium(t *testing.T, room int) *media.Medium {
	t.Helper()
	m, e := media.New(room)
	if e != api.OK {
		t.Fatalf("New(%d): %d", room, e)
	}
	return m
}

// open answers the repository of a medium.
func open(t *testing.T, m *media.Medium, segment int) *repo.Repo {
	t.Helper()
	r, fault, e := repo.Open(m, segment)
	if r == nil || fault != (api.Fault{}) || e != api.OK {
		t.Fatalf("Open: %v, %v, %d", r, fault, e)
	}
	return r
}

// begin answers a repository of a new medium.
func begin(t *testing.T) (*media.Medium, *repo.Repo) {
	t.Helper()
	m := medium(t, 1<<16)
	return m, open(t, m, 1000)
}

// two answers a repository in which a and b were committed in segment 0, and c in segment 1.
func two(t *testing.T) (*media.Medium, *repo.Repo) {
	t.Helper()
	m, r := begin(t)
	puts(t, r, "a=1", "b=22")
	ok(t, r.Commit())
	puts(t, r, "c=333")
	ok(t, r.Commit())
	is(t, "two", r, "a=1 b=22 c=333")
	return m, r
}

// off lets the power go off.
func off(t *testing.T, m *media.Medium) {
	t.Helper()
	ok(t, m.Arm(0))
	does(t, "SyncDir", m.SyncDir(), api.ErrDead)
}

// file makes a file that lasts.
func file(t *testing.T, m *media.Medium, name string, b []byte) {
	t.Helper()
	ok(t, m.Create(name), m.Append(name, b), m.Sync(name), m.SyncDir())
}

// ok fails, unless nothing erred.
func ok(t *testing.T, l ...api.Errno) {
	t.Helper()
	for i, e := range l {
		if e != api.OK {
			t.Fatalf("call %d: %d", i, e)
		}
	}
}

// does fails, unless that is an error's number.
func does(t *testing.T, what string, got, want api.Errno) {
	t.Helper()
	if got != want {
		t.Errorf("%s: %d, not %d", what, got, want)
	}
}

// key answers a key.
func key(name string) api.ID { return api.ID{17, name[0]} }

// puts puts objects: a=1 has the data 1.
func puts(t *testing.T, r *repo.Repo, l ...string) {
	t.Helper()
	for _, s := range l {
		does(t, "Put "+s, r.Put(key(s), []byte(s[2:])), api.OK)
	}
}

// gets fails, unless Get answers that.
func gets(t *testing.T, what string, r *repo.Repo, name, want string, wantE api.Errno) {
	t.Helper()
	b, e := r.Get(key(name))
	if string(b) != want || e != wantE {
		t.Errorf("%s: Get(%s): %q, %d; not %q, %d", what, name, b, e, want, wantE)
	}
}

// stands fails, unless Place answers that, and Has, too.
func stands(t *testing.T, what string, r *repo.Repo, name string, want api.Place) {
	t.Helper()
	there := want != api.Place{}
	p, got := r.Place(key(name))
	if p != want || got != there || r.Has(key(name)) != there {
		t.Errorf("%s: Place(%s): %v, %v; not %v", what, name, p, got, want)
	}
}

// show answers a map in words: a=1 b=22.
func show(r *repo.Repo) string {
	var l []string
	for _, k := range r.Keys() {
		b, e := r.Get(k)
		s := string(k[1:2]) + "=" + string(b)
		if e != api.OK {
			s = string(k[1:2]) + ":" + strconv.Itoa(int(e))
		}
		l = append(l, s)
	}
	return strings.Join(l, " ")
}

// is fails, unless a repository has that map, by all that it answers of it, and is not dirty.
func is(t *testing.T, what string, r *repo.Repo, want string) {
	t.Helper()
	has(t, what, r, want)
	if r.Dirty() {
		t.Errorf("%s: it is dirty", what)
	}
}

// isDirty fails, unless a repository has that map, and is dirty.
func isDirty(t *testing.T, what string, r *repo.Repo, want string) {
	t.Helper()
	has(t, what, r, want)
	if !r.Dirty() {
		t.Errorf("%s: it is not dirty", what)
	}
}

// has fails, unless a repository has that map.
func has(t *testing.T, what string, r *repo.Repo, want string) {
	t.Helper()
	if got := show(r); got != want || r.Len() != len(strings.Fields(want)) {
		t.Errorf("%s: %s, %d objects; not %s", what, got, r.Len(), want)
	}
	there := map[api.ID]bool{}
	for _, k := range r.Keys() {
		there[k] = true
	}
	for c := byte('a'); c <= 'z'; c++ {
		k := key(string(c))
		p, ok := r.Place(k)
		if r.Has(k) != there[k] || ok != there[k] || !there[k] && p != (api.Place{}) {
			t.Errorf("%s: %c: Has %v, Place %v, %v", what, c, r.Has(k), p, ok)
		}
		if _, e := r.Get(k); !there[k] && e != api.ErrNone {
			t.Errorf("%s: Get(%c): %d", what, c, e)
		}
	}
}

// look answers a medium's files in words: their names and sizes.
func look(m *media.Medium) string {
	var l []string
	for _, name := range m.List() {
		n, _ := m.Size(name)
		l = append(l, name+"="+strconv.Itoa(n))
	}
	return strings.Join(l, " ")
}

// said answers a state in words: last 0| a 0.8.42| 0=50/42|tail 1.
func said(s *replay.State) string {
	if s == nil {
		return "nil"
	}
	l := []string{"last " + strconv.Itoa(s.Last), ""}
	for k, p := range s.Index.All() {
		l[1] += " " + string(k[1:2]) + " " + strconv.Itoa(p.Seg) + "." + strconv.Itoa(p.At) + "." + strconv.Itoa(p.Size)
	}
	uses, tail := "", "tail"
	for _, u := range s.Uses {
		uses += " " + strconv.Itoa(u.Seg) + "=" + strconv.Itoa(u.Size) + "/" + strconv.Itoa(u.Live)
	}
	for _, n := range s.Tail {
		tail += " " + strconv.Itoa(n)
	}
	return strings.Join(append(l, uses, tail), "|")
}

// states fails, unless that is the State.
func states(t *testing.T, what string, r *repo.Repo, want string) {
	t.Helper()
	if got := said(r.State()); got != want {
		t.Errorf("%s: %s, not %s", what, got, want)
	}
}

// The example of the whole: Put, Commit, Put, a crash, Open: the first is there, the second is not (P17.2, P17.3, P17.7).
func TestExample(t *testing.T) {
	m, r := begin(t)
	gets(t, "no key", r, "a", "", api.ErrNone)
	puts(t, r, "a=1")
	ok(t, r.Commit())
	puts(t, r, "b=22")
	isDirty(t, "ahead", r, "a=1 b=22")
	m.Crash([]int{9, 9, 9, 9})
	r = open(t, m, 1000)
	is(t, "behind", r, "a=1")
	gets(t, "behind", r, "a", "1", api.OK)
	gets(t, "behind", r, "b", "", api.ErrNone)
	if got := look(m); got != "idx.00000000=64 seg.00000000=59 use.00000000=32" {
		t.Error(got)
	}
}

// P17.2: where entries stand, and what the map has by them.
func TestObjects(t *testing.T) {
	m, r := begin(t)
	is(t, "nothing", r, "")
	puts(t, r, "b=22", "a=1")
	stands(t, "put", r, "b", api.Place{Seg: 0, At: 8, Size: 43})
	stands(t, "put", r, "a", api.Place{Seg: 0, At: 51, Size: 42})
	isDirty(t, "put", r, "a=1 b=22")
	puts(t, r, "b=")
	stands(t, "put over", r, "b", api.Place{Seg: 0, At: 93, Size: 41})
	isDirty(t, "put over", r, "a=1 b=")
	ok(t, r.Delete(key("a")))
	stands(t, "deleted", r, "a", api.Place{})
	isDirty(t, "deleted", r, "b=")
	does(t, "once more", r.Delete(key("a")), api.ErrNone)
	if got := look(m); got != "seg.00000000=175" {
		t.Error(got)
	}
	puts(t, r, "a=4444")
	stands(t, "put again", r, "a", api.Place{Seg: 0, At: 175, Size: 45})
	isDirty(t, "put again", r, "a=4444 b=")
	ok(t, r.Commit())
	is(t, "committed", r, "a=4444 b=")
	stands(t, "committed", r, "a", api.Place{Seg: 0, At: 175, Size: 45})
	stands(t, "committed", r, "b", api.Place{Seg: 0, At: 93, Size: 41})
	puts(t, r, "a=5")
	stands(t, "next", r, "a", api.Place{Seg: 1, At: 8, Size: 42})
	ok(t, r.Rollback())
	stands(t, "rolled back", r, "a", api.Place{Seg: 0, At: 175, Size: 45})
	is(t, "rolled back", r, "a=4444 b=")
}

// P17.2: it is dirty behind a Delete alone, too, and behind changes that come to nothing.
func TestDirty(t *testing.T) {
	_, r := begin(t)
	puts(t, r, "a=1")
	ok(t, r.Commit(), r.Delete(key("a")))
	isDirty(t, "deleted", r, "")
	ok(t, r.Rollback())
	is(t, "rolled back", r, "a=1")
	puts(t, r, "a=1")
	isDirty(t, "the same", r, "a=1")
	ok(t, r.Commit())
	puts(t, r, "b=1")
	ok(t, r.Delete(key("b")))
	isDirty(t, "put and deleted", r, "a=1")
	ok(t, r.Commit())
	is(t, "committed", r, "a=1")
	states(t, "committed", r, "last 2| a 1.8.42| 0=59/0 1=59/42 2=100/0|tail")
}

// P17.2: all keys, rising; 32 noughts are a key, too, and data may be as many bytes as objects have.
func TestKeys(t *testing.T) {
	m := medium(t, 1<<20)
	r := open(t, m, 1<<20)
	var last api.ID
	for i := range last {
		last[i] = 255
	}
	most := bytes.Repeat([]byte{7}, api.MaxObject)
	want := []api.ID{{}, {0, 1}, {1}, {1, 0, 0, 1}, {2}, last}
	for _, i := range []int{3, 5, 0, 4, 2, 1} {
		ok(t, r.Put(want[i], most))
	}
	for range 2 {
		if got := r.Keys(); !slices.Equal(got, want) || r.Len() != 6 {
			t.Errorf("%x, %d", got, r.Len())
		}
		for _, k := range want {
			if b, e := r.Get(k); e != api.OK || !bytes.Equal(b, most) {
				t.Errorf("%x: %d bytes, %d", k, len(b), e)
			}
		}
		ok(t, r.Commit())
		r = open(t, m, 128)
	}
}

// P17.2: errors of Put and Delete, their order; nothing is changed by them.
func TestPutErrors(t *testing.T) {
	m, r := two(t)
	big := make([]byte, api.MaxObject+1)
	was := look(m)
	does(t, "big", r.Put(key("a"), big), api.ErrBig)
	does(t, "Delete of none", r.Delete(key("x")), api.ErrNone)
	is(t, "behind errors", r, "a=1 b=22 c=333")
	ok(t, m.SetRoom(m.Used()+48))
	does(t, "no room", r.Put(key("a"), nil), api.ErrFull)
	does(t, "no room", r.Delete(key("a")), api.ErrFull)
	does(t, "no room, none", r.Delete(key("x")), api.ErrNone)
	does(t, "no room, big", r.Put(key("a"), big), api.ErrBig)
	is(t, "behind errors", r, "a=1 b=22 c=333")
	ok(t, m.SetRoom(m.Used()+49), r.Put(key("a"), nil))
	does(t, "no room", r.Put(key("x"), nil), api.ErrFull)
	does(t, "no room", r.Delete(key("a")), api.ErrFull)
	isDirty(t, "behind errors", r, "a= b=22 c=333")
	ok(t, r.Rollback())
	if got := look(m); got != was {
		t.Errorf("%s, not %s", got, was)
	}
	off(t, m)
	does(t, "off", r.Put(key("a"), nil), api.ErrDead)
	does(t, "off", r.Delete(key("a")), api.ErrDead)
	does(t, "off, none", r.Delete(key("x")), api.ErrNone)
	does(t, "off, big", r.Put(key("a"), big), api.ErrBig)
	if r.Dirty() || r.Len() != 3 {
		t.Error("an error changed it")
	}
}

// P17.2: errors of Get, their order; while the power is off the rest is told as ever.
func TestGetErrors(t *testing.T) {
	m, r := two(t)
	stands(t, "two", r, "b", api.Place{Seg: 0, At: 50, Size: 43})
	m.Rot(segs.Name(0), 52, 1)
	gets(t, "spoilt", r, "b", "", api.ErrSum)
	gets(t, "spoilt", r, "a", "1", api.OK)
	m.Rot(segs.Name(0), 52, 1)
	ok(t, m.Truncate(segs.Name(0), 92))
	gets(t, "short", r, "b", "", api.ErrShort)
	ok(t, m.Remove(segs.Name(0)))
	gets(t, "no file", r, "b", "", api.ErrNone)
	off(t, m)
	gets(t, "off", r, "a", "", api.ErrDead)
	gets(t, "off", r, "x", "", api.ErrNone)
	if !r.Has(key("a")) || r.Has(key("x")) || r.Len() != 3 || len(r.Keys()) != 3 {
		t.Error("it tells less while the power is off")
	}
	stands(t, "off", r, "c", api.Place{Seg: 1, At: 8, Size: 44})
	states(t, "off", r, "last 1| a 0.8.42 b 0.50.43 c 1.8.44| 0=102/85 1=61/44|tail")
	ok(t, r.Commit())
	ok(t, r.Rollback())
}

// P17.2: what stands at a place that hints tell must be a Put of the key.
func TestGetForm(t *testing.T) {
	m := medium(t, 1<<16)
	r := open(t, m, 1000)
	puts(t, r, "a=1", "b=2")
	ok(t, r.Delete(key("b")), r.Commit())
	s := r.State()
	s.Index.Put(key("x"), api.Place{Seg: 0, At: 8, Size: 42})  // a Put of a
	s.Index.Put(key("b"), api.Place{Seg: 0, At: 92, Size: 41}) // a Delete of b
	s.Index.Put(key("c"), api.Place{Seg: 0, At: 50, Size: 83}) // two entries
	s.Index.Put(key("d"), api.Place{Seg: 0, At: 8, Size: 41})  // less than an entry
	ok(t, hints.Save(m, s))
	r = open(t, m, 1000)
	has(t, "wrong hints", r, "a=1 b:4 c:4 d:3 x:4")
	states(t, "wrong hints", r, "last 0| a 0.8.42 b 0.92.41 c 0.50.83 d 0.8.41 x 0.8.42| 0=142/42|tail")
}

// P17.5: Log and Medium are the repository's own.
func TestThings(t *testing.T) {
	m, r := two(t)
	if r.Medium() != m || r.Log() == nil || r.Log() != r.Log() {
		t.Error("another Medium, or no Log")
	}
	if got := r.Log().Segments(); !slices.Equal(got, []int{0, 1}) {
		t.Errorf("segments %d", got)
	}
	puts(t, r, "d=4")
	if n := r.Log().Fresh(); n != 1 {
		t.Errorf("%d are fresh", n)
	}
	_, e := r.Log().Append(api.Entry{Tag: api.Put, Key: key("e")})
	ok(t, e, r.Commit())
	states(t, "put behind it", r, "last 2| a 0.8.42 b 0.50.43 c 1.8.44 d 2.8.42 e 2.50.41| 0=102/85 1=61/44 2=100/83|tail")
	is(t, "put behind it", r, "a=1 b=22 c=333 d=4") // the map has what was put in it
}

// R3: what is handed in is not kept, and what is answered is new.
func TestMemory(t *testing.T) {
	_, r := begin(t)
	b := []byte("12")
	ok(t, r.Put(key("a"), b))
	b[0] = 'x'
	gets(t, "handed in", r, "a", "12", api.OK)
	got, _ := r.Get(key("a"))
	got[0] = 'x'
	gets(t, "answered", r, "a", "12", api.OK)
	ok(t, r.Commit())
	r.Keys()[0][1] = 'x'
	is(t, "Keys", r, "a=12")
	s, u := r.State(), r.State()
	s.Last = 7
	s.Index.Put(key("b"), api.Place{})
	s.Index.Delete(key("a"))
	s.Uses[0].Live = 9
	s.Tail = append(s.Tail, 3)
	want := "last 0| a 0.8.43| 0=60/43|tail"
	states(t, "answered", r, want)
	if said(u) != want {
		t.Errorf("another one: %s", said(u))
	}
	is(t, "State", r, "a=12")
	puts(t, r, "b=3")
	states(t, "put", r, want)
	ok(t, r.Rollback())
	is(t, "State", r, "a=12")
	puts(t, r, "b=3")
	ok(t, r.Commit())
	if said(u) != want {
		t.Errorf("committed: %s", said(u))
	}
}

// R1: of a Repo that is nil or zero.
func TestNone(t *testing.T) {
	for _, r := range []*repo.Repo{nil, new(repo.Repo)} {
		does(t, "Put", r.Put(key("a"), nil), api.ErrNil)
		does(t, "Put", r.Put(key("a"), make([]byte, api.MaxObject+1)), api.ErrNil)
		does(t, "Delete", r.Delete(key("a")), api.ErrNil)
		does(t, "Commit", r.Commit(), api.ErrNil)
		does(t, "Rollback", r.Rollback(), api.ErrNil)
		does(t, "Reload", r.Reload(), api.ErrNil)
		gets(t, "none", r, "a", "", api.ErrNil)
		stands(t, "none", r, "a", api.Place{})
		if r.Has(key("a")) || r.Dirty() || r.Len() != 0 || len(r.Keys()) != 0 || r.State() != nil || r.Log() != nil || r.Medium() != nil {
			t.Error("it answers something")
		}
	}
}

// P17.1: errors of opening, their order.
func TestOpenErrors(t *testing.T) {
	dead := medium(t, 100)
	off(t, dead)
	live := medium(t, 100)
	for i, c := range []struct {
		m       *media.Medium
		segment int
		want    api.Errno
	}{
		{nil, 1000, api.ErrNil}, {new(media.Medium), 1000, api.ErrNil}, {nil, 0, api.ErrNil},
		{dead, 1000, api.ErrDead}, {dead, 0, api.ErrDead},
		{live, 127, api.ErrArg}, {live, 0, api.ErrArg}, {live, -1, api.ErrArg}, {live, 1<<20 + 1, api.ErrArg},
		{live, math.MinInt, api.ErrArg}, {live, math.MaxInt, api.ErrArg},
	} {
		refuses(t, "case "+strconv.Itoa(i), c.m, c.segment, api.Fault{}, c.want)
	}
	is(t, "least", open(t, live, 128), "")
	is(t, "most", open(t, live, 1<<20), "")
}

// refuses fails, unless Open answers that.
func refuses(t *testing.T, what string, m *media.Medium, segment int, fault api.Fault, want api.Errno) {
	t.Helper()
	r, f, e := repo.Open(m, segment)
	if r != nil || f != fault || e != want {
		t.Errorf("%s: Open: %v, %v, %d; not %v, %d", what, r, f, e, fault, want)
	}
}

// index answers an index without keys.
func index() *table.Table[api.Place] { return table.New[api.Place]() }
