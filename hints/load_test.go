package hints_test

import (
	"fmt"
	"math"
	"slices"
	"testing"

	"hoard/api"
	"hoard/book"
	"hoard/hints"
	"hoard/media"
	"hoard/segs"
)

// kept answers a medium with segments of these sizes (of no bytes that say anything: Load does not read them), and
// these files as hints of a commit; a segment of size -1 is not there.
func kept(t *testing.T, n int, indexBytes, usesBytes []byte, sizes ...int) *media.Medium {
	t.Helper()
	m := medium(t, 1<<23)
	for i, size := range sizes {
		if size >= 0 {
			ok(t, m.Create(segs.Name(i)), m.Append(segs.Name(i), make([]byte, size)))
		}
	}
	if indexBytes != nil {
		file(t, m, hints.IndexName(n), indexBytes)
	}
	if usesBytes != nil {
		file(t, m, hints.UsesName(n), usesBytes)
	}
	return m
}

// P16.3: the places that an object may have: from 8 on, 41 bytes at least, up to the segment's end at most, in a segment
// that the uses have.
func TestPlaces(t *testing.T) {
	uses := []api.Use{{Seg: 1, Size: 100}, {Seg: 3, Size: 48}, {Seg: 4, Size: 300}, {Seg: 6, Size: 49}}
	for _, c := range []struct {
		p    api.Place
		want api.Errno
	}{
		{api.Place{Seg: 1, At: 8, Size: 41}, api.OK},
		{api.Place{Seg: 1, At: 7, Size: 41}, api.ErrForm},
		{api.Place{Seg: 1, At: 0, Size: 100}, api.ErrForm},
		{api.Place{Seg: 1, At: 8, Size: 40}, api.ErrForm},
		{api.Place{Seg: 1, At: 8, Size: 9}, api.ErrForm},
		{api.Place{Seg: 1, At: 8, Size: 0}, api.ErrForm},
		{api.Place{Seg: 1, At: 8, Size: 92}, api.OK},
		{api.Place{Seg: 1, At: 8, Size: 93}, api.ErrForm},
		{api.Place{Seg: 1, At: 9, Size: 92}, api.ErrForm},
		{api.Place{Seg: 1, At: 59, Size: 41}, api.OK},
		{api.Place{Seg: 1, At: 60, Size: 41}, api.ErrForm},
		{api.Place{Seg: 1, At: 60, Size: 40}, api.ErrForm},
		{api.Place{Seg: 1, At: 100, Size: 41}, api.ErrForm},
		{api.Place{Seg: 1, At: 101, Size: 41}, api.ErrForm},
		{api.Place{Seg: 1, At: math.MaxUint32, Size: math.MaxUint32}, api.ErrForm},
		{api.Place{Seg: 1, At: math.MaxUint32, Size: 101}, api.ErrForm},
		{api.Place{Seg: 1, At: 8, Size: math.MaxUint32 - 7}, api.ErrForm},
		{api.Place{Seg: 1, At: 8, Size: math.MaxUint32}, api.ErrForm},
		{api.Place{Seg: 3, At: 8, Size: 41}, api.ErrForm},
		{api.Place{Seg: 3, At: 8, Size: 40}, api.ErrForm},
		{api.Place{Seg: 3, At: 7, Size: 41}, api.ErrForm},
		{api.Place{Seg: 4, At: 8, Size: 292}, api.OK},
		{api.Place{Seg: 4, At: 100, Size: 200}, api.OK},
		{api.Place{Seg: 4, At: 8, Size: 293}, api.ErrForm},
		{api.Place{Seg: 6, At: 8, Size: 41}, api.OK},
		{api.Place{Seg: 6, At: 8, Size: 42}, api.ErrForm},
		{api.Place{Seg: 6, At: 9, Size: 41}, api.ErrForm},
		{api.Place{Seg: 0, At: 8, Size: 41}, api.ErrForm},
		{api.Place{Seg: 2, At: 8, Size: 41}, api.ErrForm},
		{api.Place{Seg: 5, At: 8, Size: 41}, api.ErrForm},
		{api.Place{Seg: 7, At: 8, Size: 41}, api.ErrForm}, // it is tail
		{api.Place{Seg: 8, At: 8, Size: 41}, api.ErrForm},
		{api.Place{Seg: math.MaxUint32, At: 8, Size: 41}, api.ErrForm},
		{api.Place{}, api.ErrForm},
	} {
		right := api.Place{Seg: 4, At: 49, Size: 50}
		for i := range 3 {
			l := map[byte]api.Place{'a': right, 'b': right, 'c': right}
			l['a'+byte(i)] = c.p
			m := kept(t, 6, indexBook(t, index(l)), usesBook(t, uses...), -1, 100, -1, 48, 300, -1, 49, 200)
			s, e := hints.Load(open(t, m), m, 6)
			if e != c.want || (s == nil) != (e != api.OK) {
				t.Errorf("%v: %s, %d; not %d", c.p, show(s), e, c.want)
			}
			if s == nil {
				continue
			}
			if p, _ := s.Index.Get(key('a' + byte(i))); p != c.p || s.Index.Len() != 3 || s.Last != 6 {
				t.Errorf("%v: %s", c.p, show(s))
			}
		}
	}
}

// P16.3: the uses must be those of just the segments up to the commit, the last of which it is, with just their sizes.
func TestUses(t *testing.T) {
	for _, c := range []struct {
		n    int
		uses []api.Use
		want string
	}{
		{3, []api.Use{{Seg: 1, Size: 100}, {Seg: 3, Size: 50}}, "last 3|| 1=100/0 3=50/0|tail 4 6"},
		{3, []api.Use{{Seg: 1, Size: 100, Live: 100}, {Seg: 3, Size: 50, Live: 50}}, "last 3|| 1=100/100 3=50/50|tail 4 6"},
		{3, []api.Use{{Seg: 1, Size: 100, Live: 101}, {Seg: 3, Size: 50}}, ""},
		{3, []api.Use{{Seg: 1, Size: 100}, {Seg: 3, Size: 50, Live: 51}}, ""},
		{3, []api.Use{{Seg: 1, Size: 100}, {Seg: 3, Size: 50, Live: math.MaxUint32}}, ""},
		{3, []api.Use{{Seg: 1, Size: 101}, {Seg: 3, Size: 50}}, ""},
		{3, []api.Use{{Seg: 1, Size: 99}, {Seg: 3, Size: 50}}, ""},
		{3, []api.Use{{Seg: 1, Size: 100}, {Seg: 3, Size: 51}}, ""},
		{3, []api.Use{{Seg: 1, Size: 100}, {Seg: 3, Size: 49}}, ""},
		{3, []api.Use{{Seg: 1, Size: 50}, {Seg: 3, Size: 100}}, ""},
		{3, []api.Use{{Seg: 1, Size: 100}, {Seg: 3}}, ""},
		{3, []api.Use{{Seg: 3, Size: 50}}, ""},
		{3, []api.Use{{Seg: 1, Size: 100}}, ""},
		{3, nil, ""},
		{3, []api.Use{{Seg: 1, Size: 100}, {Seg: 2}, {Seg: 3, Size: 50}}, ""},
		{3, []api.Use{{Seg: 0}, {Seg: 1, Size: 100}, {Seg: 3, Size: 50}}, ""},
		{3, []api.Use{{Seg: 1, Size: 100}, {Seg: 3, Size: 50}, {Seg: 4, Size: 80}}, ""},
		{3, []api.Use{{Seg: 1, Size: 100}, {Seg: 3, Size: 50}, {Seg: 5}}, ""},
		{3, []api.Use{{Seg: 0, Size: 100}, {Seg: 3, Size: 50}}, ""},
		{3, []api.Use{{Seg: 1, Size: 100}, {Seg: 4, Size: 50}}, ""},
		{1, []api.Use{{Seg: 1, Size: 100}}, "last 1|| 1=100/0|tail 3 4 6"},
		{1, []api.Use{{Seg: 3, Size: 50}}, ""},
		{4, []api.Use{{Seg: 1, Size: 100}, {Seg: 3, Size: 50}, {Seg: 4}}, "last 4|| 1=100/0 3=50/0 4=0/0|tail 6"},
		{4, []api.Use{{Seg: 1, Size: 100}, {Seg: 3, Size: 50}, {Seg: 4, Live: 1}}, ""},
		{6, []api.Use{{Seg: 1, Size: 100}, {Seg: 3, Size: 50, Live: 7}, {Seg: 4}, {Seg: 6, Size: 9}}, "last 6|| 1=100/0 3=50/7 4=0/0 6=9/0|tail"},
		{6, []api.Use{{Seg: 1, Size: 100}, {Seg: 3, Size: 50}, {Seg: 4}}, ""},
		// the commit is no segment's number
		{0, nil, ""},
		{0, []api.Use{{Seg: 0}}, ""},
		{0, []api.Use{{Seg: 1, Size: 100}}, ""},
		{2, []api.Use{{Seg: 1, Size: 100}}, ""},
		{2, []api.Use{{Seg: 1, Size: 100}, {Seg: 2}}, ""},
		{5, []api.Use{{Seg: 1, Size: 100}, {Seg: 3, Size: 50}, {Seg: 4}}, ""},
		{7, []api.Use{{Seg: 1, Size: 100}, {Seg: 3, Size: 50}, {Seg: 4}, {Seg: 6, Size: 9}}, ""},
		{7, []api.Use{{Seg: 1, Size: 100}, {Seg: 3, Size: 50}, {Seg: 4}, {Seg: 6, Size: 9}, {Seg: 7}}, ""},
		{1<<20 - 1, []api.Use{{Seg: 1, Size: 100}, {Seg: 3, Size: 50}, {Seg: 4}, {Seg: 6, Size: 9}}, ""},
	} {
		m := kept(t, c.n, indexBook(t, index(nil)), usesBook(t, c.uses...), -1, 100, -1, 50, 0, -1, 9)
		if c.want == "" {
			fails(t, fmt.Sprint(c.n, c.uses), m, c.n, api.ErrForm)
		} else {
			loads(t, fmt.Sprint(c.n, c.uses), m, c.n, c.want)
		}
	}
	m := kept(t, 0, indexBook(t, index(nil)), usesBook(t))
	fails(t, "no segments", m, 0, api.ErrForm)
}

// P16.3: the greatest commit, and as many objects as a book has.
func TestLoadEdges(t *testing.T) {
	m := medium(t, 1<<23)
	n := 1<<20 - 1
	ok(t, m.Create(segs.Name(n)), m.Append(segs.Name(n), make([]byte, 1<<20)))
	x := many(65536, api.Place{Seg: n, At: 1<<20 - 41, Size: 41})
	file(t, m, hints.IndexName(n), indexBook(t, x))
	file(t, m, hints.UsesName(n), usesBook(t, api.Use{Seg: n, Size: 1 << 20, Live: 1 << 20}))
	s, e := hints.Load(open(t, m), m, n)
	if e != api.OK || s.Last != n || s.Index.Len() != 65536 || len(s.Tail) != 0 || len(s.Uses) != 1 {
		t.Fatalf("Load: %d", e)
	}
	for k, p := range s.Index.All() {
		if want, there := x.Get(k); p != want || !there {
			t.Fatalf("%x: %v", k, p)
		}
	}
}

// P16.3: which error is told, where there are several.
func TestLoadErrors(t *testing.T) {
	ix := indexBook(t, index(map[byte]api.Place{'a': {Seg: 0, At: 8, Size: 41}}))
	wrong := indexBook(t, index(map[byte]api.Place{'a': {Seg: 0, At: 8, Size: 40}}))
	us := usesBook(t, api.Use{Seg: 0, Size: 60, Live: 41})
	other := usesBook(t, api.Use{Seg: 0, Size: 61, Live: 41})
	counts, _ := book.Counts(nil)
	sum := func(b []byte) []byte {
		b = slices.Clone(b)
		b[len(b)-1]++
		return b
	}
	rest := func(b []byte) []byte { return append(slices.Clone(b), 0) }
	for i, c := range []struct {
		index, uses []byte
		want        api.Errno
	}{
		{ix, us, api.OK},
		{nil, nil, api.ErrNone},
		{ix, nil, api.ErrNone},
		{nil, us, api.ErrNone},
		{[]byte{}, nil, api.ErrNone},
		{nil, []byte{}, api.ErrNone},
		{sum(ix), nil, api.ErrNone},
		{nil, sum(us), api.ErrNone},
		{wrong, nil, api.ErrNone},
		{[]byte{}, us, api.ErrShort},
		{ix, []byte{}, api.ErrShort},
		{ix[:11], sum(us), api.ErrShort},
		{sum(ix), us[:11], api.ErrSum},
		{ix[:len(ix)-1], rest(us), api.ErrShort},
		{rest(ix), us[:len(us)-1], api.ErrRest},
		{rest(ix), sum(us), api.ErrRest},
		{sum(ix), rest(us), api.ErrSum},
		{us, us, api.ErrForm},
		{us, sum(us), api.ErrForm},
		{ix, ix, api.ErrForm},
		{sum(ix), ix, api.ErrSum},
		{counts, us, api.ErrForm},
		{ix, counts, api.ErrForm},
		{wrong, us, api.ErrForm},
		{wrong, sum(us), api.ErrSum},
		{wrong, us[:len(us)-1], api.ErrShort},
		{wrong, rest(us), api.ErrRest},
		{ix, other, api.ErrForm},
		{sum(ix), other, api.ErrSum},
		{wrong, other, api.ErrForm},
	} {
		m := kept(t, 0, c.index, c.uses, 60)
		if c.want == api.OK {
			loads(t, "right", m, 0, "last 0| a 0.8.41| 0=60/41|tail")
		} else {
			fails(t, fmt.Sprint("files ", i), m, 0, c.want)
		}
	}
}

// P16.3: rows that do not rise, in each file, though the sum fits.
func TestLoadOrder(t *testing.T) {
	p := api.Place{Seg: 0, At: 8, Size: 41}
	ix := indexBook(t, index(map[byte]api.Place{'a': p, 'b': p}))
	us := usesBook(t, api.Use{Seg: 0, Size: 60}, api.Use{Seg: 1, Size: 60})
	turn := func(b []byte, wide int) []byte {
		return seal(slices.Concat(b[:12], b[12+wide:12+2*wide], b[12:12+wide]))
	}
	loads(t, "right", kept(t, 1, ix, us, 60, 60), 1, "last 1| a 0.8.41 b 0.8.41| 0=60/0 1=60/0|tail")
	fails(t, "the index", kept(t, 1, turn(ix, 44), us, 60, 60), 1, api.ErrOrder)
	fails(t, "the uses", kept(t, 1, ix, turn(us, 12), 60, 60), 1, api.ErrOrder)
	fails(t, "one segment twice", kept(t, 1, ix, seal(slices.Concat(us[:24], us[12:24])), 60, 60), 1, api.ErrOrder)
}

// P16.3, P16.5: each byte of both files spoilt, each front of them, and a byte behind: an error, book's of that file.
func TestSpoiltHints(t *testing.T) {
	m, s := three(t)
	ok(t, hints.Save(m, s))
	for _, name := range []string{"idx.00000001", "use.00000001"} {
		whole, e := m.All(name)
		ok(t, e)
		errno := func(b []byte) api.Errno {
			if name[0] == 'i' {
				_, e = book.ReadIndex(b)
			} else {
				_, e = book.ReadUses(b)
			}
			if e == api.OK {
				t.Errorf("%s is read", name)
			}
			return e
		}
		for at := range whole {
			for _, by := range []byte{1, 0x80, 0xff} {
				m.Rot(name, at, by)
				b, _ := m.All(name)
				fails(t, fmt.Sprint(name, " spoilt at ", at), m, 1, errno(b))
				m.Rot(name, at, by)
			}
		}
		loads(t, "whole again", m, 1, threeSaid)
		ok(t, m.Append(name, []byte{0}))
		fails(t, name+" with a byte behind", m, 1, api.ErrRest)
		for n := len(whole) - 1; n >= 0; n-- {
			ok(t, m.Truncate(name, n))
			fails(t, fmt.Sprint(name, " of ", n), m, 1, errno(whole[:n]))
		}
		ok(t, m.Append(name, whole))
		loads(t, "appended again", m, 1, threeSaid)
	}
}

// P16.5: when a segment was removed, or another came, or has other bytes, up to the commit, Load has an error; behind it
// they are tail, whatever they are.
func TestOtherSegments(t *testing.T) {
	m := medium(t, 1<<20)
	l := open(t, m)
	for n := range 4 {
		transaction(t, l, put('a'+byte(n), n))
	}
	ok(t, l.Remove(1), l.Sync())
	was := state(t, m)
	ok(t, hints.Save(m, was))
	loads(t, "saved", m, 3, show(was))
	for _, n := range []int{0, 2, 3} {
		b, e := m.All(segs.Name(n))
		ok(t, e)
		change := func(what string, e api.Errno) {
			t.Helper()
			ok(t, e)
			fails(t, fmt.Sprint(what, " of ", n), m, 3, api.ErrForm)
		}
		change("a byte behind", m.Append(segs.Name(n), []byte{0}))
		change("a byte fewer", m.Truncate(segs.Name(n), len(b)-1))
		change("no byte", m.Truncate(segs.Name(n), 0))
		change("removed", m.Remove(segs.Name(n)))
		ok(t, m.Create(segs.Name(n)), m.Append(segs.Name(n), b))
		loads(t, "as it was", m, 3, show(was))
	}
	ok(t, m.Create(segs.Name(1)))
	fails(t, "one came", m, 3, api.ErrForm)
	ok(t, m.Remove(segs.Name(1)), m.Create(segs.Name(4)), m.Create(segs.Name(9)))
	loads(t, "two came behind", m, 3, show(was)+" 4 9")
	if s, e := hints.Load(l, m, 3); e != api.OK || !same(s, was) {
		t.Errorf("by a Log that knows none of these: %s, %d", show(s), e)
	}
	ok(t, l.Remove(2))
	if s, e := hints.Load(l, m, 3); s != nil || e != api.ErrForm {
		t.Errorf("by a Log that removed one: %s, %d", show(s), e)
	}
}
