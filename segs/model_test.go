package segs_test

import (
	"bytes"
	"maps"
	"math/rand/v2"
	"slices"
	"strconv"
	"testing"

	"hoard/api"
	"hoard/frame"
	"hoard/media"
	"hoard/segs"
)

// model is the chapter's log, on plain bytes with a room and a power of their own.
type model struct {
	limit, room int
	files       map[int][]byte // of the segments that it has
	fresh       map[int]bool
	open        int // -1: none
	left        int // steps till the power goes off; -1: it does not
	off         bool
	lasting     map[int][]byte // what was committed, and not removed
}

// newModel answers one that has opened a medium.
func newModel(m *media.Medium, limit int) *model {
	o := &model{limit: limit, room: m.Room(), files: map[int][]byte{}, fresh: map[int]bool{}, open: -1, left: -1}
	for _, name := range m.List() {
		n, err := strconv.Atoi(name[4:])
		if err == nil && name[:4] == "seg." && len(name) == 12 {
			o.files[n], _ = m.All(name)
		}
	}
	o.lasting = maps.Clone(o.files)
	return o
}

// numbers answers those of all segments, rising.
func (o *model) numbers() []int { return slices.Sorted(maps.Keys(o.files)) }

// next answers the next number.
func (o *model) next() int {
	n := -1
	for k := range o.files {
		n = max(n, k)
	}
	return n + 1
}

// step answers whether the power goes off, or is off.
func (o *model) step() api.Errno {
	if o.off || o.left == 0 {
		o.off = true
		return api.ErrDead
	}
	if o.left > 0 {
		o.left--
	}
	return api.OK
}

// write is the step of appending bytes to a file.
func (o *model) write(n int, b []byte) api.Errno {
	used := len(b)
	for _, f := range o.files {
		used += len(f)
	}
	if used > o.room && !o.off {
		return api.ErrFull
	}
	return o.step()
}

// append does P14.3.
func (o *model) append(x api.Entry) (api.Place, api.Errno) {
	b, e := frame.Encode(x)
	if e != api.OK {
		return api.Place{}, e
	}
	if n := o.open; n >= 0 && len(o.files[n])+len(b) <= o.limit {
		at := len(o.files[n])
		if e := o.write(n, b); e != api.OK {
			return api.Place{}, e
		}
		o.files[n] = append(slices.Clone(o.files[n]), b...)
		return api.Place{Seg: n, At: at, Size: len(b)}, api.OK
	}
	if o.open >= 0 {
		if e := o.step(); e != api.OK {
			return api.Place{}, e
		}
		o.open = -1
	}
	n := o.next()
	if n == 1048576 {
		return api.Place{}, api.ErrLimit
	}
	if e := o.step(); e != api.OK {
		return api.Place{}, e
	}
	bytes := append([]byte("HOARDSEG"), b...)
	if e := o.write(n, bytes); e != api.OK {
		if e == api.ErrFull && o.step() != api.OK {
			e = api.ErrDead
		}
		return api.Place{}, e
	}
	o.files[n], o.fresh[n], o.open = bytes, true, n
	return api.Place{Seg: n, At: 8, Size: len(b)}, api.OK
}

// commit does P14.4.
func (o *model) commit() (int, api.Errno) {
	p, e := o.append(api.Entry{Tag: api.Commit})
	for range 2 {
		if e == api.OK {
			e = o.step()
		}
	}
	if e != api.OK {
		return 0, e
	}
	for n := range o.fresh {
		o.lasting[n] = o.files[n]
	}
	o.open, o.fresh = -1, map[int]bool{}
	return p.Seg, api.OK
}

// remove does P14.6.
func (o *model) remove(n int) api.Errno {
	if _, there := o.files[n]; !there {
		return api.ErrNone
	}
	if e := o.step(); e != api.OK {
		return e
	}
	delete(o.files, n)
	delete(o.fresh, n)
	delete(o.lasting, n)
	if o.open == n {
		o.open = -1
	}
	return api.OK
}

// rollback does P14.5.
func (o *model) rollback() api.Errno {
	for _, n := range slices.Backward(slices.Sorted(maps.Keys(o.fresh))) {
		if e := o.remove(n); e != api.OK {
			return e
		}
	}
	return api.OK
}

// read does P14.7.
func (o *model) read(p api.Place) (api.Entry, api.Errno) {
	b, there := o.files[p.Seg]
	switch {
	case !there:
		return api.Entry{}, api.ErrNone
	case o.off:
		return api.Entry{}, api.ErrDead
	case p.At < 0 || p.Size < 0:
		return api.Entry{}, api.ErrArg
	case p.At+p.Size > len(b):
		return api.Entry{}, api.ErrShort
	}
	x, n, e := frame.Read(b[p.At : p.At+p.Size])
	if e == api.OK && n != p.Size {
		return api.Entry{}, api.ErrForm
	}
	return x, e
}

// same fails, unless a Log has just what the model has.
func same(t *testing.T, what string, l *segs.Log, o *model) {
	t.Helper()
	if !slices.Equal(l.Segments(), o.numbers()) || l.Next() != o.next() || l.Fresh() != len(o.fresh) {
		t.Fatalf("%s: it has %s; not %d, of which %d are fresh", what, state(l), o.numbers(), len(o.fresh))
	}
	for n, b := range o.files {
		got, e := l.Bytes(n)
		if o.off && (e != api.ErrDead || len(got) != 0) || !o.off && (e != api.OK || !bytes.Equal(got, b)) || l.Size(n) != len(b) {
			t.Fatalf("%s: segment %d: %x, %d, size %d; not %x", what, n, got, e, l.Size(n), b)
		}
	}
}

// someEntry answers an entry, now and then one that is none.
func someEntry(r *rand.Rand) api.Entry {
	x := api.Entry{Tag: r.IntN(3), Key: api.ID{byte(r.IntN(4))}}
	switch {
	case r.IntN(25) == 0:
		return wrongs[r.IntN(len(wrongs))].x
	case x.Tag == api.Commit:
		return commit
	case x.Tag == api.Put:
		x.Data = bytes.Repeat([]byte{byte(r.IntN(256))}, r.IntN(40+r.IntN(100)))
	}
	return x
}

// kept answers the entries of all segments that last, by their places.
func (o *model) kept() map[api.Place]api.Entry {
	l := map[api.Place]api.Entry{}
	for n, b := range o.lasting {
		found, _, _ := frame.Scan(b)
		for _, f := range found {
			l[api.Place{Seg: n, At: f.At, Size: f.Size}] = f.Entry
		}
	}
	return l
}

// crash lets the power go off and on, and opens the medium anew: what was committed is there (P14.8).
func (o *model) crash(t *testing.T, r *rand.Rand, m *media.Medium) (*segs.Log, *model) {
	t.Helper()
	var numbers []int
	for range r.IntN(12) {
		numbers = append(numbers, r.IntN(6)*r.IntN(8)-1)
	}
	m.Crash(numbers)
	limit := 128 + r.IntN(300)
	l, next := open(t, m, limit), newModel(m, limit)
	for n, b := range o.lasting {
		if got, e := l.Bytes(n); e != api.OK || !bytes.Equal(got, b) {
			t.Fatalf("segment %d was committed with %x, and has %x, %d", n, b, got, e)
		}
	}
	for p, x := range o.kept() {
		reads(t, l, p, x)
	}
	return l, next
}

// someCall does one of both, and holds what they answer against each other.
func someCall(t *testing.T, what string, r *rand.Rand, m *media.Medium, l *segs.Log, o *model) {
	t.Helper()
	var e, want api.Errno
	switch k := r.IntN(100); {
	case k < 50:
		x := someEntry(r)
		var p, q api.Place
		p, e = l.Append(x)
		if q, want = o.append(x); p != q {
			t.Fatalf("%s: Append to %v, not %v", what, p, q)
		}
	case k < 62:
		var n, wanted int
		n, e = l.Commit()
		if wanted, want = o.commit(); n != wanted {
			t.Fatalf("%s: Commit in %d, not %d", what, n, wanted)
		}
	case k < 68:
		e, want = l.Rollback(), o.rollback()
	case k < 78:
		n := r.IntN(o.next()+2) - 1
		e, want = l.Remove(n), o.remove(n)
	case k < 81:
		e, want = l.Sync(), o.step()
	case k < 96:
		p := api.Place{Seg: r.IntN(o.next() + 1), At: r.IntN(120) - 2, Size: r.IntN(60) - 2}
		if all := o.kept(); len(all) > 0 && r.IntN(2) == 0 {
			places := slices.SortedFunc(maps.Keys(all), func(a, b api.Place) int { return a.Seg*10000 + a.At - b.Seg*10000 - b.At })
			p = places[r.IntN(len(places))]
		}
		var x, y api.Entry
		x, e = l.Read(p)
		if y, want = o.read(p); x.Tag != y.Tag || x.Key != y.Key || !bytes.Equal(x.Data, y.Data) {
			t.Fatalf("%s: Read of %v: %v, not %v", what, p, x, y)
		}
	case o.off:
		return
	case k < 98:
		o.room = r.IntN(3000)
		e = m.SetRoom(o.room)
	default:
		o.left = r.IntN(8)
		e = m.Arm(o.left)
	}
	if e != want {
		t.Fatalf("%s: %d, not %d", what, e, want)
	}
}

// P14.2 to P14.8: whatever is called, a Log answers what the chapter's does; and of what was not committed there is
// nothing but in fresh segments, so that what was is there behind any crash.
func TestModel(t *testing.T) {
	for seed := range uint64(3000) {
		r := rand.New(rand.NewPCG(seed, 14))
		m := medium(t, 500+r.IntN(3000))
		for n := range r.IntN(3) {
			file(t, m, segs.Name([]int{3, 1048569, 1048574}[n]), "HOARDSEG")
		}
		limit := 128 + r.IntN(300)
		l, o := open(t, m, limit), newModel(m, limit)
		for i := range 80 {
			what := "seed " + strconv.FormatUint(seed, 10) + ", call " + strconv.Itoa(i)
			if r.IntN(30) == 0 || o.off && r.IntN(4) == 0 {
				l, o = o.crash(t, r, m)
			}
			someCall(t, what, r, m, l, o)
			same(t, what, l, o)
			for n := range o.files {
				if b, there := o.lasting[n]; there == o.fresh[n] || there && !bytes.Equal(b, o.files[n]) {
					t.Fatalf("%s: segment %d was not committed, and is not fresh", what, n)
				}
			}
		}
	}
}

// P14.8: three transactions, with the power off at each step, and each sort of a crash: the commits that answered OK
// are there, and, where it went off within one, that one or nothing else that says to be committed.
func TestPowerAtEachStep(t *testing.T) {
	for n := range 40 {
		for _, numbers := range [][]int{nil, {1}, {2}, {3}, {99}, {99, 1, 0, 1, 5}, {99, 0, 9, 0, 60, 0, 60}, {2, 0, 50, 0, 50}, {99, 9, 9, 9, 9, 9, 9, 9, 9, 9, 9, 9, 9}} {
			m, l := begin(t, 10000, 128)
			ok(t, m.Arm(n))
			var was []int // the segment of each Commit
			within := false
			for i := range 3 {
				for k := range 3 {
					l.Append(put(20 + 30*i + k))
				}
				within = m.Power()
				at, e := l.Commit()
				if e != api.OK {
					break
				}
				was, within = append(was, at), false
			}
			m.Crash(numbers)
			checkCommits(t, open(t, m, 128), was, within)
		}
	}
}

// checkCommits fails, unless a Log has the transactions of which the Commits went to these segments, whole, and of the
// next one no Commit, unless the power went off within it.
func checkCommits(t *testing.T, l *segs.Log, was []int, within bool) {
	t.Helper()
	var entries []api.Entry
	commits := 0
	for _, n := range l.Segments() {
		b, _ := l.Bytes(n)
		found, _, e := frame.Scan(b)
		if len(was) > 0 && n <= was[len(was)-1] && e != api.OK {
			t.Errorf("segment %d: %d", n, e)
		}
		for _, f := range found {
			entries = append(entries, f.Entry)
			if f.Entry.Tag == api.Commit {
				commits++
			}
		}
	}
	if commits < len(was) || commits > len(was)+1 || commits > len(was) && !within {
		t.Errorf("%d commits, not %d", commits, len(was))
	}
	for i := range 4 * commits {
		want := commit
		if k := i % 4; k < 3 {
			want = put(20 + 30*(i/4) + k)
		}
		if i >= len(entries) || entries[i].Tag != want.Tag || !bytes.Equal(entries[i].Data, want.Data) {
			t.Errorf("of %d commits entry %d is another one", commits, i)
			return
		}
	}
}
