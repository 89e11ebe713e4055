package repo_test

import (
	"bytes"
	"fmt"
	"maps"
	"math/rand/v2"
	"slices"
	"testing"

	"hoard/api"
	"hoard/hints"
	"hoard/media"
	"hoard/replay"
	"hoard/repo"
	"hoard/segs"
)

// model is the chapter's repository, call by call, on a medium of its own.
type model struct {
	medium  *media.Medium
	segment int
	log     *segs.Log
	state   *replay.State
	places  map[api.ID]api.Place
	dirty   bool
}

// openModel does P17.1.
func openModel(m *media.Medium, segment int) (*model, api.Fault, api.Errno) {
	l, e := segs.Open(m, segment)
	if e != api.OK {
		return nil, api.Fault{}, e
	}
	last, e := replay.Last(l)
	if e != api.OK {
		return nil, api.Fault{}, e
	}
	if n := hints.Newest(m); n > last {
		return nil, api.Fault{What: api.NoCommit, Seg: n}, api.ErrLost
	}
	s, e := hints.Load(l, m, last)
	if last < 0 || e != api.OK {
		var fault api.Fault
		if s, fault, e = replay.Run(l); e != api.OK {
			return nil, fault, e
		}
	}
	if e := replay.Drop(l, s.Tail); e != api.OK {
		return nil, api.Fault{}, e
	}
	o := &model{medium: m, segment: segment, log: l}
	o.take(s)
	o.places = maps.Collect(s.Index.All())
	return o, api.Fault{}, api.OK
}

// take makes a state the model's.
func (o *model) take(s *replay.State) {
	o.state = s
	o.state.Tail = nil
}

// put does P17.2.
func (o *model) put(k api.ID, data []byte) api.Errno {
	p, e := o.log.Append(api.Entry{Tag: api.Put, Key: k, Data: data})
	if e == api.OK {
		o.places[k], o.dirty = p, true
	}
	return e
}

// delete does P17.2.
func (o *model) delete(k api.ID) api.Errno {
	if _, there := o.places[k]; !there {
		return api.ErrNone
	}
	_, e := o.log.Append(api.Entry{Tag: api.Delete, Key: k})
	if e == api.OK {
		delete(o.places, k)
		o.dirty = true
	}
	return e
}

// get does P17.2.
func (o *model) get(k api.ID) ([]byte, api.Errno) {
	p, there := o.places[k]
	if !there {
		return nil, api.ErrNone
	}
	x, e := o.log.Read(p)
	if e == api.OK && (x.Tag != api.Put || x.Key != k) {
		return nil, api.ErrForm
	}
	return x.Data, e
}

// commit does P17.3.
func (o *model) commit() api.Errno {
	if !o.dirty {
		return api.OK
	}
	if _, e := o.log.Commit(); e != api.OK {
		return e
	}
	o.dirty = false
	s, _, e := replay.Run(o.log)
	if e != api.OK {
		return e
	}
	o.take(s)
	if e = hints.Save(o.medium, s); e == api.ErrFull || e == api.ErrLimit {
		return api.OK
	}
	return e
}

// rollback does P17.4.
func (o *model) rollback() api.Errno {
	if e := o.log.Rollback(); e != api.OK {
		return e
	}
	o.places, o.dirty = maps.Collect(o.state.Index.All()), false
	return api.OK
}

// reload does P17.5.
func (o *model) reload() api.Errno {
	anew, _, e := openModel(o.medium, o.segment)
	if e == api.OK {
		*o = *anew
	}
	return e
}

// alike fails, unless two media have the same files, and the same power.
func alike(t *testing.T, what string, a, b *media.Medium) {
	t.Helper()
	if a.Power() != b.Power() || !slices.Equal(a.List(), b.List()) {
		t.Fatalf("%s: %s, not %s", what, look(a), look(b))
	}
	for _, name := range a.List() {
		x, _ := a.All(name)
		if y, _ := b.All(name); !bytes.Equal(x, y) {
			t.Fatalf("%s: %s is %x, not %x", what, name, x, y)
		}
	}
}

// agrees fails, unless a repository is what the model is.
func agrees(t *testing.T, what string, r *repo.Repo, o *model) {
	t.Helper()
	alike(t, what, r.Medium(), o.medium)
	if r.Dirty() != o.dirty || said(r.State()) != said(o.state) || r.Len() != len(o.places) || r.Log().Fresh() != o.log.Fresh() {
		t.Fatalf("%s: dirty %v, %s, %d objects; not %v, %s, %d", what, r.Dirty(), said(r.State()), r.Len(), o.dirty, said(o.state), len(o.places))
	}
	keys := r.Keys()
	for i, k := range keys {
		if i > 0 && bytes.Compare(keys[i-1][:], k[:]) >= 0 {
			t.Fatalf("%s: the keys do not rise", what)
		}
	}
	for c := range 8 {
		k := key(string(rune('a' + c)))
		got, e := r.Get(k)
		want, wantE := o.get(k)
		p, there := r.Place(k)
		q, wants := o.places[k]
		if !bytes.Equal(got, want) || e != wantE || p != q || there != wants || r.Has(k) != wants || slices.Contains(keys, k) != wants {
			t.Fatalf("%s: %c: %q, %d, %v, %v; not %q, %d, %v, %v", what, 'a'+c, got, e, p, there, want, wantE, q, wants)
		}
	}
}

// someKey answers a key.
func someKey(r *rand.Rand) api.ID { return key(string(rune('a' + r.IntN(8)))) }

// someData answers data, now and then too much of it.
func someData(r *rand.Rand) []byte {
	n := r.IntN(30 + r.IntN(100))
	if r.IntN(100) == 0 {
		n = api.MaxObject + 1
	}
	return bytes.Repeat([]byte{byte(r.IntN(256))}, n)
}

// someNumbers answers what lasts behind a crash.
func someNumbers(r *rand.Rand) []int {
	var l []int
	for range r.IntN(12) {
		l = append(l, []int{0, 1, 2, r.IntN(9), 999}[r.IntN(5)])
	}
	return l
}

// both do the same to two media.
func both(t *testing.T, a, b *media.Medium, do func(m *media.Medium) api.Errno) {
	t.Helper()
	if e, want := do(a), do(b); e != want {
		t.Fatalf("%d, not %d", e, want)
	}
}

// someCall does one of both, and holds the errors against each other.
func someCall(t *testing.T, what string, x *rand.Rand, r *repo.Repo, o *model) {
	t.Helper()
	var e, want api.Errno
	call := x.IntN(20)
	switch k := someKey(x); call {
	case 0, 1, 2, 3, 4, 5, 6, 7:
		data := someData(x)
		e, want = r.Put(k, data), o.put(k, data)
	case 8, 9, 10:
		e, want = r.Delete(k), o.delete(k)
	case 11, 12, 13, 14:
		e, want = r.Commit(), o.commit()
	case 15, 16:
		e, want = r.Rollback(), o.rollback()
	case 17:
		e, want = r.Reload(), o.reload()
	case 18:
		n := x.IntN(30)
		both(t, r.Medium(), o.medium, func(m *media.Medium) api.Errno { return m.Arm(n) })
	case 19:
		spoil(t, x, r.Medium(), o.medium)
	}
	if e != want {
		t.Fatalf("%s, call %d: %d, not %d", what, call, e, want)
	}
}

// spoil does something to the files of two media.
func spoil(t *testing.T, x *rand.Rand, a, b *media.Medium) {
	t.Helper()
	files := a.List()
	if len(files) == 0 || x.IntN(3) > 0 {
		return
	}
	name := files[x.IntN(len(files))]
	n, _ := a.Size(name)
	at, by, how := x.IntN(n+1), byte(x.IntN(256)), x.IntN(8)
	both(t, a, b, func(m *media.Medium) api.Errno {
		switch how {
		case 0:
			return m.Remove(name)
		case 1:
			return m.Truncate(name, at)
		case 2:
			return m.SetRoom(m.Used() + 20*at)
		case 3:
			return m.Create(fmt.Sprintf("idx.%08d", at%5))
		case 4:
			return hints.Clean(m)
		}
		m.Rot(name, at, by)
		return api.OK
	})
}

// P17.1 to P17.5: whatever is called, and whatever becomes of the medium, it does what the chapter says, step by step.
func TestModel(t *testing.T) {
	errs := map[api.Errno]int{}
	for seed := range uint64(800) {
		x := rand.New(rand.NewPCG(seed, 17))
		room := 300 + x.IntN(3000)
		a, b := medium(t, room), medium(t, room)
		var r *repo.Repo
		var o *model
		for i := range 60 {
			what := fmt.Sprint("seed ", seed, ", call ", i)
			if r == nil || !a.Power() || x.IntN(40) == 0 {
				l, segment := someNumbers(x), 100+x.IntN(400)
				a.Crash(l)
				b.Crash(l)
				if x.IntN(4) == 0 {
					n := x.IntN(4)
					both(t, a, b, func(m *media.Medium) api.Errno { return m.Arm(n) })
				}
				var fault, wants api.Fault
				var e, want api.Errno
				r, fault, e = repo.Open(a, segment)
				o, wants, want = openModel(b, segment)
				errs[e]++
				if fault != wants || e != want || (r == nil) != (o == nil) {
					t.Fatalf("%s: Open: %v, %d; not %v, %d", what, fault, e, wants, want)
				}
				if r == nil {
					alike(t, what, a, b)
					continue
				}
			}
			agrees(t, what, r, o)
			someCall(t, what, x, r, o)
			agrees(t, what, r, o)
		}
	}
	for _, e := range []api.Errno{api.OK, api.ErrArg, api.ErrDead, api.ErrSum, api.ErrLost} {
		if errs[e] < 20 {
			t.Errorf("Open answered %d %d times", e, errs[e])
		}
	}
}

// objects is a plain map: what a repository comes to.
type objects map[api.ID]string

// same fails, unless a repository has just these objects.
func same(t *testing.T, what string, r *repo.Repo, want objects) {
	t.Helper()
	if got := contents(t, r); !maps.Equal(got, want) {
		t.Fatalf("%s: %v, not %v", what, got, want)
	}
}

// contents answers a repository's objects.
func contents(t *testing.T, r *repo.Repo) objects {
	t.Helper()
	l := objects{}
	for _, k := range r.Keys() {
		b, e := r.Get(k)
		ok(t, e)
		l[k] = string(b)
	}
	return l
}

// change changes a repository, and a plain map likewise.
func change(t *testing.T, x *rand.Rand, r *repo.Repo, l objects) api.Errno {
	t.Helper()
	k := someKey(x)
	_, there := l[k]
	var e, want api.Errno
	switch {
	case x.IntN(3) > 0:
		data := someData(x)
		if e = r.Put(k, data); e == api.OK {
			l[k] = string(data)
		}
		if len(data) > api.MaxObject {
			want = api.ErrBig
		}
	default:
		if e = r.Delete(k); e == api.OK {
			delete(l, k)
		}
		if !there {
			want = api.ErrNone
		}
	}
	if e != want && e != api.ErrDead {
		t.Fatalf("%d, not %d", e, want)
	}
	return e
}

// P17.6: without crashes it is a map.
func TestMap(t *testing.T) {
	for seed := range uint64(400) {
		x := rand.New(rand.NewPCG(seed, 176))
		m := medium(t, 1<<20)
		r := open(t, m, 128+x.IntN(500))
		now, committed := objects{}, objects{}
		for i := range 100 {
			what := fmt.Sprint("seed ", seed, ", call ", i)
			switch x.IntN(12) {
			case 0:
				ok(t, r.Commit())
				committed = maps.Clone(now)
			case 1:
				ok(t, r.Rollback())
				now = maps.Clone(committed)
			case 2:
				ok(t, r.Reload())
				now = maps.Clone(committed)
			case 3:
				r = open(t, m, 128+x.IntN(500))
				now = maps.Clone(committed)
			default:
				change(t, x, r, now)
			}
			same(t, what, r, now)
		}
	}
}

// P17.7, P17.8: wherever the power goes off, over and over, what was committed is there, with hints and without.
func TestCrashes(t *testing.T) {
	either := 0
	for seed := range uint64(800) {
		x := rand.New(rand.NewPCG(seed, 177))
		m := medium(t, 1<<20)
		if x.IntN(3) == 0 {
			m = medium(t, 1000+x.IntN(3000)) // so that now and then there is no room for hints
		}
		committed := objects{}
		for i := range 12 {
			what := fmt.Sprint("seed ", seed, ", opened ", i)
			r := openAnyhow(t, x, m)
			same(t, what, r, committed)
			if x.IntN(3) == 0 {
				ok(t, hints.Clean(m), r.Reload())
				same(t, what+", without hints", r, committed)
			}
			ok(t, m.Arm(x.IntN(60)))
			next := transactions(t, x, r, &committed)
			m.Crash(someNumbers(x))
			if next != nil {
				either++
				if got := contents(t, openAnyhow(t, x, m)); maps.Equal(got, next) {
					committed = next
				}
			}
		}
	}
	if either < 600 {
		t.Errorf("the power went off within %d Commits", either)
	}
}

// openAnyhow opens a repository, the power going off within that now and then.
func openAnyhow(t *testing.T, x *rand.Rand, m *media.Medium) *repo.Repo {
	t.Helper()
	for x.IntN(3) == 0 {
		ok(t, m.Arm(x.IntN(3)))
		if _, _, e := repo.Open(m, 128+x.IntN(500)); e != api.OK {
			does(t, "Open", e, api.ErrDead)
		}
		m.Crash(someNumbers(x))
	}
	return open(t, m, 128+x.IntN(500))
}

// transactions changes a repository, and what was committed of it, till the power goes off, or there is no room; if it
// went off within a Commit, what that would have committed is answered.
func transactions(t *testing.T, x *rand.Rand, r *repo.Repo, committed *objects) objects {
	t.Helper()
	now := maps.Clone(*committed)
	for range 40 {
		if x.IntN(5) > 0 {
			k := someKey(x)
			data := bytes.Repeat([]byte{byte(x.IntN(256))}, x.IntN(100))
			switch e := r.Put(k, data); e {
			case api.OK:
				now[k] = string(data)
			case api.ErrFull:
				continue
			default:
				does(t, "Put", e, api.ErrDead)
				return nil
			}
			if x.IntN(4) == 0 && r.Delete(k) == api.OK {
				delete(now, k)
			}
			continue
		}
		switch e := r.Commit(); e {
		case api.OK:
			*committed = maps.Clone(now)
		case api.ErrFull:
		default:
			does(t, "Commit", e, api.ErrDead)
			return now
		}
	}
	return nil
}

// P17.9: where one byte of a segment is spoilt, each Get answers what it did, or an error, also when it is opened anew
// by the hints of its last commit.
func TestSpoilt(t *testing.T) {
	m := medium(t, 1<<16)
	r := open(t, m, 300)
	x, now := rand.New(rand.NewPCG(1, 179)), objects{}
	for range 12 {
		for range 5 {
			change(t, x, r, now)
		}
		ok(t, r.Commit())
	}
	puts(t, r, "z=not committed")
	was := contents(t, r)
	errs := 0
	for _, n := range r.Log().Segments() {
		for at := range r.Log().Size(n) {
			for _, by := range []byte{1, 2, 7, 128, 255} {
				m.Rot(segs.Name(n), at, by)
				for k, data := range was {
					if b, e := r.Get(k); e == api.OK && string(b) != data {
						t.Fatalf("segment %d, byte %d: %q, not %q", n, at, b, data)
					} else if e != api.OK {
						errs++
					}
				}
				m.Rot(segs.Name(n), at, by)
			}
		}
	}
	if errs < 1000 {
		t.Errorf("%d errors", errs)
	}
	ok(t, r.Rollback())
	delete(was, key("z"))
	same(t, "rolled back", r, was)
	for _, n := range r.Log().Segments() {
		for at := range r.Log().Size(n) {
			m.Rot(segs.Name(n), at, 16)
			anew, _, e := repo.Open(m, 300)
			for k, data := range was {
				if e != api.OK {
					break
				}
				if b, e := anew.Get(k); e == api.OK && string(b) != data {
					t.Fatalf("segment %d, byte %d: %q, not %q", n, at, b, data)
				}
			}
			m.Rot(segs.Name(n), at, 16)
		}
	}
}
