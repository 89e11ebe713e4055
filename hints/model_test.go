package hints_test

import (
	"encoding/binary"
	"fmt"
	"math/rand/v2"
	"slices"
	"testing"

	"hoard/api"
	"hoard/book"
	"hoard/hints"
	"hoard/media"
	"hoard/replay"
	"hoard/segs"
	"hoard/xxh"
)

// seal answers a book's bytes with their sum behind them.
func seal(b []byte) []byte { return binary.LittleEndian.AppendUint64(slices.Clone(b), xxh.Sum(b, 0)) }

// load answers what Load must by the chapter's words, from the medium's files alone.
func load(m *media.Medium, n int) (*replay.State, api.Errno) {
	a, e := m.All(fmt.Sprintf("idx.%08d", n))
	if e != api.OK {
		return nil, e
	}
	b, e := m.All(fmt.Sprintf("use.%08d", n))
	if e != api.OK {
		return nil, e
	}
	objects, e := book.ReadIndex(a)
	if e != api.OK {
		return nil, e
	}
	uses, e := book.ReadUses(b)
	if e != api.OK {
		return nil, e
	}
	s := &replay.State{Last: n, Index: index(nil), Uses: uses}
	sizes := map[int]int{}
	for k := range 1000 {
		size, e := m.Size(fmt.Sprintf("seg.%08d", k))
		switch {
		case e == api.OK && k <= n:
			sizes[k] = size
		case e == api.OK:
			s.Tail = append(s.Tail, k)
		}
	}
	for _, u := range uses {
		size, there := sizes[u.Seg]
		if !there || u.Size != size || u.Live < 0 || u.Live > size {
			return nil, api.ErrForm
		}
	}
	if _, there := sizes[n]; !there || len(uses) != len(sizes) {
		return nil, api.ErrForm
	}
	for _, x := range objects {
		size, there := sizes[x.Place.Seg]
		if !there || x.Place.At < 8 || x.Place.Size < 41 || x.Place.At+x.Place.Size > size {
			return nil, api.ErrForm
		}
		s.Index.Put(x.Key, x.Place)
	}
	return s, api.OK
}

// agrees fails, unless Load of a medium answers that, and tells whether it has a state.
func agrees(t *testing.T, what string, m *media.Medium, n int) bool {
	t.Helper()
	got, e := hints.Load(open(t, m), m, n)
	want, wantE := load(m, n)
	if e != wantE || (got == nil) != (want == nil) || got != nil && !same(got, want) {
		t.Fatalf("%s: Load(%d) %s, %d; not %s, %d", what, n, show(got), e, show(want), wantE)
	}
	return e == api.OK
}

// nearly answers a number, now and then the one beside it.
func nearly(r *rand.Rand, n int) int {
	switch r.IntN(60) {
	case 0:
		return n + 1
	case 1:
		return max(n-1, 0)
	}
	return n
}

// someHints lays segments and hints of a commit that fit more or less, and answers the commit.
func someHints(t *testing.T, r *rand.Rand, m *media.Medium) int {
	t.Helper()
	var uses []api.Use
	for n := range 1 + r.IntN(7) {
		if r.IntN(4) == 0 {
			continue
		}
		size := r.IntN(200)
		ok(t, m.Create(segs.Name(n)), m.Append(segs.Name(n), make([]byte, size)))
		uses = append(uses, api.Use{Seg: n, Size: nearly(r, size), Live: r.IntN(size + 1)})
	}
	if len(uses) == 0 {
		return 0
	}
	uses = uses[:1+r.IntN(len(uses))]
	n := nearly(r, uses[len(uses)-1].Seg)
	x := index(nil)
	for range r.IntN(5) {
		u := uses[r.IntN(len(uses))]
		if u.Size >= 49 {
			at := 8 + r.IntN(u.Size-48)
			x.Put(key(byte(r.IntN(9))), api.Place{Seg: nearly(r, u.Seg), At: nearly(r, at), Size: nearly(r, 41+r.IntN(u.Size-at-40))})
		}
	}
	if len(uses) > 1 && r.IntN(20) == 0 {
		i := r.IntN(len(uses))
		uses = slices.Delete(uses, i, i+1)
	}
	if i := r.IntN(len(uses)); r.IntN(20) == 0 {
		uses[i].Live = nearly(r, uses[i].Size)
	}
	file(t, m, hints.IndexName(n), indexBook(t, x))
	file(t, m, hints.UsesName(n), usesBook(t, uses...))
	return n
}

// P16.3: of whatever hints, Load says what the chapter does.
func TestModel(t *testing.T) {
	loaded := 0
	for seed := range uint64(4000) {
		r := rand.New(rand.NewPCG(seed, 16))
		m := medium(t, 1<<16)
		n := someHints(t, r, m)
		what := fmt.Sprint("seed ", seed)
		for k := -1; k < 9; k++ {
			if agrees(t, what, m, k) {
				loaded++
			}
		}
		if files := m.List(); r.IntN(2) == 0 && len(files) > 0 {
			name := files[r.IntN(len(files))]
			size, _ := m.Size(name)
			m.Rot(name, r.IntN(size+1), byte(r.IntN(256)))
			agrees(t, what+", spoilt", m, n)
			ok(t, m.Truncate(name, r.IntN(size+1)))
			agrees(t, what+", "+name+" cut", m, n)
		}
	}
	if loaded < 1000 || loaded > 3500 {
		t.Errorf("%d of 4000 are loaded", loaded)
	}
}

// somePart appends some entries, and commits them.
func somePart(t *testing.T, r *rand.Rand, l *segs.Log) {
	t.Helper()
	var entries []api.Entry
	for range r.IntN(6) {
		x := put(byte(r.IntN(5)), r.IntN(100))
		if r.IntN(3) == 0 {
			x = api.Entry{Tag: api.Delete, Key: x.Key}
		}
		entries = append(entries, x)
	}
	transaction(t, l, entries...)
}

// P16.5: what was saved is loaded as it was; wherever the power goes off within Save, and whatever lasts, what is loaded
// of any commit is what replay said of it, and behind Save's OK that is there.
func TestTransactions(t *testing.T) {
	for seed := range uint64(1500) {
		r := rand.New(rand.NewPCG(seed, 165))
		m := medium(t, 1<<20)
		said := map[int]*replay.State{}
		for i := range 8 {
			what := fmt.Sprint("seed ", seed, ", transaction ", i)
			l, e := segs.Open(m, 128+r.IntN(300))
			ok(t, e)
			for range 1 + r.IntN(2) {
				somePart(t, r, l)
			}
			s, _, e := replay.Run(l)
			ok(t, e)
			said[s.Last] = s
			ok(t, m.Arm(r.IntN(20)))
			e = hints.Save(m, s)
			does(t, what, m.Arm(1000), e) // no other error comes than that of the power
			if e == api.OK {
				got, e := hints.Load(l, m, s.Last)
				if e != api.OK || !same(got, s) || hints.Newest(m) != s.Last {
					t.Fatalf("%s: %s, %d; not %s", what, show(got), e, show(s))
				}
			}
			if e != api.OK || r.IntN(2) == 0 {
				m.Crash([]int{r.IntN(20), r.IntN(3), r.IntN(90), r.IntN(3), r.IntN(90)})
			}
			l = open(t, m)
			if hints.Newest(m) > s.Last {
				t.Fatalf("%s: Newest %d", what, hints.Newest(m))
			}
			for n := range s.Last + 2 {
				agrees(t, what, m, n)
				got, loadE := hints.Load(l, m, n)
				switch {
				case loadE != api.OK && (n != s.Last || e != api.OK):
					continue
				case loadE != api.OK:
					t.Fatalf("%s: %d was saved; Load: %d", what, n, loadE)
				}
				if want := said[n]; want == nil || show(&replay.State{Last: n, Index: got.Index, Uses: got.Uses}) != show(&replay.State{Last: n, Index: want.Index, Uses: want.Uses}) {
					t.Fatalf("%s: %s; not %s", what, show(got), show(want))
				}
				for _, k := range l.Segments() {
					if slices.Contains(got.Tail, k) != (k > n) {
						t.Fatalf("%s: of %d the tail is %d", what, n, got.Tail)
					}
				}
			}
		}
	}
}
