package table_test

import (
	"slices"
	"testing"

	"hoard/api"
	"hoard/table"
)

// key answers a key whose first four bytes are that number, the lowest first, and whose other bytes are of another one.
func key(first uint32, more byte) api.ID {
	k := api.ID{byte(first), byte(first >> 8), byte(first >> 16), byte(first >> 24)}
	for i := 4; i < len(k); i++ {
		k[i] = more
	}
	return k
}

// stranger answers a key with that home that is put into no table here.
func stranger(home int) api.ID { return key(uint32(home), 0xee) }

// ahead tells by the chapter's words whether a key is ahead of another one.
func ahead(a, b api.ID) bool {
	for i := range a {
		if a[i] != b[i] {
			return a[i] < b[i]
		}
	}
	return false
}

// model is a table by the chapter's words. Where a table that is made anew has its keys is not said but for the slots
// that all of them have together: so the model has of each slot just whether it is empty.
type model struct {
	keys  map[api.ID]int
	dead  int
	taken []bool // the slots that are not empty
}

func newModel() *model { return &model{keys: map[api.ID]int{}, taken: make([]bool, 8)} }

// home answers the number that a key's first four bytes are, modulo the number of slots.
func (m *model) home(k api.ID) int {
	n := 0
	for i := 3; i >= 0; i-- {
		n = n*256 + int(k[i])
	}
	return n % len(m.taken)
}

// steps answers how many slots a search looks at for a key that is not there, and where it ends.
func (m *model) steps(home int) (int, int) {
	n := 1
	for m.taken[home] {
		home++
		if home == len(m.taken) {
			home = 0
		}
		n++
	}
	return n, home
}

// lay takes the slot at which the search for a key ends.
func (m *model) lay(k api.ID) {
	_, at := m.steps(m.home(k))
	m.taken[at] = true
}

// renew makes it anew for the keys that it has.
func (m *model) renew() {
	n := 8
	for n < 2*len(m.keys)+1 {
		n += n
	}
	m.taken, m.dead = make([]bool, n), 0
	for k := range m.keys {
		m.lay(k)
	}
}

func (m *model) put(k api.ID, v int) {
	if _, ok := m.keys[k]; !ok {
		if float64(len(m.keys)+m.dead+1) > 0.75*float64(len(m.taken)) {
			m.renew()
		}
		m.lay(k)
	}
	m.keys[k] = v
}

func (m *model) delete(k api.ID) bool {
	if _, ok := m.keys[k]; !ok {
		return false
	}
	delete(m.keys, k)
	m.dead++
	if len(m.taken) > 8 && len(m.taken) > 8*len(m.keys) {
		m.renew()
	}
	return true
}

func (m *model) copy() *model {
	c := newModel()
	for k, v := range m.keys {
		c.keys[k] = v
	}
	c.dead, c.taken = m.dead, slices.Clone(m.taken)
	return c
}

// rising answers its keys in their order.
func (m *model) rising() []api.ID {
	var l []api.ID
	for k := range m.keys {
		l = append(l, k)
	}
	slices.SortFunc(l, func(a, b api.ID) int {
		if ahead(a, b) {
			return -1
		}
		return 1
	})
	return l
}

// counts fails, unless a table has so many keys, slots, dead slots.
func counts[V any](t *testing.T, x *table.Table[V], keys, slots, dead int) {
	t.Helper()
	if x.Len() != keys || x.Cap() != slots || x.Dead() != dead {
		t.Fatalf("%d keys, %d slots, %d dead; not %d, %d, %d", x.Len(), x.Cap(), x.Dead(), keys, slots, dead)
	}
}

// agrees fails, unless a table is what the model is.
func agrees(t *testing.T, x *table.Table[int], m *model) {
	t.Helper()
	counts(t, x, len(m.keys), len(m.taken), m.dead)
	agreesSlots(t, x, m)
	want := m.rising()
	if l := x.Keys(); !slices.Equal(l, want) {
		t.Fatalf("keys: %x, not %x", l, want)
	}
	n := 0
	for k, v := range x.All() {
		if n >= len(want) || k != want[n] || v != m.keys[k] {
			t.Fatalf("all, at %d: %x, %d, not %x, %d", n, k, v, want[n:], m.keys[k])
		}
		n++
	}
	if n != len(want) {
		t.Fatalf("all: %d keys, not %d", n, len(want))
	}
}

// agreesSlots fails, unless the searches for all keys and from all homes are those of the model.
func agreesSlots(t *testing.T, x *table.Table[int], m *model) {
	t.Helper()
	most := len(m.keys) + m.dead + 1
	for home := range m.taken {
		want, _ := m.steps(home)
		k := stranger(home)
		if n := x.Steps(k); n != want || n > most {
			t.Fatalf("steps of a key that is not there, at home in %d of %d: %d, not %d (%d at most)", home, len(m.taken), n, want, most)
		}
		if v, ok := x.Get(k); ok || v != 0 {
			t.Fatalf("got %d, %v under a key that is not there", v, ok)
		}
	}
	places := map[int]bool{}
	for k, v := range m.keys {
		if w, ok := x.Get(k); !ok || w != v {
			t.Fatalf("got %d, %v under %x, not %d", w, ok, k, v)
		}
		n := x.Steps(k)
		end, _ := m.steps(m.home(k))
		if n < 1 || n >= end || n > most {
			t.Fatalf("steps of %x: %d, of its home's end %d (%d at most)", k, n, end, most)
		}
		places[(m.home(k)+n-1)%len(m.taken)] = true
	}
	if len(places) != len(m.keys) { // no two keys have one slot
		t.Fatalf("%d keys have %d slots", len(m.keys), len(places))
	}
}

// both is a table, and the model to which the same is done.
type both struct {
	t *testing.T
	x *table.Table[int]
	m *model
}

func newBoth(t *testing.T) both { return both{t, table.New[int](), newModel()} }

func (b both) put(k api.ID, v int) {
	b.t.Helper()
	b.x.Put(k, v)
	b.m.put(k, v)
}

func (b both) delete(k api.ID) {
	b.t.Helper()
	if ok, want := b.x.Delete(k), b.m.delete(k); ok != want {
		b.t.Fatalf("delete of %x: %v", k, ok)
	}
}

func (b both) copy() both { return both{b.t, b.x.Copy(), b.m.copy()} }

func (b both) agree() {
	b.t.Helper()
	agrees(b.t, b.x, b.m)
}
