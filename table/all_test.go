package table_test

import (
	"runtime"
	"slices"
	"testing"
	"weak"

	"hoard/api"
	"hoard/table"
)

// gone answers what an iterator goes through.
func gone(f func(func(api.ID, int) bool)) ([]api.ID, []int) {
	var keys []api.ID
	var values []int
	for k, v := range f {
		keys = append(keys, k)
		values = append(values, v)
	}
	return keys, values
}

// P12.2: it may be left, and begun anew.
func TestAllIsLeft(t *testing.T) {
	b := filled(t, 9)
	all := b.x.All()
	for n := range 10 {
		seen := 0
		for k, v := range all {
			if v != seen || k != key(uint32(seen), 1) {
				t.Fatalf("at %d: %x, %d", seen, k, v)
			}
			seen++
			if seen > n {
				break
			}
		}
		if want := min(n+1, 9); seen != want {
			t.Errorf("%d seen, not %d", seen, want)
		}
	}
	asked := 0
	all(func(api.ID, int) bool { // nobody who left is asked again
		asked++
		return asked < 3
	})
	if asked != 3 {
		t.Errorf("asked %d times", asked)
	}
	b.agree()
}

// P12.2: what stands there when it begins is gone through, whatever becomes of the table meanwhile.
func TestAllWhileTheTableChanges(t *testing.T) {
	for _, n := range []int{1, 5, 6, 7, 40} {
		for what, change := range map[string]func(b both, k api.ID, at int){
			"all deleted": func(b both, _ api.ID, at int) {
				for i := range n {
					b.delete(key(uint32(i), 1))
				}
			},
			"each deleted": func(b both, k api.ID, _ int) { b.delete(k) },
			"each put":     func(b both, k api.ID, _ int) { b.put(k, -1) },
			"all put": func(b both, _ api.ID, _ int) {
				for i := range n {
					b.put(key(uint32(i), 1), -2)
				}
			},
			"others put": func(b both, _ api.ID, at int) {
				for i := range 10 {
					b.put(key(uint32(at*10+i), 2), -3)
				}
			},
		} {
			b := filled(t, n)
			want, values := b.x.Keys(), []int(nil)
			for k, v := range b.x.All() {
				if k != want[len(values)] {
					t.Fatalf("%s, %d keys, at %d: %x", what, n, len(values), k)
				}
				change(b, k, len(values))
				values = append(values, v)
			}
			for i, k := range want {
				if len(values) != n || values[i] != int(k[0]) {
					t.Fatalf("%s, %d keys: %d", what, n, values)
				}
			}
			b.agree()
		}
	}
}

// P12.2: it begins when it is gone through, and does so each time.
func TestAllBegins(t *testing.T) {
	x := table.New[int]()
	all := x.All()
	x.Put(key(2, 1), 2)
	if k, v := gone(all); !slices.Equal(k, []api.ID{key(2, 1)}) || !slices.Equal(v, []int{2}) {
		t.Errorf("%x, %d", k, v)
	}
	x.Put(key(1, 1), 1)
	x.Put(key(2, 1), 3)
	if k, v := gone(all); !slices.Equal(k, []api.ID{key(1, 1), key(2, 1)}) || !slices.Equal(v, []int{1, 3}) {
		t.Errorf("%x, %d", k, v)
	}
	for i := range 20 {
		x.Put(key(uint32(i), 1), i)
	}
	for i := range 19 {
		x.Delete(key(uint32(i), 1))
	}
	if k, v := gone(all); !slices.Equal(k, []api.ID{key(19, 1)}) || !slices.Equal(v, []int{19}) {
		t.Errorf("%x, %d", k, v)
	}
}

// P12.2: one within another, of one table.
func TestAllWithinAll(t *testing.T) {
	b := filled(t, 8)
	all := b.x.All()
	n := 0
	for _, v := range all {
		for _, w := range all {
			if v != n/8 || w != n%8 {
				t.Fatalf("%d, %d at %d", v, w, n)
			}
			n++
		}
	}
	if n != 64 {
		t.Errorf("%d pairs", n)
	}
}

// P12.2: a copy has the same, dead slots too, and goes its own way.
func TestCopy(t *testing.T) {
	for _, n := range []int{0, 1, 5, 6, 7, 12, 13, 40} {
		for _, less := range []int{0, 1, 3, n} {
			b := filled(t, n)
			for i := range min(less, n) {
				b.delete(key(uint32(i), 1))
			}
			b.put(key(3, 2), 50)
			c := b.copy()
			c.agree()
			for home := range b.x.Cap() {
				for more := range byte(3) {
					if k := key(uint32(home), more); c.x.Steps(k) != b.x.Steps(k) {
						t.Fatalf("steps of %x: %d, not %d", k, c.x.Steps(k), b.x.Steps(k))
					}
				}
			}
			for i := range n {
				c.put(key(uint32(i), 1), -1)
				c.put(key(uint32(i), 3), -2)
				b.agree()
			}
			d := c.copy()
			for i := range n {
				c.delete(key(uint32(i), 1))
				b.put(key(uint32(i), 4), -4)
			}
			b.agree()
			c.agree()
			d.agree()
		}
	}
}

// P12.1: of whatever values.
func TestValues(t *testing.T) {
	holds(t, "a", "b")
	holds(t, 1.5, 0)
	holds(t, struct{}{}, struct{}{})
	holds(t, api.Place{Seg: 1, At: 2, Size: 3}, api.Place{})
	holds(t, [3]int{1, 2, 3}, [3]int{})
	holds(t, new(int), nil)
	holds[any](t, 1, nil)
	holds[error](t, api.ErrNone, nil)
	holds(t, make(chan int), nil)
}

// holds puts one value, then another one.
func holds[V comparable](t *testing.T, v, w V) {
	t.Helper()
	x := table.New[V]()
	k := key(1, 1)
	for _, u := range []V{v, w, v} {
		x.Put(k, u)
		if got, ok := x.Get(k); got != u || !ok {
			t.Errorf("got %v, %v, not %v", got, ok, u)
		}
		for _, got := range x.All() {
			if got != u {
				t.Errorf("all: %v, not %v", got, u)
			}
		}
	}
	var none V
	if got, ok := x.Get(key(1, 2)); got != none || ok {
		t.Errorf("got %v, %v", got, ok)
	}
	if !x.Delete(k) || x.Delete(k) {
		t.Error("delete")
	}
	if got, ok := x.Get(k); got != none || ok {
		t.Errorf("deleted: got %v, %v", got, ok)
	}
}

// P12.1: values that cannot be compared.
func TestValuesThatAreLists(t *testing.T) {
	x := table.New[[]int]()
	l := []int{1, 2}
	x.Put(key(1, 1), l)
	x.Put(key(2, 1), nil)
	if v, ok := x.Get(key(1, 1)); !ok || !slices.Equal(v, l) {
		t.Errorf("got %v, %v", v, ok)
	}
	if v, ok := x.Get(key(2, 1)); !ok || v != nil {
		t.Errorf("got %v, %v", v, ok)
	}
	f := table.New[func() int]()
	f.Put(key(1, 1), func() int { return 7 })
	if v, ok := f.Get(key(1, 1)); !ok || v() != 7 {
		t.Errorf("got a function: %v", ok)
	}
}

// What was deleted, or put over, is let go of.
func TestValuesAreLetGoOf(t *testing.T) {
	x := table.New[*[64]int]()
	fresh := func(k api.ID) weak.Pointer[[64]int] {
		v := new([64]int)
		x.Put(k, v)
		return weak.Make(v)
	}
	deleted, over, kept := fresh(key(1, 1)), fresh(key(2, 1)), fresh(key(3, 1))
	x.Delete(key(1, 1))
	x.Put(key(2, 1), nil)
	runtime.GC()
	if deleted.Value() != nil || over.Value() != nil || kept.Value() == nil {
		t.Error("kept what is not there, or not what is")
	}
	runtime.KeepAlive(x)
}

// P12.1, R1: of tables that New did not make, or none.
func TestTableThatNobodyMade(t *testing.T) {
	unmade[int](t)
	unmade[string](t)
	unmade[*int](t)
	unmade[api.Place](t)
	unmade[struct{}](t)
}

func unmade[V comparable](t *testing.T) {
	t.Helper()
	var none V
	var nobody *table.Table[V]
	for _, x := range []*table.Table[V]{nobody, {}, new(table.Table[V]), nobody.Copy()} {
		for _, k := range []api.ID{{}, key(1, 1), key(1, 1)} {
			x.Put(k, none)
			if v, ok := x.Get(k); v != none || ok || x.Delete(k) || x.Steps(k) != 0 {
				t.Errorf("%x: got %v, %v, %d steps", k, v, ok, x.Steps(k))
			}
		}
		counts(t, x, 0, 0, 0)
		if l := x.Keys(); len(l) != 0 || x.Copy() != nil {
			t.Errorf("%d keys, or a copy", len(l))
		}
		for k := range x.All() {
			t.Errorf("goes through %x", k)
		}
	}
}

// R4: tables know nothing of one another.
func TestTablesAreApart(t *testing.T) {
	a, b := newBoth(t), newBoth(t)
	for i := range 30 {
		a.put(key(uint32(i), 1), i)
		b.put(key(uint32(i), 1), -i)
		b.put(key(uint32(i), 2), i)
		a.delete(key(uint32(i/2), 1))
		a.agree()
		b.agree()
	}
}
