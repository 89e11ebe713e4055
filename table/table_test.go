package table_test

import (
	"math"
	"math/rand/v2"
	"slices"
	"testing"

	"hoard/api"
	"hoard/table"
)

// filled answers a table with the keys of homes 0, 1 and so on.
func filled(t *testing.T, n int) both {
	b := newBoth(t)
	for i := range n {
		b.put(key(uint32(i), 1), i)
	}
	return b
}

// P12.1
func TestNew(t *testing.T) {
	b := newBoth(t)
	counts(t, b.x, 0, 8, 0)
	b.agree()
	for _, k := range []api.ID{{}, key(0, 1), key(math.MaxUint32, 255)} {
		if v, ok := b.x.Get(k); v != 0 || ok || b.x.Delete(k) || b.x.Steps(k) != 1 {
			t.Errorf("%x: %d, %v; %d steps", k, v, ok, b.x.Steps(k))
		}
	}
	b.agree()
}

// P12.1: what was put last is got, also where that is a zero value.
func TestPutAndGet(t *testing.T) {
	x := table.New[string]()
	none, all := api.ID{}, key(math.MaxUint32, 255)
	for i, c := range []struct {
		k    api.ID
		v    string
		keys int
	}{
		{key(1, 1), "a", 1}, {key(2, 1), "b", 2}, {key(1, 1), "c", 2}, {none, "d", 3}, {all, "e", 4}, {none, "", 4}, {all, "f", 4}, {key(2, 1), "", 4}, {key(2, 1), "g", 4}, {key(3, 1), "", 5},
	} {
		x.Put(c.k, c.v)
		if v, ok := x.Get(c.k); v != c.v || !ok {
			t.Errorf("%d: got %q, %v", i, v, ok)
		}
		counts(t, x, c.keys, 8, 0)
	}
	for k, want := range map[api.ID]string{key(1, 1): "c", key(2, 1): "g", key(3, 1): "", none: "", all: "f"} {
		if v, ok := x.Get(k); v != want || !ok {
			t.Errorf("%x: got %q, %v, not %q", k, v, ok, want)
		}
	}
	for _, k := range []api.ID{key(1, 2), key(4, 1), key(1<<24, 0), key(math.MaxUint32, 254)} {
		if v, ok := x.Get(k); v != "" || ok {
			t.Errorf("%x: got %q", k, v)
		}
	}
}

// P12.1: keys that differ in one byte, one bit of it, are two.
func TestEachByteOfAKeyCounts(t *testing.T) {
	k := key(0x01020304, 5)
	for i := range k {
		for bit := range 8 {
			other := k
			other[i] ^= 1 << bit
			b := newBoth(t)
			b.put(k, 1)
			if v, ok := b.x.Get(other); v != 0 || ok || b.x.Delete(other) {
				t.Fatalf("byte %d, bit %d: got %d", i, bit, v)
			}
			b.put(other, 2)
			b.agree()
			b.delete(k)
			b.agree()
		}
	}
}

// P12.1: the home is the number of the first four bytes, the lowest first, modulo the number of slots.
func TestHome(t *testing.T) {
	for _, c := range []struct {
		first uint32
		home  int
	}{
		{0, 0}, {1, 1}, {7, 7}, {8, 0}, {9, 1}, {255, 7}, {256, 0}, {0x0100, 0}, {0x0503, 3}, {0x01000000, 0}, {0xff000006, 6}, {math.MaxUint32, 7}, {0x80000004, 4},
	} {
		for _, more := range []byte{0, 1, 255} {
			x := table.New[int]()
			x.Put(key(c.first, more), 1)
			for home := range 8 {
				want := 1
				if home == c.home {
					want = 2
				}
				if n := x.Steps(stranger(home)); n != want {
					t.Errorf("first bytes %08x: %d steps from %d, not %d", c.first, n, home, want)
				}
			}
		}
	}
}

// P12.1: the second and the third byte, where there are so many slots that they play a part.
func TestHomeInManySlots(t *testing.T) {
	const n = 1 << 16
	x := table.New[int]()
	for i := range n {
		x.Put(key(uint32(2*i), 1), i)
	}
	counts(t, x, n, 2*n, 0)
	for i := range 2 * n {
		want := 2 - i%2 // at each second home stands a key
		if s := x.Steps(stranger(i)); s != want {
			t.Fatalf("%d steps from %d, not %d", s, i, want)
		}
		if s := x.Steps(key(uint32(i)+0xabcc0000, 9)); s != want {
			t.Fatalf("%d steps from %d and what is more than all slots, not %d", s, i, want)
		}
	}
	for i := range n {
		if v, ok := x.Get(key(uint32(2*i), 1)); v != i || !ok || x.Steps(key(uint32(2*i), 1)) != 1 {
			t.Fatalf("%d: got %d, %v", i, v, ok)
		}
	}
}

// P12.1, P12.2: a search goes on at the next slot, behind the last one at the first.
func TestSearch(t *testing.T) {
	x := table.New[int]()
	a, b, c, d := key(7, 1), key(15, 2), key(0, 3), key(6, 4)
	for i, k := range []api.ID{a, b, c, d} { // in the slots 7, 0, 1, 6
		x.Put(k, i)
	}
	for i, want := range []int{1, 2, 2, 1} {
		if n := x.Steps([]api.ID{a, b, c, d}[i]); n != want {
			t.Errorf("key %d: %d steps, not %d", i, n, want)
		}
	}
	for home, want := range []int{3, 2, 1, 1, 1, 1, 5, 4} {
		if n := x.Steps(stranger(home)); n != want {
			t.Errorf("from %d: %d steps, not %d", home, n, want)
		}
	}
}

// P12.1: a dead slot stays in the way, and is not put into again.
func TestDeadSlots(t *testing.T) {
	b := newBoth(t)
	k, l, m := key(3, 1), key(3, 2), key(3, 3)
	steps := func(want ...int) {
		t.Helper()
		for i, x := range []api.ID{k, l, m} {
			if n := b.x.Steps(x); n != want[i] {
				t.Errorf("key %d: %d steps, not %d", i, n, want[i])
			}
		}
		b.agree()
	}
	for i, x := range []api.ID{k, l, m} {
		b.put(x, i)
	}
	steps(1, 2, 3)
	b.delete(l)
	counts(t, b.x, 2, 8, 1)
	steps(1, 4, 3)
	b.delete(k)
	counts(t, b.x, 1, 8, 2)
	steps(4, 4, 3)
	b.put(m, 9) // it keeps its slot
	counts(t, b.x, 1, 8, 2)
	steps(4, 4, 3)
	b.put(l, 8) // behind m
	counts(t, b.x, 2, 8, 2)
	steps(5, 4, 3)
	b.put(k, 7)
	counts(t, b.x, 3, 8, 2)
	steps(5, 4, 3)
	b.delete(m)
	b.delete(m)
	counts(t, b.x, 2, 8, 3)
	steps(5, 4, 6)
}

// P12.1: how many slots there are behind so many keys, put one behind the other.
func TestGrowth(t *testing.T) {
	b := newBoth(t)
	for n := 1; n <= 2000; n++ {
		b.put(key(uint32(n*7), 1), n)
		want := 8
		for 4*n > 3*want {
			want *= 2
		}
		counts(t, b.x, n, want, 0)
		if n < 200 || n%97 == 0 {
			b.agree()
		}
	}
}

// P12.1: the edge of three quarters, with dead slots among them; and how many slots there are then.
func TestPutMakesAnew(t *testing.T) {
	for _, c := range []struct{ keys, dead, slots int }{
		{6, 0, 16}, {5, 1, 16}, {4, 2, 16}, {3, 3, 8}, {2, 4, 8}, {1, 5, 8}, {0, 6, 8},
	} {
		b := filled(t, c.keys+c.dead)
		for i := range c.dead {
			b.delete(key(uint32(i), 1))
		}
		counts(t, b.x, c.keys, 8, c.dead)
		for _, k := range b.m.rising() { // what is there already asks for no slot
			b.put(k, 77)
		}
		counts(t, b.x, c.keys, 8, c.dead)
		b.agree()
		b.put(key(9, 9), 9)
		counts(t, b.x, c.keys+1, c.slots, 0)
		b.agree()
	}
}

// P12.1: just below the edge nothing is made anew.
func TestPutDoesNotMakeAnew(t *testing.T) {
	for keys := range 6 {
		b := filled(t, 5)
		for i := range 5 - keys {
			b.delete(key(uint32(i), 1))
		}
		counts(t, b.x, keys, 8, 5-keys)
		b.put(key(9, 9), 9)
		counts(t, b.x, keys+1, 8, 5-keys)
		b.agree()
	}
}

// churn puts and deletes a key, over and over with another one, till so many slots are dead.
func (b both) churn(dead int) {
	b.t.Helper()
	for i := uint32(1000); b.x.Dead() < dead; i++ {
		b.put(key(i, 7), 1)
		b.delete(key(i, 7))
	}
	if b.x.Dead() != dead {
		b.t.Fatalf("%d dead, not %d", b.x.Dead(), dead)
	}
}

// P12.1: where dead slots fill a table it is made anew with as many as before, with fewer or with more.
func TestPutMakesAnewBehindDeadSlots(t *testing.T) {
	for _, c := range []struct{ keys, slots, dead, behind int }{
		{2, 16, 10, 8}, {3, 16, 9, 8}, {4, 16, 8, 16}, {7, 16, 5, 16}, {8, 16, 4, 32}, {11, 16, 1, 32}, {12, 16, 0, 32},
		{4, 32, 20, 16}, {7, 32, 17, 16}, {8, 32, 16, 32}, {15, 32, 9, 32}, {16, 32, 8, 64}, {24, 32, 0, 64},
	} {
		b := filled(t, c.slots*3/8+1) // so many that there are just so many slots
		for i := c.keys; i < c.slots*3/8+1; i++ {
			b.delete(key(uint32(i), 1))
		}
		for i := c.slots*3/8 + 1; i < c.keys; i++ {
			b.put(key(uint32(i), 1), i)
		}
		b.churn(c.dead)
		counts(t, b.x, c.keys, c.slots, c.dead)
		b.agree()
		b.put(key(0, 9), 9)
		counts(t, b.x, c.keys+1, c.behind, 0)
		b.agree()
	}
}

// P12.1: the edge of eight times the keys, and how many slots there are then.
func TestDeleteMakesAnew(t *testing.T) {
	for _, c := range []struct{ slots, keys, behind int }{
		{16, 1, 8}, {32, 3, 8}, {64, 7, 16}, {128, 15, 32}, {256, 31, 64}, {1024, 127, 256},
	} {
		b := filled(t, c.slots/2)
		for n := c.slots/2 - 1; n > c.keys; n-- {
			b.delete(key(uint32(n), 1))
			counts(t, b.x, n, c.slots, c.slots/2-n)
		}
		b.agree()
		if b.x.Delete(stranger(0)) || b.x.Delete(key(uint32(c.slots/2-1), 1)) {
			t.Errorf("%d slots: deleted what was not there", c.slots)
		}
		counts(t, b.x, c.keys+1, c.slots, c.slots/2-c.keys-1)
		b.delete(key(0, 1))
		counts(t, b.x, c.keys, c.behind, 0)
		b.agree()
	}
}

// P12.1: eight slots stay, however few keys have them.
func TestDeleteOfTheLast(t *testing.T) {
	b := filled(t, 6)
	for i := range 6 {
		b.delete(key(uint32(i), 1))
		counts(t, b.x, 5-i, 8, i+1)
		b.agree()
	}
}

// The chapter's example.
func TestExample(t *testing.T) {
	b := filled(t, 7)
	counts(t, b.x, 7, 16, 0)
	for i, want := range []struct{ slots, dead int }{{16, 1}, {16, 2}, {16, 3}, {16, 4}, {16, 5}, {8, 0}, {8, 1}} {
		b.delete(key(uint32(i), 1))
		counts(t, b.x, 6-i, want.slots, want.dead)
		b.agree()
	}
}

// P12.1: what is not there is not deleted, and nothing changes.
func TestDeleteOfNothing(t *testing.T) {
	b := filled(t, 4)
	b.delete(key(2, 1))
	for range 20 {
		for _, k := range []api.ID{{}, key(2, 1), stranger(0), stranger(1), stranger(7), key(3, 2)} {
			if b.x.Delete(k) {
				t.Errorf("%x deleted", k)
			}
		}
		counts(t, b.x, 3, 8, 1)
		b.agree()
	}
}

// sorts of keys: with homes of their own, or one home, the last ones, few of them, and any.
func sorts() []func(n int) api.ID {
	return []func(n int) api.ID{
		func(n int) api.ID { return key(uint32(n), 1) },
		func(n int) api.ID { return key(5, byte(n)) },
		func(n int) api.ID { return key(math.MaxUint32, byte(n)) },
		func(n int) api.ID { return key(math.MaxUint32-uint32(n%3), byte(n)) },
		func(n int) api.ID { return key(uint32(n)*8, 3) },
		func(n int) api.ID { return key(uint32(n)*2654435761, byte(n)) },
		func(n int) api.ID { return key(uint32(n)<<24, byte(n>>8)) },
	}
}

// P12.1 to P12.3: whatever is put and deleted, whenever.
func TestTableIsTheModel(t *testing.T) {
	for i, sort := range sorts() {
		for seed := range uint64(6) {
			r := rand.New(rand.NewPCG(seed, uint64(i)))
			b := newBoth(t)
			all := []int{3, 8, 13, 40, 90, 200}[seed]
			for step := range 1500 {
				k := sort(r.IntN(all))
				grows := step/300%2 == 0
				if (r.IntN(4) > 0) == grows {
					b.put(k, step+1)
				} else {
					b.delete(k)
				}
				b.agree()
			}
		}
	}
}

// P12.1 to P12.3: all that can be done in few steps to few keys that are in one another's way, and have the table
// filled nearly.
func TestAllSmallTables(t *testing.T) {
	keys := []api.ID{key(7, 1), key(7, 2), key(0, 3)}
	var try func(b both, steps int)
	try = func(b both, steps int) {
		b.agree()
		if steps == 0 {
			return
		}
		for i, k := range keys {
			c := b.copy()
			c.put(k, 10*steps+i)
			try(c, steps-1)
			c = b.copy()
			c.delete(k)
			try(c, steps-1)
		}
	}
	for _, dead := range []int{0, 3, 4} {
		b := newBoth(t)
		b.churn(dead)
		try(b, 5)
	}
}

// P12.3: of many keys each is found soon, and nothing else is.
func TestManyKeys(t *testing.T) {
	const n = 100000
	x := table.New[int]()
	r := rand.New(rand.NewPCG(1, 2))
	var l []api.ID
	for i := range n {
		k := key(r.Uint32(), byte(i))
		k[31], k[30], k[29] = byte(i), byte(i>>8), byte(i>>16)
		l = append(l, k)
		x.Put(k, i)
	}
	steps := 0
	for i, k := range l {
		if v, ok := x.Get(k); v != i || !ok {
			t.Fatalf("%d: got %d, %v", i, v, ok)
		}
		steps += x.Steps(k)
	}
	if steps > 3*n {
		t.Errorf("%d steps for %d keys", steps, n)
	}
	for i, k := range l {
		if !x.Delete(k) || x.Delete(k) {
			t.Fatalf("%d: not deleted, or twice", i)
		}
		if _, ok := x.Get(k); ok {
			t.Fatalf("%d is there still", i)
		}
		if last := n - 1 - (n-1-i)/2; last > i { // one that is there still
			if v, ok := x.Get(l[last]); v != last || !ok {
				t.Fatalf("behind %d deletions: got %d, %v", i+1, v, ok)
			}
		}
	}
	if x.Len() != 0 || x.Cap() != 8 || len(x.Keys()) != 0 {
		t.Errorf("%d keys, %d slots", x.Len(), x.Cap())
	}
}

// P12.2
func TestLess(t *testing.T) {
	for i := range 32 {
		for _, c := range []struct{ a, b byte }{{0, 1}, {1, 2}, {0, 255}, {127, 128}, {127, 255}, {1, 128}, {254, 255}} {
			a, b := key(0x07070707, 7), key(0x07070707, 7)
			a[i], b[i] = c.a, c.b
			for j := i + 1; j < 32; j++ { // what comes behind plays no part
				a[j], b[j] = 255, 0
			}
			if !table.Less(a, b) || table.Less(b, a) || table.Less(a, a) || table.Less(b, b) {
				t.Errorf("%x, %x", a, b)
			}
		}
	}
	if table.Less(api.ID{}, api.ID{}) || !table.Less(api.ID{}, api.ID{31: 1}) {
		t.Error("noughts")
	}
}

// P12.2: keys rise by their bytes, not by their homes' numbers.
func TestKeys(t *testing.T) {
	b := newBoth(t)
	want := []api.ID{{}, {31: 1}, {3: 1}, {0: 1}, {0: 1, 31: 1}, {0: 1, 1: 1}, {0: 127, 1: 255}, {0: 128}, {0: 255}, {0: 255, 31: 255}}
	for _, i := range []int{4, 1, 9, 0, 7, 2, 8, 3, 6, 5} {
		b.put(want[i], i)
	}
	if l := b.x.Keys(); !slices.Equal(l, want) {
		t.Errorf("%x", l)
	}
	b.agree()
}

// R3: a list of keys is the caller's own.
func TestKeysAreNewMemory(t *testing.T) {
	b := filled(t, 5)
	l, o := b.x.Keys(), b.x.Keys()
	want := slices.Clone(l)
	for i := range l {
		l[i] = api.ID{0: 99}
	}
	l = append(l, key(8, 8))
	if !slices.Equal(o, want) || len(l) != 6 {
		t.Errorf("%x", o)
	}
	b.agree()
	b.delete(o[0])
	b.put(key(9, 9), 9)
	if !slices.Equal(o, want) {
		t.Errorf("%x", o)
	}
}
