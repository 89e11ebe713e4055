package pack_test

import (
	"reflect"
	"testing"

	"hoard/api"
	"hoard/pack"
)

// isZero tells whether a value is the zero one.
func isZero(v api.Value) bool {
	return v.Kind == 0 && v.Int == 0 && len(v.Bytes) == 0 && v.Text == "" && len(v.Keys) == 0 && len(v.List) == 0
}

// P5.3: a map's values under its keys.
func TestGet(t *testing.T) {
	m := mapOf("", "a", "aa", "b", "\xff")
	for i, key := range m.Keys {
		if v, ok := pack.Get(m, key); !ok || !pack.Same(v, pack.Of(int64(i))) {
			t.Errorf("Get of %q: %+v, %v", key, v, ok)
		}
	}
	for _, key := range []string{"A", "ab", "a\x00", "c", "\x00", "aaa", "\xff\xff"} {
		if v, ok := pack.Get(m, key); ok || !isZero(v) {
			t.Errorf("Get of %q: %+v, %v", key, v, ok)
		}
	}
	if v, ok := pack.Get(mapOf(), ""); ok || !isZero(v) {
		t.Errorf("Get of an empty map: %+v, %v", v, ok)
	}
}

// P5.3: a value that is none is there all the same.
func TestGetOfNone(t *testing.T) {
	m := api.Value{Kind: api.VMap, Keys: []string{"a"}, List: []api.Value{none}}
	if v, ok := pack.Get(m, "a"); !ok || !isZero(v) {
		t.Errorf("Get: %+v, %v", v, ok)
	}
}

// P5.3: what is no map has no keys, whatever stands in its fields.
func TestGetOfNoMap(t *testing.T) {
	for _, kind := range []int{api.VNil, api.VFalse, api.VTrue, api.VInt, api.VBytes, api.VText, api.VList, -1, 8} {
		if v, ok := pack.Get(full(kind), "k"); ok || !isZero(v) {
			t.Errorf("kind %d: %+v, %v", kind, v, ok)
		}
	}
	if v, ok := pack.Get(full(api.VMap), "k"); !ok || v.Int != 6 {
		t.Errorf("a map: %+v, %v", v, ok)
	}
}

// P5.3: maps that cannot be: keys alike, keys in no order, too few values or too many.
func TestGetOfOddMaps(t *testing.T) {
	m := api.Value{Kind: api.VMap, Keys: []string{"b", "a", "b", "c", "a"}, List: []api.Value{pack.Of(1), pack.Of(2), pack.Of(3)}}
	for key, want := range map[string]int64{"a": 2, "b": 1} {
		if v, ok := pack.Get(m, key); !ok || v.Int != want {
			t.Errorf("Get of %q: %+v, %v", key, v, ok)
		}
	}
	if v, ok := pack.Get(m, "c"); ok || !isZero(v) {
		t.Errorf("a key that has no value: %+v, %v", v, ok)
	}
	m = api.Value{Kind: api.VMap, Keys: []string{"a"}}
	if v, ok := pack.Get(m, "a"); ok || !isZero(v) {
		t.Errorf("no value at all: %+v, %v", v, ok)
	}
	m = api.Value{Kind: api.VMap, Keys: []string{"a"}, List: []api.Value{pack.Of(1), pack.Of(2)}}
	if v, ok := pack.Get(m, ""); ok || !isZero(v) {
		t.Errorf("a value that has no key: %+v, %v", v, ok)
	}
	if v, ok := pack.Get(m, "a"); !ok || v.Int != 1 {
		t.Errorf("a value too many: %+v, %v", v, ok)
	}
}

// P5.3, R3: what is got is new memory, all the way down.
func TestGetNewMemory(t *testing.T) {
	whole := func() api.Value {
		in := mapOf("x", "y")
		in.List[1] = octets(3)
		return api.Value{Kind: api.VMap, Keys: []string{"k"}, List: []api.Value{list(octets(2), in, list(none))}}
	}
	m := whole()
	v, ok := pack.Get(m, "k")
	if !ok || !pack.Same(v, m.List[0]) {
		t.Fatalf("Get: %+v, %v", v, ok)
	}
	v.List[0].Bytes[0] = 'z'
	v.List[1].Keys[0] = "z"
	v.List[1].List[1].Bytes[0] = 'z'
	v.List[2].List[0] = pack.Of(9)
	v.List[2] = none
	if !pack.Same(m, whole()) {
		t.Error("what was handed in is changed by way of the answer")
	}
}

// P5.3: of what is got, fields that play no part are zero.
func TestGetWithoutOtherFields(t *testing.T) {
	for kind := range 8 {
		want, _ := pack.Decode(encoded(t, full(kind)))
		m := api.Value{Kind: api.VMap, Keys: []string{"k"}, List: []api.Value{full(kind)}}
		if v, ok := pack.Get(m, "k"); !ok || !reflect.DeepEqual(v, want) {
			t.Errorf("kind %d: %+v, %v", kind, v, ok)
		}
	}
}

// encoded answers a value's bytes.
func encoded(t *testing.T, v api.Value) []byte {
	t.Helper()
	b, e := pack.Encode(v)
	if e != api.OK {
		t.Fatalf("Encode: error %d", e)
	}
	return b
}

// unlike answers values of which no two are the same.
func unlike() []api.Value {
	l := []api.Value{
		none, {Kind: api.VFalse}, {Kind: api.VTrue},
		pack.Of(0), pack.Of(1), pack.Of(-1), pack.Of(1 << 32),
		octets(0), octets(1), octets(2), {Kind: api.VBytes, Bytes: []byte("x")}, {Kind: api.VBytes, Bytes: []byte{0}},
		pack.Text(""), text(1), text(2), pack.Text("y"), pack.Text("\x00"),
		list(), list(none), list(none, none), list(list()), list(pack.Of(1)), list(pack.Of(1), pack.Of(2)), list(pack.Of(2), pack.Of(1)),
		mapOf(), mapOf("a"), mapOf("b"), mapOf("a", "b"), mapOf("a", "c"),
		{Kind: api.VMap, Keys: []string{"a"}, List: []api.Value{pack.Of(1)}},
		{Kind: api.VMap, Keys: []string{"a"}, List: []api.Value{none}},
		{Kind: api.VMap, Keys: []string{"a", "b"}, List: []api.Value{pack.Of(1), pack.Of(0)}},
		list(mapOf("a")), list(mapOf("b")), nested(none, 15), nested(none, 14), nestedMaps(none, 15),
	}
	return l
}

// odd answers such of which none can be.
func odd() []api.Value {
	return []api.Value{
		{Kind: -1}, {Kind: 8}, nested(none, 16), nested(none, 17), nested(pack.Of(1), 16), nested(none, 1<<16-1),
		{Kind: api.VMap, Keys: []string{"a"}},
		{Kind: api.VMap, List: []api.Value{none}},
		{Kind: api.VMap, Keys: []string{"a"}, List: []api.Value{none, none}},
		{Kind: api.VMap, Keys: []string{"b", "a"}, List: []api.Value{none, none}},
		{Kind: api.VMap, Keys: []string{"a", "a"}, List: []api.Value{none, none}},
	}
}

// P5.3, P5.4: each value is the same as itself alone, and two that can be have the same bytes just then.
func TestSame(t *testing.T) {
	can, all := unlike(), append(unlike(), odd()...)
	others := append(unlike(), odd()...) // in memory of their own
	for i, v := range all {
		for j, w := range others {
			if pack.Same(v, w) != (i == j) {
				t.Errorf("values %d and %d: %v", i, j, i != j)
			}
		}
	}
	for i, v := range can {
		for j, w := range can {
			if (string(encoded(t, v)) == string(encoded(t, w))) != (i == j) {
				t.Errorf("bytes of values %d and %d", i, j)
			}
		}
	}
}

// P5.3: fields that play no part make no difference, also within others; nil and empty lists are alike.
func TestSameApartFromOtherFields(t *testing.T) {
	for kind := range 8 {
		v, _ := pack.Decode(encoded(t, full(kind)))
		w := full(kind)
		if !pack.Same(v, w) || !pack.Same(w, v) || !pack.Same(list(v), list(w)) {
			t.Errorf("kind %d", kind)
		}
	}
	bare := api.Value{Kind: api.VMap, Keys: []string{}, List: []api.Value{}}
	if !pack.Same(bare, mapOf()) || !pack.Same(list(), api.Value{Kind: api.VList, List: []api.Value{}}) {
		t.Error("empty lists")
	}
	if !pack.Same(api.Value{Kind: api.VBytes}, api.Value{Kind: api.VBytes, Bytes: []byte{}}) {
		t.Error("no bytes")
	}
}

// P5.3, R3: what is asked is not changed.
func TestNothingHandedInIsChanged(t *testing.T) {
	for i, v := range append(unlike(), odd()...) {
		was := append(unlike(), odd()...)[i]
		pack.Encode(v)
		pack.Get(v, "a")
		pack.Same(v, was)
		if !reflect.DeepEqual(v, was) {
			t.Errorf("value %d is changed", i)
		}
	}
}
