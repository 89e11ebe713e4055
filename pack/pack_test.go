package pack_test

import (
	"encoding/hex"
	"math"
	"strconv"
	"strings"
	"testing"

	"hoard/api"
	"hoard/pack"
)

// none is the one value of its kind.
var none = api.Value{Kind: api.VNil}

// text answers a text of n bytes.
func text(n int) api.Value { return api.Value{Kind: api.VText, Text: strings.Repeat("x", n)} }

// octets answers n bytes as a value.
func octets(n int) api.Value {
	return api.Value{Kind: api.VBytes, Bytes: []byte(strings.Repeat("y", n))}
}

// list answers a list of these.
func list(l ...api.Value) api.Value { return api.Value{Kind: api.VList, List: l} }

// nils answers a list of n values that are none.
func nils(n int) api.Value { return list(make([]api.Value, n)...) }

// mapOf answers a map with these keys, each of them with its place.
func mapOf(keys ...string) api.Value {
	m := api.Value{Kind: api.VMap, Keys: keys}
	for i := range keys {
		m.List = append(m.List, pack.Of(int64(i)))
	}
	return m
}

// numbered answers a map of n keys of five digits, under each of them none.
func numbered(n int) api.Value {
	m := api.Value{Kind: api.VMap, List: make([]api.Value, n)}
	for i := range n {
		m.Keys = append(m.Keys, strconv.Itoa(10000+i))
	}
	return m
}

// nested answers lists within one another around a value, n of them.
func nested(v api.Value, n int) api.Value {
	for range n {
		v = list(v)
	}
	return v
}

// nestedMaps does so by maps.
func nestedMaps(v api.Value, n int) api.Value {
	for range n {
		v = api.Value{Kind: api.VMap, Keys: []string{"k"}, List: []api.Value{v}}
	}
	return v
}

// fromHex answers the bytes that digits are; blanks among them play no part.
func fromHex(t *testing.T, s string) []byte {
	t.Helper()
	b, err := hex.DecodeString(strings.ReplaceAll(s, " ", ""))
	if err != nil {
		t.Fatal(err)
	}
	return b
}

// short answers bytes in digits, not too many of them.
func short(b []byte) string {
	if len(b) > 40 {
		return hex.EncodeToString(b[:40]) + " .. (" + strconv.Itoa(len(b)) + " bytes)"
	}
	return hex.EncodeToString(b)
}

// thereAndBack fails, unless a value has these bytes, and they are the value.
func thereAndBack(t *testing.T, v api.Value, want []byte) {
	t.Helper()
	b, e := pack.Encode(v)
	if string(b) != string(want) || e != api.OK {
		t.Errorf("Encode: %s, error %d; not %s", short(b), e, short(want))
	}
	w, e := pack.Decode(want)
	if e != api.OK || !pack.Same(v, w) {
		t.Errorf("Decode of %s: error %d, or another value", short(want), e)
	}
}

// P5.1, P5.2: kinds that have nothing in them, and numbers at the edges of each row.
func TestSmallValues(t *testing.T) {
	for _, c := range []struct {
		v    api.Value
		want string
	}{
		{api.Value{}, "c0"},
		{none, "c0"},
		{api.Value{Kind: api.VFalse}, "c2"},
		{api.Value{Kind: api.VTrue}, "c3"},
		{pack.Of(0), "00"},
		{pack.Of(1), "01"},
		{pack.Of(127), "7f"},
		{pack.Of(128), "cc 80"},
		{pack.Of(255), "cc ff"},
		{pack.Of(256), "cd 0100"},
		{pack.Of(65535), "cd ffff"},
		{pack.Of(65536), "ce 00010000"},
		{pack.Of(0x12345678), "ce 12345678"},
		{pack.Of(math.MaxInt32), "ce 7fffffff"},
		{pack.Of(math.MaxUint32), "ce ffffffff"},
		{pack.Of(math.MaxUint32 + 1), "cf 0000000100000000"},
		{pack.Of(0x0123456789abcdef), "cf 0123456789abcdef"},
		{pack.Of(math.MaxInt64), "cf 7fffffffffffffff"},
		{pack.Of(-1), "ff"},
		{pack.Of(-2), "fe"},
		{pack.Of(-32), "e0"},
		{pack.Of(-33), "d0 df"},
		{pack.Of(-128), "d0 80"},
		{pack.Of(-129), "d1 ff7f"},
		{pack.Of(-255), "d1 ff01"},
		{pack.Of(-256), "d1 ff00"},
		{pack.Of(-32768), "d1 8000"},
		{pack.Of(-32769), "d2 ffff7fff"},
		{pack.Of(-65536), "d2 ffff0000"},
		{pack.Of(math.MinInt32), "d2 80000000"},
		{pack.Of(math.MinInt32 - 1), "d3 ffffffff7fffffff"},
		{pack.Of(math.MinInt64), "d3 8000000000000000"},
		{octets(0), "c4 00"},
		{octets(3), "c4 03 797979"},
		{pack.Text(""), "a0"},
		{pack.Text("a"), "a1 61"},
		{pack.Text("\x00\xff\xc0"), "a3 00ffc0"},
		{list(), "90"},
		{list(none, pack.Of(7), pack.Text("a")), "93 c0 07 a161"},
		{list(list(), list(list())), "92 90 91 90"},
		{mapOf(), "80"},
		{mapOf("a"), "81 a161 00"},
		{api.Value{Kind: api.VMap, Keys: []string{"a"}, List: []api.Value{none}}, "81 a161 c0"},
		{mapOf("", "\x00", "A", "a", "a\x00", "aa", "b", "\xff"), "88 a0 00 a100 01 a141 02 a161 03 a26100 04 a26161 05 a162 06 a1ff 07"},
	} {
		thereAndBack(t, c.v, fromHex(t, c.want))
	}
}

// P5.1, P5.2: sizes at the edges of each row, up to the most that there is room for.
func TestSizes(t *testing.T) {
	for _, c := range []struct {
		v    api.Value
		head string
		unit string
		n    int
	}{
		{octets(255), "c4 ff", "79", 255},
		{octets(256), "c5 0100", "79", 256},
		{octets(65533), "c5 fffd", "79", 65533},
		{text(31), "bf", "78", 31},
		{text(32), "d9 20", "78", 32},
		{text(255), "d9 ff", "78", 255},
		{text(256), "da 0100", "78", 256},
		{text(65533), "da fffd", "78", 65533},
		{nils(15), "9f", "c0", 15},
		{nils(16), "dc 0010", "c0", 16},
		{nils(255), "dc 00ff", "c0", 255},
		{nils(256), "dc 0100", "c0", 256},
		{nils(65533), "dc fffd", "c0", 65533},
		{nested(none, 15), "91 91 91 91 91 91 91 91 91 91 91 91 91 91 91", "c0", 1},
		{nested(list(), 15), "91 91 91 91 91 91 91 91 91 91 91 91 91 91 91", "90", 1},
		{nested(mapOf(), 15), "91 91 91 91 91 91 91 91 91 91 91 91 91 91 91", "80", 1},
	} {
		want := append(fromHex(t, c.head), strings.Repeat(string(fromHex(t, c.unit)), c.n)...)
		thereAndBack(t, c.v, want)
	}
}

// P5.1, P5.2: maps of many keys, and keys of many bytes.
func TestMapSizes(t *testing.T) {
	for _, c := range []struct {
		n    int
		head string
	}{{15, "8f"}, {16, "de 0010"}, {255, "de 00ff"}, {256, "de 0100"}, {9361, "de 2491"}} {
		want := fromHex(t, c.head)
		for i := range c.n {
			want = append(want, "\xa5"+strconv.Itoa(10000+i)+"\xc0"...)
		}
		thereAndBack(t, numbered(c.n), want)
	}
	for _, c := range []struct {
		n    int
		head string
	}{{31, "81 bf"}, {32, "81 d920"}, {255, "81 d9ff"}, {256, "81 da0100"}, {65531, "81 dafffb"}} {
		key := strings.Repeat("k", c.n)
		thereAndBack(t, mapOf(key), append(fromHex(t, c.head), key+"\x00"...))
	}
	deep := append([]byte(strings.Repeat("\x81\xa1k", 15)), 0xc0)
	thereAndBack(t, nestedMaps(none, 15), deep)
}

// refused fails, unless a value has no bytes, by that error.
func refused(t *testing.T, what string, v api.Value, want api.Errno) {
	t.Helper()
	if b, e := pack.Encode(v); len(b) != 0 || e != want {
		t.Errorf("%s: %s, error %d; not %d", what, short(b), e, want)
	}
}

// wrongValues answers values that cannot be.
func wrongValues() map[string]api.Value {
	gap := mapOf("a", "b")
	gap.List = gap.List[:1]
	over := mapOf("a", "b")
	over.List = append(over.List, none)
	return map[string]api.Value{
		"kind -1":            {Kind: -1},
		"kind 8":             {Kind: 8},
		"the least kind":     {Kind: math.MinInt},
		"the greatest kind":  {Kind: math.MaxInt},
		"too few values":     gap,
		"too many values":    over,
		"values, no keys":    {Kind: api.VMap, List: []api.Value{none}},
		"keys, no values":    {Kind: api.VMap, Keys: []string{"a"}},
		"keys that fall":     mapOf("b", "a"),
		"keys alike":         mapOf("a", "a"),
		"empty keys alike":   mapOf("", ""),
		"the last keys fall": mapOf("a", "b", "d", "c"),
		"a front behind":     mapOf("aa", "a"),
		"bytes have no sign": mapOf("\xff", "\x7f"),
		"too deep":           nested(none, 16),
		"much too deep":      nested(none, 1<<16),
		"an empty list deep": nested(list(), 16),
		"maps too deep":      nestedMaps(none, 16),
		"both too deep":      nested(nestedMaps(none, 8), 8),
	}
}

// P5.1: what cannot be, by itself and within others.
func TestEncodeWrongValues(t *testing.T) {
	for what, v := range wrongValues() {
		refused(t, what, v, api.ErrForm)
		refused(t, what+", in a list", list(none, v), api.ErrForm)
		refused(t, what+", in a map", api.Value{Kind: api.VMap, Keys: []string{"a", "b"}, List: []api.Value{none, v}}, api.ErrForm)
		refused(t, what+", behind a value that is deeper", list(nested(none, 14), v), api.ErrForm)
	}
}

// P5.1: one byte more than there is room for, and very many.
func TestEncodeTooBig(t *testing.T) {
	for what, v := range map[string]api.Value{
		"65534 bytes":       octets(65534),
		"65535 bytes":       octets(65535),
		"65536 bytes":       octets(65536),
		"65537 bytes":       octets(65537),
		"a long text":       text(65534),
		"a longer text":     text(65536),
		"the longest text":  text(1 << 24),
		"many bytes":        octets(1 << 24),
		"65534 values":      nils(65534),
		"65535 values":      nils(65535),
		"65536 values":      nils(65536),
		"65552 values":      nils(65536 + 16),
		"many values":       nils(1 << 20),
		"a long list":       list(octets(40000), text(30000)),
		"a byte behind":     list(octets(65531), none, none),
		"a long key":        mapOf(strings.Repeat("k", 65532)),
		"a longer key":      mapOf(strings.Repeat("k", 65536)),
		"many keys":         numbered(9362),
		"a long list, deep": nested(nils(65520), 14),
	} {
		refused(t, what, v, api.ErrBig)
	}
	if b, e := pack.Encode(list(octets(65531), none)); len(b) != api.MaxPack || e != api.OK {
		t.Errorf("just as much as there is room for: %d bytes, error %d", len(b), e)
	}
	if b, e := pack.Encode(nested(nils(65519), 14)); len(b) != api.MaxPack || e != api.OK {
		t.Errorf("just as much, deep: %d bytes, error %d", len(b), e)
	}
}

// P5.1: what cannot be is told first, wherever it stands.
func TestEncodeFormAheadOfBig(t *testing.T) {
	for what, v := range wrongValues() {
		refused(t, what, list(octets(1<<17), v), api.ErrForm)
		refused(t, what, list(v, octets(1<<17)), api.ErrForm)
		refused(t, what, list(nils(1<<17), list(v)), api.ErrForm)
	}
}

// full answers a value of that kind with something in each field.
func full(kind int) api.Value {
	return api.Value{Kind: kind, Int: 5, Bytes: []byte("b"), Text: "t", Keys: []string{"k"}, List: []api.Value{{Kind: api.VInt, Int: 6}}}
}

// P5.1, P5.4: fields that play no part, even such as could not be.
func TestFieldsThatPlayNoPart(t *testing.T) {
	wants := []string{"c0", "c2", "c3", "05", "c401 62", "a174", "91 06", "81 a16b 06"}
	for kind, want := range wants {
		v := full(kind)
		thereAndBack(t, v, fromHex(t, want))
		if kind != api.VMap {
			v.Keys = []string{"b", "a", "a"}
			thereAndBack(t, v, fromHex(t, want))
		}
		if kind != api.VMap && kind != api.VList {
			v.List = []api.Value{{Kind: 77}, nested(none, 30)}
			v.Keys = nil
			thereAndBack(t, v, fromHex(t, want))
		}
	}
}

// P5.3
func TestOfAndText(t *testing.T) {
	for _, x := range []int64{0, 1, -1, 127, 128, math.MaxInt64, math.MinInt64} {
		v := pack.Of(x)
		if v.Kind != api.VInt || v.Int != x || len(v.Bytes) != 0 || v.Text != "" || len(v.Keys) != 0 || len(v.List) != 0 {
			t.Errorf("Of %d: %+v", x, v)
		}
	}
	for _, s := range []string{"", "a", "\x00\xff", strings.Repeat("s", 1<<17)} {
		v := pack.Text(s)
		if v.Kind != api.VText || v.Text != s || v.Int != 0 || len(v.Bytes) != 0 || len(v.Keys) != 0 || len(v.List) != 0 {
			t.Errorf("Text of %d bytes: another value", len(s))
		}
	}
}
