package pack_test

import (
	"math/rand"
	"reflect"
	"runtime"
	"strconv"
	"strings"
	"testing"

	"hoard/api"
	"hoard/pack"
)

// fails fails, unless bytes are no value, by that error.
func fails(t *testing.T, b []byte, want api.Errno) {
	t.Helper()
	if v, e := pack.Decode(b); e != want || !isZero(v) {
		t.Errorf("Decode of %s: kind %d, error %d; not %d", short(b), v.Kind, e, want)
	}
}

// P5.2: each error by itself.
func TestDecodeErrors(t *testing.T) {
	for s, want := range map[string]api.Errno{
		"":                      api.ErrShort,
		"cc":                    api.ErrShort,
		"cd 01":                 api.ErrShort,
		"ce 010203":             api.ErrShort,
		"cf 01020304050607":     api.ErrShort,
		"d0":                    api.ErrShort,
		"d1 80":                 api.ErrShort,
		"d2 800000":             api.ErrShort,
		"d3 80000000000000":     api.ErrShort,
		"cd 00":                 api.ErrShort, // no number yet
		"d3 00":                 api.ErrShort,
		"c4":                    api.ErrShort,
		"c4 01":                 api.ErrShort,
		"c4 02 61":              api.ErrShort,
		"c5 01":                 api.ErrShort,
		"c5 00":                 api.ErrShort,
		"a1":                    api.ErrShort,
		"a3 6161":               api.ErrShort,
		"d9":                    api.ErrShort,
		"d9 20 61":              api.ErrShort,
		"da 00":                 api.ErrShort,
		"da 0100 61":            api.ErrShort,
		"91":                    api.ErrShort,
		"92 c0":                 api.ErrShort,
		"dc 00":                 api.ErrShort,
		"dc ffff c0":            api.ErrShort,
		"dc ffff":               api.ErrShort,
		"81":                    api.ErrShort,
		"81 a1":                 api.ErrShort,
		"81 a161":               api.ErrShort,
		"82 a161 c0":            api.ErrShort,
		"82 a161 c0 a162":       api.ErrShort,
		"de 00":                 api.ErrShort,
		"de ffff a161 c0":       api.ErrShort,
		"cc 00":                 api.ErrForm,
		"cc 7f":                 api.ErrForm,
		"cd 0000":               api.ErrForm,
		"cd 00ff":               api.ErrForm,
		"ce 0000ffff":           api.ErrForm,
		"cf 00000000ffffffff":   api.ErrForm,
		"cf 8000000000000000":   api.ErrForm, // no VInt is so great
		"cf ffffffffffffffff":   api.ErrForm,
		"d0 e0":                 api.ErrForm,
		"d0 ff":                 api.ErrForm,
		"d0 00":                 api.ErrForm,
		"d0 7f":                 api.ErrForm,
		"d1 ff80":               api.ErrForm,
		"d1 ffff":               api.ErrForm,
		"d1 0000":               api.ErrForm,
		"d1 7fff":               api.ErrForm,
		"d2 ffff8000":           api.ErrForm,
		"d2 00010000":           api.ErrForm,
		"d2 7fffffff":           api.ErrForm,
		"d3 ffffffff80000000":   api.ErrForm,
		"d3 0000000100000000":   api.ErrForm,
		"d3 7fffffffffffffff":   api.ErrForm,
		"c5 0000":               api.ErrForm,
		"c5 00ff":               api.ErrForm, // ahead of there being too few
		"d9 00":                 api.ErrForm,
		"d9 1f":                 api.ErrForm,
		"da 0000":               api.ErrForm,
		"da 001f":               api.ErrForm,
		"da 00ff":               api.ErrForm,
		"dc 0000":               api.ErrForm,
		"dc 000f":               api.ErrForm,
		"de 0000":               api.ErrForm,
		"de 000f":               api.ErrForm,
		"81 c0 c0":              api.ErrForm,
		"81 00":                 api.ErrForm,
		"81 cc":                 api.ErrForm, // no text begins so
		"81 c401":               api.ErrForm,
		"81 90 c0":              api.ErrForm,
		"81 80 c0":              api.ErrForm,
		"81 d901 61 c0":         api.ErrForm,
		"81 c1":                 api.ErrForm,
		"82 a161 c0 a161 c0":    api.ErrForm,
		"82 a161 c0 a161":       api.ErrForm, // the key is enough
		"82 a162 c0 a161 c0":    api.ErrForm,
		"82 a161 c0 a0 c0":      api.ErrForm,
		"82 a0 c0 a0 c0":        api.ErrForm,
		"82 a26161 c0 a161 c0":  api.ErrForm,
		"82 a1ff c0 a17f c0":    api.ErrForm,
		"91 c1":                 api.ErrForm,
		"dc ffff c0c1":          api.ErrForm, // ahead of the end
		"de ffff a161 c1":       api.ErrForm,
		"92 cc7f":               api.ErrForm,
		"c0 c0":                 api.ErrRest,
		"00 c1":                 api.ErrRest,
		"90 00":                 api.ErrRest,
		"a161 61":               api.ErrRest,
		"c400 00":               api.ErrRest,
		"80 a161":               api.ErrRest,
		"91 c0 c0":              api.ErrRest,
		"cf 7fffffffffffffff00": api.ErrRest,
	} {
		fails(t, fromHex(t, s), want)
	}
}

// P5.2: of all bytes those that begin no value, by themselves, in a list, in a map, and behind what is no end.
func TestDecodeFirstBytes(t *testing.T) {
	no := "\xc1\xc6\xc7\xc8\xc9\xca\xcb\xd4\xd5\xd6\xd7\xd8\xdb\xdd\xdf"
	for c := range 256 {
		b := []byte{byte(c)}
		_, e := pack.Decode(b)
		if wrong := strings.IndexByte(no, byte(c)) >= 0; wrong != (e == api.ErrForm) {
			t.Errorf("%x: error %d", c, e)
		} else if !wrong {
			continue
		}
		fails(t, append(b, "\x01\x02\x03\x04\x05\x06\x07\x08\x09"...), api.ErrForm)
		fails(t, append([]byte("\x92"), b...), api.ErrForm)
		fails(t, append([]byte("\x82\xa1a\xc0\xa1b"), b...), api.ErrForm)
	}
}

// P5.2: keys by each byte that begins them.
func TestDecodeKeys(t *testing.T) {
	for c := range 256 {
		b := append([]byte{0x81, byte(c), 0x20}, strings.Repeat(" ", 60)...)
		text := c >= 0xa0 && c <= 0xbf || c == 0xd9 || c == 0xda
		if _, e := pack.Decode(b); (e == api.ErrForm) == text {
			t.Errorf("a key that begins by %x: error %d", c, e)
		}
	}
}

// P5.2: values within one another: 16 are allowed, the next is wrong by its first byte.
func TestDecodeDeep(t *testing.T) {
	for _, way := range []string{"\x91", "\x81\xa1k", "\x81\xa0", "\xdc\x00\x10"} {
		lists := strings.Repeat(way, 15)
		if way != "\xdc\x00\x10" {
			if _, e := pack.Decode([]byte(lists + "\xc0")); e != api.OK {
				t.Errorf("%x fifteen times: error %d", way, e)
			}
			if _, e := pack.Decode([]byte(lists + "\x90")); e != api.OK {
				t.Errorf("%x fifteen times, and an empty list: error %d", way, e)
			}
			fails(t, []byte(lists+"\x90\x00"), api.ErrRest)
		}
		for _, end := range []string{"\x91", "\x81", "\x81\xa1", "\x81\xa1k"} {
			fails(t, []byte(lists+end), api.ErrShort) // it ends ahead of the seventeenth
		}
		for _, in := range []string{"\xc0", "\xc1", "\xcc", "\x90", "\x91", "\xa1", "\xdc"} {
			fails(t, []byte(lists+"\x91"+in), api.ErrForm)
			fails(t, []byte(lists+"\x81\xa1k"+in), api.ErrForm)
		}
	}
	fails(t, []byte(strings.Repeat("\x91", api.MaxPack)), api.ErrForm)
	fails(t, []byte(strings.Repeat("\xdc\xff\xff", 16)), api.ErrShort)
}

// P5.2: sizes that no bytes follow ask for no room.
func TestDecodeAsksForNoRoom(t *testing.T) {
	b := []byte(strings.Repeat("\xde\xff\xff\xa0\xdc\xff\xff", 8))
	var was, is runtime.MemStats
	runtime.ReadMemStats(&was)
	fails(t, b, api.ErrShort)
	runtime.ReadMemStats(&is)
	if n := is.TotalAlloc - was.TotalAlloc; n > 1<<20 {
		t.Errorf("%d bytes for %d", n, len(b))
	}
}

// P5.2: too many bytes are told first, whatever they are; as many as there may be are read.
func TestDecodeBig(t *testing.T) {
	for _, s := range []string{"\xc0", "\xc1", "\x91", "\xdc\xff\xff", ""} {
		fails(t, append([]byte(s), make([]byte, api.MaxPack+1-len(s))...), api.ErrBig)
	}
	fails(t, make([]byte, 1<<20), api.ErrBig)
	fails(t, make([]byte, api.MaxPack), api.ErrRest)
	fails(t, []byte(strings.Repeat("\xc1", api.MaxPack)), api.ErrForm)
	fails(t, append([]byte{0xc5, 0xff, 0xfe}, make([]byte, 65533)...), api.ErrShort)
	b := append([]byte{0xc5, 0xff, 0xfd}, make([]byte, 65533)...)
	if v, e := pack.Decode(b); e != api.OK || v.Kind != api.VBytes || len(v.Bytes) != 65533 {
		t.Errorf("the most bytes: kind %d, %d bytes, error %d", v.Kind, len(v.Bytes), e)
	}
}

// P5.2: fields of other kinds are zero.
func TestDecodeFields(t *testing.T) {
	for kind := range 8 {
		v, e := pack.Decode(encoded(t, full(kind)))
		want := api.Value{Kind: kind}
		switch kind {
		case api.VInt:
			want.Int = 5
		case api.VBytes:
			want.Bytes = []byte("b")
		case api.VText:
			want.Text = "t"
		case api.VMap:
			want.Keys, want.List = []string{"k"}, []api.Value{pack.Of(6)}
		case api.VList:
			want.List = []api.Value{pack.Of(6)}
		}
		if e != api.OK || !reflect.DeepEqual(v, want) {
			t.Errorf("kind %d: %+v, error %d", kind, v, e)
		}
	}
}

// R3: what is read is new memory, and no two lists of it share any.
func TestDecodeNewMemory(t *testing.T) {
	b := []byte("\x93\xc4\x02ab\xc4\x02cd\x91\xa1e")
	v, _ := pack.Decode(b)
	copy(b, strings.Repeat("z", len(b)))
	if string(v.List[0].Bytes) != "ab" || string(v.List[1].Bytes) != "cd" || v.List[2].List[0].Text != "e" {
		t.Errorf("what was handed in is kept: %+v", v)
	}
	_ = append(v.List[0].Bytes, "xxxxxxxx"...)
	v.List[0].Bytes[0] = 'y'
	v.List[2].List = append(v.List[2].List[:0], none)
	if string(v.List[1].Bytes) != "cd" || len(v.List) != 3 {
		t.Errorf("lists are shared: %+v", v)
	}
	if string(b) != strings.Repeat("z", len(b)) {
		t.Errorf("what was handed in is changed: %q", b)
	}
	c := encoded(t, pack.Of(5))
	c[0] = 9
	if string(encoded(t, pack.Of(5))) != "\x05" {
		t.Error("what is written is shared")
	}
}

// agrees fails, unless bytes are read as their fronts say: what ends too early has fronts that do, what is wrong stays so,
// behind a value something is left; and what is read, written again, is the bytes.
func agrees(t *testing.T, b []byte) {
	t.Helper()
	v, e := pack.Decode(b)
	want := api.OK
	_, front := pack.Decode(b[:max(0, len(b)-1)])
	switch {
	case len(b) == 0:
		want = api.ErrShort
	case front == api.ErrForm, front == api.ErrRest:
		want = front
	case front == api.OK:
		want = api.ErrRest
	case e == api.OK:
		if c, e := pack.Encode(v); string(c) != string(b) || e != api.OK {
			t.Fatalf("%s is read, and written as %s, error %d", short(b), short(c), e)
		}
	case e == api.ErrForm:
		want = api.ErrForm
	default:
		want = api.ErrShort
	}
	if e != want || e != api.OK && !isZero(v) {
		t.Fatalf("Decode of %s: error %d, not %d", short(b), e, want)
	}
}

// P5.2, P5.4: all bytes up to two, and many of three and four.
func TestDecodeFewBytes(t *testing.T) {
	agrees(t, nil)
	edge := []byte{0, 1, 0x0f, 0x10, 0x1f, 0x20, 0x7f, 0x80, 0x81, 0x82, 0x90, 0x91, 0x92, 0xa0, 0xa1, 0xa2, 0xc0, 0xc1, 0xcc, 0xd0, 0xd9, 0xdc, 0xde, 0xdf, 0xe0, 0xff}
	for x := range 256 {
		agrees(t, []byte{byte(x)})
		for y := range 256 {
			agrees(t, []byte{byte(x), byte(y)})
			for _, z := range edge {
				agrees(t, []byte{byte(x), byte(y), z})
			}
		}
		for _, y := range edge {
			for _, z := range edge {
				for _, w := range edge {
					agrees(t, []byte{byte(x), y, z, w})
				}
			}
		}
	}
}

// some answers a value of whatever kind.
func some(r *rand.Rand, deep int) api.Value {
	kind := r.Intn(8)
	if deep == 0 {
		kind = r.Intn(6)
	}
	v := api.Value{Kind: kind}
	sizes := []int{0, 1, 2, 3, 15, 16, 31, 32, 33, 255, 256}
	switch kind {
	case api.VInt:
		v.Int = int64(r.Uint64()) >> r.Intn(64)
	case api.VBytes:
		v.Bytes = make([]byte, sizes[r.Intn(len(sizes))])
		r.Read(v.Bytes)
	case api.VText:
		b := make([]byte, sizes[r.Intn(len(sizes))])
		r.Read(b)
		v.Text = string(b)
	case api.VList, api.VMap:
		for i := range sizes[r.Intn(7-min(deep, 3))] {
			v.List = append(v.List, some(r, deep-1))
			if kind == api.VMap {
				v.Keys = append(v.Keys, strconv.Itoa(1000+i))
			}
		}
	}
	return v
}

// written answers a value's bytes by the chapter's table.
func written(v api.Value) string {
	switch v.Kind {
	case api.VNil:
		return "\xc0"
	case api.VFalse:
		return "\xc2"
	case api.VTrue:
		return "\xc3"
	case api.VInt:
		return writtenInt(v.Int)
	case api.VBytes:
		return writtenSize(len(v.Bytes), 0, 0, "\xc4", "\xc5") + string(v.Bytes)
	case api.VText:
		return writtenSize(len(v.Text), 31, 0xa0, "\xd9", "\xda") + v.Text
	case api.VList:
		s := writtenSize(len(v.List), 15, 0x90, "", "\xdc")
		for _, w := range v.List {
			s += written(w)
		}
		return s
	}
	s := writtenSize(len(v.List), 15, 0x80, "", "\xde")
	for i, w := range v.List {
		s += written(pack.Text(v.Keys[i])) + written(w)
	}
	return s
}

// writtenInt answers a number's bytes by the chapter's table.
func writtenInt(x int64) string {
	n := strings.Repeat("\x00", 8)
	for i := range 8 {
		n = n[:i] + string([]byte{byte(x >> (56 - 8*i))}) + n[i+1:]
	}
	switch {
	case x >= 0 && x <= 127:
		return string([]byte{byte(x)})
	case x < 0 && x >= -32:
		return string([]byte{byte(256 + x)})
	case x >= 0 && x <= 255:
		return "\xcc" + n[7:]
	case x >= 0 && x <= 65535:
		return "\xcd" + n[6:]
	case x >= 0 && x <= 4294967295:
		return "\xce" + n[4:]
	case x >= 0:
		return "\xcf" + n
	case x >= -128:
		return "\xd0" + n[7:]
	case x >= -32768:
		return "\xd1" + n[6:]
	case x >= -2147483648:
		return "\xd2" + n[4:]
	}
	return "\xd3" + n
}

// writtenSize answers how many there are, by a row of the chapter's table.
func writtenSize(n, few int, fix byte, one, two string) string {
	switch {
	case fix != 0 && n <= few:
		return string([]byte{fix + byte(n)})
	case one != "" && n <= 255:
		return one + string([]byte{byte(n)})
	}
	return two + string([]byte{byte(n / 256), byte(n % 256)})
}

// P5.1, P5.2, P5.4: values of all sorts come back; spoilt or cut they agree with their fronts.
func TestValuesComeBack(t *testing.T) {
	r := rand.New(rand.NewSource(5))
	for range 3000 {
		v := some(r, 4)
		want := written(v)
		if len(want) > api.MaxPack {
			refused(t, "a great value", v, api.ErrBig)
			continue
		}
		thereAndBack(t, v, []byte(want))
		if len(want) > 2000 {
			continue
		}
		for i := range len(want) {
			fails(t, []byte(want[:i]), api.ErrShort)
		}
		fails(t, []byte(want+"\x00"), api.ErrRest)
		spoilt := []byte(want)
		spoilt[r.Intn(len(spoilt))] ^= byte(1 + r.Intn(255))
		for i := range len(spoilt) + 1 {
			agrees(t, spoilt[:i])
		}
	}
}
