package frame_test

import (
	"bytes"
	"encoding/binary"
	"encoding/hex"
	"hash/crc32"
	"math"
	"slices"
	"testing"

	"hoard/api"
	"hoard/frame"
)

// greatest is how many bytes an entry has at most.
const greatest = 41 + api.MaxObject

// text answers n bytes of all sorts, the same ones each time.
func text(n int, seed uint64) []byte {
	b := make([]byte, n)
	for i := range b {
		seed = seed*6364136223846793005 + 1442695040888963407
		b[i] = byte(seed >> 56)
	}
	return b
}

// key answers a key, another one for each seed.
func key(seed uint64) api.ID { return api.ID(text(32, seed)) }

// samples answers entries of all sorts: each tag, keys and data of noughts and of other bytes, and all edges of data.
func samples() []api.Entry {
	all := api.ID(slices.Repeat([]byte{0xff}, 32))
	l := []api.Entry{
		{Tag: api.Commit},
		{Tag: api.Delete},
		{Tag: api.Delete, Key: all},
		{Tag: api.Delete, Key: key(1)},
		{Tag: api.Put},
		{Tag: api.Put, Key: all},
		{Tag: api.Put, Key: key(2), Data: []byte{0}},
		{Tag: api.Put, Key: key(3), Data: make([]byte, 100)},
		{Tag: api.Put, Key: key(4), Data: []byte(frame.Magic)},
	}
	for _, n := range []int{1, 2, 3, 7, 8, 9, 22, 23, 24, 63, 64, 65, 214, 215, 255, 256, 1000, 4096, api.MaxObject - 1, api.MaxObject} {
		l = append(l, api.Entry{Tag: api.Put, Key: key(uint64(n)), Data: text(n, uint64(n))})
	}
	return l
}

// framed answers bytes with a sum that is right, whatever size and tag they tell.
func framed(size uint32, tag byte, rest []byte) []byte {
	b := append(binary.LittleEndian.AppendUint32(nil, size), tag)
	b = append(b, rest...)
	return append(binary.LittleEndian.AppendUint32(nil, crc32.ChecksumIEEE(b)), b...)
}

// written answers an entry's bytes by the chapter's words.
func written(x api.Entry) []byte {
	switch x.Tag {
	case api.Commit:
		return framed(9, 2, nil)
	case api.Delete:
		return framed(41, 1, x.Key[:])
	}
	return framed(uint32(41+len(x.Data)), 0, slices.Concat(x.Key[:], x.Data))
}

// encoded answers an entry's bytes, and fails without any.
func encoded(t *testing.T, x api.Entry) []byte {
	t.Helper()
	b, e := frame.Encode(x)
	if e != api.OK || len(b) == 0 {
		t.Fatalf("Encode of tag %d, %d bytes of data: %d bytes, error %d", x.Tag, len(x.Data), len(b), e)
	}
	return b
}

// same tells whether two entries are the same.
func same(x, y api.Entry) bool {
	return x.Tag == y.Tag && x.Key == y.Key && bytes.Equal(x.Data, y.Data)
}

// reads fails, unless Read has that entry, and so many bytes.
func reads(t *testing.T, b []byte, want api.Entry, size int) {
	t.Helper()
	x, n, e := frame.Read(b)
	if e != api.OK || n != size || !same(x, want) {
		t.Fatalf("Read of %d bytes: tag %d, key %x, %d bytes of data, size %d, error %d; not tag %d, key %x, %d bytes, size %d", len(b), x.Tag, x.Key, len(x.Data), n, e, want.Tag, want.Key, len(want.Data), size)
	}
}

// refuses fails, unless Read has that error, and nothing beside it.
func refuses(t *testing.T, b []byte, want api.Errno) {
	t.Helper()
	x, n, e := frame.Read(b)
	if e != want || n != 0 || !same(x, api.Entry{}) || x.Data != nil {
		t.Fatalf("Read of %d bytes %x: tag %d, key %x, %d bytes of data, size %d, error %d; not error %d", len(b), b[:min(len(b), 50)], x.Tag, x.Key, len(x.Data), n, e, want)
	}
}

// P7.1
func TestEncode(t *testing.T) {
	var rising api.ID
	for i := range rising {
		rising[i] = byte(i + 1)
	}
	for _, c := range []struct {
		x    api.Entry
		want string
	}{
		{api.Entry{Tag: api.Commit}, "40f43c250900000002"},
		{api.Entry{Tag: api.Delete}, "8cec0d8a29000000010000000000000000000000000000000000000000000000000000000000000000"},
		{api.Entry{Tag: api.Put, Key: rising, Data: []byte("abc")}, "f89759c82c000000000102030405060708090a0b0c0d0e0f101112131415161718191a1b1c1d1e1f20616263"},
	} {
		if b := encoded(t, c.x); hex.EncodeToString(b) != c.want {
			t.Errorf("Encode of tag %d: %x, not %s", c.x.Tag, b, c.want)
		}
	}
	if b := encoded(t, api.Entry{Tag: api.Commit}); len(b) != 9 || b[4] != 9 {
		t.Errorf("Encode of a Commit: %x", b)
	}
}

// P7.1
func TestEncodeAsTheChapterSays(t *testing.T) {
	l := samples()
	for n := range 300 {
		l = append(l, api.Entry{Tag: api.Put, Key: key(uint64(n)), Data: text(n, 9)})
	}
	for _, x := range l {
		b := encoded(t, x)
		if want := written(x); !bytes.Equal(b, want) {
			t.Fatalf("Encode of tag %d, %d bytes of data: %x, not %x", x.Tag, len(x.Data), b[:41], want[:41])
		}
		if n := frame.Size(x); n != len(b) {
			t.Fatalf("Size of tag %d, %d bytes of data: %d, not %d", x.Tag, len(x.Data), n, len(b))
		}
	}
}

// P7.1
func TestSize(t *testing.T) {
	for _, c := range []struct {
		x    api.Entry
		want int
	}{
		{api.Entry{Tag: api.Commit}, 9},
		{api.Entry{Tag: api.Commit, Data: []byte{}}, 9},
		{api.Entry{Tag: api.Delete, Key: key(1)}, 41},
		{api.Entry{Tag: api.Delete, Data: []byte{}}, 41},
		{api.Entry{Tag: api.Put}, 41},
		{api.Entry{}, 41},
		{api.Entry{Tag: api.Put, Data: []byte{5}}, 42},
		{api.Entry{Tag: api.Put, Key: key(1), Data: make([]byte, api.MaxObject)}, 16425},
	} {
		if n := frame.Size(c.x); n != c.want {
			t.Errorf("Size of tag %d, %d bytes of data: %d, not %d", c.x.Tag, len(c.x.Data), n, c.want)
		}
	}
}

// keysOfOne answers keys that have a single bit.
func keysOfOne() []api.ID {
	var l []api.ID
	for i := range 32 {
		for j := range 8 {
			var k api.ID
			k[i] = 1 << j
			l = append(l, k)
		}
	}
	return l
}

// P7.1: each error, and ErrForm ahead of ErrBig.
func TestEncodeErrors(t *testing.T) {
	one, most, more := []byte{0}, make([]byte, api.MaxObject), make([]byte, api.MaxObject+1)
	type row struct {
		x    api.Entry
		want api.Errno
	}
	l := []row{
		{api.Entry{Tag: api.Delete, Data: one}, api.ErrForm},
		{api.Entry{Tag: api.Delete, Key: key(1), Data: most}, api.ErrForm},
		{api.Entry{Tag: api.Delete, Data: more}, api.ErrForm},
		{api.Entry{Tag: api.Commit, Data: one}, api.ErrForm},
		{api.Entry{Tag: api.Commit, Data: more}, api.ErrForm},
		{api.Entry{Tag: api.Commit, Key: key(1)}, api.ErrForm},
		{api.Entry{Tag: api.Commit, Key: key(1), Data: more}, api.ErrForm},
		{api.Entry{Tag: api.Put, Data: more}, api.ErrBig},
		{api.Entry{Tag: api.Put, Key: key(1), Data: make([]byte, 1<<16)}, api.ErrBig},
	}
	for _, tag := range []int{3, 4, -1, -2, 255, 256, 257, 258, -256, 1 << 32, 1<<32 + 2, math.MaxInt, math.MinInt} {
		l = append(l, row{api.Entry{Tag: tag}, api.ErrForm}, row{api.Entry{Tag: tag, Key: key(2), Data: one}, api.ErrForm}, row{api.Entry{Tag: tag, Data: more}, api.ErrForm})
	}
	for _, k := range keysOfOne() {
		l = append(l, row{api.Entry{Tag: api.Commit, Key: k}, api.ErrForm})
	}
	for _, c := range l {
		if b, e := frame.Encode(c.x); e != c.want || b != nil {
			t.Errorf("Encode of tag %d, key %x, %d bytes of data: %d bytes, error %d, not %d", c.x.Tag, c.x.Key, len(c.x.Data), len(b), e, c.want)
		}
		if n := frame.Size(c.x); n != 0 {
			t.Errorf("Size of tag %d, key %x, %d bytes of data: %d", c.x.Tag, c.x.Key, len(c.x.Data), n)
		}
	}
}

// P7.2, P7.5: what is encoded is read as it was, whatever stands behind it.
func TestReadOfEncode(t *testing.T) {
	for _, x := range samples() {
		b := encoded(t, x)
		for _, rest := range [][]byte{nil, {0}, text(100, 5), b, make([]byte, 20000)} {
			reads(t, slices.Concat(b, rest), x, len(b))
		}
	}
}

// P7.2: fewer than nine bytes, whatever they are, and each other front of an entry.
func TestReadOfFronts(t *testing.T) {
	refuses(t, nil, api.ErrShort)
	for n := range 9 {
		refuses(t, make([]byte, n), api.ErrShort)
		refuses(t, slices.Repeat([]byte{0xff}, n), api.ErrShort)
	}
	for _, x := range samples() {
		b := encoded(t, x)
		for n := range min(len(b), 300) {
			refuses(t, b[:n], api.ErrShort)
			refuses(t, b[:len(b)-1-n], api.ErrShort)
		}
	}
}

// P7.2: sizes that an entry with its tag can have and such as it can't, with sums that are right.
func TestReadSizes(t *testing.T) {
	room := make([]byte, 20000)
	wrong := func(size uint32, tag byte) {
		t.Helper()
		whole := framed(size, tag, room[:max(min(int(size), len(room)), 9)-9])
		refuses(t, whole, api.ErrForm)
		refuses(t, whole[:9], api.ErrForm) // ahead of ErrShort
	}
	great := []uint32{greatest + 1, greatest + 2, 1 << 15, 1 << 16, 1<<16 + 9, 1<<16 + 41, 1<<24 + 9, 1<<24 + 41, 1 << 31, 1<<31 + 9, 1<<31 + 41, math.MaxUint32 - 1, math.MaxUint32}
	for size := range uint32(70) {
		if size < 41 {
			wrong(size, api.Put)
		}
		if size != 41 {
			wrong(size, api.Delete)
		}
		if size != 9 {
			wrong(size, api.Commit)
		}
		for tag := 3; tag <= 255; tag++ {
			wrong(size, byte(tag))
		}
	}
	for _, size := range great {
		for tag := range 256 {
			wrong(size, byte(tag))
		}
	}
	wrong(greatest, api.Delete)
	wrong(greatest, api.Commit)
	wrong(greatest, 3)
	reads(t, framed(41, api.Put, room[:32]), api.Entry{Tag: api.Put}, 41)
	reads(t, framed(42, api.Put, room[:33]), api.Entry{Tag: api.Put, Data: room[:1]}, 42)
	reads(t, framed(greatest, api.Put, room[:greatest-9]), api.Entry{Tag: api.Put, Data: room[:api.MaxObject]}, greatest)
	reads(t, framed(41, api.Delete, room[:32]), api.Entry{Tag: api.Delete}, 41)
	reads(t, framed(9, api.Commit, nil), api.Entry{Tag: api.Commit}, 9)
}

// P7.2: another sum, and ErrShort ahead of it.
func TestReadSum(t *testing.T) {
	for _, x := range samples() {
		b := encoded(t, x)
		for bit := range 32 {
			c := bytes.Clone(b)
			c[bit/8] ^= 1 << (bit % 8)
			refuses(t, c, api.ErrSum)
			refuses(t, slices.Concat(c, text(50, 2)), api.ErrSum)
			refuses(t, c[:len(c)-1], api.ErrShort)
		}
		for at := 9; at < len(b); at += 1 + len(b)/50 {
			c := bytes.Clone(b)
			c[at] ^= 0x10
			refuses(t, c, api.ErrSum)
		}
		c := bytes.Clone(b)
		binary.LittleEndian.PutUint32(c, crc32.ChecksumIEEE(c)) // the sum goes over what is behind it alone
		refuses(t, c, api.ErrSum)
	}
}

// P7.2, P7.5: another tag with the same size is seen, too.
func TestReadOtherTag(t *testing.T) {
	put, del := encoded(t, api.Entry{Tag: api.Put, Key: key(1)}), encoded(t, api.Entry{Tag: api.Delete, Key: key(1)})
	put[8], del[8] = api.Delete, api.Put
	refuses(t, put, api.ErrSum)
	refuses(t, del, api.ErrSum)
}

// turn answers bytes of which some bits in a row, from a place on, are turned as the bits of a mask say.
func turn(b []byte, from int, mask uint32) []byte {
	c := bytes.Clone(b)
	for i := range 32 {
		if mask>>i&1 == 1 && from+i < 8*len(c) {
			c[(from+i)/8] ^= 1 << ((from + i) % 8)
		}
	}
	return c
}

// P7.5: one to 32 bits in a row, all of them or some.
func TestReadSeesTurnedBits(t *testing.T) {
	masks := []uint32{math.MaxUint32, 0x80000001, 0xdeadbeef, 0xedb88320}
	for n := range 31 {
		masks = append(masks, 1<<(n+1)-1)
	}
	for _, x := range samples() {
		b := encoded(t, x)
		if len(b) > 300 {
			continue
		}
		whole := slices.Concat(b, text(20000, 8)) // so that another size may be there whole
		for from := range 8 * len(b) {
			for _, mask := range masks {
				c := turn(b, from, mask)
				if bytes.Equal(c, b) { // all that the mask would turn is behind the end
					continue
				}
				copy(whole, c)
				if _, n, e := frame.Read(whole); e == api.OK && n == len(b) {
					t.Fatalf("bits %d on by %x turned in %x: not seen", from, mask, b)
				}
				if _, n, e := frame.Read(c); e == api.OK && n == len(b) {
					t.Fatalf("bits %d on by %x turned in %x alone: not seen", from, mask, b)
				}
			}
		}
	}
}

// P7.5: what is read, encoded again, is the bytes; another entry has others.
func TestEncodeOfRead(t *testing.T) {
	seen := map[string]bool{}
	for _, x := range samples() {
		b := encoded(t, x)
		if seen[string(b)] {
			t.Fatalf("two entries have the bytes %x", b[:min(len(b), 50)])
		}
		seen[string(b)] = true
		y, _, _ := frame.Read(b)
		if c := encoded(t, y); !bytes.Equal(b, c) {
			t.Fatalf("encoded again %x is %x", b[:min(len(b), 50)], c[:min(len(c), 50)])
		}
	}
}

// P7.1, P7.2, R3: what is handed in is neither changed nor kept, and an answer is new memory.
func TestMemoryOfEntries(t *testing.T) {
	data := text(100, 1)
	x := api.Entry{Tag: api.Put, Key: key(1), Data: data}
	b := encoded(t, x)
	was := bytes.Clone(b)
	if !bytes.Equal(data, text(100, 1)) || x.Key != key(1) {
		t.Error("Encode changed what was handed in")
	}
	clear(data)
	if !bytes.Equal(b, was) {
		t.Error("Encode kept what was handed in")
	}
	y, _, _ := frame.Read(b)
	z, _, _ := frame.Read(b)
	if !bytes.Equal(b, was) {
		t.Error("Read changed what was handed in")
	}
	clear(b)
	if !bytes.Equal(y.Data, text(100, 1)) || y.Key != key(1) {
		t.Error("Read kept what was handed in")
	}
	clear(y.Data)
	_ = append(y.Data, 1, 2, 3)
	if !bytes.Equal(z.Data, text(100, 1)) {
		t.Error("two answers share their data")
	}
	short := encoded(t, api.Entry{Tag: api.Commit})
	_ = append(short, 7)
	if c := encoded(t, api.Entry{Tag: api.Commit}); hex.EncodeToString(c) != "40f43c250900000002" {
		t.Errorf("a second Commit: %x", c)
	}
}
