package frame_test

import (
	"bytes"
	"slices"
	"testing"

	"hoard/api"
	"hoard/frame"
)

// segment answers a segment's bytes of entries, and what is to be found there.
func segment(l []api.Entry) ([]byte, []api.Found) {
	b := []byte("HOARDSEG")
	var f []api.Found
	for _, x := range l {
		w := written(x)
		f = append(f, api.Found{Entry: x, At: len(b), Size: len(w)})
		b = append(b, w...)
	}
	return b, f
}

// few answers some entries that are not great: of each tag, and of sizes that lie about the marks of a text.
func few() []api.Entry {
	return []api.Entry{
		{Tag: api.Put, Key: key(1), Data: []byte("abc")},
		{Tag: api.Commit},
		{Tag: api.Put, Key: key(2)},
		{Tag: api.Put, Key: key(1), Data: text(64, 3)},
		{Tag: api.Delete, Key: key(2)},
		{Tag: api.Commit},
		{Tag: api.Commit},
		{Tag: api.Delete},
		{Tag: api.Put, Key: key(5), Data: make([]byte, 130)},
		{Tag: api.Put, Key: key(6), Data: text(300, 4)},
		{Tag: api.Commit},
	}
}

// moved answers what is found so many bytes further on.
func moved(l []api.Found, by int) []api.Found {
	m := slices.Clone(l)
	for i := range m {
		m[i].At += by
	}
	return m
}

// alike tells whether the same was found.
func alike(l, m []api.Found) bool {
	return slices.EqualFunc(l, m, func(a, b api.Found) bool {
		return same(a.Entry, b.Entry) && a.At == b.At && a.Size == b.Size
	})
}

// places answers where what was found stands.
func places(l []api.Found) [][2]int {
	var p [][2]int
	for _, f := range l {
		p = append(p, [2]int{f.At, f.Size})
	}
	return p
}

// scans fails, unless Scan has these entries, that place, and that error.
func scans(t *testing.T, b []byte, want []api.Found, at int, err api.Errno) {
	t.Helper()
	l, n, e := frame.Scan(b)
	if !alike(l, want) || n != at || e != err {
		t.Fatalf("Scan of %d bytes: %v, up to %d, error %d; not %v, %d, %d", len(b), places(l), n, e, places(want), at, err)
	}
}

// salvages fails, unless Salvage has these entries.
func salvages(t *testing.T, b []byte, want []api.Found) {
	t.Helper()
	if l := frame.Salvage(b); !alike(l, want) {
		t.Fatalf("Salvage of %d bytes: %v, not %v", len(b), places(l), places(want))
	}
}

// anywhere answers what Salvage has to find, by the chapter's words.
func anywhere(b []byte) []api.Found {
	var l []api.Found
	for at := 0; at < len(b); {
		x, n, e := frame.Read(b[at:])
		if e != api.OK {
			at++
			continue
		}
		l = append(l, api.Found{Entry: x, At: at, Size: n})
		at += n
	}
	return l
}

// P7.3: each number of entries, of all sorts.
func TestScan(t *testing.T) {
	if frame.Magic != "HOARDSEG" {
		t.Error(frame.Magic)
	}
	scans(t, []byte(frame.Magic), nil, 8, api.OK)
	for _, l := range [][]api.Entry{few(), samples()} {
		for n := range len(l) + 1 {
			b, want := segment(l[:n])
			scans(t, b, want, len(b), api.OK)
		}
	}
	b, want := segment(few())
	if want[0].At != 8 || want[0].Size != 44 || want[1].At != 52 || want[1].Size != 9 {
		t.Errorf("places: %v", places(want))
	}
	scans(t, b[:61], want[:2], 61, api.OK)
}

// P7.3: without the Magic nothing is told, whatever stands there.
func TestScanWithoutMagic(t *testing.T) {
	scans(t, nil, nil, 0, api.ErrForm)
	b, _ := segment(few())
	for n := range 8 {
		scans(t, b[:n], nil, 0, api.ErrForm)
		for _, by := range []byte{1, 0x20, 0x80, 0xff} {
			c := bytes.Clone(b)
			c[n] ^= by
			scans(t, c, nil, 0, api.ErrForm)
			scans(t, c[:8], nil, 0, api.ErrForm)
		}
	}
	scans(t, b[8:], nil, 0, api.ErrForm)
	scans(t, append([]byte{0}, b...), nil, 0, api.ErrForm)
}

// P7.3: a segment that ends within an entry.
func TestScanOfFronts(t *testing.T) {
	b, all := segment(few())
	for n := 8; n <= len(b); n++ {
		at, whole := 8, 0
		for whole < len(all) && all[whole].At+all[whole].Size <= n {
			at = all[whole].At + all[whole].Size
			whole++
		}
		err := api.ErrShort
		if at == n {
			err = api.OK
		}
		scans(t, b[:n], all[:whole], at, err)
	}
}

// P7.3: what is no entry ends it, by Read's error; what stands behind that is not told.
func TestScanUpToFaults(t *testing.T) {
	commit := written(api.Entry{Tag: api.Commit})
	spoilt := bytes.Clone(commit)
	spoilt[0] ^= 1
	for _, c := range []struct {
		b    []byte
		want api.Errno
	}{
		{[]byte{0}, api.ErrShort},
		{make([]byte, 8), api.ErrShort},
		{make([]byte, 9), api.ErrForm},
		{framed(40, api.Put, make([]byte, 31)), api.ErrForm},
		{framed(9, 3, nil), api.ErrForm},
		{framed(60, api.Put, make([]byte, 50)), api.ErrShort},
		{spoilt, api.ErrSum},
		{slices.Concat(spoilt, commit, commit), api.ErrSum},
		{slices.Concat(make([]byte, 9), commit), api.ErrForm},
		{[]byte("HOARDSEG"), api.ErrShort},
		{slices.Concat([]byte("HOARDSEG"), commit), api.ErrForm},
	} {
		scans(t, append([]byte("HOARDSEG"), c.b...), nil, 8, c.want)
		b, all := segment(few())
		scans(t, slices.Concat(b, c.b), all, len(b), c.want)
	}
}

// P7.3, P7.4, P7.5: a segment that was made of entries.
func TestSalvageOfSegments(t *testing.T) {
	salvages(t, nil, nil)
	salvages(t, []byte(frame.Magic), nil)
	for _, l := range [][]api.Entry{few(), samples()} {
		for n := range len(l) + 1 {
			b, want := segment(l[:n])
			salvages(t, b, want)
			salvages(t, b[8:], moved(want, -8))
		}
	}
}

// P7.4: wherever an entry stands, with the least and the greatest size, and whatever stands about it.
func TestSalvageAnywhere(t *testing.T) {
	for _, x := range samples() {
		w := written(x)
		for _, at := range []int{0, 1, 2, 8, 55, 60, 63, 64, 65, 127, 128, 129, 1000} {
			for _, fill := range []byte{0, 9, 0xff} {
				b := slices.Concat(slices.Repeat([]byte{fill}, at), w, slices.Repeat([]byte{fill}, at/2))
				salvages(t, b, []api.Found{{Entry: x, At: at, Size: len(w)}})
				salvages(t, b[:at+len(w)-1], nil)
			}
		}
	}
}

// P7.4: an entry within another one's data is found, where the other one is not.
func TestSalvageOfEntriesWithin(t *testing.T) {
	inner, found := segment(few())
	outer := api.Entry{Tag: api.Put, Key: key(9), Data: inner}
	b, want := segment([]api.Entry{outer, {Tag: api.Commit}})
	salvages(t, b, want)
	scans(t, b, want, len(b), api.OK)
	for _, at := range []int{8, 11, 13, 16, 17, 20, 48, 49} { // in its sum, size, tag, key, data
		c := bytes.Clone(b)
		c[at] ^= 0x40
		salvages(t, c, append(moved(found, 49), want[1]))
	}
	front := b[:len(b)-10] // a byte of its data is not there
	salvages(t, front, moved(found[:len(found)-1], 49))
}

// P7.4: what begins as a greater entry, and is none, hides nothing; one that is found is gone over whole.
func TestSalvageBehindBeginnings(t *testing.T) {
	commit := written(api.Entry{Tag: api.Commit})
	begin := framed(60, api.Put, nil)
	b := slices.Concat(begin, commit, begin, commit, make([]byte, 60))
	c := api.Entry{Tag: api.Commit}
	salvages(t, b, []api.Found{{Entry: c, At: 9, Size: 9}, {Entry: c, At: 27, Size: 9}})
	twice := slices.Concat(commit[:4], commit, commit)
	salvages(t, twice, []api.Found{{Entry: c, At: 4, Size: 9}, {Entry: c, At: 13, Size: 9}})
}

// P7.4: against Read at each place, of segments that are spoilt at many places.
func TestSalvageIsReadAtEachPlace(t *testing.T) {
	good, _ := segment(append(few(), few()...))
	for seed := range uint64(300) {
		b := bytes.Clone(good)
		r := text(40, seed)
		for i := 0; i < int(seed%20); i++ {
			at := (int(r[2*i])<<8 | int(r[2*i+1])) % len(b)
			b[at] ^= r[39-i]
		}
		b = b[int(r[38]%20) : len(b)-int(r[39]%20)]
		salvages(t, b, anywhere(b))
	}
}

// beginnings answers n bytes of which each fifth place looks like the beginning of a great Put.
func beginnings(n int) []byte {
	return slices.Repeat([]byte{0x29, 0x40, 0, 0, 0}, n/5+1)[:n]
}

// P7.4, R1: bytes that look like entries at very many places are ended with, and what is among them is found.
func TestSalvageOfManyBeginnings(t *testing.T) {
	x := api.Entry{Tag: api.Put, Key: key(3), Data: beginnings(api.MaxObject)}
	w := written(x)
	small := slices.Concat(beginnings(20000), w, beginnings(20001))
	salvages(t, small, anywhere(small))
	salvages(t, small, []api.Found{{Entry: x, At: 20000, Size: len(w)}})
	big := slices.Concat(beginnings(1<<20), w, beginnings(1<<20))
	salvages(t, big, []api.Found{{Entry: x, At: 1 << 20, Size: len(w)}})
	salvages(t, make([]byte, 1<<20), nil)
}

// P7.5: one to 32 bits in a row turned in one entry of a segment, or all of it spoilt: the others are found.
func TestOthersAreFound(t *testing.T) {
	b, all := segment(few())
	spoil := func(i int, c []byte) {
		t.Helper()
		end := all[i].At + all[i].Size
		rest := append([]byte(frame.Magic), c[end:]...)
		scans(t, rest, moved(all[i+1:], 8-end), len(rest), api.OK)
		salvages(t, c, append(slices.Clone(all[:i]), all[i+1:]...))
		if l, at, e := frame.Scan(c); !alike(l, all[:i]) || at != all[i].At || e == api.OK {
			t.Fatalf("Scan with entry %d spoilt: %v, up to %d, error %d", i, places(l), at, e)
		}
	}
	for i, f := range all {
		for bit := range 8 * f.Size {
			for _, mask := range []uint32{1, 3, 0xffff, 0xffffffff} {
				mask &= 1<<min(32, 8*f.Size-bit) - 1
				spoil(i, turn(b, 8*f.At+bit, mask))
			}
		}
		for seed := range uint64(20) {
			c := bytes.Clone(b)
			copy(c[f.At:], text(f.Size, seed))
			spoil(i, c)
		}
		c := bytes.Clone(b)
		clear(c[f.At : f.At+f.Size])
		spoil(i, c)
	}
}

// P7.3, P7.4, R3: what is handed in is neither changed nor kept; what is found shares no memory.
func TestMemoryOfFound(t *testing.T) {
	b, want := segment(few())
	was := bytes.Clone(b)
	scan, _, _ := frame.Scan(b)
	save := frame.Salvage(b)
	if !bytes.Equal(b, was) {
		t.Error("what was handed in is changed")
	}
	clear(b)
	if !alike(scan, want) || !alike(save, want) {
		t.Error("what was handed in is kept")
	}
	for _, l := range [][]api.Found{scan, save} {
		for i, f := range l {
			_ = append(f.Entry.Data, bytes.Repeat([]byte{1}, 50)...)
			clear(f.Entry.Data)
			if !alike(l[i+1:], want[i+1:]) {
				t.Fatalf("entry %d shares its data", i)
			}
		}
	}
	if again, _, _ := frame.Scan(was); !alike(again, want) {
		t.Error("a second Scan has something else")
	}
}
