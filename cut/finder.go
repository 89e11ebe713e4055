package cut

import (
	"hoard/api"
	"hoard/roll"
)

// finder finds where the chunks of a stream end.
type finder struct {
	least, most int
	mask        uint32 // of a sum the bits that must be noughts
	roller      *roll.Roller
	size        int // how many bytes the chunk has that goes on
}

// begin answers a finder that was given nothing.
func begin(s api.Shape) (*finder, api.Errno) {
	if e := Check(s); e != api.OK {
		return nil, e
	}
	r, e := roll.New(s.Seed, s.Window)
	if e != api.OK {
		return nil, e
	}
	return &finder{least: s.Least, most: s.Most, mask: 1<<s.Bits - 1, roller: r}, api.OK
}

// next goes on with a stream up to the end of a chunk, and answers how many bytes that takes, and whether a chunk ended.
func (f *finder) next(b []byte) (int, bool) {
	for i, c := range b {
		f.size++
		if sum := f.roller.Put(c); f.ends(sum) {
			f.clear()
			return i + 1, true
		}
	}
	return len(b), false
}

// ends tells whether the chunk that goes on ends with that sum. A chunk of enough bytes has the whole window in it, so
// that what was ahead of it plays no part.
func (f *finder) ends(sum uint32) bool {
	return f.size == f.most || f.size >= f.least && sum&f.mask == 0
}

// clear begins a chunk.
func (f *finder) clear() {
	f.size = 0
	f.roller.Clear()
}
