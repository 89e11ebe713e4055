package media

import "bytes"

// file has bytes.
type file struct {
	now  []byte
	fast []byte
	wait []change // what must still be done to fast, so that it is as now, in order
}

// change is one of a file's bytes: they end at a place, and more stand behind. An Append ends them where they end
// anyway, behind a Truncate nothing stands.
type change struct {
	end  int
	more []byte
}

// do changes bytes, in their own memory.
func (c change) do(b []byte) []byte { return append(b[:c.end], c.more...) }

// settle makes the first so many of the changes that wait fast, and lets go of all.
func (f *file) settle(n int) {
	for _, c := range f.wait[:n] {
		f.fast = c.do(f.fast)
	}
	f.wait = nil
}

// crash leaves so many of the changes that wait, and so many bytes of the next one, as the next numbers say.
func (f *file) crash(next func(most int) int) {
	n := next(len(f.wait))
	var torn []byte
	if n < len(f.wait) {
		torn = f.wait[n].more
	}
	f.settle(n)
	f.fast = append(f.fast, torn[:next(len(torn))]...)
	f.now = bytes.Clone(f.fast)
}

// rot spoils a byte that is there now, and the same byte where it waits or is fast: it came by the last change that
// ends the bytes ahead of it. What stood in its place before that is another byte.
func (f *file) rot(at int, by byte) {
	f.now[at] ^= by
	for i := len(f.wait) - 1; i >= 0; i-- {
		if c := f.wait[i]; c.end <= at {
			c.more[at-c.end] ^= by
			return
		}
	}
	f.fast[at] ^= by
}
