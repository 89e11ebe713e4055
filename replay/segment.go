package replay

import (
	"hoard/api"
	"hoard/frame"
	"hoard/segs"
)

// none is the number of no segment.
const none = -1

// segment is one whose bytes were read.
type segment struct {
	number int
	size   int // of its bytes
	found  []api.Found
	at     int       // up to where it is made of entries
	err    api.Errno // what stands there: OK, if that is its end
}

// read answers a segment.
func read(l *segs.Log, n int) (segment, api.Errno) {
	b, e := l.Bytes(n)
	if e != api.OK {
		return segment{}, e
	}
	found, at, e := frame.Scan(b)
	return segment{number: n, size: len(b), found: found, at: at, err: e}, api.OK
}

// commits tells whether a segment is whole, and its last entry a Commit.
func (s segment) commits() bool {
	return s.err == api.OK && len(s.found) > 0 && s.found[len(s.found)-1].Entry.Tag == api.Commit
}

// fault answers what is wrong with a segment that is not whole.
func (s segment) fault() api.Fault {
	what := api.BadEntry
	if s.at == 0 {
		what = api.BadMagic // no entry stands at 0
	}
	return api.Fault{What: what, Seg: s.number, At: s.at}
}

// seek answers how many segments there are up to the last commit, and that one: 0 without it.
func seek(l *segs.Log, numbers []int) (int, segment, api.Errno) {
	if e := check(l); e != api.OK {
		return 0, segment{}, e
	}
	for upTo := len(numbers); upTo > 0; upTo-- {
		s, e := read(l, numbers[upTo-1])
		if e != api.OK {
			return 0, segment{}, e
		}
		if s.commits() {
			return upTo, s, api.OK
		}
	}
	return 0, segment{}, api.OK
}

// check answers ErrNil of a Log that nobody opened: nothing else tells it from one without segments.
func check(l *segs.Log) api.Errno {
	if _, e := l.Bytes(none); e == api.ErrNil {
		return e
	}
	return api.OK
}
