package segs

import (
	"cmp"
	"slices"

	"hoard/api"
	"hoard/frame"
)

// segment is what a Log knows of one.
type segment struct {
	number int
	size   int // of its file, when it was last seen: while the power is off the medium does not tell
}

// works tells whether Open made a Log.
func (l *Log) works() bool { return l != nil && l.medium != nil }

// last answers where the last segment stands.
func (l *Log) last() int { return len(l.segments) - 1 }

// find answers where a segment stands.
func (l *Log) find(n int) (int, api.Errno) {
	if !l.works() {
		return 0, api.ErrNil
	}
	i, ok := slices.BinarySearchFunc(l.segments, n, func(s segment, n int) int { return cmp.Compare(s.number, n) })
	if !ok {
		return 0, api.ErrNone
	}
	return i, api.OK
}

// size answers how many bytes a segment's file has.
func (l *Log) size(i int) int {
	s := &l.segments[i]
	if n, e := l.medium.Size(Name(s.number)); e != api.ErrDead {
		s.size = n
	}
	return s.size
}

// lay puts an entry's bytes into the open segment, or, where there is no place for them, into a new one.
func (l *Log) lay(b []byte) api.Errno {
	if !l.open {
		return l.begin(b)
	}
	if l.size(l.last())+len(b) <= l.limit {
		return l.extend(b)
	}
	if e := l.medium.Sync(Name(l.segments[l.last()].number)); e != api.OK {
		return e
	}
	l.open = false // it stays so, though there be no new one
	return l.begin(b)
}

// extend puts an entry's bytes into the open segment.
func (l *Log) extend(b []byte) api.Errno {
	s := &l.segments[l.last()]
	e := l.medium.Append(Name(s.number), b)
	if e == api.OK {
		s.size += len(b)
	}
	return e
}

// begin puts an entry's bytes into a new segment.
func (l *Log) begin(b []byte) api.Errno {
	n := l.Next()
	if n == api.MaxSegments {
		return api.ErrLimit
	}
	name := Name(n)
	if e := l.medium.Create(name); e != api.OK {
		return e
	}
	b = slices.Concat([]byte(frame.Magic), b)
	e := l.medium.Append(name, b)
	if e == api.ErrFull && l.medium.Remove(name) == api.ErrDead {
		e = api.ErrDead
	}
	if e != api.OK {
		return e
	}
	l.segments = append(l.segments, segment{number: n, size: len(b)})
	l.open = true
	l.fresh++
	return api.OK
}

// drop takes a segment away.
func (l *Log) drop(i int) api.Errno {
	if e := l.medium.Remove(Name(l.segments[i].number)); e != api.OK {
		return e
	}
	if i == l.last() {
		l.open = false
	}
	if i >= len(l.segments)-l.fresh {
		l.fresh--
	}
	l.segments = slices.Delete(l.segments, i, i+1)
	return api.OK
}
