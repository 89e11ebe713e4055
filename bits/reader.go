package bits

import (
	"slices"

	"hoard/api"
)

// Reader goes through bytes.
type Reader struct {
	left []byte
	err  api.Errno
	made bool // by Open: a zero value must not pass for a reader of no bytes
}

// Open answers a reader at the beginning of bytes.
func Open(b []byte) *Reader {
	return &Reader{left: slices.Clone(b), made: true}
}

// Num reads a number.
func (r *Reader) Num(n int) uint64 {
	if !fits(n) {
		r.fail(api.ErrArg)
		return 0
	}
	x, _ := Get(r.take(n))
	return x
}

// Bytes reads bytes.
func (r *Reader) Bytes(n int) []byte { return r.take(n) }

// Text reads a text.
func (r *Reader) Text(n int) string { return string(r.take(n)) }

// Left answers how many bytes are left.
func (r *Reader) Left() int {
	if r == nil {
		return 0
	}
	return len(r.left)
}

// Err answers the first error.
func (r *Reader) Err() api.Errno {
	if r == nil || !r.made {
		return api.ErrNil
	}
	return r.err
}

// End answers the first error, or whether something is left.
func (r *Reader) End() api.Errno {
	if e := r.Err(); e != api.OK {
		return e
	}
	if len(r.left) > 0 {
		return api.ErrRest
	}
	return api.OK
}

// take hands out the next bytes of the reader's own copy, and lets go of them. They need no copy of their own: the third
// index keeps whoever appends to them out of what is left.
func (r *Reader) take(n int) []byte {
	switch {
	case r.Err() != api.OK:
		return nil
	case n < 0:
		r.fail(api.ErrArg)
		return nil
	case n > len(r.left):
		r.fail(api.ErrShort)
		return nil
	}
	b := r.left[:n:n]
	r.left = r.left[n:]
	return b
}

// fail keeps the first error.
func (r *Reader) fail(e api.Errno) {
	if r.Err() == api.OK {
		r.err = e
	}
}
