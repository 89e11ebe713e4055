package book

import (
	"math"

	"hoard/api"
	"hoard/bits"
	"hoard/xxh"
)

const (
	keyWide = 32
	numWide = 4 // of a number in a row, and of how many rows there are
	sumWide = 8
)

// kind is what the books of one kind have of their own.
type kind[T any] struct {
	name  string
	wide  int                      // bytes of a row
	cells func(T) ([]byte, []int)  // a row's key, if it has one, and its numbers
	take  func(*bits.Reader) T     // the next row
	rises func(before, row T) bool // whether a row may stand behind another one
}

// write answers a list as a book of a kind.
func write[T any](k kind[T], l []T) ([]byte, api.Errno) {
	if len(l) > MaxRows {
		return nil, api.ErrLimit
	}
	b := append([]byte(k.name), bits.Put(uint64(len(l)), numWide)...)
	for _, x := range l {
		id, numbers := k.cells(x)
		b = append(b, id...)
		for _, n := range numbers {
			if n < 0 || uint64(n) > math.MaxUint32 {
				return nil, api.ErrArg
			}
			b = append(b, bits.Put(uint64(n), numWide)...)
		}
	}
	if !rise(k, l) {
		return nil, api.ErrOrder
	}
	return append(b, bits.Put(xxh.Sum(b, 0), sumWide)...), api.OK
}

// read answers the list of which a book of a kind was made.
func read[T any](k kind[T], b []byte) ([]T, api.Errno) {
	r := bits.Open(b)
	rows, e := begin(k, r)
	if e != api.OK {
		return nil, e
	}
	l := make([]T, rows)
	for i := range l {
		l[i] = k.take(r)
	}
	if r.Num(sumWide) != xxh.Sum(b[:len(b)-sumWide], 0) {
		return nil, api.ErrSum
	}
	if !rise(k, l) {
		return nil, api.ErrOrder
	}
	return l, api.OK
}

// begin reads what stands ahead of the rows: how many there are. A reader behind it has just these and the sum.
func begin[T any](k kind[T], r *bits.Reader) (int, api.Errno) {
	name, rows := r.Text(len(k.name)), r.Num(numWide)
	if e := r.Err(); e != api.OK {
		return 0, e
	}
	if name != k.name || rows > MaxRows {
		return 0, api.ErrForm
	}
	n := int(rows)
	switch left := n*k.wide + sumWide; {
	case r.Left() < left:
		return 0, api.ErrShort
	case r.Left() > left:
		return 0, api.ErrRest
	}
	return n, api.OK
}

// rise tells whether each row may stand behind the one ahead of it.
func rise[T any](k kind[T], l []T) bool {
	for i := 1; i < len(l); i++ {
		if !k.rises(l[i-1], l[i]) {
			return false
		}
	}
	return true
}

// key reads a key.
func key(r *bits.Reader) api.ID {
	var k api.ID
	copy(k[:], r.Bytes(keyWide))
	return k
}

// num reads a number of a row.
func num(r *bits.Reader) int { return int(r.Num(numWide)) }
