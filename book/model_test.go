package book_test

import (
	"bytes"
	"encoding/binary"
	"encoding/hex"
	"slices"
	"testing"

	"hoard/api"
	"hoard/book"
	"hoard/xxh"
)

// sort is a kind of books by the chapter's table, and the calls that are to keep to it.
type sort[T comparable] struct {
	name    string
	wide    int // bytes of a row
	write   func([]T) ([]byte, api.Errno)
	read    func([]byte) ([]T, api.Errno)
	numbers func(*T) []*int
	key     func(*T) *api.ID // nil, where rows have none
	lead    func(T) string   // what rows rise by, as bytes that do so
}

func indexes() sort[api.Keyed] {
	return sort[api.Keyed]{
		"HOARDIDX", 32 + 12, book.Index, book.ReadIndex,
		func(x *api.Keyed) []*int { return []*int{&x.Place.Seg, &x.Place.At, &x.Place.Size} },
		func(x *api.Keyed) *api.ID { return &x.Key },
		func(x api.Keyed) string { return string(x.Key[:]) },
	}
}

func refs() sort[api.Counted] {
	return sort[api.Counted]{
		"HOARDREF", 32 + 8, book.Counts, book.ReadCounts,
		func(x *api.Counted) []*int { return []*int{&x.Count.Refs, &x.Count.Size} },
		func(x *api.Counted) *api.ID { return &x.Key },
		func(x api.Counted) string { return string(x.Key[:]) },
	}
}

func uses() sort[api.Use] {
	return sort[api.Use]{
		"HOARDUSE", 12, book.Uses, book.ReadUses,
		func(x *api.Use) []*int { return []*int{&x.Seg, &x.Size, &x.Live} },
		nil,
		func(x api.Use) string { return string(binary.BigEndian.AppendUint64(nil, uint64(x.Seg))) },
	}
}

// row answers a row that n leads: a greater n has a greater lead.
func (s sort[T]) row(n int) T {
	var x T
	for i, p := range s.numbers(&x) {
		*p = n*(i+1) + i
	}
	if s.key != nil {
		binary.BigEndian.PutUint32(s.key(&x)[:], uint32(n))
		s.key(&x)[31] = byte(200 - n)
	}
	return x
}

// rows answers a list that rises.
func (s sort[T]) rows(n int) []T {
	var l []T
	for i := range n {
		l = append(l, s.row(i))
	}
	return l
}

// bytesOf answers a list as bytes with the right sum, whether there may be such a book or not.
func (s sort[T]) bytesOf(l []T) []byte {
	b := binary.LittleEndian.AppendUint32([]byte(s.name), uint32(len(l)))
	for _, x := range l {
		if s.key != nil {
			b = append(b, s.key(&x)[:]...)
		}
		for _, p := range s.numbers(&x) {
			b = binary.LittleEndian.AppendUint32(b, uint32(*p))
		}
	}
	return summed(b)
}

// summed answers bytes with their sum behind them.
func summed(b []byte) []byte { return binary.LittleEndian.AppendUint64(slices.Clone(b), xxh.Sum(b, 0)) }

// resummed answers a book whose sum is made right.
func resummed(b []byte) []byte { return summed(b[:len(b)-8]) }

func (s sort[T]) rise(l []T) bool {
	for i := range l {
		if i > 0 && s.lead(l[i-1]) >= s.lead(l[i]) {
			return false
		}
	}
	return true
}

// written answers what the chapter says of writing a list.
func (s sort[T]) written(l []T) ([]byte, api.Errno) {
	if len(l) > 65536 {
		return nil, api.ErrLimit
	}
	for _, x := range l {
		for _, p := range s.numbers(&x) {
			if *p < 0 || *p > 4294967295 {
				return nil, api.ErrArg
			}
		}
	}
	if !s.rise(l) {
		return nil, api.ErrOrder
	}
	return s.bytesOf(l), api.OK
}

// told answers what the chapter says of reading bytes.
func (s sort[T]) told(b []byte) ([]T, api.Errno) {
	if len(b) < 12 {
		return nil, api.ErrShort
	}
	rows := int(b[8]) + int(b[9])*256 + int(b[10])*65536 + int(b[11])*16777216
	if string(b[:8]) != s.name || rows > 65536 {
		return nil, api.ErrForm
	}
	if size := 12 + rows*s.wide + 8; len(b) < size {
		return nil, api.ErrShort
	} else if len(b) > size {
		return nil, api.ErrRest
	}
	if !bytes.Equal(b, resummed(b)) {
		return nil, api.ErrSum
	}
	var l []T
	for i := range rows {
		var x T
		cells := b[12+i*s.wide:]
		if s.key != nil {
			*s.key(&x) = api.ID(cells)
			cells = cells[32:]
		}
		for j, p := range s.numbers(&x) {
			*p = int(binary.LittleEndian.Uint32(cells[4*j:]))
		}
		l = append(l, x)
	}
	if !s.rise(l) {
		return nil, api.ErrOrder
	}
	return l, api.OK
}

// writes holds what is written of a list against the chapter's words, and what is read of that against the list.
func (s sort[T]) writes(t *testing.T, what string, l []T, want api.Errno) {
	t.Helper()
	before := slices.Clone(l)
	b, e := s.write(l)
	told, errno := s.written(l)
	if errno != want {
		t.Fatalf("%s, %s: the model has %v, not %v", s.name, what, errno, want)
	}
	if e != want || !bytes.Equal(b, told) {
		t.Errorf("%s, %s: %v, %d bytes", s.name, what, e, len(b))
	}
	if !slices.Equal(l, before) {
		t.Errorf("%s, %s: the list is changed", s.name, what)
	}
	if want == api.OK {
		s.reads(t, what, told, api.OK)
		if again, _ := s.read(b); !slices.Equal(again, l) {
			t.Errorf("%s, %s: reads %v", s.name, what, again)
		}
	}
}

// reads holds what is read of bytes against the chapter's words, and what is written of that against the bytes.
func (s sort[T]) reads(t *testing.T, what string, b []byte, want api.Errno) {
	t.Helper()
	before := slices.Clone(b)
	l, e := s.read(b)
	told, errno := s.told(b)
	if errno != want {
		t.Fatalf("%s, %s: the model has %v, not %v", s.name, what, errno, want)
	}
	if e != want || !slices.Equal(l, told) {
		t.Errorf("%s, %s: %v, %d rows", s.name, what, e, len(l))
	}
	if !bytes.Equal(b, before) {
		t.Errorf("%s, %s: the bytes are changed", s.name, what)
	}
	if want == api.OK {
		if again, e := s.write(l); e != api.OK || !bytes.Equal(again, b) {
			t.Errorf("%s, %s: writes %v, %d bytes", s.name, what, e, len(again))
		}
	}
}

// unhex answers bytes that are written in hexadecimal.
func unhex(t *testing.T, s string) []byte {
	t.Helper()
	b, e := hex.DecodeString(s)
	if e != nil {
		t.Fatal(e)
	}
	return b
}
