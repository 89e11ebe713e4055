package book_test

import (
	"bytes"
	"math"
	"math/rand/v2"
	"slices"
	"testing"

	"hoard/api"
	"hoard/book"
)

// key1 is ahead of key2, whose last byte is the lower one.
var (
	key1 = api.ID{0, 1, 2, 3, 4, 5, 6, 7, 8, 9, 10, 11, 12, 13, 14, 15, 16, 17, 18, 19, 20, 21, 22, 23, 24, 25, 26, 27, 28, 29, 30, 31}
	key2 = api.ID{1, 1, 1, 1, 1, 1, 1, 1, 1, 1, 1, 1, 1, 1, 1, 1, 1, 1, 1, 1, 1, 1, 1, 1, 1, 1, 1, 1, 1, 1, 1, 0}
)

const hex1 = "000102030405060708090a0b0c0d0e0f101112131415161718191a1b1c1d1e1f"

// P13.1, P13.2: books whose bytes, and sums, are worked out apart.
func TestBooksByHand(t *testing.T) {
	byHand(t, indexes(), nil, "484f4152444944580000000013d92718f122596b")
	byHand(t, refs(), nil, "484f415244524546000000006d047b0e5aa325d7")
	byHand(t, uses(), nil, "484f415244555345000000008ac77ffb5b0ba745")
	byHand(t, indexes(), []api.Keyed{
		{Key: key1, Place: api.Place{Seg: 1, At: 0x01020304, Size: 43}},
		{Key: key2, Place: api.Place{Seg: 0, At: 8, Size: math.MaxUint32}},
	}, "484f41524449445802000000"+hex1+"01000000040302012b000000"+
		"01010101010101010101010101010101010101010101010101010101010101000000000008000000ffffffff"+"c04986dbe7ca9b1d")
	byHand(t, refs(), []api.Counted{
		{Key: key1, Count: api.Count{Refs: 2, Size: 0x01020304}},
		{Key: key2, Count: api.Count{Refs: 0, Size: math.MaxUint32}},
	}, "484f41524452454602000000"+hex1+"0200000004030201"+
		"010101010101010101010101010101010101010101010101010101010101010000000000ffffffff"+"1befa696f5872887")
	byHand(t, uses(), []api.Use{
		{Seg: 0, Size: 0x01020304, Live: 43},
		{Seg: 256, Size: 0, Live: math.MaxUint32},
	}, "484f4152445553450200000000000000040302012b0000000001000000000000ffffffff"+"76ee0a4889b6f93f")
}

func byHand[T comparable](t *testing.T, s sort[T], l []T, text string) {
	t.Helper()
	want := unhex(t, text)
	if b, e := s.write(l); e != api.OK || !bytes.Equal(b, want) {
		t.Errorf("%s: %v, %x", s.name, e, b)
	}
	if b, e := s.read(want); e != api.OK || !slices.Equal(b, l) {
		t.Errorf("%s: %v, %v", s.name, e, b)
	}
}

// The chapter's examples.
func TestExamples(t *testing.T) {
	for _, l := range [][]api.Keyed{nil, {}} {
		if b, e := book.Index(l); e != api.OK || len(b) != 8+4+8 {
			t.Errorf("%v, %x", e, b)
		}
	}
	b, _ := book.Counts([]api.Counted{{Key: key1}})
	if l, e := book.ReadIndex(b); e != api.ErrForm || len(l) != 0 {
		t.Errorf("%v, %v", e, l)
	}
	if book.MaxRows != 65536 {
		t.Error(book.MaxRows)
	}
}

// P13.1, P13.3: lists of any length.
func TestLengths(t *testing.T) {
	lengths(t, indexes())
	lengths(t, refs())
	lengths(t, uses())
}

func lengths[T comparable](t *testing.T, s sort[T]) {
	for n := range 60 {
		s.writes(t, "few rows", s.rows(n), api.OK)
	}
	for _, n := range []int{255, 256, 257, 1000} {
		s.writes(t, "rows", s.rows(n), api.OK)
	}
}

// P13.1: MaxRows is itself allowed; one more is ErrLimit, ahead of whatever is wrong with the rows.
func TestManyRows(t *testing.T) {
	manyRows(t, indexes())
	manyRows(t, refs())
	manyRows(t, uses())
}

func manyRows[T comparable](t *testing.T, s sort[T]) {
	l := s.rows(65537)
	s.writes(t, "a row fewer", l[:65535], api.OK)
	s.writes(t, "all rows", l[:65536], api.OK)
	s.writes(t, "a row too many", l, api.ErrLimit)
	*s.numbers(&l[65536])[1] = -1
	s.writes(t, "a row too many, that may not be", l, api.ErrLimit)
	s.writes(t, "all rows there may be", l[:65536], api.OK)
	*s.numbers(&l[65535])[1] = -1
	s.writes(t, "a row that may not be", l[:65536], api.ErrArg)
	s.writes(t, "a row too many, and one that may not be", l, api.ErrLimit)
	l = s.rows(65537)
	l[1] = l[0]
	s.writes(t, "two alike among too many", l, api.ErrLimit)
	s.writes(t, "two alike", l[:65536], api.ErrOrder)
}

// P13.2: what says more rows than there may be is none, though the sum be right.
func TestTooManyRowsRead(t *testing.T) {
	tooMany(t, indexes())
	tooMany(t, refs())
	tooMany(t, uses())
}

func tooMany[T comparable](t *testing.T, s sort[T]) {
	b := s.bytesOf(s.rows(65537))
	s.reads(t, "a row too many", b, api.ErrForm)
	s.reads(t, "a row too many, and no more", b[:12], api.ErrForm)
	s.reads(t, "a row too many, of which one is not there", b[:len(b)-8], api.ErrForm)
	s.reads(t, "bytes behind too many rows", append(b, 1), api.ErrForm)
	s.reads(t, "all rows", s.bytesOf(s.rows(65536)), api.OK)
	for _, count := range [][4]byte{{1, 0, 1, 0}, {0, 0, 2, 0}, {0, 0, 0, 1}, {1, 0, 0, 128}, {255, 255, 255, 255}} {
		b := s.bytesOf(s.rows(1))
		copy(b[8:], count[:])
		s.reads(t, "rows that there may not be", b, api.ErrForm)
		s.reads(t, "rows that there may not be, summed", resummed(b), api.ErrForm)
	}
	for _, count := range [][4]byte{{0, 0, 1, 0}, {255, 255, 0, 0}, {0, 1, 0, 0}, {2, 0, 0, 0}} {
		b := s.bytesOf(s.rows(1))
		copy(b[8:], count[:])
		s.reads(t, "rows that are not there", b, api.ErrShort)
		s.reads(t, "rows that are not there, summed", resummed(b), api.ErrShort)
	}
}

// P13.1: each number of a row, from 0 to 2^32 - 1.
func TestNumbers(t *testing.T) {
	numbers(t, indexes())
	numbers(t, refs())
	numbers(t, uses())
}

func numbers[T comparable](t *testing.T, s sort[T]) {
	var one T
	for i := range s.numbers(&one) {
		for _, n := range []int{0, 1, 255, 256, 65535, 65536, 1 << 24, math.MaxInt32, 1 << 31, math.MaxUint32 - 1, math.MaxUint32} {
			l := s.rows(1)
			*s.numbers(&l[0])[i] = n
			s.writes(t, "a number that may be", l, api.OK)
		}
		for _, n := range []int{-1, -2, math.MinInt32, -math.MaxUint32, -1 << 32, math.MinInt, 1 << 32, 1<<32 + 1, 1 << 40, math.MaxInt} {
			for at := range 3 {
				l := s.rows(3)
				*s.numbers(&l[at])[i] = n
				s.writes(t, "a number that may not be", l, api.ErrArg)
				l[1], l[2] = l[2], l[1]
				s.writes(t, "and rows that fall", l, api.ErrArg)
				l[1] = l[0]
				*s.numbers(&l[2])[i] = n
				s.writes(t, "and rows alike", l, api.ErrArg)
			}
		}
	}
}

// P13.1, P13.2: keys rise by their bytes, the first one first; what stands behind the key plays no part.
func TestOrderOfKeys(t *testing.T) {
	orderOfKeys(t, indexes())
	orderOfKeys(t, refs())
}

func orderOfKeys[T comparable](t *testing.T, s sort[T]) {
	for i := range 32 {
		for _, c := range [][2]byte{{0, 1}, {1, 2}, {127, 128}, {0, 128}, {128, 255}, {0, 255}, {254, 255}} {
			l := s.rows(2)
			*s.key(&l[0]), *s.key(&l[1]) = key2, key2
			s.key(&l[0])[i], s.key(&l[1])[i] = c[0], c[1]
			for j := i + 1; j < 32; j++ {
				s.key(&l[0])[j], s.key(&l[1])[j] = 255, 0
			}
			s.bothOrders(t, l)
		}
	}
	l := s.rows(2)
	*s.key(&l[1]) = *s.key(&l[0])
	s.writes(t, "one key twice", l, api.ErrOrder)
	s.reads(t, "one key twice", s.bytesOf(l), api.ErrOrder)
}

// bothOrders takes two rows that rise, and the same ones the other way round; so that just the lead tells, all numbers
// behind it are tried rising, falling and alike.
func (s sort[T]) bothOrders(t *testing.T, l []T) {
	t.Helper()
	for _, c := range [][2]int{{1, 2}, {2, 1}, {3, 3}} {
		for at := range l {
			for i, p := range s.numbers(&l[at]) {
				if s.key != nil || i > 0 {
					*p = c[at]
				}
			}
		}
		s.writes(t, "rows that rise", l, api.OK)
		back := []T{l[1], l[0]}
		s.writes(t, "rows that fall", back, api.ErrOrder)
		s.reads(t, "rows that fall", s.bytesOf(back), api.ErrOrder)
	}
}

// P13.1, P13.2: uses rise by their segments' numbers.
func TestOrderOfUses(t *testing.T) {
	s := uses()
	for _, c := range [][2]int{{0, 1}, {255, 256}, {256, 511}, {1, 256}, {65535, 65536}, {1 << 31, math.MaxUint32}, {math.MaxInt32, 1 << 31}, {0, math.MaxUint32}} {
		s.bothOrders(t, []api.Use{{Seg: c[0]}, {Seg: c[1]}})
	}
	for _, seg := range []int{0, 1, math.MaxUint32} {
		l := []api.Use{{Seg: seg, Size: 1, Live: 1}, {Seg: seg, Size: 2, Live: 2}}
		s.writes(t, "one segment twice", l, api.ErrOrder)
		s.reads(t, "one segment twice", s.bytesOf(l), api.ErrOrder)
	}
}

// P13.1, P13.2: any two rows in each other's place, or one twice, wherever they stand.
func TestOrderAnywhere(t *testing.T) {
	orderAnywhere(t, indexes())
	orderAnywhere(t, refs())
	orderAnywhere(t, uses())
}

func orderAnywhere[T comparable](t *testing.T, s sort[T]) {
	const n = 6
	for i := range n {
		for j := range i {
			l := s.rows(n)
			l[i], l[j] = l[j], l[i]
			s.writes(t, "two changed", l, api.ErrOrder)
			b := s.bytesOf(l)
			s.reads(t, "two changed", b, api.ErrOrder)
			b[len(b)-1] ^= 1
			s.reads(t, "two changed, and the sum", b, api.ErrSum)
			l = s.rows(n)
			l[i] = l[j]
			s.writes(t, "one twice", l, api.ErrOrder)
			s.reads(t, "one twice", s.bytesOf(l), api.ErrOrder)
		}
	}
}

// P13.2: of fewer bytes than twelve nothing is asked but how many they are; behind that, what they say comes first.
func TestFronts(t *testing.T) {
	fronts(t, indexes())
	fronts(t, refs())
	fronts(t, uses())
}

func fronts[T comparable](t *testing.T, s sort[T]) {
	for _, rows := range []int{0, 1, 2, 5} {
		b := s.bytesOf(s.rows(rows))
		for n := range b {
			s.reads(t, "a front", b[:n:n], api.ErrShort)
			if n >= 20 {
				s.reads(t, "a front with a sum", resummed(b[:n]), api.ErrShort)
			}
			other := slices.Clone(b[:n])
			if n > 0 {
				other[0] = 'h'
			}
			want := api.ErrForm
			if n < 12 {
				want = api.ErrShort
			}
			s.reads(t, "a front of another kind", other, want)
		}
		for n := range 70 {
			if n == 0 {
				continue
			}
			s.reads(t, "bytes behind", append(slices.Clone(b), make([]byte, n)...), api.ErrRest)
			s.reads(t, "bytes behind, summed", summed(append(slices.Clone(b[:len(b)-8]), make([]byte, n)...)), api.ErrRest)
		}
		s.reads(t, "twice", append(slices.Clone(b), b...), api.ErrRest)
		b[len(b)-1] ^= 1
		s.reads(t, "bytes behind a wrong sum", append(slices.Clone(b), 0), api.ErrRest)
	}
	for n := range 12 {
		s.reads(t, "few bytes", bytes.Repeat([]byte{255}, n), api.ErrShort)
	}
	for n := 12; n < 40; n++ {
		s.reads(t, "bytes", bytes.Repeat([]byte{255}, n), api.ErrForm)
		s.reads(t, "noughts", make([]byte, n), api.ErrForm)
	}
}

// P13.2, P13.3: a book of one kind is none of another one, whatever else is wrong with it.
func TestKinds(t *testing.T) {
	all := [][]byte{indexes().bytesOf(nil), refs().bytesOf(nil), uses().bytesOf(nil),
		indexes().bytesOf(indexes().rows(3)), refs().bytesOf(refs().rows(3)), uses().bytesOf(uses().rows(3))}
	for i, b := range all {
		for _, b := range [][]byte{b, b[:12], b[:len(b)-1], append(slices.Clone(b), 0), resummed(append(slices.Clone(b), 0))} {
			otherKind(t, indexes(), b, i%3 == 0)
			otherKind(t, refs(), b, i%3 == 1)
			otherKind(t, uses(), b, i%3 == 2)
		}
	}
}

func otherKind[T comparable](t *testing.T, s sort[T], b []byte, same bool) {
	t.Helper()
	if !same {
		s.reads(t, "of another kind", b, api.ErrForm)
	}
	own := slices.Clone(b)
	copy(own, s.name)
	for i := range s.name {
		b := slices.Clone(own)
		b[i] ^= 32
		s.reads(t, "of no kind", b, api.ErrForm)
	}
}

// P13.3: a byte that is spoilt anywhere is seen; but for the kind, and for how many rows there are, by the sum.
func TestSpoiltBytes(t *testing.T) {
	spoilt(t, indexes())
	spoilt(t, refs())
	spoilt(t, uses())
}

func spoilt[T comparable](t *testing.T, s sort[T]) {
	for _, rows := range []int{0, 1, 3} {
		whole := s.bytesOf(s.rows(rows))
		for i := range whole {
			for x := 1; x < 256; x++ {
				b := slices.Clone(whole)
				b[i] ^= byte(x)
				want := api.ErrSum
				if i < 12 {
					_, want = s.told(b)
				}
				if want == api.OK {
					t.Fatalf("%s: byte %d is not seen", s.name, i)
				}
				s.reads(t, "a spoilt byte", b, want)
			}
		}
	}
}

// P13.2: bytes that Index, Counts, Uses did not write, but that keep to the form, are read.
func TestRowsOfAnyBytes(t *testing.T) {
	anyBytes(t, indexes())
	anyBytes(t, refs())
	anyBytes(t, uses())
}

func anyBytes[T comparable](t *testing.T, s sort[T]) {
	r := rand.New(rand.NewPCG(1, 13))
	for range 2000 {
		b := s.bytesOf(make([]T, r.IntN(3)))
		for i := 12; i < len(b)-8; i++ {
			b[i] = byte(r.Uint32())
		}
		b = resummed(b)
		_, want := s.told(b)
		s.reads(t, "any bytes", b, want)
	}
}

// R3: what is answered is new memory, and what is handed in is not kept.
func TestNewMemory(t *testing.T) {
	newMemory(t, indexes())
	newMemory(t, refs())
	newMemory(t, uses())
}

func newMemory[T comparable](t *testing.T, s sort[T]) {
	l := s.rows(3)
	b, _ := s.write(l)
	c, _ := s.write(l)
	want := slices.Clone(b)
	for i := range l {
		l[i] = s.row(99)
	}
	clear(c)
	if !bytes.Equal(b, want) {
		t.Errorf("%s: bytes are shared", s.name)
	}
	one, _ := s.read(b)
	other, _ := s.read(b)
	clear(one)
	clear(b)
	if !slices.Equal(other, s.rows(3)) {
		t.Errorf("%s: rows are shared", s.name)
	}
}
