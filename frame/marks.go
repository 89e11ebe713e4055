package frame

import "hoard/crc"

// step is how many bytes lie between two marks.
const step = 64

// marks are the sums of a text's fronts, one every few bytes, so that the sum of any piece is had without going through
// it: bytes may look like the beginnings of great entries at very many places.
type marks struct {
	text []byte
	sums []uint32 // of the first 0, step, 2 step .. bytes
}

// mark answers a text's marks.
func mark(b []byte) marks {
	m := marks{text: b, sums: []uint32{0}}
	for at := step; at <= len(b); at += step {
		m.sums = append(m.sums, crc.Add(m.sums[len(m.sums)-1], b[at-step:at]))
	}
	return m
}

// front answers the sum of the first n bytes.
func (m marks) front(n int) uint32 {
	k := n / step
	return crc.Add(m.sums[k], m.text[k*step:n])
}

// sum answers the sum of a piece. Join takes the front that is ahead of it away as it would put it there, for both are
// an exclusive or.
func (m marks) sum(from, to int) uint32 {
	return crc.Join(m.front(from), m.front(to), to-from)
}
