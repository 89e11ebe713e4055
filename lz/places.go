package lz

import "hoard/bits"

const (
	hashBits   = 12
	hashFactor = 2654435761
)

// places has by the hash of four bytes the place at which they stand, and one more: 0 is none.
type places [1 << hashBits]int

// put puts the place of four bytes, and answers the one that was there, if there was any.
func (p *places) put(four []byte, i int) (int, bool) {
	h := hash(four)
	c := p[h]
	p[h] = i + 1
	return c - 1, c > 0
}

// hash answers the hash of four bytes.
func hash(four []byte) uint32 {
	x, _ := bits.Get(four)
	return uint32(x) * hashFactor >> (32 - hashBits)
}
