package sha

import (
	"hoard/api"
	"hoard/bits"
)

const (
	rounds = 64
	block  = 64 // bytes that are taken together
)

// state is handed on as a value: a state that comes of another one leaves it as it was.
type state [8]uint32

// roundWords are the first 32 bits of the fractions of the cube roots of the first 64 primes.
var roundWords = [rounds]uint32{
	0x428a2f98, 0x71374491, 0xb5c0fbcf, 0xe9b5dba5, 0x3956c25b, 0x59f111f1, 0x923f82a4, 0xab1c5ed5,
	0xd807aa98, 0x12835b01, 0x243185be, 0x550c7dc3, 0x72be5d74, 0x80deb1fe, 0x9bdc06a7, 0xc19bf174,
	0xe49b69c1, 0xefbe4786, 0x0fc19dc6, 0x240ca1cc, 0x2de92c6f, 0x4a7484aa, 0x5cb0a9dc, 0x76f988da,
	0x983e5152, 0xa831c66d, 0xb00327c8, 0xbf597fc7, 0xc6e00bf3, 0xd5a79147, 0x06ca6351, 0x14292967,
	0x27b70a85, 0x2e1b2138, 0x4d2c6dfc, 0x53380d13, 0x650a7354, 0x766a0abb, 0x81c2c92e, 0x92722c85,
	0xa2bfe8a1, 0xa81a664b, 0xc24b8b70, 0xc76c51a3, 0xd192e819, 0xd6990624, 0xf40e3585, 0x106aa070,
	0x19a4c116, 0x1e376c08, 0x2748774c, 0x34b0bcb5, 0x391c0cb3, 0x4ed8aa4a, 0x5b9cca4f, 0x682e6ff3,
	0x748f82ee, 0x78a5636f, 0x84c87814, 0x8cc70208, 0x90befffa, 0xa4506ceb, 0xbef9a3f7, 0xc67178f2,
}

// beginning answers the state of no text.
func beginning() state {
	return state{0x6a09e667, 0xbb67ae85, 0x3c6ef372, 0xa54ff53a, 0x510e527f, 0x9b05688c, 0x1f83d9ab, 0x5be0cd19}
}

// behind answers the state behind a block.
func (s state) behind(b [block]byte) state {
	mixed := s.mixed(spread(b))
	for i, x := range mixed {
		s[i] += x
	}
	return s
}

// mixed answers a state that went through all rounds.
func (s state) mixed(w [rounds]uint32) state {
	a, b, c, d, e, f, g, h := s[0], s[1], s[2], s[3], s[4], s[5], s[6], s[7]
	for i := range rounds {
		t := h + (right(e, 6) ^ right(e, 11) ^ right(e, 25)) + (e&f ^ ^e&g) + roundWords[i] + w[i]
		u := (right(a, 2) ^ right(a, 13) ^ right(a, 22)) + (a&b ^ a&c ^ b&c)
		a, b, c, d, e, f, g, h = t+u, a, b, c, d+t, e, f, g
	}
	return state{a, b, c, d, e, f, g, h}
}

// id answers a state as a sum.
func (s state) id() api.ID {
	var d api.ID
	for i, x := range s {
		copy(d[4*i:], bits.Big(uint64(x), 4))
	}
	return d
}

// spread answers a block's words, and those that are made of them, one for each round.
func spread(b [block]byte) [rounds]uint32 {
	var w [rounds]uint32
	for i := range block / 4 {
		x, _ := bits.GetBig(b[4*i : 4*i+4])
		w[i] = uint32(x)
	}
	for i := block / 4; i < rounds; i++ {
		x, y := w[i-15], w[i-2]
		w[i] = w[i-16] + (right(x, 7) ^ right(x, 18) ^ x>>3) + w[i-7] + (right(y, 17) ^ right(y, 19) ^ y>>10)
	}
	return w
}

// right turns a word to the right.
func right(x uint32, n int) uint32 { return bits.Turn32(x, -n) }
