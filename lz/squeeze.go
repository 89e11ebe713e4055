package lz

import (
	"bytes"

	"hoard/api"
	"hoard/bits"
)

// Towards its end a text is told as it is: nothing that is told from further back begins or ends nearer to it than so.
const (
	lastBegin = 12
	lastEnd   = 5
)

// Squeeze answers a text's block. It holds no distance against what its bytes can tell: in a text that is not too big no
// two places are further apart.
func Squeeze(b []byte) ([]byte, api.Errno) {
	if len(b) > api.MaxBlock {
		return nil, api.ErrBig
	}
	var block []byte
	var seen places
	told := 0
	for i := 0; i <= len(b)-lastBegin; {
		c, there := seen.put(b[i:i+least], i)
		if !there || !bytes.Equal(b[c:c+least], b[i:i+least]) {
			i++
			continue
		}
		k := alike(b[c:], b[i:len(b)-lastEnd])
		block = sequence(block, b[told:i], i-c, k)
		i += k
		told = i
	}
	return literals(block, b[told:], 0), api.OK
}

// alike answers how many bytes two texts have alike at their beginnings.
func alike(b, c []byte) int {
	n := 0
	for n < len(b) && n < len(c) && b[n] == c[n] {
		n++
	}
	return n
}

// sequence lays a sequence that is not the last: bytes as they are, and k bytes from a distance back.
func sequence(block, b []byte, distance, k int) []byte {
	m := k - least
	block = literals(block, b, m)
	block = append(block, bits.Put(uint64(distance), wide)...)
	return rest(block, m)
}

// literals lays a token with two numbers, and bytes as they are.
func literals(block, b []byte, m int) []byte {
	a := len(b)
	block = append(block, byte(min(a, full)<<half|min(m, full)))
	return append(rest(block, a), b...)
}

// rest lays what of a number goes on behind its token.
func rest(block []byte, n int) []byte {
	if n < full {
		return block
	}
	for n -= full; n >= fullByte; n -= fullByte {
		block = append(block, fullByte)
	}
	return append(block, byte(n))
}
