package lz

import (
	"hoard/api"
	"hoard/bits"
)

// teller tells what a block says, sequence by sequence.
type teller struct {
	block *bits.Reader
	told  []byte
	most  int // bytes that may be told
}

// Loosen answers what a block tells.
func Loosen(b []byte, most int) ([]byte, api.Errno) {
	if most < 0 || most > api.MaxBlock {
		return nil, api.ErrArg
	}
	t := teller{block: bits.Open(b), most: most}
	for last := false; !last; {
		var e api.Errno
		if last, e = t.sequence(); e != api.OK {
			return nil, e
		}
	}
	return t.told, api.OK
}

// sequence tells the next sequence, and answers whether it was the last. A sequence that should be there and is not ends
// too early as any other does, since a reader at its end has no token.
func (t *teller) sequence() (bool, api.Errno) {
	token := int(t.block.Num(1))
	if e := t.literals(token >> half); e != api.OK {
		return false, e
	}
	if t.block.Left() == 0 {
		return true, api.OK
	}
	return false, t.back(token & full)
}

// literals tells bytes as they are.
func (t *teller) literals(a int) api.Errno {
	b := t.block.Bytes(t.number(a))
	if e := t.room(len(b)); e != api.OK {
		return e
	}
	t.told = append(t.told, b...)
	return api.OK
}

// back tells bytes that were told already.
func (t *teller) back(m int) api.Errno {
	d := int(t.block.Num(wide))
	if e := t.block.Err(); e != api.OK {
		return e
	}
	if d == 0 || d > len(t.told) {
		return api.ErrForm
	}
	k := t.number(m) + least
	if e := t.room(k); e != api.OK {
		return e
	}
	for range k { // one by one: they may reach into themselves
		t.told = append(t.told, t.told[len(t.told)-d])
	}
	return api.OK
}

// number answers a number that a token began, read to its end.
func (t *teller) number(n int) int {
	if n < full {
		return n
	}
	for {
		c := int(t.block.Num(1))
		n += c
		if c != fullByte {
			return n
		}
	}
}

// room answers the error that keeps n more bytes from being told: what ends too early is not held against the room.
func (t *teller) room(n int) api.Errno {
	if e := t.block.Err(); e != api.OK {
		return e
	}
	if n > t.most-len(t.told) {
		return api.ErrBig
	}
	return api.OK
}
