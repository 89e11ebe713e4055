package roll

import (
	"hoard/api"
	"hoard/bits"
)

// Roller is a sum of the last bytes.
type Roller struct {
	words  [256]uint32         // of all bytes: a step must not make them anew
	last   [api.MaxWindow]byte // the last bytes given, round about in the first places of the window
	at     int                 // where the next one goes: where the eldest stands, if the window is full
	kept   int                 // how many there are
	window int                 // 0 of a roller that New did not make: it must not pass for one
	sum    uint32
}

// New answers a roller that was given nothing.
func New(seed uint32, window int) (*Roller, api.Errno) {
	if window < 1 || window > api.MaxWindow {
		return nil, api.ErrArg
	}
	r := &Roller{window: window}
	for i := range r.words {
		r.words[i] = Word(seed, byte(i))
	}
	return r, api.OK
}

// Put gives it a byte.
func (r *Roller) Put(c byte) uint32 {
	if !r.works() {
		return 0
	}
	r.sum = behind(r.sum, r.words[c])
	if r.Full() {
		r.sum ^= r.leaving()
	} else {
		r.kept++
	}
	r.last[r.at] = c
	r.at = (r.at + 1) % r.window
	return r.sum
}

// Value answers the sum of the last bytes.
func (r *Roller) Value() uint32 {
	if !r.works() {
		return 0
	}
	return r.sum
}

// Full tells whether the window is full.
func (r *Roller) Full() bool { return r.works() && r.kept == r.window }

// Clear begins anew.
func (r *Roller) Clear() {
	if r.works() {
		r.at, r.kept, r.sum = 0, 0, 0
	}
}

// leaving answers what the eldest byte has in the sum of the whole window and one byte more.
func (r *Roller) leaving() uint32 { return bits.Turn32(r.words[r.last[r.at]], r.window) }

// works tells whether New made it.
func (r *Roller) works() bool { return r != nil && r.window > 0 }
