package pack

import (
	"hoard/api"
	"hoard/bits"
)

// writer lays bytes behind one another, till they are too many.
type writer struct {
	out []byte
	big bool // what was laid since then is not whole
}

// lay lays bytes.
func (w *writer) lay(b ...byte) {
	if len(b) > api.MaxPack-len(w.out) {
		w.big = true
		return
	}
	w.out = append(w.out, b...)
}

// value lays a value that can be.
func (w *writer) value(v api.Value) {
	switch v.Kind {
	case api.VNil:
		w.lay(tagNil)
	case api.VFalse:
		w.lay(tagFalse)
	case api.VTrue:
		w.lay(tagTrue)
	case api.VInt:
		w.number(numTag(v.Int), uint64(v.Int))
	case api.VBytes:
		w.size(api.VBytes, len(v.Bytes))
		w.lay(v.Bytes...)
	case api.VText:
		w.text(v.Text)
	default:
		w.list(v)
	}
}

// list lays a list, or a map.
func (w *writer) list(v api.Value) {
	w.size(v.Kind, len(v.List))
	for i, x := range v.List {
		if w.big {
			return
		}
		if v.Kind == api.VMap {
			w.text(v.Keys[i])
		}
		w.value(x)
	}
}

// text lays a text. One that is too big is not even copied.
func (w *writer) text(s string) {
	w.size(api.VText, len(s))
	if !w.big {
		w.lay([]byte(s)...)
	}
}

// size lays how many there are of a kind.
func (w *writer) size(kind, n int) {
	if n > most { // each of them has a byte at least
		w.big = true
		return
	}
	w.number(sizeTag(kind, n), uint64(n))
}

// number lays a tag, and as much of a number as stands behind it.
func (w *writer) number(tag byte, x uint64) {
	w.lay(tag)
	w.lay(bits.Big(x, behind(tag))...)
}
