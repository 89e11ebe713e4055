package pack

import (
	"bytes"

	"hoard/api"
	"hoard/bits"
)

// reader reads values as its bytes have them.
type reader struct {
	*bits.Reader
}

// value reads a value that lies so deep within others.
func (r *reader) value(deep int) (api.Value, api.Errno) {
	tag, e := r.tag()
	if e != api.OK {
		return api.Value{}, e
	}
	if deep > api.MaxDeep {
		return api.Value{}, api.ErrForm
	}
	v := api.Value{Kind: kindOf(tag)}
	switch v.Kind {
	case noKind:
		e = api.ErrForm
	case api.VInt:
		v.Int, e = r.num(tag)
	case api.VBytes:
		v.Bytes, e = r.bytes(tag)
	case api.VText:
		v.Text, e = r.text(tag)
	case api.VList:
		v.List, e = r.list(tag, deep)
	case api.VMap:
		v.Keys, v.List, e = r.rows(tag, deep)
	}
	return v, e
}

// tag reads a first byte.
func (r *reader) tag() (byte, api.Errno) {
	tag := byte(r.Num(1))
	return tag, r.Err()
}

// num reads a number behind its tag.
func (r *reader) num(tag byte) (int64, api.Errno) {
	n := behind(tag)
	if n == 0 {
		return int64(int8(tag)), api.OK
	}
	x := int64(r.big(n))
	if tag >= tagBelow1 {
		out := 64 - 8*n
		x = x << out >> out // its sign comes down from its own highest bit
	}
	return x, r.fits(numTag(x) == tag)
}

// size reads how many there are of a kind, behind its tag.
func (r *reader) size(kind int, tag byte) (int, api.Errno) {
	b := behind(tag)
	if b == 0 {
		return int(tag - sizesOf[kind].none), api.OK
	}
	n := int(r.big(b))
	return n, r.fits(sizeTag(kind, n) == tag)
}

// big reads a number of so many bytes, the highest first.
func (r *reader) big(n int) uint64 {
	x, _ := bits.GetBig(r.Bytes(n))
	return x
}

// fits answers the error of a number: what is not there whole has no form yet.
func (r *reader) fits(shortest bool) api.Errno {
	if e := r.Err(); e != api.OK {
		return e
	}
	if !shortest {
		return api.ErrForm
	}
	return api.OK
}

// bytes reads bytes behind their tag. The reader's own memory is not handed out, since it would be kept whole for a few.
func (r *reader) bytes(tag byte) ([]byte, api.Errno) {
	n, e := r.size(api.VBytes, tag)
	if e != api.OK {
		return nil, e
	}
	return bytes.Clone(r.Bytes(n)), r.Err()
}

// text reads a text behind its tag.
func (r *reader) text(tag byte) (string, api.Errno) {
	n, e := r.size(api.VText, tag)
	if e != api.OK {
		return "", e
	}
	return r.Text(n), r.Err()
}

// list reads the values of a list that lies so deep, behind its tag. How many they are is believed of none before it was
// read: a few bytes could ask for very much room.
func (r *reader) list(tag byte, deep int) ([]api.Value, api.Errno) {
	n, e := r.size(api.VList, tag)
	if e != api.OK {
		return nil, e
	}
	var l []api.Value
	for range n {
		v, e := r.value(deep + 1)
		if e != api.OK {
			return nil, e
		}
		l = append(l, v)
	}
	return l, api.OK
}

// rows reads the keys and values of a map that lies so deep, behind its tag.
func (r *reader) rows(tag byte, deep int) ([]string, []api.Value, api.Errno) {
	n, e := r.size(api.VMap, tag)
	if e != api.OK {
		return nil, nil, e
	}
	var keys []string
	var l []api.Value
	for range n {
		key, e := r.key()
		if e == api.OK && len(keys) > 0 && keys[len(keys)-1] >= key {
			e = api.ErrForm
		}
		if e != api.OK {
			return nil, nil, e
		}
		v, e := r.value(deep + 1)
		if e != api.OK {
			return nil, nil, e
		}
		keys, l = append(keys, key), append(l, v)
	}
	return keys, l, api.OK
}

// key reads a key.
func (r *reader) key() (string, api.Errno) {
	tag, e := r.tag()
	if e == api.OK && kindOf(tag) != api.VText {
		e = api.ErrForm
	}
	if e != api.OK {
		return "", e
	}
	return r.text(tag)
}
