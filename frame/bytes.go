package frame

import (
	"hoard/api"
	"hoard/bits"
)

// Where the parts of an entry's bytes end. A Commit ends with its tag, a Delete with its key.
const (
	endSum  = 4
	endSize = 8
	endTag  = 9
	endKey  = endTag + len(api.ID{})
)

// check answers the error of an entry that has no bytes.
func check(x api.Entry) api.Errno {
	switch x.Tag {
	case api.Put:
		if len(x.Data) > api.MaxObject {
			return api.ErrBig
		}
		return api.OK
	case api.Delete:
		if len(x.Data) == 0 {
			return api.OK
		}
	case api.Commit:
		if len(x.Data) == 0 && x.Key == (api.ID{}) {
			return api.OK
		}
	}
	return api.ErrForm
}

// fits tells whether an entry with that tag can have so many bytes.
func fits(tag byte, n int) bool {
	switch tag {
	case api.Put:
		return n >= endKey && n <= endKey+api.MaxObject
	case api.Delete:
		return n == endKey
	case api.Commit:
		return n == endTag
	}
	return false
}

// told answers the size of the entry with which bytes say that they begin, if they have so many; its sum is not asked.
func told(b []byte) (int, api.Errno) {
	if len(b) < endTag {
		return 0, api.ErrShort
	}
	x, _ := bits.Get(b[endSum:endSize])
	n := int(x)
	switch {
	case !fits(b[endSize], n):
		return 0, api.ErrForm
	case n > len(b):
		return 0, api.ErrShort
	}
	return n, api.OK
}

// sumIn answers the sum that stands in an entry's bytes.
func sumIn(b []byte) uint32 {
	s, _ := bits.Get(b[:endSum])
	return uint32(s)
}

// entry answers what an entry's bytes say, in memory of its own.
func entry(b []byte) api.Entry {
	x := api.Entry{Tag: int(b[endSize])}
	if x.Tag != api.Commit {
		x.Key = api.ID(b[endTag:endKey])
		x.Data = append(x.Data, b[endKey:]...)
	}
	return x
}
