package pack

import "hoard/api"

// A tag is a value's first byte. These have nothing of the value in themselves, or are the first of some that have.
const (
	tagMap    = 0x80
	tagList   = 0x90
	tagText   = 0xa0
	tagNil    = 0xc0
	tagFalse  = 0xc2
	tagTrue   = 0xc3
	tagBytes1 = 0xc4
	tagBytes2 = 0xc5
	tagNum1   = 0xcc
	tagNum2   = 0xcd
	tagNum4   = 0xce
	tagNum8   = 0xcf
	tagBelow1 = 0xd0
	tagBelow2 = 0xd1
	tagBelow4 = 0xd2
	tagBelow8 = 0xd3
	tagText1  = 0xd9
	tagText2  = 0xda
	tagList2  = 0xdc
	tagMap2   = 0xde
	tagMinus  = 0xe0 // the lowest number below 0 that is its own tag
)

// most is the greatest size for which there is a tag.
const most = 1<<16 - 1

// noKind is of a tag that begins no value.
const noKind = -1

// sizes are the tags that tell a kind's size: by themselves, if it is below few; else with one byte behind them (for some
// kinds there is no such tag, and it is 0 here), or with two.
type sizes struct {
	none, few, one, two byte
}

// sizesOf has each kind that has a size.
var sizesOf = [...]sizes{
	api.VBytes: {one: tagBytes1, two: tagBytes2},
	api.VText:  {none: tagText, few: 32, one: tagText1, two: tagText2},
	api.VList:  {none: tagList, few: 16, two: tagList2},
	api.VMap:   {none: tagMap, few: 16, two: tagMap2},
}

// sizeTag answers the tag of so many of a kind.
func sizeTag(kind, n int) byte {
	t := sizesOf[kind]
	switch {
	case n < int(t.few):
		return t.none + byte(n)
	case n < 1<<8 && t.one != 0:
		return t.one
	}
	return t.two
}

// numTag answers a number's tag.
func numTag(x int64) byte {
	switch {
	case x >= -32 && x <= 127:
		return byte(x)
	case x >= 0:
		return pick(uint64(x), [4]byte{tagNum1, tagNum2, tagNum4, tagNum8})
	}
	// Below 0 a number has the bits of the one that it is turned into, and one for its sign.
	return pick(uint64(^x)<<1, [4]byte{tagBelow1, tagBelow2, tagBelow4, tagBelow8})
}

// pick answers the first of the tags for one, two, four and eight bytes into which x fits.
func pick(x uint64, tags [4]byte) byte {
	switch {
	case x < 1<<8:
		return tags[0]
	case x < 1<<16:
		return tags[1]
	case x < 1<<32:
		return tags[2]
	}
	return tags[3]
}

// behind answers how many bytes stand behind a tag, to tell a number or a size.
func behind(tag byte) int {
	switch tag {
	case tagBytes1, tagText1, tagNum1, tagBelow1:
		return 1
	case tagBytes2, tagText2, tagList2, tagMap2, tagNum2, tagBelow2:
		return 2
	case tagNum4, tagBelow4:
		return 4
	case tagNum8, tagBelow8:
		return 8
	}
	return 0
}

// kindOf answers the kind that a tag begins.
func kindOf(tag byte) int {
	switch {
	case tag < tagMap, tag >= tagMinus, tag >= tagNum1 && tag <= tagBelow8:
		return api.VInt
	case tag < tagList, tag == tagMap2:
		return api.VMap
	case tag < tagText, tag == tagList2:
		return api.VList
	case tag < tagNil, tag == tagText1, tag == tagText2:
		return api.VText
	case tag == tagBytes1, tag == tagBytes2:
		return api.VBytes
	case tag == tagNil:
		return api.VNil
	case tag == tagFalse:
		return api.VFalse
	case tag == tagTrue:
		return api.VTrue
	}
	return noKind
}
