package hints

import (
	"cmp"
	"slices"

	"hoard/api"
	"hoard/frame"
	"hoard/segs"
)

// used tells whether uses are those of just these segments, as they are.
func used(l *segs.Log, numbers []int, uses []api.Use) bool {
	if len(uses) != len(numbers) {
		return false
	}
	for i, u := range uses {
		if u.Seg != numbers[i] || u.Size != l.Size(u.Seg) || u.Live > u.Size {
			return false
		}
	}
	return true
}

// placed tells whether each object's place is in one of the segments.
func placed(index []api.Keyed, uses []api.Use) bool {
	for _, x := range index {
		if !within(x.Place, uses) {
			return false
		}
	}
	return true
}

// within tells whether an object can stand at a place, for all that its segment's size tells.
func within(p api.Place, uses []api.Use) bool {
	i, there := slices.BinarySearchFunc(uses, p.Seg, func(u api.Use, n int) int { return cmp.Compare(u.Seg, n) })
	if !there || p.At < len(frame.Magic) || p.Size < frame.Size(api.Entry{Tag: api.Put}) {
		return false
	}
	return p.At+p.Size <= uses[i].Size
}
