package replay

import (
	"slices"

	"hoard/api"
	"hoard/table"
)

// key is what was committed of one.
type key struct {
	tag   int       // of its last entry
	place api.Place // and where it stands
	put   bool      // whether it was ever put
	first int       // in which segment that was first
}

// counts tells whether something else would be said without a key's last entry.
func (k key) counts() bool {
	return k.tag == api.Put || k.put && k.first < k.place.Seg
}

// committed is what was committed of all keys, and the segments in which that was.
type committed struct {
	*table.Table[key]
	uses []api.Use
}

// begin answers it without a segment.
func begin() *committed {
	return &committed{Table: table.New[key]()}
}

// add goes on by the next segment.
func (c *committed) add(s segment) {
	c.uses = append(c.uses, api.Use{Seg: s.number, Size: s.size})
	for _, f := range s.found {
		if f.Entry.Tag != api.Commit {
			c.enter(f.Entry, api.Place{Seg: s.number, At: f.At, Size: f.Size})
		}
	}
}

// enter goes on by the next entry of a key.
func (c *committed) enter(x api.Entry, p api.Place) {
	k, _ := c.Get(x.Key)
	k.tag, k.place = x.Tag, p
	if x.Tag == api.Put && !k.put {
		k.put, k.first = true, p.Seg
	}
	c.Put(x.Key, k)
}

// state answers what the segments say: the number of the last commit and of the tail are told to it.
func (c *committed) state(last int, tail []int) *State {
	s := &State{Last: last, Index: table.New[api.Place](), Uses: c.uses, Tail: slices.Clone(tail)}
	live := map[int]int{}
	for id, k := range c.All() {
		if k.tag == api.Put {
			s.Index.Put(id, k.place)
		}
		if k.counts() {
			live[k.place.Seg] += k.place.Size
		}
	}
	for i := range s.Uses {
		s.Uses[i].Live = live[s.Uses[i].Seg]
	}
	return s
}
