package table

import (
	"slices"

	"hoard/api"
)

// The states of a slot.
const (
	empty = iota // a slot that nothing was put into: the zero value
	dead
	full
)

// slot is a place for a key. A dead one stays in the way of searches: what came behind it is found only if they go on.
type slot[V any] struct {
	state int
	key   api.ID
	value V
}

// ends tells whether a search for a key ends at a slot.
func (s *slot[V]) ends(k api.ID) bool {
	return s.state == empty || s.state == full && s.key == k
}

// home answers where a search for a key begins.
func (t *Table[V]) home(k api.ID) int {
	x := uint(k[0]) | uint(k[1])<<8 | uint(k[2])<<16 | uint(k[3])<<24
	return int(x % uint(len(t.slots)))
}

// search answers where a search for a key ends, and how many slots it looks at. It does end: an empty slot is always
// left.
func (t *Table[V]) search(k api.ID) (int, int) {
	at, steps := t.home(k), 1
	for !t.slots[at].ends(k) {
		at = (at + 1) % len(t.slots)
		steps++
	}
	return at, steps
}

// find answers the slot that a key has, nil if it has none.
func (t *Table[V]) find(k api.ID) *slot[V] {
	if !t.works() {
		return nil
	}
	at, _ := t.search(k)
	s := &t.slots[at]
	if s.state != full {
		return nil
	}
	return s
}

// lay puts a key that has no slot into the empty one at which the search for it ends.
func (t *Table[V]) lay(k api.ID, v V) {
	at, _ := t.search(k)
	t.slots[at] = slot[V]{state: full, key: k, value: v}
	t.keys++
}

// renew makes the table anew, with as many slots as its keys ask for. They are laid from the first slot on.
func (t *Table[V]) renew() {
	n := least
	for n < 2*t.keys+1 {
		n *= 2
	}
	elder := t.slots
	t.slots, t.keys, t.dead = make([]slot[V], n), 0, 0
	for _, s := range elder {
		if s.state == full {
			t.lay(s.key, s.value)
		}
	}
}

// rising answers the places of all slots that have a key, by rising keys.
func (t *Table[V]) rising() []int {
	if !t.works() {
		return nil
	}
	var l []int
	for i, s := range t.slots {
		if s.state == full {
			l = append(l, i)
		}
	}
	slices.SortFunc(l, func(i, j int) int { return compare(t.slots[i].key, t.slots[j].key) })
	return l
}

// taken answers all slots that have a key, by rising keys, in memory of their own: the table may change meanwhile.
func (t *Table[V]) taken() []slot[V] {
	var l []slot[V]
	for _, i := range t.rising() {
		l = append(l, t.slots[i])
	}
	return l
}

// works tells whether New made it.
func (t *Table[V]) works() bool { return t != nil && len(t.slots) > 0 }
