package media

import (
	"maps"
	"slices"

	"hoard/api"
)

// unarmed is how many steps are left where the power does not go off by itself.
const unarmed = -1

// Power tells whether the power is on.
func (m *Medium) Power() bool { return m.works() == api.OK }

// Arm lets the power go off.
func (m *Medium) Arm(n int) api.Errno {
	e := m.works()
	switch {
	case e != api.OK:
		return e
	case n < 0:
		return api.ErrArg
	}
	m.left = n
	return api.OK
}

// Crash lets the power go off and on.
func (m *Medium) Crash(l []int) {
	if m == nil || !m.made {
		return
	}
	next := taker(l)
	m.settle(next(len(m.wait)))
	for _, name := range slices.Sorted(maps.Keys(m.fast)) {
		m.fast[name].crash(next)
	}
	m.now = maps.Clone(m.fast)
	m.off, m.left = false, unarmed
}

// taker answers a function that takes a list's numbers, one a call, each for how many of so many there are.
func taker(l []int) func(most int) int {
	return func(most int) int {
		if len(l) == 0 {
			return 0
		}
		n := l[0]
		l = l[1:]
		return min(max(n, 0), most)
	}
}

// works answers the error of a medium that can do nothing.
func (m *Medium) works() api.Errno {
	switch {
	case m == nil || !m.made:
		return api.ErrNil
	case m.off:
		return api.ErrDead
	}
	return api.OK
}

// step is called ahead of each step that has no other error: it answers ErrDead at the one at which the power goes off.
func (m *Medium) step() api.Errno {
	switch {
	case m.left == 0:
		m.off = true
		return api.ErrDead
	case m.left > 0:
		m.left--
	}
	return api.OK
}
