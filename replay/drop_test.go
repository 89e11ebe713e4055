package replay_test

import (
	"slices"
	"testing"

	"hoard/api"
	"hoard/media"
	"hoard/replay"
	"hoard/segs"
)

// leaves fails, unless a Log has just these segments.
func leaves(t *testing.T, what string, l *segs.Log, want ...int) {
	t.Helper()
	if got := l.Segments(); !slices.Equal(got, want) {
		t.Errorf("%s: segments %d, not %d", what, got, want)
	}
}

// reopened answers a medium's Log behind a crash.
func reopened(t *testing.T, m *media.Medium, numbers ...int) *segs.Log {
	t.Helper()
	m.Crash(numbers)
	return open(t, m, 1000)
}

// five answers a Log of five segments, the last commit of which is 2.
func five(t *testing.T) (*media.Medium, *segs.Log) {
	t.Helper()
	return lay(t, "a3", "b3 !", "-a !", "c3", "-b")
}

// P15.4, P15.5: behind Drop of the tail there is none, all else is the same, behind a crash too.
func TestDropOfTheTail(t *testing.T) {
	const want = "last 2| b 1.8.44| 0=52/0 1=61/44 2=58/41|tail"
	m, l := five(t)
	says(t, "whole", l, want+" 3 4")
	s, _, _ := replay.Run(l)
	does(t, "Drop", replay.Drop(l, s.Tail), api.OK)
	says(t, "dropped", l, want)
	leaves(t, "dropped", l, 0, 1, 2)
	says(t, "behind a crash", reopened(t, m), want)
	if !slices.Equal(s.Tail, []int{3, 4}) {
		t.Errorf("the list is %d", s.Tail)
	}
}

// P15.4: the last of the list first, whatever it is, and a Sync; with the power off at each step, what was removed is
// gone as long as the power stays off, and back if nothing lasts.
func TestDropStepByStep(t *testing.T) {
	for steps, want := range [][]int{{0, 1, 2, 3, 4}, {0, 1, 3, 4}, {0, 1, 3}, {0, 3}, {0, 3}} {
		for lasts := range 5 {
			m, l := five(t)
			list := []int{1, 4, 2}
			ok(t, m.Arm(steps))
			e := api.ErrDead
			if steps == 4 {
				e = api.OK
			}
			does(t, "Drop", replay.Drop(l, list), e)
			leaves(t, "dropped", l, want...)
			if steps == 4 {
				does(t, "a fifth step", m.SyncDir(), api.ErrDead)
			}
			gone := min(lasts, steps, 3) // of those that were removed
			if steps == 4 {
				gone = 3
			}
			after := slices.DeleteFunc([]int{0, 1, 2, 3, 4}, func(n int) bool { return slices.Contains([]int{2, 4, 1}[:gone], n) })
			leaves(t, "behind a crash", reopened(t, m, lasts), after...)
			if !slices.Equal(list, []int{1, 4, 2}) {
				t.Errorf("the list is %d", list)
			}
		}
	}
}

// P15.4: the first error ends it, with no Sync.
func TestDropErrors(t *testing.T) {
	for _, c := range []struct {
		list []int
		left []int
	}{
		{[]int{5}, []int{0, 1, 2, 3, 4}},
		{[]int{-1}, []int{0, 1, 2, 3, 4}},
		{[]int{3, 4, 5}, []int{0, 1, 2, 3, 4}},
		{[]int{3, 1 << 20, 4, 2}, []int{0, 1, 3}},
		{[]int{5, 3, 4}, []int{0, 1, 2}},
		{[]int{3, 3}, []int{0, 1, 2, 4}},
		{[]int{0, 1, 0}, []int{2, 3, 4}},
	} {
		m, l := five(t)
		does(t, "Drop", replay.Drop(l, c.list), api.ErrNone)
		leaves(t, "dropped", l, c.left...)
		leaves(t, "behind a crash of which nothing lasts", reopened(t, m), 0, 1, 2, 3, 4)
	}
}

// P15.4: of nothing, no step is taken.
func TestDropOfNothing(t *testing.T) {
	m, l := five(t)
	ok(t, m.Arm(0))
	does(t, "Drop", replay.Drop(l, nil), api.OK)
	does(t, "Drop", replay.Drop(l, []int{}), api.OK)
	leaves(t, "dropped", l, 0, 1, 2, 3, 4)
	if !m.Power() {
		t.Error("the power is off")
	}
	ok(t, m.Arm(1000))
	ok(t, m.Remove(segs.Name(4)))
	ok(t, replay.Drop(l, nil))
	leaves(t, "behind a crash of which nothing lasts", reopened(t, m), 0, 1, 2, 3, 4)
}
