package repo_test

import (
	"strconv"
	"testing"

	"hoard/api"
	"hoard/hints"
	"hoard/media"
	"hoard/replay"
	"hoard/repo"
	"hoard/segs"
)

// tail appends an entry that is never committed, in a segment of its own.
func tail(t *testing.T, m *media.Medium) {
	t.Helper()
	l, e := segs.Open(m, 128)
	ok(t, e)
	_, e = l.Append(api.Entry{Tag: api.Put, Key: key("z")})
	ok(t, e)
}

// P17.1: hints of a commit above the last one are a fault ahead of what segments say, and the tail stays.
func TestOpenLost(t *testing.T) {
	for _, spoilt := range []bool{false, true} {
		for _, files := range [][]string{{"idx.00000002"}, {"use.00000002"}, {"idx.00000002", "use.00000002"}} {
			m, _ := two(t)
			tail(t, m)
			if spoilt {
				m.Rot(segs.Name(0), 3, 1)
			}
			for _, name := range files {
				file(t, m, name, nil)
			}
			was := look(m)
			refuses(t, was, m, 1000, api.Fault{What: api.NoCommit, Seg: 2}, api.ErrLost)
			if got := look(m); got != was {
				t.Errorf("%s, not %s", got, was)
			}
			ok(t, hints.Clean(m))
			if spoilt {
				refuses(t, "no hints", m, 1000, api.Fault{What: api.BadMagic, Seg: 0}, api.ErrSum)
				continue
			}
			is(t, "no hints", open(t, m, 1000), "a=1 b=22 c=333")
		}
	}
}

// P17.1: without a commit all hints are above the last one; files that are no hints are not.
func TestOpenLostEmpty(t *testing.T) {
	for _, c := range []struct {
		name string
		want int
	}{{"idx.00000000", 0}, {"use.00000000", 0}, {"use.00000003", 3}, {"idx.01048575", 1048575}} {
		m := medium(t, 1000)
		file(t, m, c.name, nil)
		refuses(t, c.name, m, 1000, api.Fault{What: api.NoCommit, Seg: c.want}, api.ErrLost)
		tail(t, m)
		was := look(m)
		refuses(t, c.name+" and a tail", m, 1000, api.Fault{What: api.NoCommit, Seg: c.want}, api.ErrLost)
		if got := look(m); got != was {
			t.Errorf("%s, not %s", got, was)
		}
	}
	for _, name := range []string{"idx.01048576", "use.1", "tmp", "idx", "seg.x"} {
		m := medium(t, 1000)
		file(t, m, name, nil)
		is(t, name, open(t, m, 1000), "")
	}
}

// P17.1: without hints that can be loaded the state is what the segments say; elder hints are no fault.
func TestOpenHints(t *testing.T) {
	for i, change := range []func(m *media.Medium){
		func(m *media.Medium) {},
		func(m *media.Medium) { ok(t, hints.Clean(m)) },
		func(m *media.Medium) { ok(t, m.Remove("idx.00000001")) },
		func(m *media.Medium) { ok(t, m.Remove("use.00000001")) },
		func(m *media.Medium) { m.Rot("idx.00000001", 20, 1) },
		func(m *media.Medium) { m.Rot("use.00000001", 20, 1) },
		func(m *media.Medium) { ok(t, m.Truncate("use.00000001", 30)) },
		func(m *media.Medium) {
			ok(t, hints.Save(m, &replay.State{Last: 0, Index: index(), Uses: []api.Use{{Seg: 0, Size: 102}}}))
		},
		func(m *media.Medium) {
			ok(t, hints.Save(m, &replay.State{Last: 1, Index: index(), Uses: []api.Use{{Seg: 1, Size: 61}}}))
		},
	} {
		m, _ := two(t)
		change(m)
		what := "change " + strconv.Itoa(i)
		was := look(m)
		r := open(t, m, 1000)
		is(t, what, r, "a=1 b=22 c=333")
		states(t, what, r, "last 1| a 0.8.42 b 0.50.43 c 1.8.44| 0=102/85 1=61/44|tail")
		if got := look(m); got != was {
			t.Errorf("%s: %s, not %s", what, got, was)
		}
	}
	m, _ := two(t)
	ok(t, hints.Save(m, &replay.State{Last: 1, Index: index(), Uses: []api.Use{{Seg: 0, Size: 102, Live: 5}, {Seg: 1, Size: 61}}}))
	r := open(t, m, 1000)
	is(t, "hints that fit", r, "")
	states(t, "hints that fit", r, "last 1|| 0=102/5 1=61/0|tail")
}

// P17.1: a spoilt segment below the last commit is told where no hints fit; by hints it is not read.
func TestOpenSpoilt(t *testing.T) {
	for _, c := range []struct {
		at    int
		fault api.Fault
	}{
		{3, api.Fault{What: api.BadMagic, Seg: 0}},
		{9, api.Fault{What: api.BadEntry, Seg: 0, At: 8}},
		{52, api.Fault{What: api.BadEntry, Seg: 0, At: 50}},
		{93, api.Fault{What: api.BadEntry, Seg: 0, At: 93}},
	} {
		m, _ := two(t)
		m.Rot(segs.Name(0), c.at, 128)
		r := open(t, m, 1000)
		if r.Len() != 3 {
			t.Errorf("%v: by hints it has %s", c.fault, show(r))
		}
		tail(t, m)
		m.Rot("idx.00000001", 3, 1)
		was := look(m)
		refuses(t, was, m, 1000, c.fault, api.ErrSum)
		if got := look(m); got != was {
			t.Errorf("%s, not %s", got, was)
		}
	}
}

// P17.1: where the last commit is spoilt its hints tell that it is gone; without any the elder one is the last, and the
// other is tail.
func TestOpenSpoiltCommit(t *testing.T) {
	for at := range 61 {
		m, _ := two(t)
		m.Rot(segs.Name(1), at, 1)
		refuses(t, "hints", m, 1000, api.Fault{What: api.NoCommit, Seg: 1}, api.ErrLost)
		ok(t, hints.Clean(m))
		is(t, "no hints", open(t, m, 1000), "a=1 b=22")
		if got := look(m); got != "seg.00000000=102" {
			t.Error(got)
		}
	}
}

// P17.1: the tail is dropped, by hints and without; the power may go off at each step of that.
func TestOpenTail(t *testing.T) {
	for _, clean := range []bool{false, true} {
		for n := range 4 {
			m, _ := two(t)
			tail(t, m)
			tail(t, m)
			if clean {
				ok(t, hints.Clean(m))
			}
			ok(t, m.SyncDir(), m.Arm(n))
			if n < 3 {
				refuses(t, "off", m, 1000, api.Fault{}, api.ErrDead)
				m.Crash([]int{9, 9, 9})
				if got := len(segments(t, m)); got != 4-n {
					t.Errorf("armed by %d: %d segments are left", n, got)
				}
			}
			r := open(t, m, 1000)
			is(t, "opened", r, "a=1 b=22 c=333")
			states(t, "opened", r, "last 1| a 0.8.42 b 0.50.43 c 1.8.44| 0=102/85 1=61/44|tail")
			if n < 3 {
				ok(t, m.Arm(0))
			}
			does(t, "the next step", m.SyncDir(), api.ErrDead)
			m.Crash(nil)
			if got := len(segments(t, m)); got != 2 {
				t.Errorf("armed by %d: %d segments last", n, got)
			}
		}
	}
}

// segments answers a medium's segments.
func segments(t *testing.T, m *media.Medium) []int {
	t.Helper()
	l, e := segs.Open(m, 1000)
	ok(t, e)
	return l.Segments()
}

// P17.1: without a tail it is no step.
func TestOpenSteps(t *testing.T) {
	m, _ := two(t)
	ok(t, m.Arm(0))
	is(t, "opened", open(t, m, 1000), "a=1 b=22 c=333")
	does(t, "the next step", m.SyncDir(), api.ErrDead)
}

// P17.1: a tail without any commit; it has no state of hints, even of ones below nought.
func TestOpenNoCommit(t *testing.T) {
	m := medium(t, 1000)
	tail(t, m)
	tail(t, m)
	r := open(t, m, 1000)
	is(t, "opened", r, "")
	states(t, "opened", r, "last -1|||tail")
	if got := look(m); got != "" {
		t.Error(got)
	}
	puts(t, r, "a=1")
	stands(t, "put", r, "a", api.Place{Seg: 0, At: 8, Size: 42})
	states(t, "put", r, "last -1|||tail")
	ok(t, r.Rollback())
	is(t, "rolled back", r, "")
}

// P17.5: Reload opens it anew: what was not committed is gone, also from the medium.
func TestReload(t *testing.T) {
	m, r := two(t)
	was := look(m)
	puts(t, r, "a=new", "d=4")
	ok(t, r.Delete(key("b")))
	elder := r.Log()
	ok(t, r.Reload())
	is(t, "reloaded", r, "a=1 b=22 c=333")
	if got := look(m); got != was {
		t.Errorf("%s, not %s", got, was)
	}
	if r.Medium() != m || r.Log() == nil || r.Log() == elder || r.Log().Fresh() != 0 {
		t.Error("it has an elder Log, or none")
	}
	puts(t, r, "d=4")
	stands(t, "put", r, "d", api.Place{Seg: 2, At: 8, Size: 42})
	ok(t, r.Commit(), r.Reload())
	is(t, "committed", r, "a=1 b=22 c=333 d=4")
}

// P17.5: it takes what is there by then, hints and segments, and fills segments as before.
func TestReloadAnew(t *testing.T) {
	m := medium(t, 1<<16)
	r := open(t, m, 128)
	puts(t, r, "a=1")
	ok(t, r.Commit())
	s := r.State()
	s.Index.Put(key("b"), api.Place{Seg: 0, At: 8, Size: 42})
	ok(t, hints.Save(m, s))
	is(t, "ahead", r, "a=1")
	ok(t, r.Reload())
	has(t, "behind", r, "a=1 b:4")
	ok(t, hints.Clean(m), r.Reload())
	is(t, "no hints", r, "a=1")
	other := open(t, m, 1000)
	puts(t, other, "c=3")
	ok(t, other.Commit(), r.Reload())
	is(t, "another one", r, "a=1 c=3")
	ok(t, r.Put(key("d"), make([]byte, 60)), r.Put(key("e"), make([]byte, 60)))
	stands(t, "put", r, "e", api.Place{Seg: 3, At: 8, Size: 101})
}

// P17.5: an error of Reload leaves the repository as it was.
func TestReloadErrors(t *testing.T) {
	m, r := two(t)
	puts(t, r, "d=4")
	file(t, m, "idx.00000002", nil)
	does(t, "lost", r.Reload(), api.ErrLost)
	isDirty(t, "lost", r, "a=1 b=22 c=333 d=4")
	states(t, "lost", r, "last 1| a 0.8.42 b 0.50.43 c 1.8.44| 0=102/85 1=61/44|tail")
	ok(t, m.Remove("idx.00000002"), m.Remove("idx.00000001"), m.SyncDir())
	m.Rot(segs.Name(0), 3, 1)
	does(t, "spoilt", r.Reload(), api.ErrSum)
	isDirty(t, "spoilt", r, "a=1 b=22 c=333 d=4")
	m.Rot(segs.Name(0), 3, 1)
	puts(t, r, "e=5")
	stands(t, "the segment is open as before", r, "e", api.Place{Seg: 2, At: 50, Size: 42})
	ok(t, m.Arm(0))
	does(t, "off at a step", r.Reload(), api.ErrDead)
	does(t, "off", r.Reload(), api.ErrDead)
	if !r.Dirty() || r.Len() != 5 || r.Log().Fresh() != 1 {
		t.Error("an error changed it")
	}
	m.Crash(nil)
	is(t, "opened", open(t, m, 1000), "a=1 b=22 c=333")
	var none *repo.Repo
	does(t, "nil", none.Reload(), api.ErrNil)
}
