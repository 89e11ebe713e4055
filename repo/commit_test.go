package repo_test

import (
	"fmt"
	"strconv"
	"testing"

	"hoard/api"
	"hoard/hints"
	"hoard/segs"
)

// P17.3: what is committed lasts, and has hints; the elder hints are gone.
func TestCommit(t *testing.T) {
	m, r := begin(t)
	puts(t, r, "a=1")
	states(t, "ahead", r, "last -1|||tail")
	ok(t, r.Commit())
	states(t, "first", r, "last 0| a 0.8.42| 0=59/42|tail")
	puts(t, r, "a=22", "b=3")
	states(t, "put", r, "last 0| a 0.8.42| 0=59/42|tail")
	ok(t, r.Commit())
	want := "last 1| a 1.8.43 b 1.51.42| 0=59/0 1=102/85|tail"
	states(t, "second", r, want)
	if got := look(m); got != "idx.00000001=108 seg.00000000=59 seg.00000001=102 use.00000001=44" {
		t.Error(got)
	}
	s, e := hints.Load(r.Log(), m, 1)
	if got := said(s); got != want || e != api.OK {
		t.Errorf("hints: %s, %d", got, e)
	}
	m.Crash(nil)
	r = open(t, m, 1000)
	is(t, "opened", r, "a=22 b=3")
	states(t, "opened", r, want)
}

// P17.3: where nothing was changed, nothing happens, even while the power is off.
func TestCommitClean(t *testing.T) {
	m, r := two(t)
	ok(t, hints.Clean(m))
	was := look(m)
	ok(t, m.Arm(0), r.Commit(), open(t, m, 1000).Commit(), open(t, medium(t, 0), 128).Commit())
	if got := look(m); got != was {
		t.Errorf("%s, not %s", got, was)
	}
	does(t, "the next step", m.SyncDir(), api.ErrDead)
	ok(t, r.Commit())
	m, r = two(t)
	puts(t, r, "a=2")
	ok(t, r.Rollback(), m.Arm(0), r.Commit())
	does(t, "Put", r.Put(key("a"), nil), api.ErrDead)
	ok(t, r.Commit()) // a Put that errs is none
}

// P17.3: the power goes off at each step of it; the map is committed from the third on.
func TestCommitSteps(t *testing.T) {
	for _, l := range [][]int{nil, {9, 9, 9, 99, 99, 99}, {1, 1, 1, 1, 1, 1}, {0, 9, 9, 9}, {9, 0, 50, 1, 0, 0}} {
		for n := range 16 {
			m, r := two(t)
			puts(t, r, "d=4444")
			ok(t, r.Delete(key("a")), m.Arm(n))
			what := fmt.Sprint("armed by ", n, ", ", l)
			e := r.Commit()
			if want := n < 14; (e == api.ErrDead) != want || (e == api.OK) == want {
				t.Fatalf("%s: Commit: %d", what, e)
			}
			elder, newer := "last 1| a 0.8.42 b 0.50.43 c 1.8.44| 0=102/85 1=61/44|tail", "last 2| b 0.50.43 c 1.8.44 d 2.8.45| 0=102/43 1=61/44 2=103/86|tail"
			if r.Dirty() != (n < 3) || r.Len() != 3 || r.Has(key("a")) || !r.Has(key("d")) {
				t.Errorf("%s: dirty %v, %d objects", what, r.Dirty(), r.Len())
			}
			if n < 3 {
				states(t, what, r, elder)
			} else {
				states(t, what, r, newer)
			}
			m.Crash(l)
			r = open(t, m, 1000)
			got := show(r)
			if got != "b=22 c=333 d=4444" && (n >= 3 || got != "a=1 b=22 c=333") {
				t.Errorf("%s: %s", what, got)
			}
			is(t, what, r, got)
			ok(t, hints.Clean(m), r.Reload())
			is(t, what+", no hints", r, got)
		}
	}
}

// P17.3: errors of the log leave it as it was: not committed.
func TestCommitErrors(t *testing.T) {
	m, r := two(t)
	puts(t, r, "d=4")
	ok(t, m.SetRoom(m.Used()+8))
	does(t, "no room", r.Commit(), api.ErrFull)
	isDirty(t, "no room", r, "a=1 b=22 c=333 d=4")
	states(t, "no room", r, "last 1| a 0.8.42 b 0.50.43 c 1.8.44| 0=102/85 1=61/44|tail")
	does(t, "no room", r.Commit(), api.ErrFull)
	ok(t, r.Rollback())
	is(t, "rolled back", r, "a=1 b=22 c=333")
	ok(t, r.Commit(), m.SetRoom(1000), r.Put(key("d"), []byte("4")), m.SetRoom(m.Used()+9), r.Commit())
	is(t, "room", r, "a=1 b=22 c=333 d=4")
}

// P17.3: without room for hints there are none, and that is no error.
func TestCommitNoRoom(t *testing.T) {
	for more := range 270 { // an index of 4 objects has 196 bytes, uses of 3 segments have 56
		m, r := two(t)
		puts(t, r, "d=4")
		ok(t, m.SetRoom(m.Used()+9+more))
		does(t, "Commit", r.Commit(), api.OK)
		is(t, "committed", r, "a=1 b=22 c=333 d=4")
		states(t, "committed", r, "last 2| a 0.8.42 b 0.50.43 c 1.8.44 d 2.8.42| 0=102/85 1=61/44 2=59/42|tail")
		elder, segments := "idx.00000001=152 ", "seg.00000000=102 seg.00000001=61 seg.00000002=59 "
		want := elder + segments + "use.00000001=44"
		switch {
		case more >= 196+56:
			want = "idx.00000002=196 " + segments + "use.00000002=56"
		case more >= 196:
			want = elder + "idx.00000002=196 " + segments + "use.00000001=44"
		}
		if got := look(m); got != want {
			t.Errorf("%d bytes more: %s, not %s", more, got, want)
		}
		m.Crash(nil)
		is(t, "opened", open(t, m, 1000), "a=1 b=22 c=333 d=4")
	}
}

// P17.3: where there are as many files as may be there are no hints either; nor where books have no room for all objects.
func TestCommitLimit(t *testing.T) {
	m, r := begin(t)
	puts(t, r, "a=1")
	for i := range api.MaxFiles - 1 {
		ok(t, m.Create("f"+strconv.Itoa(i)))
	}
	ok(t, r.Commit())
	is(t, "committed", r, "a=1")
	if got := hints.Newest(m); got != -1 || len(m.List()) != api.MaxFiles {
		t.Errorf("Newest %d, %d files", got, len(m.List()))
	}
	is(t, "opened", open(t, m, 1000), "a=1")
	m = medium(t, api.MaxRoom)
	r = open(t, m, api.MaxSegment)
	for i := range 65537 {
		ok(t, r.Put(api.ID{byte(i >> 16), byte(i >> 8), byte(i)}, nil))
	}
	ok(t, r.Commit())
	if got := hints.Newest(m); got != -1 || r.Dirty() || open(t, m, 128).Len() != 65537 {
		t.Errorf("Newest %d, dirty %v", got, r.Dirty())
	}
}

// P17.3: where the segments cannot be replayed, what was committed is, and the state is the elder one, to which
// Rollback goes back (P17.4, P17.5).
func TestCommitSpoilt(t *testing.T) {
	elder := "last 1| a 0.8.42 b 0.50.43 c 1.8.44| 0=102/85 1=61/44|tail"
	for at := range 102 {
		m, r := two(t)
		puts(t, r, "c=4", "d=5")
		m.Rot(segs.Name(0), at, 4)
		ok(t, m.Arm(3)) // no hints are saved
		does(t, "Commit", r.Commit(), api.ErrSum)
		if r.Dirty() || r.Len() != 4 {
			t.Errorf("dirty %v, %d objects", r.Dirty(), r.Len())
		}
		gets(t, "committed", r, "c", "4", api.OK)
		gets(t, "committed", r, "d", "5", api.OK)
		states(t, "committed", r, elder)
		does(t, "clean", r.Commit(), api.OK)
		does(t, "the next step", m.SyncDir(), api.ErrDead)
		m.Crash(nil)
		m.Rot(segs.Name(0), at, 4)
		is(t, "opened", open(t, m, 1000), "a=1 b=22 c=4 d=5")
		ok(t, r.Rollback())
		is(t, "rolled back", r, "a=1 b=22 c=333")
		puts(t, r, "e=6")
		ok(t, r.Commit())
		states(t, "whole again", r, "last 3| a 0.8.42 b 0.50.43 c 2.8.42 d 2.50.42 e 3.8.42| 0=102/85 1=61/0 2=101/84 3=59/42|tail")
		is(t, "whole again", r, "a=1 b=22 c=333 e=6") // the map is that in which e was put
		ok(t, r.Rollback())
		is(t, "rolled back", r, "a=1 b=22 c=4 d=5 e=6")
	}
}

// P17.3: another error of replaying: a segment's file is gone.
func TestCommitGone(t *testing.T) {
	m, r := two(t)
	puts(t, r, "d=4")
	ok(t, m.Remove(segs.Name(0)))
	does(t, "Commit", r.Commit(), api.ErrNone)
	states(t, "committed", r, "last 1| a 0.8.42 b 0.50.43 c 1.8.44| 0=102/85 1=61/44|tail")
	is(t, "committed", r, "a:9 b:9 c=333 d=4")
	if got := hints.Newest(m); got != 1 {
		t.Errorf("Newest %d", got)
	}
}

// P17.5: where what is committed was spoilt meanwhile, the state is that of the elder commit, without a tail.
func TestCommitSpoiltAhead(t *testing.T) {
	m, r := two(t)
	puts(t, r, "d=4")
	m.Rot(segs.Name(2), 20, 1)
	ok(t, r.Commit())
	states(t, "committed", r, "last 1| a 0.8.42 b 0.50.43 c 1.8.44| 0=102/85 1=61/44|tail")
	is(t, "committed", r, "a=1 b=22 c=333 d:13")
	ok(t, r.Reload())
	is(t, "reloaded", r, "a=1 b=22 c=333")
}

// P17.4: what was not committed is gone, from the medium, too.
func TestRollback(t *testing.T) {
	m, r := two(t)
	was := look(m)
	puts(t, r, "a=new", "d=4")
	ok(t, r.Delete(key("b")), r.Rollback())
	is(t, "rolled back", r, "a=1 b=22 c=333")
	stands(t, "rolled back", r, "a", api.Place{Seg: 0, At: 8, Size: 42})
	if got := look(m); got != was {
		t.Errorf("%s, not %s", got, was)
	}
	ok(t, r.Rollback())
	is(t, "once more", r, "a=1 b=22 c=333")
	puts(t, r, "d=4")
	stands(t, "put", r, "d", api.Place{Seg: 2, At: 8, Size: 42})
	ok(t, r.Commit())
	is(t, "committed", r, "a=1 b=22 c=333 d=4")
	ok(t, r.Delete(key("d")), r.Rollback(), m.Arm(0), r.Rollback())
	is(t, "nothing to go back from is no step", r, "a=1 b=22 c=333 d=4")
}

// P17.4: an error leaves the map as it was; segments may be gone.
func TestRollbackErrors(t *testing.T) {
	for n := range 4 {
		m := medium(t, 1<<16)
		r := open(t, m, 128)
		puts(t, r, "a=1")
		ok(t, r.Commit())
		for _, name := range []string{"b", "c", "d"} {
			ok(t, r.Put(key(name), make([]byte, 60)))
		}
		ok(t, m.Arm(n))
		if n == 3 {
			ok(t, r.Rollback())
			is(t, "rolled back", r, "a=1")
			continue
		}
		does(t, "Rollback", r.Rollback(), api.ErrDead)
		if !r.Dirty() || r.Len() != 4 || r.Log().Fresh() != 3-n {
			t.Errorf("dirty %v, %d objects, %d fresh", r.Dirty(), r.Len(), r.Log().Fresh())
		}
		m.Crash([]int{9, 9, 9, 9})
		is(t, "opened", open(t, m, 128), "a=1")
	}
	m, r := two(t)
	puts(t, r, "d=4")
	ok(t, m.Remove(segs.Name(2)))
	does(t, "no file", r.Rollback(), api.ErrNone)
	isDirty(t, "no file", r, "a=1 b=22 c=333 d:9")
}
