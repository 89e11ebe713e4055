package media_test

import (
	"math"
	"strconv"
	"strings"
	"testing"

	"hoard/api"
	"hoard/media"
)

// steps are the seven kinds of them, each of which can be done, in this order.
var steps = []struct {
	name string
	do   func(m *media.Medium) api.Errno
}{
	{"Create", func(m *media.Medium) api.Errno { return m.Create("a") }},
	{"Append", func(m *media.Medium) api.Errno { return m.Append("a", []byte("xyz")) }},
	{"Sync", func(m *media.Medium) api.Errno { return m.Sync("a") }},
	{"Truncate", func(m *media.Medium) api.Errno { return m.Truncate("a", 2) }},
	{"Rename", func(m *media.Medium) api.Errno { return m.Rename("a", "b") }},
	{"SyncDir", func(m *media.Medium) api.Errno { return m.SyncDir() }},
	{"Remove", func(m *media.Medium) api.Errno { return m.Remove("b") }},
}

// behind is what there is behind so many of the steps, if all lasts, and if nothing lasts that may be lost.
var behind = []struct{ all, least string }{
	{"", ""}, {"a=", ""}, {"a=xyz", ""}, {"a=xyz", ""}, {"a=xy", ""}, {"b=xy", ""}, {"b=xy", "b=xyz"}, {"", "b=xyz"},
}

// many are greater numbers than anything waits.
var many = []int{99, 99, 99, 99, 99, 99, 99}

// errs makes calls that have errors, and such as are no steps.
func errs(t *testing.T, m *media.Medium) {
	t.Helper()
	does(t, "Create", m.Create("A"), api.ErrName)
	does(t, "Append", m.Append("no", nil), api.ErrNone)
	does(t, "Truncate", m.Truncate("no", 0), api.ErrNone)
	does(t, "Rename", m.Rename("no", "b"), api.ErrNone)
	does(t, "Remove", m.Remove("no"), api.ErrNone)
	does(t, "Sync", m.Sync("no"), api.ErrNone)
	does(t, "Arm", m.Arm(-1), api.ErrArg)
	ok(t, m.SetRoom(100))
	m.Rot("no", 0, 1)
	told(t, m)
	m.Read("a", 0, 1)
	m.Room()
	if !m.Power() {
		t.Error("the power is off")
	}
}

// P6.3: the power goes off at each step, whatever else is called in between; the step does nothing.
func TestArm(t *testing.T) {
	for n := range len(steps) {
		for i, l := range [][]int{many, nil} {
			m := fresh(t, 100)
			ok(t, m.Arm(n))
			for _, s := range steps[:n] {
				errs(t, m)
				does(t, s.name, s.do(m), api.OK)
			}
			errs(t, m)
			does(t, steps[n].name+", armed", steps[n].do(m), api.ErrDead)
			refuses(t, m, api.ErrDead, 100)
			want := []string{behind[n].all, behind[n].least}[i]
			if s := crashed(t, m, l...); s != want {
				t.Errorf("armed by %d, crash of %d: %q, not %q", n, l, s, want)
			}
		}
	}
}

// P6.3: a step that errs goes ahead of the power's going off, at which it is still on.
func TestArmedErrors(t *testing.T) {
	m := fresh(t, 3)
	ok(t, m.Create("a"), m.Arm(0))
	does(t, "Append of too much", m.Append("a", []byte("1234")), api.ErrFull)
	does(t, "Create of a", m.Create("a"), api.ErrThere)
	does(t, "Truncate", m.Truncate("a", 1), api.ErrArg)
	does(t, "Rename", m.Rename("a", ""), api.ErrName)
	has(t, m, "a=")
	does(t, "Append", m.Append("a", []byte("123")), api.ErrDead)
	does(t, "Append of too much", m.Append("a", []byte("1234")), api.ErrDead)
}

// P6.3: a new Arm takes the elder one's place; one that errs does not.
func TestArmAnew(t *testing.T) {
	m := fresh(t, 3)
	ok(t, m.Arm(0), m.Arm(2), m.Create("a"), m.Create("b"))
	does(t, "the third", m.Create("c"), api.ErrDead)
	m = fresh(t, 3)
	ok(t, m.Arm(5), m.Create("a"), m.Arm(0))
	does(t, "Arm below 0", m.Arm(-1), api.ErrArg)
	does(t, "Arm below 0", m.Arm(math.MinInt), api.ErrArg)
	does(t, "the first", m.Create("b"), api.ErrDead)
	m = fresh(t, 3)
	ok(t, m.Arm(math.MaxInt), m.Create("a"), m.Create("b"), m.SyncDir())
}

// P6.3, P6.4: behind a crash the power is on, whatever it was, and nothing is armed.
func TestCrashDisarms(t *testing.T) {
	m := fresh(t, 3)
	ok(t, m.Arm(1), m.Create("a"))
	m.Crash(nil)
	for range 5 {
		ok(t, m.Create("a"), m.Remove("a"))
	}
	ok(t, m.Arm(0))
	does(t, "Create", m.Create("a"), api.ErrDead)
	m.Crash(nil)
	if !m.Power() {
		t.Error("the power is off")
	}
	for range 5 {
		ok(t, m.Create("a"), m.Remove("a"))
	}
}

// P6.4: the chapter's examples.
func TestCrashExamples(t *testing.T) {
	for _, c := range []struct {
		l    []int
		want string
	}{{[]int{0, 1}, "a=xy"}, {[]int{0, 0, 1}, "a=x"}, {nil, "a="}} {
		m := fresh(t, 10)
		ok(t, m.Create("a"), m.Append("a", []byte("xy")), m.SyncDir())
		if s := crashed(t, m, c.l...); s != c.want {
			t.Errorf("crash of %d: %q, not %q", c.l, s, c.want)
		}
	}
	m := fresh(t, 10)
	ok(t, m.Create("a"), m.Append("a", []byte("xy")))
	if s := crashed(t, m); s != "" {
		t.Errorf("crash of none: %q", s)
	}
}

// P6.4: each count of changes of names that last.
func TestCrashNames(t *testing.T) {
	wants := []string{"a=1 b=2", "a=1 b=2 c=3", "b=1 c=3", "b=1", "b=1 c=", "b=1 c=", "b=1 c=", "a=1 c="}
	for n := -2; n < len(wants)+2; n++ {
		m := fresh(t, 100)
		ok(t, m.Create("a"), m.Append("a", []byte("1")), m.Sync("a"))
		ok(t, m.Create("b"), m.Append("b", []byte("2")), m.Sync("b"), m.SyncDir())
		ok(t, m.Create("c"), m.Append("c", []byte("3")), m.Sync("c"), m.Rename("a", "b"), m.Remove("c"), m.Create("c"),
			m.Rename("c", "c"), m.Rename("b", "b"), m.Rename("b", "a"))
		has(t, m, "a=1 c=")
		want := wants[min(max(n, 0), len(wants)-1)]
		if s := crashed(t, m, n); s != want {
			t.Errorf("crash of %d: %q, not %q", n, s, want)
		}
		if s := crashed(t, m, many...); s != want {
			t.Errorf("a second crash: %q, not %q", s, want)
		}
	}
}

// P6.4: each count of changes of bytes that last, and of the bytes of the next one.
func TestCrashBytes(t *testing.T) {
	wants := [][]string{
		{"abc", "abcd", "abcde"},   // of Append de
		{"abcde"},                  // of Truncate to 1
		{"a"},                      // of Append of nothing
		{"a", "ax", "axy", "axyz"}, // of Append xyz
		{"axyz"},                   // of Truncate to its size
		{"axyz", "axyz!"},          // of Append !
		{"axyz!"},                  // of nothing
	}
	for n := -2; n < len(wants)+2; n++ {
		for k := -2; k < 6; k++ {
			m := fresh(t, 100)
			ok(t, m.Create("f"), m.SyncDir(), m.Append("f", []byte("ab")), m.Append("f", []byte("c")), m.Sync("f"))
			ok(t, m.Append("f", []byte("de")), m.Truncate("f", 1), m.Append("f", nil), m.Append("f", []byte("xyz")),
				m.Truncate("f", 4), m.Append("f", []byte("!")))
			last := wants[min(max(n, 0), len(wants)-1)]
			want := "f=" + last[min(max(k, 0), len(last)-1)]
			if s := crashed(t, m, 0, n, k); s != want {
				t.Errorf("crash of %d, %d: %q, not %q", n, k, s, want)
			}
			if s := crashed(t, m, many...); s != want {
				t.Errorf("a second crash: %q, not %q", s, want)
			}
		}
	}
}

// P6.4: each file that has a name takes two numbers, by the names behind the crash, whether it needs them or not.
func TestCrashNumbers(t *testing.T) {
	for _, c := range []struct {
		l    []int
		want string
	}{
		{nil, "a= b= c= d="},
		{[]int{0}, "a= b= c= d="},
		{[]int{0, 1}, "a=1 b= c= d="},
		{[]int{0, 1, 9, 0, 0, 9, 9, 0, 1}, "a=1 b= c= d=3"}, // a takes 1, 9; b 0, 0; c 9, 9; d 0, 1
		{[]int{0, 0, 0, 1, 0, 0, 0, 0, 1}, "a= b=2 c= d=3"},
		{[]int{0, 0, 1, 0, 1, 0, 1, 0, 2}, "a=1 b=2 c= d=33"},
		{[]int{0, -5, math.MaxInt, math.MinInt, -1, 5, 5, math.MaxInt}, "a=1 b= c= d=333"},
	} {
		m := fresh(t, 100)
		for _, name := range strings.Split("a b c d", " ") {
			ok(t, m.Create(name))
		}
		ok(t, m.SyncDir(), m.Append("d", []byte("333")), m.Append("a", []byte("1")), m.Append("b", []byte("2")))
		if s := crashed(t, m, c.l...); s != c.want {
			t.Errorf("crash of %d: %q, not %q", c.l, s, c.want)
		}
	}
}

// P6.4: the numbers go by the names that lasted, not by those that were there ahead, or would have been.
func TestCrashNumbersByNames(t *testing.T) {
	for _, c := range []struct {
		l    []int
		want string
	}{
		{[]int{0, 1}, "a=1 b="},             // a is the first one
		{[]int{3, 1}, "b=2 c="},             // under its new name it is the second
		{[]int{3, 0, 0, 1}, "b= c=1"},       // so that the next two numbers are its own
		{[]int{2, 0, 0, 0, 1}, "b= c=1 d="}, // d was not removed yet
	} {
		m := fresh(t, 100)
		ok(t, m.Create("a"), m.Create("b"), m.SyncDir(), m.Append("a", []byte("1")), m.Append("b", []byte("2")))
		ok(t, m.Rename("a", "c"), m.Create("d"), m.Remove("d"))
		if s := crashed(t, m, c.l...); s != c.want {
			t.Errorf("crash of %d: %q, not %q", c.l, s, c.want)
		}
	}
}

// P6.4: a file that is renamed takes along what is fast of it, and what waits.
func TestCrashRenamed(t *testing.T) {
	for n, want := range []string{"a=12 b=9", "b=12"} {
		for k := range 3 {
			m := fresh(t, 100)
			ok(t, m.Create("a"), m.Append("a", []byte("12")), m.Sync("a"))
			ok(t, m.Create("b"), m.Append("b", []byte("9")), m.Sync("b"), m.SyncDir())
			ok(t, m.Append("a", []byte("3")), m.Rename("a", "b"), m.Append("b", []byte("4")))
			more := want
			if n == 0 {
				more = strings.Replace(want, "12", "12"+"34"[:k], 1)
			} else {
				more += "34"[:k]
			}
			if s := crashed(t, m, n, k); s != more {
				t.Errorf("crash of %d, %d: %q, not %q", n, k, s, more)
			}
		}
	}
}

// P6.4: what is synced under a new name is fast under the elder one.
func TestCrashSyncedElsewhere(t *testing.T) {
	m := fresh(t, 100)
	ok(t, m.Create("a"), m.SyncDir(), m.Append("a", []byte("12")), m.Rename("a", "b"), m.Sync("b"), m.Remove("b"))
	has(t, m, "")
	if s := crashed(t, m); s != "a=12" {
		t.Errorf("there is %q", s)
	}
}

// P6.4: files without a name are gone, and all that came back is there, whatever the room.
func TestCrashFilesGoAndCome(t *testing.T) {
	m := fresh(t, 6)
	ok(t, m.Create("a"), m.Append("a", []byte("12345")), m.Sync("a"), m.SyncDir(), m.Remove("a"))
	ok(t, m.Create("b"), m.Append("b", []byte("123456")), m.Sync("b"))
	if s := crashed(t, m, 0); s != "a=12345" {
		t.Errorf("there is %q", s)
	}
	ok(t, m.Append("a", []byte("6")), m.Create("b"))
	does(t, "one more", m.Append("b", []byte("1")), api.ErrFull)
	ok(t, m.Truncate("a", 0), m.Append("b", []byte("123456")), m.Sync("b"), m.SyncDir())
	if s := crashed(t, m); s != "a=12345 b=123456" {
		t.Errorf("there is %q", s)
	}
	does(t, "none more, though there are too many", m.Append("b", nil), api.ErrFull)
}

// P6.4: all that is left can be changed, and is lost or lasts, as ever.
func TestCrashGoesOn(t *testing.T) {
	m := fresh(t, 100)
	ok(t, m.Create("a"), m.Append("a", []byte("1234")))
	m.Crash([]int{1, 0, 2})
	has(t, m, "a=12")
	ok(t, m.Append("a", []byte("xy")), m.Rename("a", "b"))
	has(t, m, "b=12xy")
	m.Crash([]int{0, 0, 1})
	has(t, m, "a=12x")
	ok(t, m.Truncate("a", 1), m.Append("a", []byte("zz")))
	has(t, m, "a=1zz")
	m.Crash(nil)
	has(t, m, "a=12x")
	ok(t, m.Truncate("a", 1), m.Append("a", []byte("zz")), m.Sync("a"))
	m.Crash(nil)
	has(t, m, "a=1zz")
}

// P6.5: bytes that are there, and those that are not; power or not.
func TestRot(t *testing.T) {
	m := fresh(t, 100)
	ok(t, m.Create("a"), m.Append("a", []byte("abc")), m.Sync("a"), m.SyncDir(), m.Create("empty"), m.Arm(0))
	for _, at := range []int{-1, 3, math.MinInt, math.MaxInt} {
		if m.Rot("a", at, 1) {
			t.Errorf("Rot at %d", at)
		}
	}
	if m.Rot("b", 0, 1) || m.Rot("", 0, 1) || m.Rot("empty", 0, 1) {
		t.Error("Rot of no byte")
	}
	has(t, m, "a=abc empty=")
	if !m.Rot("a", 0, 'a'^'A') || !m.Rot("a", 2, 'c'^'!') || !m.Rot("a", 1, 0) {
		t.Error("no Rot")
	}
	has(t, m, "a=Ab! empty=")
	does(t, "Remove", m.Remove("a"), api.ErrDead)
	if !m.Rot("a", 1, 'b'^'B') || m.Rot("a", 3, 1) || m.Rot("b", 0, 1) {
		t.Error("without power")
	}
	if s := crashed(t, m); s != "a=AB!" {
		t.Errorf("there is %q", s)
	}
}

// P6.5: where a byte waits it is spoilt there, and not ahead of that; where it is fast it lasts.
func TestRotWaits(t *testing.T) {
	wants := []string{"ab", "abcD", "abcDEf", "abcDE", "abcDEgh"}
	for n, want := range wants {
		m := fresh(t, 100)
		ok(t, m.Create("a"), m.Append("a", []byte("ab")), m.Sync("a"), m.SyncDir())
		ok(t, m.Append("a", []byte("cd")), m.Append("a", []byte("ef")), m.Truncate("a", 5), m.Append("a", []byte("gh")))
		if !m.Rot("a", 3, ' ') || !m.Rot("a", 4, ' ') {
			t.Error("no Rot")
		}
		has(t, m, "a=abcDEgh")
		if s := crashed(t, m, 0, n); s != "a="+want {
			t.Errorf("crash of %d: %q, not %q", n, s, want)
		}
	}
}

// P6.5: a byte that was cut off is another one than that which came to its place; both do not spoil together.
func TestRotAnotherByte(t *testing.T) {
	for n, want := range []string{"abc", "a", "axyz", "a", "aPqr"} {
		m := fresh(t, 100)
		ok(t, m.Create("a"), m.Append("a", []byte("abc")), m.Sync("a"), m.SyncDir())
		ok(t, m.Truncate("a", 1), m.Append("a", []byte("xyz")), m.Truncate("a", 1), m.Append("a", []byte("pqr")))
		if !m.Rot("a", 1, ' ') {
			t.Error("no Rot")
		}
		has(t, m, "a=aPqr")
		if s := crashed(t, m, 0, n); s != "a="+want {
			t.Errorf("crash of %d: %q, not %q", n, s, want)
		}
	}
}

// P6.5: a file spoils under the name that it has now, whatever name it comes back with.
func TestRotRenamed(t *testing.T) {
	m := fresh(t, 100)
	ok(t, m.Create("a"), m.Append("a", []byte("ab")), m.Sync("a"), m.SyncDir(), m.Rename("a", "b"))
	if m.Rot("a", 0, ' ') || !m.Rot("b", 0, ' ') {
		t.Error("by the other name")
	}
	if s := crashed(t, m); s != "a=Ab" {
		t.Errorf("there is %q", s)
	}
	ok(t, m.Append("a", []byte("c")), m.Sync("a"))
	if !m.Rot("a", 2, ' ') {
		t.Error("no Rot")
	}
	if s := crashed(t, m); s != "a=AbC" {
		t.Errorf("there is %q", s)
	}
}

// P6.6: behind Sync of all files and SyncDir no crash changes anything.
func TestSyncedLasts(t *testing.T) {
	for i := range 200 {
		m := fresh(t, 1000)
		for k := range 1 + i%5 {
			name := "f" + strconv.Itoa(k)
			ok(t, m.Create(name), m.Append(name, make([]byte, i%7)), m.Truncate(name, i%7/2), m.Append(name, []byte(name)))
		}
		ok(t, m.Rename("f0", "g"))
		for _, name := range m.List() {
			ok(t, m.Sync(name))
		}
		ok(t, m.SyncDir())
		want := told(t, m)
		if s := crashed(t, m, i%4-1, i%3, i%5-1, i%2, i%9); s != want {
			t.Errorf("there is %q, not %q", s, want)
		}
	}
}
