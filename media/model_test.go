package media_test

import (
	"math/rand"
	"slices"
	"strconv"
	"strings"
	"testing"

	"hoard/api"
	"hoard/media"
)

// cell is a byte by itself: where it stands more than once it is the same, and spoils everywhere.
type cell = *byte

// moments is a file as a row of all that it was since it was fast, each with whether it came about by an Append.
type moments struct {
	cells    [][]cell
	appended []bool
}

// last answers what a file is now.
func (f *moments) last() []cell { return f.cells[len(f.cells)-1] }

// come adds a moment.
func (f *moments) come(c []cell, appended bool) {
	f.cells, f.appended = append(f.cells, c), append(f.appended, appended)
}

// since makes a moment the only one.
func (f *moments) since(c []cell) { f.cells, f.appended = [][]cell{c}, []bool{false} }

// model is the chapter's medium, as a row of all names that there were since they were fast.
type model struct {
	room  int
	names []map[string]*moments
	armed bool
	left  int
	off   bool
}

// newModel answers one without files.
func newModel(room int) *model { return &model{room: room, names: []map[string]*moments{{}}} }

// now answers the names now.
func (m *model) now() map[string]*moments { return m.names[len(m.names)-1] }

// list answers them, rising.
func (m *model) list() []string {
	var l []string
	for name := range m.now() {
		l = append(l, name)
	}
	slices.Sort(l)
	return l
}

// used answers how many bytes all files have.
func (m *model) used() int {
	n := 0
	for _, f := range m.now() {
		n += len(f.last())
	}
	return n
}

// step answers e, or whether the power goes off at a call that has no error.
func (m *model) step(e api.Errno) api.Errno {
	if e != api.OK || !m.armed {
		return e
	}
	if m.left == 0 {
		m.off = true
		return api.ErrDead
	}
	m.left--
	return api.OK
}

// rename adds a moment of names.
func (m *model) rename(change func(names map[string]*moments)) {
	next := map[string]*moments{}
	for name, f := range m.now() {
		next[name] = f
	}
	change(next)
	m.names = append(m.names, next)
}

// nameable tells whether a text is a name.
func nameable(s string) bool {
	none := func(c rune) bool { return !strings.ContainsRune(names, c) }
	return s != "" && len(s) <= 24 && !strings.ContainsFunc(s, none)
}

// call is one of a medium's, with all that it may be given.
type call struct {
	kind     int
	name, to string
	n        int
	b        []byte
	l        []int
}

// kinds of calls.
const (
	kCreate = iota
	kAppend
	kTruncate
	kRename
	kRemove
	kSync
	kSyncDir
	kSetRoom
	kArm
	kCrash
	kRot
)

// do does a call, and answers its error; of Rot ErrNone, if it was false.
func (m *model) do(c call) api.Errno {
	if c.kind == kCrash {
		m.crash(c.l)
		return api.OK
	}
	if c.kind == kRot {
		return m.rot(c)
	}
	if m.off {
		return api.ErrDead
	}
	f := m.now()[c.name]
	switch c.kind {
	case kCreate:
		e := api.OK
		if !nameable(c.name) {
			e = api.ErrName
		} else if f != nil {
			e = api.ErrThere
		}
		if e = m.step(e); e == api.OK {
			m.rename(func(l map[string]*moments) { l[c.name] = &moments{cells: [][]cell{nil}, appended: []bool{false}} })
		}
		return e
	case kSyncDir:
		e := m.step(api.OK)
		if e == api.OK {
			m.names = m.names[len(m.names)-1:]
		}
		return e
	case kSetRoom:
		if c.n < 0 || c.n > 1<<24 {
			return api.ErrArg
		}
		m.room = c.n
		return api.OK
	case kArm:
		if c.n < 0 {
			return api.ErrArg
		}
		m.armed, m.left = true, c.n
		return api.OK
	}
	if f == nil {
		return api.ErrNone
	}
	return m.doFile(c, f)
}

// doFile does a call of a file that is there.
func (m *model) doFile(c call, f *moments) api.Errno {
	e := api.OK
	switch {
	case c.kind == kAppend && m.used()+len(c.b) > m.room:
		e = api.ErrFull
	case c.kind == kTruncate && (c.n < 0 || c.n > len(f.last())):
		e = api.ErrArg
	case c.kind == kRename && !nameable(c.to):
		e = api.ErrName
	}
	if e = m.step(e); e != api.OK {
		return e
	}
	switch c.kind {
	case kAppend:
		next := slices.Clone(f.last())
		for _, x := range c.b {
			next = append(next, &x)
		}
		f.come(next, true)
	case kTruncate:
		f.come(slices.Clone(f.last()[:c.n]), false)
	case kRename:
		m.rename(func(l map[string]*moments) {
			if c.name != c.to {
				delete(l, c.name)
				l[c.to] = f
			}
		})
	case kRemove:
		m.rename(func(l map[string]*moments) { delete(l, c.name) })
	case kSync:
		f.since(f.last())
	}
	return api.OK
}

// rot spoils a byte.
func (m *model) rot(c call) api.Errno {
	f := m.now()[c.name]
	if f == nil || c.n < 0 || c.n >= len(f.last()) {
		return api.ErrNone
	}
	*f.last()[c.n] ^= c.b[0]
	return api.OK
}

// crash lets the power go off and on.
func (m *model) crash(l []int) {
	at := 0
	number := func(most int) int {
		at++
		if at > len(l) || l[at-1] < 0 {
			return 0
		}
		return min(l[at-1], most)
	}
	m.names = []map[string]*moments{m.names[number(len(m.names)-1)]}
	for _, name := range m.list() {
		f := m.now()[name]
		i := number(len(f.cells) - 1)
		left := f.cells[i]
		if i+1 < len(f.cells) && f.appended[i+1] {
			next := f.cells[i+1]
			left = next[:len(left)+number(len(next)-len(left))]
		} else {
			number(0)
		}
		f.since(left)
	}
	m.off, m.armed = false, false
}

// doMedium does a call of a medium.
func doMedium(m *media.Medium, c call) api.Errno {
	switch c.kind {
	case kCreate:
		return m.Create(c.name)
	case kAppend:
		return m.Append(c.name, c.b)
	case kTruncate:
		return m.Truncate(c.name, c.n)
	case kRename:
		return m.Rename(c.name, c.to)
	case kRemove:
		return m.Remove(c.name)
	case kSync:
		return m.Sync(c.name)
	case kSyncDir:
		return m.SyncDir()
	case kSetRoom:
		return m.SetRoom(c.n)
	case kArm:
		return m.Arm(c.n)
	case kCrash:
		m.Crash(c.l)
		return api.OK
	}
	if !m.Rot(c.name, c.n, c.b[0]) {
		return api.ErrNone
	}
	return api.OK
}

// someCall answers a call of any kind; those that end much come seldom.
func someCall(r *rand.Rand) call {
	some := []string{"a", "b", "b", "c.1", "d-", "e", "", "A", "this-name-is-as-long-as-be", "no"}
	c := call{name: some[r.Intn(len(some))], to: some[r.Intn(len(some))], n: r.Intn(9) - 1}
	for range 1 + r.Intn(5) {
		c.b = append(c.b, byte(r.Intn(256)))
	}
	for range r.Intn(12) {
		c.l = append(c.l, []int{-1, 0, 0, 1, 1, 2, 3, 99}[r.Intn(8)])
	}
	common := []int{kCreate, kAppend, kTruncate, kRename, kRot, kCreate, kAppend, kTruncate, kRename, kRot, kAppend, kRemove}
	c.kind = common[r.Intn(len(common))]
	switch r.Intn(40) {
	case 0, 1, 2:
		c.kind = kSync
	case 3:
		c.kind = kSyncDir
	case 4:
		c.kind, c.n = kSetRoom, c.n*10
	case 5:
		c.kind = kArm
	case 6, 7:
		c.kind = kCrash
	case 8:
		if c.kind == kAppend {
			c.b = nil
		}
	}
	return c
}

// tells answers all that a model is now.
func (m *model) tells() string {
	if m.off {
		return "off, room " + strconv.Itoa(m.room)
	}
	s := "on, room " + strconv.Itoa(m.room) + ", used " + strconv.Itoa(m.used())
	for _, name := range m.list() {
		s += " " + name + "="
		for _, c := range m.now()[name].last() {
			s += string([]byte{*c})
		}
	}
	return s
}

// tells answers all that a medium is now.
func tells(m *media.Medium) string {
	if !m.Power() {
		return "off, room " + strconv.Itoa(m.Room())
	}
	s := "on, room " + strconv.Itoa(m.Room()) + ", used " + strconv.Itoa(m.Used())
	for _, name := range m.List() {
		b, _ := m.All(name)
		s += " " + name + "=" + string(b)
	}
	return s
}

// P6.1 to P6.5: whatever is called, a medium answers what the chapter's does.
func TestModel(t *testing.T) {
	for seed := range 3000 {
		r := rand.New(rand.NewSource(int64(seed)))
		room := 5 + r.Intn(60)
		m, o := fresh(t, room), newModel(room)
		for i := range 120 {
			c := someCall(r)
			ahead := tells(m)
			e, want := doMedium(m, c), o.do(c)
			if e != want || tells(m) != o.tells() {
				t.Fatalf("seed %d, call %d, %+v: %d and %q, not %d and %q", seed, i, c, e, tells(m), want, o.tells())
			}
			if e != api.OK && e != api.ErrDead && tells(m) != ahead {
				t.Fatalf("seed %d, call %d, %+v: error %d changed %q to %q", seed, i, c, e, ahead, tells(m))
			}
		}
	}
}

// P6.6: behind any calls, a crash leaves the names of a moment since SyncDir, and of a file that was only appended to
// since its Sync a front of its bytes, with what was fast in it.
func TestCrashLeavesAMoment(t *testing.T) {
	for seed := range 2000 {
		r := rand.New(rand.NewSource(int64(seed)))
		m := fresh(t, 1000)
		ok(t, m.Create("f"), m.Append("f", []byte("start")), m.Sync("f"), m.SyncDir())
		whole, fast := "start", "start"
		seen := []string{"f"}
		for range r.Intn(12) {
			switch r.Intn(6) {
			case 0:
				m.Create([]string{"a", "g", "z"}[r.Intn(3)])
			case 1:
				m.Remove([]string{"a", "g", "z"}[r.Intn(3)])
			case 2:
				m.Rename("a", "g")
			case 3:
				ok(t, m.Sync("f"))
				fast = whole
			default:
				more := strconv.Itoa(r.Intn(1000))
				whole += more
				ok(t, m.Append("f", []byte(more)))
			}
			seen = append(seen, strings.Join(m.List(), " "))
			if r.Intn(8) == 0 {
				ok(t, m.SyncDir())
				seen = seen[len(seen)-1:]
			}
		}
		var l []int
		for range r.Intn(10) {
			l = append(l, r.Intn(6)-1)
		}
		m.Crash(l)
		if left := strings.Join(m.List(), " "); !slices.Contains(seen, left) {
			t.Fatalf("seed %d: names %q of no moment: %q", seed, left, seen)
		}
		if b, e := m.All("f"); e != api.OK || !strings.HasPrefix(whole, string(b)) || !strings.HasPrefix(string(b), fast) {
			t.Fatalf("seed %d: %q, %d; of %q, with %q fast", seed, b, e, whole, fast)
		}
	}
}
