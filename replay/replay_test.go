package replay_test

import (
	"strconv"
	"strings"
	"testing"

	"hoard/api"
	"hoard/frame"
	"hoard/media"
	"hoard/replay"
	"hoard/segs"
)

// medium answers a medium with room for all that is put here.
func medium(t *testing.T) *media.Medium {
	t.Helper()
	m, e := media.New(1 << 20)
	if e != api.OK {
		t.Fatalf("New: %d", e)
	}
	return m
}

// open answers a Log.
func open(t *testing.T, m *media.Medium, limit int) *segs.Log {
	t.Helper()
	l, e := segs.Open(m, limit)
	if l == nil || e != api.OK {
		t.Fatalf("Open: %v, %d", l, e)
	}
	return l
}

// file makes a file that lasts.
func file(t *testing.T, m *media.Medium, name string, b []byte) {
	t.Helper()
	ok(t, m.Create(name), m.Append(name, b), m.Sync(name), m.SyncDir())
}

// ok fails, unless nothing erred.
func ok(t *testing.T, l ...api.Errno) {
	t.Helper()
	for i, e := range l {
		if e != api.OK {
			t.Fatalf("call %d: %d", i, e)
		}
	}
}

// does fails, unless that is an error's number.
func does(t *testing.T, what string, got, want api.Errno) {
	t.Helper()
	if got != want {
		t.Errorf("%s: %d, not %d", what, got, want)
	}
}

// key answers a key.
func key(c byte) api.ID { return api.ID{5, c} }

// entry answers the entry that a word tells: a3 puts three bytes under a, -a deletes a, ! commits.
func entry(t *testing.T, word string) api.Entry {
	t.Helper()
	switch {
	case word == "!":
		return api.Entry{Tag: api.Commit}
	case word[0] == '-':
		return api.Entry{Tag: api.Delete, Key: key(word[1])}
	}
	n, err := strconv.Atoi(word[1:])
	if err != nil {
		t.Fatalf("%s is no entry", word)
	}
	return api.Entry{Tag: api.Put, Key: key(word[0]), Data: []byte(strings.Repeat(word[:1], n))}
}

// bytesOf answers a segment's bytes, of the entries that a text tells.
func bytesOf(t *testing.T, text string) []byte {
	t.Helper()
	b := []byte("HOARDSEG")
	for _, word := range strings.Fields(text) {
		part, e := frame.Encode(entry(t, word))
		if e != api.OK {
			t.Fatalf("%s: %d", word, e)
		}
		b = append(b, part...)
	}
	return b
}

// lay answers a medium with a segment of each text, from 0 on, and its Log. No segment is where a text is none.
func lay(t *testing.T, texts ...string) (*media.Medium, *segs.Log) {
	t.Helper()
	m := medium(t)
	for i, text := range texts {
		if text != "none" {
			file(t, m, segs.Name(i), bytesOf(t, text))
		}
	}
	return m, open(t, m, 1000)
}

// show answers a state in words: last 0 | a 0.8.42 | 0=50/42 | tail 1.
func show(s *replay.State) string {
	if s == nil {
		return "nil"
	}
	l := []string{"last " + strconv.Itoa(s.Last), ""}
	for _, k := range s.Index.Keys() {
		p, _ := s.Index.Get(k)
		l[1] += " " + string(k[1]) + " " + strconv.Itoa(p.Seg) + "." + strconv.Itoa(p.At) + "." + strconv.Itoa(p.Size)
	}
	uses, tail := "", "tail"
	for _, u := range s.Uses {
		uses += " " + strconv.Itoa(u.Seg) + "=" + strconv.Itoa(u.Size) + "/" + strconv.Itoa(u.Live)
	}
	for _, n := range s.Tail {
		tail += " " + strconv.Itoa(n)
	}
	return strings.Join(append(l, uses, tail), "|")
}

// says fails, unless Run of a Log answers that state.
func says(t *testing.T, what string, l *segs.Log, want string) {
	t.Helper()
	s, f, e := replay.Run(l)
	if got := show(s); got != want || f != (api.Fault{}) || e != api.OK {
		t.Errorf("%s: %s, %v, %d; not %s", what, got, f, e, want)
	}
	n, e := replay.Last(l)
	if word, _, _ := strings.Cut(want, "|"); word != "last "+strconv.Itoa(n) || e != api.OK {
		t.Errorf("%s: Last %d, %d; not %s", what, n, e, word)
	}
}

// errs fails, unless Run answers that error, and that Fault.
func errs(t *testing.T, what string, l *segs.Log, fault api.Fault, want api.Errno) {
	t.Helper()
	if s, f, e := replay.Run(l); s != nil || f != fault || e != want {
		t.Errorf("%s: %s, %v, %d; not %v, %d", what, show(s), f, e, fault, want)
	}
}

// lastIs fails, unless Last answers that.
func lastIs(t *testing.T, what string, l *segs.Log, n int, want api.Errno) {
	t.Helper()
	if got, e := replay.Last(l); got != n || e != want {
		t.Errorf("%s: Last %d, %d; not %d, %d", what, got, e, n, want)
	}
}

// P15.1, P15.2, P15.3: what there is of segments, worked out by hand. A Put of three bytes has 44, a Delete 41, a
// Commit 9.
func TestRun(t *testing.T) {
	for _, c := range []struct {
		want string
		segs []string
	}{
		// without a commit
		{"last -1|||tail", nil},
		{"last -1|||tail 0", []string{"a3"}},
		{"last -1|||tail 0 1", []string{"a3", ""}},
		{"last -1|||tail 1 2", []string{"none", "-a", "! a3"}},
		// the examples
		{"last 0| a 0.8.44| 0=61/44|tail 1", []string{"a3 !", "b3"}},
		{"last 1|| 0=61/0 1=58/41|tail", []string{"a3 !", "-a !"}},
		// the last entry of a key
		{"last 0|| 0=17/0|tail", []string{"!"}},
		{"last 0| a 0.52.42| 0=103/42|tail", []string{"a3 a1 !"}},
		{"last 1| a 1.8.42| 0=61/0 1=59/42|tail", []string{"a3 !", "a1 !"}},
		{"last 0| a 0.49.44 b 0.93.41| 0=143/85|tail", []string{"-a a3 b0 !"}},
		{"last 2| a 0.8.44 b 2.8.44| 0=96/44 1=17/0 2=61/44|tail", []string{"a3 b3", "!", "b3 !"}},
		{"last 1| a 0.8.44 b 0.93.44| 0=137/88 1=58/0|tail", []string{"a3 -c b3", "-c !"}},
		// a Delete counts by an elder Put that a segment below has, whatever else there is
		{"last 0|| 0=102/0|tail", []string{"a3 -a !"}},
		{"last 0|| 0=58/0|tail", []string{"-a !"}},
		{"last 1|| 0=52/0 1=58/41|tail", []string{"a3", "-a !"}},
		{"last 1|| 0=52/0 1=99/41|tail", []string{"a3", "-a -a !"}},
		{"last 1|| 0=52/0 1=102/41|tail", []string{"a3", "a3 -a !"}},
		{"last 1|| 0=49/0 1=102/0|tail", []string{"-a", "a3 -a !"}},
		{"last 2|| 0=61/0 1=49/0 2=58/41|tail", []string{"a3 !", "-a", "-a !"}},
		{"last 2|| 0=49/0 1=52/0 2=58/41|tail", []string{"-a", "a3", "-a !"}},
		{"last 3|| 0=52/0 1=49/0 2=52/0 3=58/41|tail", []string{"a3", "-a", "a3", "-a !"}},
		{"last 3| a 3.8.44| 0=52/0 1=49/0 2=49/0 3=61/44|tail", []string{"a3", "-a", "-a", "a3 !"}},
		{"last 3|| 1=49/0 3=58/0|tail", []string{"none", "-a", "none", "-a !"}},
		{"last 3|| 1=93/0 3=99/41|tail", []string{"none", "-a b3", "none", "-b -a !"}},
		// Commits elsewhere play no part, and what stands behind the last one was not committed
		{"last 0| a 0.17.44| 0=79/44|tail", []string{"! a3 ! !"}},
		{"last 1| a 0.17.44| 0=61/44 1=17/0|tail", []string{"! a3", "!"}},
		{"last 1| a 0.8.44 b 1.8.44| 0=61/44 1=61/44|tail 2 3", []string{"a3 !", "b3 !", "-a", "-b ! a3"}},
		{"last 0| a 0.8.44| 0=61/44|tail 2 3 5", []string{"a3 !", "none", "-a", "! a0", "none", ""}},
		{"last 4| a 1.8.44| 1=52/44 4=17/0|tail 6", []string{"none", "a3", "none", "none", "!", "none", "-a"}},
	} {
		_, l := lay(t, c.segs...)
		says(t, strings.Join(c.segs, " / "), l, c.want)
	}
}

// P15.1: keys that differ in any one byte are keys of their own.
func TestKeys(t *testing.T) {
	m := medium(t)
	l := open(t, m, 1<<20)
	var keys []api.ID
	for i := range 32 {
		k := api.ID{}
		k[i] = 1
		keys = append(keys, k)
	}
	keys = append(keys, api.ID{})
	places := map[api.ID]api.Place{}
	for _, k := range keys {
		p, e := l.Append(api.Entry{Tag: api.Put, Key: k, Data: k[:5]})
		ok(t, e)
		places[k] = p
	}
	_, e := l.Commit()
	ok(t, e)
	s, _, e := replay.Run(l)
	ok(t, e)
	if s.Index.Len() != len(keys) {
		t.Errorf("%d keys", s.Index.Len())
	}
	for k, p := range places {
		if got, there := s.Index.Get(k); got != p || !there {
			t.Errorf("%x: %v, %v, not %v", k, got, there, p)
		}
	}
}

// spoil changes a segment's byte, so that its Scan has an error.
func spoil(t *testing.T, m *media.Medium, n, at int) {
	t.Helper()
	if !m.Rot(segs.Name(n), at, 0x40) {
		t.Fatalf("segment %d has no byte %d", n, at)
	}
}

// P15.3: a segment below the last commit that is not whole, wherever it is spoilt.
func TestFaults(t *testing.T) {
	const text = "a3 -b c1" // entries at 8, 52, 93, to 135
	for at := range 135 {
		want := api.Fault{What: api.BadEntry, Seg: 1, At: 93}
		switch {
		case at < 8:
			want = api.Fault{What: api.BadMagic, Seg: 1}
		case at < 52:
			want.At = 8
		case at < 93:
			want.At = 52
		}
		m, l := lay(t, "a3 !", text, "-a !", "b3")
		spoil(t, m, 1, at)
		errs(t, "at "+strconv.Itoa(at), l, want, api.ErrSum)
		lastIs(t, "at "+strconv.Itoa(at), l, 2, api.OK)
	}
}

// P15.3: fronts of a segment below the last commit, and bytes behind one.
func TestFaultsOfFronts(t *testing.T) {
	whole := bytesOf(t, "a3 !")
	ends := map[int]bool{8: true, 52: true, 61: true}
	for n := range len(whole) + 1 {
		m := medium(t)
		file(t, m, segs.Name(4), whole[:n])
		file(t, m, segs.Name(7), bytesOf(t, "!"))
		l := open(t, m, 1000)
		want := api.Fault{What: api.BadMagic, Seg: 4}
		switch {
		case ends[n]:
			if s, f, e := replay.Run(l); s == nil || s.Last != 7 || s.Uses[0].Size != n || f != (api.Fault{}) || e != api.OK {
				t.Errorf("%d bytes: %s, %v, %d", n, show(s), f, e)
			}
			continue
		case n > 52:
			want = api.Fault{What: api.BadEntry, Seg: 4, At: 52}
		case n > 8:
			want = api.Fault{What: api.BadEntry, Seg: 4, At: 8}
		}
		errs(t, strconv.Itoa(n)+" bytes", l, want, api.ErrSum)
	}
	m := medium(t)
	file(t, m, segs.Name(4), append(whole, 0))
	file(t, m, segs.Name(7), bytesOf(t, "!"))
	errs(t, "a byte behind", open(t, m, 1000), api.Fault{What: api.BadEntry, Seg: 4, At: 61}, api.ErrSum)
}

// P15.3: the first one that is not whole is told; and what is not whole is no last commit: it, and all behind an elder
// one, are tail, whatever they are.
func TestWhatIsSpoilt(t *testing.T) {
	texts := []string{"a3 !", "b3", "-a !", "c3 !"}
	for _, c := range []struct {
		spoilt []int
		fault  api.Fault
		want   string
	}{
		{[]int{0}, api.Fault{What: api.BadEntry, Seg: 0, At: 8}, ""},
		{[]int{1}, api.Fault{What: api.BadEntry, Seg: 1, At: 8}, ""},
		{[]int{2, 1}, api.Fault{What: api.BadEntry, Seg: 1, At: 8}, ""},
		{[]int{2, 0}, api.Fault{What: api.BadEntry, Seg: 0, At: 8}, ""},
		{[]int{3, 1}, api.Fault{What: api.BadEntry, Seg: 1, At: 8}, ""},
		{[]int{3, 2, 1, 0}, api.Fault{}, "last -1|||tail 0 1 2 3"},
		{[]int{3, 2, 1}, api.Fault{}, "last 0| a 0.8.44| 0=61/44|tail 1 2 3"},
		{[]int{3, 2}, api.Fault{}, "last 0| a 0.8.44| 0=61/44|tail 1 2 3"},
		{[]int{3}, api.Fault{}, "last 2| b 1.8.44| 0=61/0 1=52/44 2=58/41|tail 3"},
		{nil, api.Fault{}, "last 3| b 1.8.44 c 3.8.44| 0=61/0 1=52/44 2=58/41 3=61/44|tail"},
	} {
		m, l := lay(t, texts...)
		for _, n := range c.spoilt {
			spoil(t, m, n, 8)
		}
		if c.want != "" {
			says(t, "spoilt", l, c.want)
		} else {
			errs(t, "spoilt", l, c.fault, api.ErrSum)
		}
	}
}

// P15.3: the Commit itself is spoilt, or its segment's Magic, or a byte stands behind it: it is none.
func TestNoCommit(t *testing.T) {
	for at := range 61 {
		m, l := lay(t, "a3 !", "b3 !", "")
		spoil(t, m, 1, at)
		says(t, "at "+strconv.Itoa(at), l, "last 0| a 0.8.44| 0=61/44|tail 1 2")
	}
	m, l := lay(t, "a3 !", "b3 !")
	ok(t, m.Append(segs.Name(1), []byte{0}))
	says(t, "a byte behind", l, "last 0| a 0.8.44| 0=61/44|tail 1")
	ok(t, m.Append(segs.Name(0), []byte{0}))
	says(t, "a byte behind both", l, "last -1|||tail 0 1")
}

// P15.3: the bytes are read, the last segment's first, as far as the last commit, then the first one's and so on: the
// first error is the answer. (Files that are gone behind the Log's back are ErrNone.)
func TestErrorsOfBytes(t *testing.T) {
	texts := []string{"a3 !", "b3", "-a !", "c3", "d3"}
	for gone, last := range []struct {
		n int
		e api.Errno
	}{{2, api.OK}, {2, api.OK}, {0, api.ErrNone}, {0, api.ErrNone}, {0, api.ErrNone}} {
		m, l := lay(t, texts...)
		ok(t, m.Remove(segs.Name(gone)))
		errs(t, strconv.Itoa(gone)+" is gone", l, api.Fault{}, api.ErrNone)
		lastIs(t, strconv.Itoa(gone)+" is gone", l, last.n, last.e)
	}
	m, l := lay(t, texts...)
	ok(t, m.Remove(segs.Name(4)))
	spoil(t, m, 0, 8)
	errs(t, "the tail is gone, and one is spoilt", l, api.Fault{}, api.ErrNone)
	m, l = lay(t, texts...)
	ok(t, m.Remove(segs.Name(0)))
	spoil(t, m, 1, 8)
	errs(t, "the first is gone, and one is spoilt", l, api.Fault{}, api.ErrNone)
}

// P15.3, R5: while the power is off.
func TestDead(t *testing.T) {
	m, l := lay(t, "a3 !", "b3")
	ok(t, m.Arm(0))
	says(t, "looking is no step", l, "last 0| a 0.8.44| 0=61/44|tail 1")
	if !m.Power() {
		t.Error("the power is off")
	}
	does(t, "SyncDir", m.SyncDir(), api.ErrDead)
	errs(t, "off", l, api.Fault{}, api.ErrDead)
	lastIs(t, "off", l, 0, api.ErrDead)
	does(t, "Drop", replay.Drop(l, []int{1}), api.ErrDead)
	does(t, "Drop of none there", replay.Drop(l, []int{2}), api.ErrNone)
	does(t, "Drop of nothing", replay.Drop(l, nil), api.OK)
	m, l = lay(t)
	ok(t, m.Arm(0))
	does(t, "SyncDir", m.SyncDir(), api.ErrDead)
	says(t, "nothing is read", l, "last -1|||tail")
}

// R1: of Logs that nobody opened.
func TestNobodysLog(t *testing.T) {
	for _, l := range []*segs.Log{nil, {}, new(segs.Log)} {
		errs(t, "nobody's", l, api.Fault{}, api.ErrNil)
		lastIs(t, "nobody's", l, 0, api.ErrNil)
		for _, tail := range [][]int{nil, {}, {0}, {-1, 4}} {
			does(t, "Drop", replay.Drop(l, tail), api.ErrNil)
		}
	}
}

// R3, R4: each answer is memory of its own, and hangs on the segments alone.
func TestNewMemory(t *testing.T) {
	_, l := lay(t, "a3 b3 !", "-a !", "c3", "d3")
	const want = "last 1| b 0.52.44| 0=105/44 1=58/41|tail 2 3"
	a, _, _ := replay.Run(l)
	b, _, _ := replay.Run(l)
	a.Index.Put(key('b'), api.Place{Seg: 9})
	a.Index.Put(key('z'), api.Place{Seg: 9})
	a.Uses[0], a.Tail[0], a.Last = api.Use{Seg: 9}, 9, 9
	_ = append(a.Tail[:1], 8)
	_ = append(a.Uses[:1], api.Use{Seg: 8})
	if got := show(b); got != want {
		t.Errorf("%s; not %s", got, want)
	}
	says(t, "again", l, want)
}
