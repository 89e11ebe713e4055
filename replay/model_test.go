package replay_test

import (
	"bytes"
	"maps"
	"math/rand/v2"
	"slices"
	"strconv"
	"testing"

	"hoard/api"
	"hoard/frame"
	"hoard/media"
	"hoard/replay"
	"hoard/segs"
)

// piece is an entry, and where it stands.
type piece struct {
	x api.Entry
	p api.Place
}

// part is a segment as the model knows it.
type part struct {
	number int
	size   int
	pieces []piece
	broken int // where its Scan ends with an error; -1: nowhere
	gone   bool
}

// somePart lays a segment of some entries, now and then one that is spoilt, and answers what there is of it.
func somePart(t *testing.T, r *rand.Rand, m *media.Medium, number, spoilt int) part {
	t.Helper()
	o := part{number: number, broken: -1}
	b := []byte("HOARDSEG")
	for n := r.IntN(6); n >= 0; n-- {
		x := api.Entry{Tag: api.Put, Key: key(byte('a' + r.IntN(4)))}
		switch k := r.IntN(10); {
		case k < 3:
			x.Tag = api.Delete
		case k < 4 || n == 0 && k < 8:
			x = api.Entry{Tag: api.Commit}
		default:
			x.Data = make([]byte, r.IntN(5))
		}
		part, _ := frame.Encode(x)
		o.pieces = append(o.pieces, piece{x, api.Place{Seg: number, At: len(b), Size: len(part)}})
		b = append(b, part...)
	}
	if r.IntN(100) < spoilt {
		b = o.spoil(r, b)
	}
	o.size = len(b)
	file(t, m, segs.Name(number), b)
	return o
}

// spoil answers a segment's bytes with one spoilt, or fewer, or one more.
func (o *part) spoil(r *rand.Rand, b []byte) []byte {
	at := r.IntN(len(b))
	switch r.IntN(3) {
	case 0:
		b[at] ^= byte(1 + r.IntN(255))
	case 1:
		b = b[:at]
	default:
		at = len(b)
		b = append(b, byte(r.IntN(2)))
	}
	o.broken = at
	whole := func(x piece) bool { return x.p.At+x.p.Size <= at }
	for i, x := range o.pieces {
		switch {
		case whole(x):
			continue
		case x.p.At == at && len(b) == at: // it ends between two entries
			o.broken = -1
		case x.p.At <= at:
			o.broken = x.p.At
		}
		o.pieces = o.pieces[:i]
		break
	}
	if at < 8 {
		o.pieces, o.broken = nil, 0
	}
	return b
}

// commits tells whether it may be the last commit.
func (o part) commits() bool {
	return o.broken < 0 && len(o.pieces) > 0 && o.pieces[len(o.pieces)-1].x.Tag == api.Commit
}

// saying is what all segments say by the chapter's words.
type saying struct {
	last  int
	index map[api.ID]api.Place
	uses  []api.Use
	tail  []int
	fault api.Fault
	err   api.Errno // of Run
	lastE api.Errno // of Last
}

// say answers what segments say.
func say(l []part) saying {
	upTo := len(l)
	for upTo > 0 && !l[upTo-1].commits() {
		if l[upTo-1].gone {
			return saying{err: api.ErrNone, lastE: api.ErrNone}
		}
		upTo--
	}
	if upTo > 0 && l[upTo-1].gone {
		return saying{err: api.ErrNone, lastE: api.ErrNone}
	}
	s := saying{last: -1}
	if upTo > 0 {
		s.last = l[upTo-1].number
	}
	for _, o := range l[:upTo] {
		switch {
		case o.gone:
			return saying{last: s.last, err: api.ErrNone}
		case o.broken == 0:
			return saying{last: s.last, fault: api.Fault{What: 1, Seg: o.number}, err: api.ErrSum}
		case o.broken > 0:
			return saying{last: s.last, fault: api.Fault{What: 2, Seg: o.number, At: o.broken}, err: api.ErrSum}
		}
	}
	for _, o := range l[upTo:] {
		s.tail = append(s.tail, o.number)
	}
	s.count(l[:upTo])
	return s
}

// count tells the index and the uses of what was committed.
func (s *saying) count(l []part) {
	var all []piece
	for _, o := range l {
		all = append(all, o.pieces...)
	}
	s.index = map[api.ID]api.Place{}
	live := map[int]int{}
	for i, x := range all {
		again, elder := false, false
		for j, y := range all {
			if y.x.Tag != api.Commit && y.x.Key == x.x.Key {
				again = again || j > i
				elder = elder || y.x.Tag == api.Put && y.p.Seg < x.p.Seg
			}
		}
		if x.x.Tag == api.Commit || again {
			continue
		}
		if x.x.Tag == api.Put {
			s.index[x.x.Key] = x.p
		}
		if x.x.Tag == api.Put || elder {
			live[x.p.Seg] += x.p.Size
		}
	}
	for _, o := range l {
		s.uses = append(s.uses, api.Use{Seg: o.number, Size: o.size, Live: live[o.number]})
	}
}

// agrees fails, unless Run and Last of a Log answer that.
func (s saying) agrees(t *testing.T, what string, l *segs.Log) {
	t.Helper()
	n, e := replay.Last(l)
	if e != s.lastE || e == api.OK && n != s.last || e != api.OK && n != 0 {
		t.Fatalf("%s: Last %d, %d; not %d, %d", what, n, e, s.last, s.lastE)
	}
	got, f, e := replay.Run(l)
	if f != s.fault || e != s.err || (got != nil) != (e == api.OK) {
		t.Fatalf("%s: %s, %v, %d; not %v, %d", what, show(got), f, e, s.fault, s.err)
	}
	if got == nil {
		return
	}
	index := maps.Collect(got.Index.All())
	if got.Last != s.last || !maps.Equal(index, s.index) || !slices.Equal(got.Uses, s.uses) || !slices.Equal(got.Tail, s.tail) {
		t.Fatalf("%s: %s; not %v", what, show(got), s)
	}
	for _, u := range got.Uses { // P15.5
		if u.Live > u.Size-8 {
			t.Fatalf("%s: of segment %d %d of %d bytes count", what, u.Seg, u.Live, u.Size)
		}
	}
}

// P15.1 to P15.5: of whatever segments, Run and Last say what the chapter does; what was not committed changes nothing;
// Drop of the tail leaves all else as it was.
func TestModel(t *testing.T) {
	for seed := range uint64(6000) {
		r := rand.New(rand.NewPCG(seed, 15))
		what := "seed " + strconv.FormatUint(seed, 10)
		m := medium(t)
		var l []part
		spoilt := r.IntN(2) * r.IntN(30)
		for n := range r.IntN(9) {
			if r.IntN(5) > 0 {
				l = append(l, somePart(t, r, m, n, spoilt))
			}
		}
		log := open(t, m, 1000)
		if len(l) > 0 && r.IntN(15) == 0 {
			i := r.IntN(len(l))
			l[i].gone = true
			ok(t, m.Remove(segs.Name(l[i].number)))
		}
		s := say(l)
		s.agrees(t, what, log)
		if s.err != api.OK {
			continue
		}
		ok(t, replay.Drop(log, s.tail))
		s.tail = nil
		s.agrees(t, what+", dropped", log)
		m.Crash(nil)
		s.agrees(t, what+", crashed", open(t, m, 1000))
	}
}

// objects is what was put under keys.
type objects map[api.ID]string

// found fails, unless the index of a Log finds just these, where they were put.
func (o objects) found(t *testing.T, what string, l *segs.Log) {
	t.Helper()
	s, _, e := replay.Run(l)
	if e != api.OK || s.Index.Len() != len(o) {
		t.Fatalf("%s: %s, %d; not %d objects", what, show(s), e, len(o))
	}
	for k, data := range o {
		p, there := s.Index.Get(k)
		x, e := l.Read(p)
		if !there || e != api.OK || x.Tag != api.Put || x.Key != k || !bytes.Equal(x.Data, []byte(data)) {
			t.Fatalf("%s: %x is %v at %v, %d; not %s", what, k, x, p, e, data)
		}
	}
}

// P15.5: what was put last, and committed, is found by the index where it was put; what was deleted is not; what was
// not committed changes nothing, whatever of it is there behind a crash, and dropped it is gone.
func TestTransactions(t *testing.T) {
	for seed := range uint64(300) {
		r := rand.New(rand.NewPCG(seed, 155))
		m := medium(t)
		l := open(t, m, 128+r.IntN(300))
		was := objects{}
		for i := range 12 {
			what := "seed " + strconv.FormatUint(seed, 10) + ", transaction " + strconv.Itoa(i)
			now := maps.Clone(was)
			for range r.IntN(6) {
				x := api.Entry{Tag: r.IntN(2), Key: key(byte(r.IntN(5)))}
				delete(now, x.Key)
				if x.Tag == api.Put {
					x.Data = bytes.Repeat([]byte{byte(r.IntN(256))}, r.IntN(100))
					now[x.Key] = string(x.Data)
				}
				_, e := l.Append(x)
				ok(t, e)
			}
			if r.IntN(3) > 0 {
				n, e := l.Commit()
				ok(t, e)
				lastIs(t, what, l, n, api.OK)
				was = now
			}
			was.found(t, what, l)
			if r.IntN(2) == 0 || l.Fresh() > 0 {
				m.Crash([]int{r.IntN(9), r.IntN(5), r.IntN(50), r.IntN(5), r.IntN(50), r.IntN(5), r.IntN(50)})
				l = open(t, m, 128+r.IntN(300))
				was.found(t, what+", crashed", l)
				s, _, _ := replay.Run(l)
				ok(t, replay.Drop(l, s.Tail))
				was.found(t, what+", dropped", l)
				m.Crash(nil)
				l = open(t, m, 128+r.IntN(300))
				was.found(t, what+", crashed again", l)
			}
		}
	}
}
