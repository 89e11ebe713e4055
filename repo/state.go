package repo

import (
	"slices"

	"hoard/api"
	"hoard/hints"
	"hoard/media"
	"hoard/replay"
	"hoard/segs"
)

// works tells whether Open made a Repo.
func (r *Repo) works() bool { return r != nil && r.log != nil }

// load answers what the segments of a medium say, by their hints where these fit.
func load(l *segs.Log, m *media.Medium) (*replay.State, api.Fault, api.Errno) {
	last, e := replay.Last(l)
	if e != api.OK {
		return nil, api.Fault{}, e
	}
	if n := hints.Newest(m); n > last { // hints are of commits alone: one is gone
		return nil, api.Fault{What: api.NoCommit, Seg: n}, api.ErrLost
	}
	if last >= 0 {
		if state, e := hints.Load(l, m, last); e == api.OK {
			return state, api.Fault{}, api.OK
		}
	}
	return replay.Run(l)
}

// goBack makes the map what was committed.
func (r *Repo) goBack() {
	r.index = r.state.Index.Copy()
	r.dirty = false
}

// hint keeps hints of what was committed, where there is room for them: a repository does without.
func (r *Repo) hint() api.Errno {
	e := hints.Save(r.medium, r.state)
	if e == api.ErrFull || e == api.ErrLimit {
		return api.OK
	}
	return e
}

// copied answers a state of its own, without a tail.
func copied(s *replay.State) *replay.State {
	return &replay.State{Last: s.Last, Index: s.Index.Copy(), Uses: slices.Clone(s.Uses)}
}
