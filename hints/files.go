package hints

import (
	"hoard/api"
	"hoard/book"
	"hoard/media"
	"hoard/table"
)

// check answers the error of a medium that can do nothing.
func check(m *media.Medium) api.Errno {
	if _, e := m.Size(""); e != api.ErrNone { // no file has that name: whatever else is answered is the medium's state
		return e
	}
	return api.OK
}

// rows answers an index as a list.
func rows(t *table.Table[api.Place]) []api.Keyed {
	var l []api.Keyed
	for k, p := range t.All() {
		l = append(l, api.Keyed{Key: k, Place: p})
	}
	return l
}

// write makes a file of a book, or leaves what lies under its name as it was: the file has it once it is whole.
func write(m *media.Medium, file string, b []byte) api.Errno {
	e := m.Remove(tmp)
	if e == api.OK || e == api.ErrNone {
		e = m.Create(tmp)
	}
	if e == api.OK {
		e = lay(m, b)
	}
	if e == api.OK {
		e = m.Sync(tmp)
	}
	if e == api.OK {
		e = m.Rename(tmp, file)
	}
	return e
}

// lay puts a book into the file that was made for it: without room for it that file goes again.
func lay(m *media.Medium, b []byte) api.Errno {
	e := m.Append(tmp, b)
	if e == api.ErrFull {
		if gone := m.Remove(tmp); gone != api.OK {
			return gone
		}
	}
	return e
}

// remove takes the files away that are meant, by their names, rising.
func remove(m *media.Medium, meant func(file string) bool) api.Errno {
	for _, file := range m.List() {
		if !meant(file) {
			continue
		}
		if e := m.Remove(file); e != api.OK {
			return e
		}
	}
	return api.OK
}

// read answers what the files of a commit have: ahead of that, All errs where the medium can do nothing.
func read(m *media.Medium, n int) ([]api.Keyed, []api.Use, api.Errno) {
	indexBytes, e := m.All(IndexName(n))
	if e != api.OK {
		return nil, nil, e
	}
	usesBytes, e := m.All(UsesName(n))
	if e != api.OK {
		return nil, nil, e
	}
	index, e := book.ReadIndex(indexBytes)
	if e != api.OK {
		return nil, nil, e
	}
	uses, e := book.ReadUses(usesBytes)
	return index, uses, e
}
