package media

import "hoard/api"

// naming is a change of names: what is under from is gone from there, and a file is under to. Of a file that is made
// there is no from, of one that is removed only that.
type naming struct {
	from, to string
	file     *file
}

// do changes names. That from goes first leaves a file that is renamed to its own name where it is.
func (c naming) do(names map[string]*file) {
	delete(names, c.from)
	if c.file != nil {
		names[c.to] = c.file
	}
}

// settle makes the first so many of the changes of names that wait fast, and lets go of all.
func (m *Medium) settle(n int) {
	for _, c := range m.wait[:n] {
		c.do(m.fast)
	}
	m.wait = nil
}

// isName tells whether a text is a file's name.
func isName(s string) bool {
	for i := range len(s) {
		if !inName(s[i]) {
			return false
		}
	}
	return len(s) >= 1 && len(s) <= api.MaxFileName
}

// inName tells whether a byte may stand in a file's name.
func inName(c byte) bool {
	return c >= 'a' && c <= 'z' || c >= '0' && c <= '9' || c == '.' || c == '-'
}
