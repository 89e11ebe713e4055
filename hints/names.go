package hints

import (
	"strconv"
	"strings"

	"hoard/api"
)

const (
	indexFront = "idx."
	usesFront  = "use."
	digits     = 8
	tmp        = "tmp" // what a book is written to, till it is whole
)

// none is the number of no commit.
const none = -1

// IndexName answers the file of a commit's index.
func IndexName(n int) string { return name(indexFront, n) }

// UsesName answers the file of a commit's uses.
func UsesName(n int) string { return name(usesFront, n) }

// name answers a front and a commit's number behind it.
func name(front string, n int) string {
	if n < 0 || n >= api.MaxSegments {
		return ""
	}
	s := strconv.Itoa(n)
	return front + strings.Repeat("0", digits-len(s)) + s
}

// commit answers the commit of which a file is hints.
func commit(file string) (int, bool) {
	_, s, _ := strings.Cut(file, ".")
	n, err := strconv.Atoi(s)
	if err != nil || file != IndexName(n) && file != UsesName(n) { // Atoi takes signs and fewer digits, too
		return 0, false
	}
	return n, true
}
