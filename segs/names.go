package segs

import (
	"strconv"
	"strings"

	"hoard/api"
)

const (
	front  = "seg."
	digits = 8 // so many that names rise as their numbers do
)

// Name answers a segment's file.
func Name(n int) string {
	if n < 0 || n >= api.MaxSegments {
		return ""
	}
	s := strconv.Itoa(n)
	return front + strings.Repeat("0", digits-len(s)) + s
}

// Number answers the segment of a file.
func Number(s string) (int, bool) {
	n, err := strconv.Atoi(strings.TrimPrefix(s, front))
	if err != nil || Name(n) != s { // Atoi takes texts that are no segment's, with signs or fewer digits
		return 0, false
	}
	return n, true
}
