package sha

import (
	"strings"

	"hoard/api"
)

const digits = "0123456789abcdef"

// Hex answers a sum in digits.
func Hex(d api.ID) string {
	b := make([]byte, 0, 2*len(d))
	for _, c := range d {
		b = append(b, digits[c>>4], digits[c&15])
	}
	return string(b)
}

// FromHex reads a sum.
func FromHex(s string) (api.ID, bool) {
	var d api.ID
	if len(s) != 2*len(d) {
		return api.ID{}, false
	}
	for i := range d {
		high, low := strings.IndexByte(digits, s[2*i]), strings.IndexByte(digits, s[2*i+1])
		if high < 0 || low < 0 {
			return api.ID{}, false
		}
		d[i] = byte(high<<4 | low)
	}
	return d, true
}
