package digest

import (
	"strings"

	"sutler/api"
)

// digits are the digits to the base 16, each at its own number.
const digits = "0123456789abcdef"

// Hex tells a digest's text.
func Hex(d [32]byte) string {
	var text []byte
	for _, x := range d {
		text = append(text, digits[x>>4], digits[x&15])
	}
	return string(text)
}

// Parse tells the digest whose text s is.
func Parse(s string) ([32]byte, api.Errno) {
	if len(s) != 2*size {
		return [32]byte{}, api.ErrHex
	}
	var d [size]byte
	for i := range d {
		high, low := strings.IndexByte(digits, s[2*i]), strings.IndexByte(digits, s[2*i+1])
		if high < 0 || low < 0 {
			return [32]byte{}, api.ErrHex
		}
		d[i] = byte(high<<4 | low)
	}
	return d, api.OK
}

// Of tells the text of the digest of a text's bytes.
func Of(s string) string { return Hex(Sum([]byte(s))) }

// Same tells whether s is the text of the digest of b.
func Same(s string, b []byte) bool { return s == Hex(Sum(b)) }
