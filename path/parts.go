package path

import (
	"iter"
	"strings"

	"sutler/api"
)

// The parts that are no names, but ways from one.
const (
	here  = "."
	above = ".."
)

// The bytes that a name may have lie from one of these to the other. A / is among them, but in no part.
const (
	firstByte = 33
	lastByte  = 126
)

// parts goes through what is between the / of a text, from the front.
func parts(s string) iter.Seq[string] {
	return func(yield func(string) bool) {
		left, more := s, true
		for more {
			var part string
			part, left, more = strings.Cut(left, "/")
			if !yield(part) {
				return
			}
		}
	}
}

// isName tells whether a part is a name.
func isName(part string) bool {
	if len(part) < 1 || len(part) > api.MaxName || part == here || part == above {
		return false
	}
	for i := range len(part) {
		if part[i] < firstByte || part[i] > lastByte {
			return false
		}
	}
	return true
}
