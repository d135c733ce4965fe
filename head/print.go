package head

import (
	"strconv"
	"strings"

	"sutler/api"
)

// sumDigits is how many digits a sum has, and behindSum what stands behind them.
const (
	sumDigits = 6
	behindSum = "\x00 "
)

// Print makes a header.
func Print(h api.Head) ([]byte, api.Errno) {
	prefix, name, ok := part(h.Name)
	if !ok || !mayBe(h) {
		return nil, api.ErrArg
	}
	b := make([]byte, headBytes)
	nameField.put(b, name)
	modeField.number(b, h.Mode)
	userField.number(b, 0)
	groupField.number(b, 0)
	sizeField.number(b, h.Size)
	timeField.number(b, 0)
	kindField.of(b)[0] = h.Kind
	linkField.put(b, h.Link)
	markField.put(b, mark)
	prefixField.put(b, prefix)
	sumField.put(b, numeral(Sum(b), sumDigits)+behindSum)
	return b, api.OK
}

// part parts a name that is too long for its field into a prefix and a name, if it can be.
func part(s string) (prefix, name string, ok bool) {
	if len(s) <= nameField.size() {
		return "", s, s != ""
	}
	// One byte at least must be left behind the /. The last / leaves the fewest of them.
	at := strings.LastIndexByte(s[:min(len(s)-1, prefixField.size()+1)], '/')
	if at < 1 || len(s)-at-1 > nameField.size() {
		return "", "", false
	}
	return s[:at], s[at+1:], true
}

// mayBe tells whether all that is no name may be in a header, and whether the texts would be read
// whole, as a 0 ends them.
func mayBe(h api.Head) bool {
	return !hasNought(h.Name) && !hasNought(h.Link) && len(h.Link) <= linkField.size() &&
		h.Mode >= 0 && h.Mode <= mostMode && h.Size >= 0 && h.Size <= api.MaxBytes && h.Kind != 0
}

func hasNought(s string) bool { return strings.IndexByte(s, 0) >= 0 }

// put writes a text into a field, which it goes into.
func (f field) put(b []byte, s string) { copy(f.of(b), s) }

// number writes a number into a field, up to its last byte.
func (f field) number(b []byte, n int) { f.put(b, numeral(n, f.size()-1)) }

// numeral is a number in so many digits, which it goes into.
func numeral(n, digits int) string {
	s := strconv.FormatInt(int64(n), 8)
	return strings.Repeat("0", digits-len(s)) + s
}
