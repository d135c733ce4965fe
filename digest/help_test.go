package digest

import (
	"bytes"
	"encoding/hex"
	"fmt"
	"strings"
	"testing"

	"sutler/api"
)

// short is a text of which only the first bytes are told.
func short(s string) string {
	if len(s) > 200 {
		return fmt.Sprintf("%q.. (%d bytes)", s[:200], len(s))
	}
	return fmt.Sprintf("%q", s)
}

// wantSum asks for the digest without a key.
func wantSum(t *testing.T, b []byte, want string) {
	t.Helper()
	if got := Sum(b); hex.EncodeToString(got[:]) != want {
		t.Errorf("Sum of %d bytes: %x, want %s", len(b), got, want)
	}
}

// wantKeyed asks for the digest with a key.
func wantKeyed(t *testing.T, key, b []byte, want string) {
	t.Helper()
	if got, e := Keyed(key, b); e != api.OK || hex.EncodeToString(got[:]) != want {
		t.Errorf("Keyed of %d bytes with a key of %d: %x, error %d, want %s", len(b), len(key), got, e, want)
	}
}

// wantNoKey asks for an error of Keyed, and for nothing beside it.
func wantNoKey(t *testing.T, key, b []byte) {
	t.Helper()
	if got, e := Keyed(key, b); e != api.ErrArg || got != [32]byte{} {
		t.Errorf("Keyed of %d bytes with a key of %d: %x, error %d, want error %d", len(b), len(key), got, e, api.ErrArg)
	}
}

// wantParsed asks for the digest whose text s is.
func wantParsed(t *testing.T, s string, want [32]byte) {
	t.Helper()
	if got, e := Parse(s); e != api.OK || got != want {
		t.Errorf("Parse of %s: %x, error %d, want %x", short(s), got, e, want)
	}
}

// wantUnparsed asks for an error of Parse, and for nothing beside it.
func wantUnparsed(t *testing.T, s string) {
	t.Helper()
	if got, e := Parse(s); e != api.ErrHex || got != [32]byte{} {
		t.Errorf("Parse of %s: %x, error %d, want error %d", short(s), got, e, api.ErrHex)
	}
}

func wantText(t *testing.T, what, got, want string) {
	t.Helper()
	if got != want {
		t.Errorf("%s: %s, want %s", what, short(got), short(want))
	}
}

func wantSame(t *testing.T, s string, b []byte, want bool) {
	t.Helper()
	if got := Same(s, b); got != want {
		t.Errorf("Same of %s and %d bytes: %t, want %t", short(s), len(b), got, want)
	}
}

// wantKept asks that bytes are as they were.
func wantKept(t *testing.T, what string, got, want []byte) {
	t.Helper()
	if !bytes.Equal(got, want) {
		t.Errorf("%s is changed: %s, was %s", what, short(string(got)), short(string(want)))
	}
}

// rising is n bytes, each one more than the one ahead, from 0 on behind 250.
func rising(n int) []byte {
	b := make([]byte, n)
	for i := range b {
		b[i] = byte(i % 251)
	}
	return b
}

// chance is numbers without a pattern, the same in each run.
type chance uint64

// below is a number from 0 to n - 1.
func (c *chance) below(n int) int {
	*c = *c*6364136223846793005 + 1442695040888963407
	return int(uint64(*c) >> 33 % uint64(n))
}

// bytes is n bytes by chance.
func (c *chance) bytes(n int) []byte {
	b := make([]byte, n)
	for i := range b {
		b[i] = byte(c.below(256))
	}
	return b
}

// digest is a digest by chance.
func (c *chance) digest() [32]byte {
	return [32]byte(c.bytes(32))
}

// with is a copy of b with one byte xor x.
func with(b []byte, at int, x byte) []byte {
	c := bytes.Clone(b)
	c[at] ^= x
	return c
}

// put is a text with another byte at a place.
func put(s string, at int, x byte) string {
	return s[:at] + string([]byte{x}) + s[at+1:]
}

// isDigit tells whether a byte is a digit of a digest's text.
func isDigit(x byte) bool {
	return '0' <= x && x <= '9' || 'a' <= x && x <= 'f'
}

// texts are texts of digests, with each digit at each place.
func texts() []string {
	var all []string
	for i := range 16 {
		all = append(all, strings.Repeat("0123456789abcdef", 5)[i:i+64])
	}
	return append(all, strings.Repeat("0", 64), strings.Repeat("f", 64), Of(""), Of("abc"))
}
