package head

import (
	"bytes"
	"fmt"
	"strings"
	"testing"

	"sutler/api"
)

// short is bytes as a text, of which only the first ones are told.
func short(b []byte) string {
	if len(b) > 600 {
		return fmt.Sprintf("%q.. (%d bytes)", b[:600], len(b))
	}
	return fmt.Sprintf("%q", b)
}

func wantBytes(t *testing.T, what string, got, want []byte) {
	t.Helper()
	if !bytes.Equal(got, want) {
		t.Errorf("%s: %s, want %s", what, short(got), short(want))
	}
}

// wantParsed asks for what a header tells.
func wantParsed(t *testing.T, what string, b []byte, want api.Head) {
	t.Helper()
	got, e := Parse(b)
	if e != api.OK || got != want {
		t.Errorf("Parse, %s, of %s: %+v, error %d, want %+v", what, short(b), got, e, want)
	}
}

// wantNone asks for an error of Parse, and for nothing beside it.
func wantNone(t *testing.T, what string, b []byte) {
	t.Helper()
	got, e := Parse(b)
	if e != api.ErrHead || got != (api.Head{}) {
		t.Errorf("Parse, %s, of %s: %+v, error %d, want error %d", what, short(b), got, e, api.ErrHead)
	}
}

// wantNumber asks for the number that bytes are.
func wantNumber(t *testing.T, b string, want int) {
	t.Helper()
	if got, e := Octal([]byte(b)); got != want || e != api.OK {
		t.Errorf("Octal of %q: %d, error %d, want %d", b, got, e, want)
	}
}

// wantNoNumber asks for an error of Octal, and for nothing beside it.
func wantNoNumber(t *testing.T, b string) {
	t.Helper()
	if got, e := Octal([]byte(b)); got != 0 || e != api.ErrHead {
		t.Errorf("Octal of %q: %d, error %d, want error %d", b, got, e, api.ErrHead)
	}
}

// wantPrinted asks for a header, byte by byte, and for what was told out of it.
func wantPrinted(t *testing.T, what string, h api.Head, want []byte) {
	t.Helper()
	got, e := Print(h)
	if e != api.OK {
		t.Errorf("Print, %s, of %+v: error %d", what, h, e)
		return
	}
	wantBytes(t, "Print, "+what, got, want)
	wantParsed(t, what, got, h)
}

// wantNotPrinted asks for an error of Print, and for nothing beside it.
func wantNotPrinted(t *testing.T, what string, h api.Head) {
	t.Helper()
	if got, e := Print(h); e != api.ErrArg || got != nil {
		t.Errorf("Print, %s, of %+v: %s, error %d, want error %d", what, h, short(got), e, api.ErrArg)
	}
}

// some is n bytes without a pattern and without a 0, the same in each run.
func some(n int, seed uint64) string {
	b := make([]byte, n)
	for i := range b {
		seed = seed*6364136223846793005 + 1442695040888963407
		b[i] = byte(seed>>56)%255 + 1
	}
	return string(b)
}

// filled is a text with bytes of 0 behind, n bytes in all.
func filled(s string, n int) string {
	if len(s) > n {
		panic("too long")
	}
	return s + strings.Repeat("\x00", n-len(s))
}

// parts is a header's parts, each told by all of its bytes, as they stand one behind the other.
type parts struct {
	name    string // 100
	mode    string // 8
	owners  string // 16
	size    string // 12
	time    string // 12
	sum     string // 8; if it is empty, the right one stands there
	kind    string // 1
	link    string // 100
	ustar   string // 8
	nothing string // 80
	prefix  string // 155
	end     string // 12
}

// sumOf is the sum of all bytes, by the words.
func sumOf(b string) int {
	sum := 0
	for at := range len(b) {
		if at < 148 || at > 155 {
			sum += int(b[at])
		} else {
			sum += 32
		}
	}
	return sum
}

// bytes is the whole header.
func (p parts) bytes() []byte {
	ahead := p.name + p.mode + p.owners + p.size + p.time
	behind := p.kind + p.link + p.ustar + p.nothing + p.prefix + p.end
	if p.sum == "" {
		p.sum = fmt.Sprintf("%06o\x00 ", sumOf(ahead+"        "+behind))
	}
	b := ahead + p.sum + behind
	if len(b) != 512 {
		panic(fmt.Sprint(len(b), " bytes"))
	}
	return []byte(b)
}

// printed is the parts as Print is to make them.
func printed(prefix, name, link string, mode, size int, kind byte) parts {
	return parts{
		name: filled(name, 100), mode: fmt.Sprintf("%07o\x00", mode), owners: "0000000\x000000000\x00",
		size: fmt.Sprintf("%011o\x00", size), time: "00000000000\x00", kind: string([]byte{kind}),
		link: filled(link, 100), ustar: "ustar\x0000", nothing: filled("", 80),
		prefix: filled(prefix, 155), end: filled("", 12),
	}
}

// plain is parts that are in order, and what they tell.
func plain() (parts, api.Head) {
	return printed("usr/share", "some file", "", 0o644, 1000, 48),
		api.Head{Name: "usr/share/some file", Mode: 0o644, Size: 1000, Kind: 48}
}

// summed is a header with its sum made anew.
func summed(b []byte) []byte {
	b = bytes.Clone(b)
	copy(b[148:], fmt.Sprintf("%06o\x00 ", sumOf(string(b))))
	return b
}

// turned is b with that byte another one.
func turned(b []byte, at int, to byte) []byte {
	b = bytes.Clone(b)
	b[at] = to
	return b
}
