package head

import (
	"bytes"
	"fmt"
	"regexp"
	"strconv"
	"strings"
	"testing"

	"sutler/api"
)

// A header is told here by the chapter's words, cut piece by piece off its front.

var isNumber = regexp.MustCompile(`^ *([0-7]{1,11})[ \x00]+$`)

// numberOf is the number that bytes are, or -1.
func numberOf(s string) int {
	found := isNumber.FindStringSubmatch(latin(s))
	if found == nil {
		return -1
	}
	n, _ := strconv.ParseInt(found[1], 8, 64)
	return int(n)
}

// latin is each byte as a rune of its own, so that none is taken together with others.
func latin(s string) string {
	var runes []rune
	for _, b := range []byte(s) {
		runes = append(runes, rune(b))
	}
	return string(runes)
}

// told is what a header tells by the words, and whether it is one.
func told(b []byte) (h api.Head, ok bool) {
	if len(b) != 512 {
		return h, false
	}
	left := string(b)
	cut := func(n int) string {
		piece := left[:n]
		left = left[n:]
		return piece
	}
	text := func(n int) string { return strings.Split(cut(n), "\x00")[0] }
	h.Name = text(100)
	h.Mode = numberOf(cut(8))
	cut(16)
	h.Size = numberOf(cut(12))
	cut(12)
	sum := numberOf(cut(8))
	h.Kind = cut(1)[0]
	h.Link = text(100)
	mark := cut(8)
	cut(80)
	prefix := text(155)
	if h.Name == "" || h.Mode < 0 || h.Size < 0 || h.Size > 1<<18 || sum != sumOf(string(b)) || mark != "ustar\x0000" {
		return api.Head{}, false
	}
	if prefix != "" {
		h.Name = prefix + "/" + h.Name
	}
	if h.Kind == 0 {
		h.Kind = 48
	}
	h.Mode %= 4096
	return h, true
}

// wantAsTold holds Parse, Sum and Empty against the chapter's words.
func wantAsTold(t *testing.T, b []byte) bool {
	t.Helper()
	h, ok := told(b)
	if ok {
		wantParsed(t, "by the words", b, h)
	} else {
		wantNone(t, "by the words", b)
	}
	if got := Sum(b); got != sumOf(string(b)) {
		t.Errorf("Sum of %s: %d, want %d", short(b), got, sumOf(string(b)))
	}
	if got := Empty(b); got != (string(b) == strings.Repeat("\x00", 512)) {
		t.Errorf("Empty of %s: %t", short(b), got)
	}
	return ok
}

// chance is numbers without a pattern, the same in each run.
type chance uint64

// below is a number from 0 to n - 1.
func (c *chance) below(n int) int {
	*c = *c*6364136223846793005 + 1442695040888963407
	return int(uint64(*c) >> 33 % uint64(n))
}

// of is n bytes out of some.
func (c *chance) of(n int, out string) string {
	b := make([]byte, n)
	for i := range b {
		b[i] = out[c.below(len(out))]
	}
	return string(b)
}

// name is a text with / here and there, perhaps of no byte.
func (c *chance) name() string {
	return c.of(c.below(270), []string{"ab/", "abcdefghij/", "a/", strings.Repeat("n", 60) + "/"}[c.below(4)])
}

// numeral is bytes that may be a number, n of them.
func (c *chance) numeral(n, value int) string {
	switch c.below(8) {
	case 0:
		return c.of(n, "01234567 \x00")
	case 1:
		return c.of(n, "0 \x00")
	case 2:
		return fmt.Sprintf("%*o", n, value)[:n]
	case 3:
		return fmt.Sprintf("%*o ", n-1, value)[:n]
	case 4:
		return filled(fmt.Sprintf("%o", value), 2*n)[:n]
	}
	return fmt.Sprintf("%0*o\x00", n-1, value)[:n]
}

// header is a header by chance, perhaps one that is none.
func (c *chance) header() []byte {
	text := func(n int) string {
		return filled(some(c.below(4)*n/3, uint64(c.below(1000)))+c.of(c.below(2), "\x00"), 2*n)[:n]
	}
	p := parts{
		name: text(100), mode: c.numeral(8, c.below(1<<21)), owners: c.of(16, "01 \x00"), size: c.numeral(12, c.below(1<<18+100)),
		time: c.of(12, "01 \x00"), kind: c.of(1, "\x00\x00002345xg\xff"), link: text(100), ustar: "ustar\x0000", nothing: text(80),
		prefix: text(155), end: c.of(12, "\x00\x00\x00\x01"),
	}
	b := p.bytes()
	if c.below(4) == 0 {
		copy(b[148:156], c.numeral(8, sumOf(string(b))+c.below(3)/2))
	}
	return b
}

// 13.1: headers by chance, and what becomes of them when they are changed here and there.
func TestHeadersByChanceAsTold(t *testing.T) {
	c, headers, others := chance(1), 0, 0
	count := func(ok bool) {
		if ok {
			headers++
		} else {
			others++
		}
	}
	for range 20000 {
		b := c.header()
		count(wantAsTold(t, b))
		for range 1 + c.below(3) {
			b[c.below(512)] = "\x00 /0179a\xff"[c.below(9)]
		}
		count(wantAsTold(t, b))
		count(wantAsTold(t, summed(b)))
		count(wantAsTold(t, b[:c.below(513)]))
	}
	if headers < 10000 || others < 10000 {
		t.Errorf("%d headers, and %d others", headers, others)
	}
}

// 13.1: each byte of a header another one, with the sum as it was and made anew.
func TestChangedHeadersAsTold(t *testing.T) {
	c := chance(2)
	p, _ := plain()
	full := printed(some(155, 1), some(100, 2), some(100, 3), 4095, api.MaxBytes, 48)
	for _, b := range [][]byte{p.bytes(), full.bytes(), c.header(), make([]byte, 512)} {
		for at := range 512 {
			others := []byte("\x00\x01 /01789u\x7f\x80\xff")
			if at >= 100 && at < 108 || at >= 124 && at < 136 || at >= 148 && at < 157 {
				others = everyByte()
			}
			for _, to := range others {
				wantAsTold(t, turned(b, at, to))
				wantAsTold(t, summed(turned(b, at, to)))
			}
		}
	}
}

// everyByte is all bytes that there are.
func everyByte() []byte {
	var all []byte
	for x := range 256 {
		all = append(all, byte(x))
	}
	return all
}

// 13.1: all short bytes as numbers, out of some.
func TestShortNumbersAsTold(t *testing.T) {
	all := []string{""}
	for first := 0; first < len(all); first++ {
		s := all[first]
		got, e := Octal([]byte(s))
		switch want := numberOf(s); {
		case want >= 0 && (got != want || e != api.OK):
			t.Errorf("Octal of %q: %d, error %d, want %d", s, got, e, want)
		case want < 0 && (got != 0 || e != api.ErrHead):
			t.Errorf("Octal of %q: %d, error %d, want error %d", s, got, e, api.ErrHead)
		}
		if len(s) < 6 {
			for _, x := range []string{"0", "1", "7", "8", " ", "\x00", "/"} {
				all = append(all, s+x)
			}
		}
	}
	c := chance(3)
	for range 50000 {
		s := c.of(c.below(5), " ") + c.of(c.below(14), "01234567") + c.of(c.below(4), " \x00") + c.of(c.below(20)/19, "0 \x009\xff")
		got, e := Octal([]byte(s))
		if want := numberOf(s); max(want, 0) != got || (want >= 0) != (e == api.OK) {
			t.Errorf("Octal of %q: %d, error %d, want %d", s, got, e, want)
		}
	}
}

// printable tells whether a header is to be made, by the words, and of which prefix and name.
func printable(h api.Head) (prefix, name string, ok bool) {
	name, ok = h.Name, h.Name != ""
	if len(h.Name) > 100 {
		at := lastPart(h.Name)
		if at < 0 {
			return "", "", false
		}
		prefix, name = h.Name[:at], h.Name[at+1:]
	}
	ok = ok && len(h.Link) <= 100 && !strings.Contains(h.Name+h.Link, "\x00")
	return prefix, name, ok && 0 <= h.Mode && h.Mode < 4096 && 0 <= h.Size && h.Size <= 1<<18 && h.Kind != 0
}

// 13.2, 13.3: what is told by chance, printed, and told again.
func TestPrintByChanceAsTold(t *testing.T) {
	c, made := chance(4), 0
	for range 30000 {
		h := api.Head{Name: c.name(), Mode: c.below(4096), Size: c.below(1<<18 + 1), Kind: byte(c.below(256))}
		h.Link = c.of(c.below(104), "ab/\xff")
		if c.below(10) == 0 {
			h.Mode, h.Size = c.below(4200)-50, c.below(1<<18+5000)-2000
			h.Link += c.of(c.below(3), "\x00a")
			h.Name += c.of(c.below(3), "\x00a")
		}
		prefix, name, ok := printable(h)
		if !ok {
			wantNotPrinted(t, "by the words", h)
			continue
		}
		wantPrinted(t, "by the words", h, printed(prefix, name, h.Link, h.Mode, h.Size, h.Kind).bytes())
		made++
	}
	if made < 5000 {
		t.Errorf("only %d were made", made)
	}
}

// Rule 4: what is handed in stays as it was.
func TestWhatIsHandedInStays(t *testing.T) {
	p, _ := plain()
	for _, b := range [][]byte{p.bytes(), summed(turned(p.bytes(), 156, 0)), make([]byte, 512), []byte("0000644 "), []byte("     8"), []byte(some(700, 1))} {
		room := append(bytes.Clone(b), some(64, 1)...)
		kept := bytes.Clone(room)
		in := room[:len(b)]
		Parse(in)
		Octal(in)
		Sum(in)
		Empty(in)
		wantBytes(t, "what was handed in", room, kept)
	}
}

// Rule 4: what is handed out is the caller's own, and no two answers share anything.
func TestWhatIsHandedOutIsTheCallers(t *testing.T) {
	p, h := plain()
	b := p.bytes()
	got, _ := Parse(b)
	clear(b)
	if got != h {
		t.Errorf("behind a change of the header: %+v, want %+v", got, h)
	}
	first, _ := Print(h)
	kept := bytes.Clone(first)
	for range 2 {
		other, _ := Print(h)
		wantBytes(t, "Print, once more", other, kept)
		clear(other[:cap(other)])
		wantBytes(t, "behind a change of another answer", first, kept)
	}
}

// P2: a call that is refused changes nothing for later ones.
func TestRefusedChangesNothing(t *testing.T) {
	p, h := plain()
	for _, k := range []byte{0, 48, 255} {
		wantNone(t, "another mark", summed(turned(p.bytes(), 257, k)))
		wantNotPrinted(t, "no name", api.Head{Kind: k})
		wantNoNumber(t, "77777777777")
		wantParsed(t, "behind it", p.bytes(), h)
		wantPrinted(t, "behind it", h, printed("", h.Name, "", h.Mode, h.Size, h.Kind).bytes())
		wantNumber(t, "1 ", 1)
	}
}

// What many ask at once is answered to each as if it were alone.
func TestManyAtOnce(t *testing.T) {
	done := make(chan bool)
	for i := range 8 {
		go func() {
			defer func() { done <- true }()
			for n := range 200 {
				h := api.Head{Name: some(1+n%100, uint64(n*i)), Mode: n, Size: n * i, Kind: byte(1 + i)}
				wantPrinted(t, "many at once", h, printed("", h.Name, "", h.Mode, h.Size, h.Kind).bytes())
				wantNumber(t, fmt.Sprintf("%o ", n*i), n*i)
			}
		}()
	}
	for range 8 {
		<-done
	}
}
