package head

import (
	"archive/tar"
	"bytes"
	"fmt"
	"strings"
	"testing"
	"time"

	"sutler/api"
)

func TestExamples(t *testing.T) {
	wantNumber(t, "0000644 ", 420)
	b, e := Print(api.Head{Name: "a", Size: 1, Kind: 48})
	if e != api.OK || string(b[124:136]) != "00000000001\x00" {
		t.Errorf("Print of the example: %s, error %d", short(b), e)
	}
}

// 13.1: how many bytes there are.
func TestLengths(t *testing.T) {
	p, h := plain()
	b := p.bytes()
	wantParsed(t, "512 bytes", b, h)
	wantParsed(t, "512 bytes of more", append(bytes.Clone(b), b...)[:512], h)
	for n := range 512 {
		wantNone(t, fmt.Sprint("the first ", n), b[:n])
		wantNone(t, fmt.Sprint("the last ", n), b[512-n:])
	}
	for _, n := range []int{513, 514, 520, 1023, 1024, 1 << 18} {
		wantNone(t, fmt.Sprint(n, " bytes"), append(bytes.Clone(b), make([]byte, n-512)...))
		wantNone(t, fmt.Sprint(n, " bytes"), append(make([]byte, n-512), b...))
	}
	wantNone(t, "nil", nil)
	wantNone(t, "no byte", []byte{})
}

// 13.1: each byte of "ustar", its 0 and "00" another one, though the sum is right.
func TestUstar(t *testing.T) {
	p, h := plain()
	b := p.bytes()
	for at := 257; at < 265; at++ {
		for to := range 256 {
			if changed := summed(turned(b, at, byte(to))); byte(to) == b[at] {
				wantParsed(t, "as it was", changed, h)
			} else {
				wantNone(t, fmt.Sprintf("byte %d is %d", at, to), changed)
			}
		}
	}
	for _, other := range []string{"ustar  \x00", "ustar\x00\x00\x00", "ustar   ", "USTAR\x0000", "\x00\x00\x00\x00\x00\x00\x00\x00", "star\x00000", "\x00ustar00"} {
		p.ustar = other
		wantNone(t, "another mark", p.bytes())
	}
}

// noNumbers are eight bytes each that are no number.
func noNumbers() []string {
	return []string{
		"        ", "       \x00", "\x00\x00\x00\x00\x00\x00\x00\x00", "00000644", "    0644", "0000648 ", "0000649 ", "9000644 ", "8      \x00",
		"-000644\x00", "+000644\x00", "0x00644\x00", "0o00644\x00", "a000644\x00", "000644a\x00", "00 0644\x00", "000\x00644\x00", "00_0644 ", "000.644 ",
		"\x00000644\x00", " \x00000644", " \x00 0644 ", "\t000644\x00", "000644\t\x00", "000644\n\x00", "\v000644 ", "000644 \r",
		"000644\x00\xff", "000644\xff\x00", "\xff000644\x00", "000644/\x00", "000644:\x00", "000644 0", "000644\x001", "0 0 0 0 ",
		"\x80\x00\x00\x00\x00\x00\x01\xa4", "\xa0000644\x00", "000644\xa0\x00", "000644\u00a0", "\u00a0000644", "\u0664\u0664\u0664  ", "no digit", "0000644\x01",
	}
}

// 13.1: numbers in fewer and more bytes, and bytes that are none.
func TestOctal(t *testing.T) {
	for _, s := range append(noNumbers(), "", " ", "\x00", "0", "7", "8", "8 ", "9\x00", " 8 ", "0x1 ", "-1 ", "1") {
		wantNoNumber(t, s)
	}
	most := 1
	for digits := 1; digits <= 11; digits++ {
		most *= 8
		for _, ahead := range []string{"", " ", "  ", strings.Repeat(" ", 1000)} {
			for _, behind := range []string{" ", "\x00", "  ", "\x00\x00", " \x00", "\x00 ", "\x00 \x00", " \x00 ", strings.Repeat("\x00 ", 1000)} {
				wantNumber(t, ahead+strings.Repeat("7", digits)+behind, most-1)
				wantNumber(t, ahead+"1"+strings.Repeat("0", digits-1)+behind, most/8)
				wantNumber(t, ahead+strings.Repeat("0", digits-1)+"5"+behind, 5)
				wantNumber(t, ahead+strings.Repeat("0", digits)+behind, 0)
				wantNoNumber(t, ahead+strings.Repeat("7", digits)+behind+"7")
				wantNoNumber(t, ahead+strings.Repeat("0", digits)+behind+"\x01")
				wantNoNumber(t, ahead+behind)
			}
			wantNoNumber(t, ahead+strings.Repeat("7", digits))
		}
	}
	for _, digits := range []int{12, 13, 21, 22, 23, 64, 65, 1000} {
		for _, digit := range []string{"0", "7"} {
			for _, ahead := range []string{"", " "} {
				wantNoNumber(t, ahead+strings.Repeat(digit, digits)+" ")
				wantNoNumber(t, ahead+strings.Repeat(digit, digits)+"\x00")
				wantNoNumber(t, ahead+strings.Repeat(digit, digits))
			}
		}
	}
	wantNumber(t, "01234567012 ", 0o1234567012)
	wantNumber(t, "76543210765\x00", 0o76543210765)
}

// 13.1: each byte in each place of short numbers.
func TestOctalByteByByte(t *testing.T) {
	for x := range 256 {
		b := string([]byte{byte(x)})
		wantNoNumber(t, b)
		digit := x >= '0' && x <= '7'
		behind := x == ' ' || x == 0
		for what, holds := range map[string]bool{
			b + " ": digit, b + "\x00": digit, "1" + b: behind, "1" + b + " ": digit || behind, "1 " + b: behind, "1\x00" + b: behind,
			" " + b: false, b + "1 ": digit || x == ' ', "1 " + b + " ": behind, " " + b + " ": digit, "00000000000" + b: behind, "0000000000" + b + " ": digit || behind,
		} {
			got, e := Octal([]byte(what))
			if holds != (e == api.OK) {
				t.Errorf("Octal of %q: %d, error %d", what, got, e)
			}
		}
	}
}

// 13.1: numbers in a header's places, with the sum right: a mode and a size that are none.
func TestNumbersOfHeaders(t *testing.T) {
	for _, s := range noNumbers() {
		p, _ := plain()
		p.mode = s
		wantNone(t, "mode "+s, p.bytes())
		p, _ = plain()
		p.size = s[:4] + s
		wantNone(t, "size "+s, p.bytes())
		p, _ = plain()
		p.sum = s
		wantNone(t, "sum "+s, p.bytes())
	}
	for _, s := range []string{"000000000000", "000000001750", " 00000001750", "        1750"} {
		p, _ := plain()
		p.size = s
		wantNone(t, "size "+s, p.bytes())
	}
	for _, s := range []string{"00000001750\x00", "00000001750 ", "1750        ", "1750\x00\x00\x00\x00\x00\x00\x00\x00", "       1750 ", "       1750\x00", "   1750 \x00 \x00 "} {
		p, h := plain()
		p.size = s
		wantParsed(t, "size "+s, p.bytes(), h)
	}
	for _, s := range []string{"0000644\x00", "0000644 ", "000644 \x00", "000644\x00 ", "644     ", "    644 ", "   644\x00\x00", " 644 \x00 \x00"} {
		p, h := plain()
		p.mode = s
		wantParsed(t, "mode "+s, p.bytes(), h)
	}
}

// 13.1: of a mode only its last twelve bits.
func TestModes(t *testing.T) {
	for mode := range 4096 {
		p, h := plain()
		p.mode, h.Mode = fmt.Sprintf("%07o\x00", mode), mode
		wantParsed(t, "a mode", p.bytes(), h)
		p.mode = fmt.Sprintf("%07o ", mode|0o1230000)
		wantParsed(t, "a mode of more bits", p.bytes(), h)
	}
	for bit := range 21 {
		p, h := plain()
		p.mode, h.Mode = fmt.Sprintf("%07o\x00", 1<<bit), 1<<bit&0xfff
		wantParsed(t, "one bit", p.bytes(), h)
		p.mode, h.Mode = fmt.Sprintf("%07o\x00", 1<<21-1-1<<bit), (1<<21-1-1<<bit)&0xfff
		wantParsed(t, "all bits but one", p.bytes(), h)
	}
}

// 13.1: sizes up to MaxBytes.
func TestSizes(t *testing.T) {
	for _, size := range []int{0, 1, 7, 8, 511, 512, api.MaxBytes - 1, api.MaxBytes} {
		p, h := plain()
		p.size, h.Size = fmt.Sprintf("%011o\x00", size), size
		wantParsed(t, "a size", p.bytes(), h)
		p.size = fmt.Sprintf("%11o ", size)
		wantParsed(t, "a size", p.bytes(), h)
	}
	for _, size := range []int{api.MaxBytes + 1, api.MaxBytes + 2, 2 * api.MaxBytes, 1 << 30, 1<<31 - 1, 1 << 31, 1 << 32, 1<<32 + 1, 1<<33 - 1} {
		p, _ := plain()
		p.size = fmt.Sprintf("%011o\x00", size)
		wantNone(t, fmt.Sprint("a size of ", size), p.bytes())
	}
}

// 13.1: sums told in whatever way, and those that are not right.
func TestSumsOfHeaders(t *testing.T) {
	p, h := plain()
	sum := sumOf(string(p.bytes()))
	for _, form := range []string{"%06o\x00 ", "%06o  ", "%06o \x00", "%07o\x00", "%07o ", "%o\x00\x00\x00", "%o   ", "%7o ", "%7o\x00", " %05o\x00 "} {
		p.sum = filled(fmt.Sprintf(form, sum), 8)
		wantParsed(t, "sum "+form, p.bytes(), h)
		for _, other := range []int{0, 1, sum - 1, sum + 1, sum - 256, sum + 256, sum ^ 8, sum - 8*32, sum / 8, 0o77777} {
			p.sum = filled(fmt.Sprintf(form, other), 8)
			wantNone(t, "sum "+form, p.bytes())
		}
	}
	p.sum = fmt.Sprintf("%08o", sum)
	wantNone(t, "a sum with nothing behind", p.bytes())
	p.sum = "        "
	wantNone(t, "blanks as sum", p.bytes())
	// All bytes count as numbers without a sign.
	p, h = plain()
	p.name = strings.Repeat("\xff", 100)
	h.Name = "usr/share/" + p.name
	wantParsed(t, "bytes above 127", p.bytes(), h)
	signed := sumOf(string(p.bytes())) - 100*256
	p.sum = fmt.Sprintf("%06o\x00 ", signed)
	wantNone(t, "a sum of bytes with a sign", p.bytes())
	// A sum that wrongly counts its own bytes as they are, or as noughts.
	p, _ = plain()
	p.sum = fmt.Sprintf("%06o\x00 ", sum-8*32)
	wantNone(t, "its own bytes as noughts", p.bytes())
}

// 13.1: names, prefixes and links, as they end or fill their places.
func TestTexts(t *testing.T) {
	ends := func(n int) []string {
		return []string{"a", "a/b", "/", "//", "/a", "a/", ".", "\xff\x01", " ", " a ", some(n-1, 1), some(n, 2), strings.Repeat("/", n),
			"a\x00", "a\x00b", "a\x00/" + some(n-3, 3), some(n-1, 4) + "\x00", some(n-2, 5) + "\x00x"}
	}
	upTo := func(s string) string { return strings.Split(s, "\x00")[0] }
	for _, name := range ends(100) {
		for _, prefix := range append(ends(155), "", "\x00", "\x00a", "\x00"+some(154, 6)) {
			p, h := plain()
			p.name, p.prefix = filled(name, 100), filled(prefix, 155)
			h.Name = upTo(name)
			if upTo(prefix) != "" {
				h.Name = upTo(prefix) + "/" + upTo(name)
			}
			wantParsed(t, "a name and a prefix", p.bytes(), h)
		}
	}
	for _, link := range append(ends(100), "", "\x00", "\x00a", "\x00"+some(99, 6)) {
		p, h := plain()
		p.link, h.Link = filled(link, 100), upTo(link)
		wantParsed(t, "a link", p.bytes(), h)
	}
	for _, name := range []string{"", "\x00a", "\x00" + some(99, 7)} {
		for _, prefix := range append(ends(155), "", "\x00a") {
			p, _ := plain()
			p.name, p.prefix = filled(name, 100), filled(prefix, 155)
			wantNone(t, "no name", p.bytes())
		}
	}
}

// 13.1: each kind there is, of which 0 counts as 48.
func TestKinds(t *testing.T) {
	for kind := range 256 {
		p, h := plain()
		p.kind, h.Kind = string([]byte{byte(kind)}), byte(kind)
		if kind == 0 {
			h.Kind = 48
		}
		wantParsed(t, "a kind", p.bytes(), h)
	}
}

// 13.1: bytes that tell nothing here may be any.
func TestWhatTellsNothing(t *testing.T) {
	p, h := plain()
	b := p.bytes()
	for at := range 512 {
		if !(at >= 108 && at < 124 || at >= 136 && at < 148 || at >= 265 && at < 345 || at >= 500) {
			continue
		}
		for to := range 256 {
			wantParsed(t, fmt.Sprintf("byte %d is %d", at, to), summed(turned(b, at, byte(to))), h)
		}
	}
	p.owners, p.time, p.nothing, p.end = some(16, 1), some(12, 2), some(80, 3), some(12, 4)
	wantParsed(t, "all of them others", p.bytes(), h)
	p.owners, p.time, p.nothing, p.end = filled("", 16), filled("", 12), filled("", 80), filled("", 12)
	wantParsed(t, "all of them noughts", p.bytes(), h)
	p.owners, p.time = strings.Repeat("8", 16), strings.Repeat("\xff", 12)
	p.nothing, p.end = strings.Repeat("\xff", 80), strings.Repeat("\xff", 12)
	wantParsed(t, "all of them no numbers", p.bytes(), h)
}

// 13.1: the sum of any bytes.
func TestSum(t *testing.T) {
	for _, n := range []int{0, 1, 2, 147, 148, 149, 150, 155, 156, 157, 256, 511, 512, 513, 660, 1024, 100000} {
		if got := Sum(make([]byte, n)); got != 32*max(0, min(n, 156)-148) {
			t.Errorf("Sum of %d noughts: %d", n, got)
		}
		if got := Sum([]byte(strings.Repeat("\xff", n))); got != 255*n-(255-32)*max(0, min(n, 156)-148) {
			t.Errorf("Sum of %d bytes of 255: %d", n, got)
		}
		for seed := range 20 {
			b := some(n, uint64(seed))
			if got := Sum([]byte(b)); got != sumOf(b) {
				t.Errorf("Sum of %d bytes: %d, want %d", n, got, sumOf(b))
			}
		}
	}
	if Sum(nil) != 0 || Sum([]byte{7}) != 7 {
		t.Errorf("Sum of nothing: %d, of a byte: %d", Sum(nil), Sum([]byte{7}))
	}
	// Each byte counts as it is, but those of the sum.
	for at := range 513 {
		for _, x := range []byte{1, 31, 32, 33, 127, 128, 255} {
			want := 8*32 + int(x)
			if at >= 148 && at < 156 {
				want = 8 * 32
			}
			if got := Sum(turned(make([]byte, 513), at, x)); got != want {
				t.Errorf("Sum of a %d at %d: %d, want %d", x, at, got, want)
			}
		}
	}
}

// 13.1, 13.5: 512 bytes of 0 are empty, and no header; with one byte other than 0 they are neither.
func TestEmpty(t *testing.T) {
	for n := range 1025 {
		b := make([]byte, n)
		if got := Empty(b); got != (n == 512) {
			t.Errorf("Empty of %d noughts: %t", n, got)
		}
		wantNone(t, "noughts", b)
	}
	if Empty(nil) || Empty(make([]byte, 1<<18)) {
		t.Error("Empty of nil, or of very many noughts")
	}
	for at := range 512 {
		for x := 1; x < 256; x++ {
			b := turned(make([]byte, 512), at, byte(x))
			if Empty(b) {
				t.Errorf("Empty with a %d at %d", x, at)
			}
			wantNone(t, "but one byte of nought", b)
			wantNone(t, "but one byte of nought, with a sum", summed(b))
		}
	}
	wantNone(t, "noughts with a sum", summed(make([]byte, 512)))
	p, _ := plain()
	if Empty(p.bytes()) {
		t.Error("a header is empty")
	}
}

// 13.4: a header of which one byte is turned that is none of the sum's is refused.
func TestTurnedIsFound(t *testing.T) {
	full := printed(some(155, 1), some(100, 2), some(100, 3), 4095, api.MaxBytes, 255)
	full.owners, full.time, full.nothing, full.end = some(16, 4), some(12, 5), some(80, 6), some(12, 7)
	p, _ := plain()
	long, _ := Print(api.Head{Name: strings.Repeat("long/", 40), Link: some(100, 8), Mode: 511, Size: 77, Kind: 50})
	for _, b := range [][]byte{p.bytes(), full.bytes(), long} {
		if _, e := Parse(b); e != api.OK {
			t.Fatalf("Parse of %s: error %d", short(b), e)
		}
		for at := range 512 {
			if at >= 148 && at < 156 {
				continue
			}
			for to := range 256 {
				if byte(to) != b[at] {
					wantNone(t, fmt.Sprintf("byte %d is %d", at, to), turned(b, at, byte(to)))
				}
			}
		}
	}
}

// 13.1: several faults at once are the one error, and nothing is told.
func TestSeveralFaults(t *testing.T) {
	faults := []func(p *parts){
		func(p *parts) { p.ustar = "ustar  \x00" },
		func(p *parts) { p.mode = "000064x\x00" },
		func(p *parts) { p.size = "000000000000" },
		func(p *parts) { p.size = "77777777777\x00" },
		func(p *parts) { p.sum = "0000000\x00" },
		func(p *parts) { p.sum = "no sum\x00 " },
		func(p *parts) { p.name = filled("", 100) },
		func(p *parts) { p.prefix, p.name = filled("", 155), filled("", 100) },
	}
	for chosen := 1; chosen < 1<<len(faults); chosen++ {
		p, _ := plain()
		for i, do := range faults {
			if chosen>>i&1 == 1 {
				do(&p)
			}
		}
		wantNone(t, fmt.Sprintf("faults %b", chosen), p.bytes())
		wantNone(t, fmt.Sprintf("faults %b, a byte fewer", chosen), p.bytes()[:511])
		wantNone(t, fmt.Sprintf("faults %b, a byte more", chosen), append(p.bytes(), 0))
	}
}

// 13.1: headers that others made.
func TestHeadersOfOthers(t *testing.T) {
	others := []tar.Header{
		{Name: "a", Size: 0, Mode: 0o644, Typeflag: tar.TypeReg},
		{Name: "usr/bin/tool", Size: 12345, Mode: 0o4755, Typeflag: tar.TypeReg, Uname: "root", Gname: "root", Uid: 1000, Gid: 1},
		{Name: "usr/", Mode: 0o755, Typeflag: tar.TypeDir, ModTime: time.Unix(1234567890, 0)},
		{Name: "link", Linkname: "usr/bin/tool", Mode: 0o777, Typeflag: tar.TypeSymlink, Uname: "someone"},
		{Name: strings.Repeat("d", 155) + "/" + strings.Repeat("n", 100), Linkname: strings.Repeat("l", 100), Typeflag: tar.TypeLink},
		{Name: strings.Repeat("some/", 40) + "file", Size: api.MaxBytes, Mode: 0o7777, Typeflag: tar.TypeReg},
	}
	for _, other := range others {
		other.Format = tar.FormatUSTAR
		var out bytes.Buffer
		if err := tar.NewWriter(&out).WriteHeader(&other); err != nil {
			t.Fatal(err)
		}
		wantParsed(t, "another one's header", out.Bytes(), api.Head{
			Name: other.Name, Link: other.Linkname, Mode: int(other.Mode), Size: int(other.Size), Kind: other.Typeflag,
		})
	}
}
