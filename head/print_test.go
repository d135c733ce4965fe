package head

import (
	"archive/tar"
	"bytes"
	"fmt"
	"math"
	"strings"
	"testing"

	"sutler/api"
)

// 13.2: headers told by hand.
func TestPrintByHand(t *testing.T) {
	b := make([]byte, 512)
	copy(b[0:], "usr/a")
	copy(b[100:], "0000755")
	copy(b[108:], "0000000")
	copy(b[116:], "0000000")
	copy(b[124:], "00000001750")
	copy(b[136:], "00000000000")
	copy(b[148:], "        ")
	b[156] = 50
	copy(b[157:], "../b")
	copy(b[257:], "ustar\x0000")
	sum := 0
	for _, x := range b {
		sum += int(x)
	}
	copy(b[148:], fmt.Sprintf("%06o\x00 ", sum))
	wantPrinted(t, "by hand", api.Head{Name: "usr/a", Link: "../b", Mode: 0o755, Size: 1000, Kind: 50}, b)
	if string(b[148:156]) != "007306\x00 " {
		t.Errorf("the sum is %q", b[148:156])
	}
	least := printed("", "a", "", 0, 0, 48)
	least.sum = "006060\x00 "
	wantPrinted(t, "the least", api.Head{Name: "a", Kind: 48}, least.bytes())
}

// 13.2: all else is 0.
func TestAllElseIsNought(t *testing.T) {
	b, e := Print(api.Head{Name: some(155, 1) + "/" + some(100, 2), Link: some(100, 3), Mode: 4095, Size: api.MaxBytes, Kind: 255})
	if e != api.OK {
		t.Fatalf("error %d", e)
	}
	wantBytes(t, "names and numbers that tell nothing", b[265:345], make([]byte, 80))
	wantBytes(t, "the end", b[500:], make([]byte, 12))
	b, e = Print(api.Head{Name: "a", Kind: 48})
	if e != api.OK {
		t.Fatalf("error %d", e)
	}
	wantBytes(t, "behind the name", b[1:100], make([]byte, 99))
	wantBytes(t, "the link", b[157:257], make([]byte, 100))
	wantBytes(t, "the prefix and the end", b[345:], make([]byte, 167))
}

// 13.2: names that go into their place, though they have a / at whatever place.
func TestShortNames(t *testing.T) {
	for n := 1; n <= 100; n++ {
		for _, name := range []string{some(n, 1), strings.Repeat("/", n), strings.Repeat("a/", n)[:n], strings.Repeat("/a", n)[:n]} {
			wantPrinted(t, "a name", api.Head{Name: name, Kind: 48}, printed("", name, "", 0, 0, 48).bytes())
		}
	}
	for at := range 100 {
		name := strings.Repeat("n", at) + "/" + strings.Repeat("m", 99-at)
		wantPrinted(t, "100 bytes", api.Head{Name: name, Kind: 48}, printed("", name, "", 0, 0, 48).bytes())
	}
}

// wantParted asks for a name parted at that place, or refused if there is none.
func wantParted(t *testing.T, name string, at int) {
	t.Helper()
	h := api.Head{Name: name, Mode: 1, Size: 2, Kind: 48}
	if at < 0 {
		wantNotPrinted(t, "a name that can't be parted", h)
		return
	}
	wantPrinted(t, fmt.Sprint("parted at ", at), h, printed(name[:at], name[at+1:], "", 1, 2, 48).bytes())
}

// 13.2: names with one / at each place, of all lengths that may be, and longer.
func TestNamesWithOneSlash(t *testing.T) {
	for n := 101; n < 262; n++ {
		wantParted(t, strings.Repeat("n", n), -1)
		for at := range n {
			name := strings.Repeat("p", at) + "/" + strings.Repeat("n", n-at-1)
			if behind := n - at - 1; at >= 1 && at <= 155 && behind >= 1 && behind <= 100 {
				wantParted(t, name, at)
			} else {
				wantParted(t, name, -1)
			}
		}
	}
}

// lastPart is where a name of more than 100 bytes is to be parted, by the words, or -1.
func lastPart(name string) int {
	last := -1
	for at := range len(name) {
		ahead, behind := name[:at], name[at+1:]
		if name[at] == '/' && len(ahead) >= 1 && len(ahead) <= 155 && len(behind) >= 1 && len(behind) <= 100 {
			last = at
		}
	}
	return last
}

// 13.2: names with several /: two at each two places, rows of them, none but them, some by chance.
func TestNamesWithSeveralSlashes(t *testing.T) {
	for _, n := range []int{101, 102, 103, 156, 157, 158, 200, 255, 256, 257, 258} {
		for one := range n {
			for two := one + 1; two < n; two++ {
				name := []byte(strings.Repeat("n", n))
				name[one], name[two] = '/', '/'
				wantParted(t, string(name), lastPart(string(name)))
			}
		}
	}
	for n := 101; n < 300; n++ {
		for _, name := range []string{
			strings.Repeat("/", n), strings.Repeat("a/", n)[:n], strings.Repeat("/a", n)[:n], strings.Repeat("some/", n)[:n],
			"/" + strings.Repeat("n", n-2) + "/", strings.Repeat("n", n-1) + "/", "/" + strings.Repeat("n", n-1),
			strings.Repeat("n", n-2) + "//", "//" + strings.Repeat("n", n-2), strings.Repeat("n", n/2) + strings.Repeat("/", n-n/2),
		} {
			wantParted(t, name, lastPart(name))
		}
	}
	c := chance(1)
	parted := 0
	for range 20000 {
		name := c.name()
		if len(name) > 100 {
			wantParted(t, name, lastPart(name))
			parted++
		}
	}
	if parted < 5000 {
		t.Errorf("only %d names are long", parted)
	}
	for _, n := range []int{512, 1000, 1 << 20} {
		wantParted(t, strings.Repeat("a/", n), -1)
	}
}

// 13.2: links that go into their place, and longer ones.
func TestLinks(t *testing.T) {
	for n := range 101 {
		for _, link := range []string{some(n, 1), strings.Repeat("/", n), strings.Repeat("../", n)[:n]} {
			wantPrinted(t, "a link", api.Head{Name: "a", Link: link, Kind: 50}, printed("", "a", link, 0, 0, 50).bytes())
		}
	}
	for _, n := range []int{101, 102, 155, 156, 200, 255, 256, 257, 512, 1 << 20} {
		wantNotPrinted(t, "a long link", api.Head{Name: "a", Link: strings.Repeat("l", n), Kind: 50})
		wantNotPrinted(t, "a long link", api.Head{Name: "a", Link: strings.Repeat("l/", n)[:n], Kind: 50})
	}
}

// 13.2: a byte 0 in a name or in a link, wherever.
func TestNoughtsInTexts(t *testing.T) {
	for _, n := range []int{1, 2, 99, 100, 101, 256} {
		text := strings.Repeat("some/", n)[:n]
		for at := range n {
			with := text[:at] + "\x00" + text[at+1:]
			wantNotPrinted(t, "a 0 in the name", api.Head{Name: with, Kind: 48})
			wantNotPrinted(t, "a 0 in both", api.Head{Name: with, Link: with, Kind: 48})
			wantNotPrinted(t, "a 0 in the link", api.Head{Name: "a", Link: with, Kind: 48})
		}
		if n < 100 {
			wantNotPrinted(t, "a 0 behind the name", api.Head{Name: text + "\x00", Kind: 48})
			wantNotPrinted(t, "a 0 behind the link", api.Head{Name: "a", Link: text + "\x00", Kind: 48})
		}
	}
	wantNotPrinted(t, "no name", api.Head{Kind: 48})
	wantNotPrinted(t, "no name", api.Head{Link: "a", Mode: 1, Size: 1, Kind: 48})
}

// 13.2: modes, sizes and kinds.
func TestNumbersOfPrint(t *testing.T) {
	for mode := range 4096 {
		wantPrinted(t, "a mode", api.Head{Name: "a", Mode: mode, Kind: 48}, printed("", "a", "", mode, 0, 48).bytes())
	}
	far := []int{-2, -8, math.MinInt32, math.MinInt, math.MinInt + 1, math.MaxInt32, math.MaxInt - 1, math.MaxInt, 1 << 21, 1 << 33, 1 << 32, -1 << 32}
	for _, mode := range append(far, -1, 4096, 4097, 8191, 8192, 65536, -4095, -4096) {
		wantNotPrinted(t, "a mode", api.Head{Name: "a", Mode: mode, Kind: 48})
	}
	for _, size := range []int{0, 1, 7, 8, 63, 64, 511, 512, 513, 4096, 32767, 32768, api.MaxBytes - 1, api.MaxBytes} {
		wantPrinted(t, "a size", api.Head{Name: "a", Size: size, Kind: 48}, printed("", "a", "", 0, size, 48).bytes())
	}
	for _, size := range append(far, -1, api.MaxBytes+1, api.MaxBytes+2, -api.MaxBytes) {
		wantNotPrinted(t, "a size", api.Head{Name: "a", Size: size, Kind: 48})
	}
	for kind := 1; kind < 256; kind++ {
		wantPrinted(t, "a kind", api.Head{Name: "a", Kind: byte(kind)}, printed("", "a", "", 0, 0, byte(kind)).bytes())
	}
	wantNotPrinted(t, "the kind 0", api.Head{Name: "a"})
	wantNotPrinted(t, "nothing", api.Head{})
}

// 13.2: sums of few and of many digits.
func TestSumsOfPrint(t *testing.T) {
	long := strings.Repeat("\xff", 155) + "/" + strings.Repeat("\xff", 100)
	h := api.Head{Name: long, Link: strings.Repeat("\xff", 100), Mode: 4095, Size: api.MaxBytes, Kind: 255}
	wantPrinted(t, "the greatest sum", h, printed(long[:155], long[156:], h.Link, h.Mode, h.Size, 255).bytes())
	h = api.Head{Name: "\x01", Kind: 1}
	wantPrinted(t, "the least sum", h, printed("", "\x01", "", 0, 0, 1).bytes())
	for n := 1; n < 101; n++ {
		name := strings.Repeat("\xff", n)
		wantPrinted(t, "a sum", api.Head{Name: name, Kind: 48}, printed("", name, "", 0, 0, 48).bytes())
	}
}

// 13.2: several faults at once.
func TestSeveralFaultsOfPrint(t *testing.T) {
	faults := []func(h *api.Head){
		func(h *api.Head) { h.Name = "" },
		func(h *api.Head) { h.Name = strings.Repeat("n", 101) },
		func(h *api.Head) { h.Name = "a\x00" },
		func(h *api.Head) { h.Link = strings.Repeat("l", 101) },
		func(h *api.Head) { h.Link = "\x00" },
		func(h *api.Head) { h.Mode = -1 },
		func(h *api.Head) { h.Mode = 4096 },
		func(h *api.Head) { h.Size = -1 },
		func(h *api.Head) { h.Size = api.MaxBytes + 1 },
		func(h *api.Head) { h.Kind = 0 },
	}
	for chosen := range 1 << len(faults) {
		h := api.Head{Name: "a", Link: "b", Mode: 1, Size: 2, Kind: 3}
		for i, do := range faults {
			if chosen>>i&1 == 1 {
				do(&h)
			}
		}
		if chosen == 0 {
			wantPrinted(t, "without a fault", h, printed("", "a", "b", 1, 2, 3).bytes())
		} else {
			wantNotPrinted(t, fmt.Sprintf("faults %b", chosen), h)
		}
	}
}

// 13.2: what others read out of a header.
func TestReadByOthers(t *testing.T) {
	for _, h := range []api.Head{
		{Name: "a", Kind: '0'},
		{Name: "usr/bin/tool", Mode: 0o4755, Kind: '0'},
		{Name: "usr/", Mode: 0o755, Kind: '5'},
		{Name: "link", Link: "usr/bin/tool", Mode: 0o777, Kind: '2'},
		{Name: strings.Repeat("d", 155) + "/" + strings.Repeat("n", 100), Link: strings.Repeat("l", 100), Mode: 4095, Kind: '2'},
		{Name: strings.Repeat("some/", 40) + "file", Size: api.MaxBytes, Kind: '0'},
	} {
		b, e := Print(h)
		if e != api.OK {
			t.Errorf("Print of %+v: error %d", h, e)
		}
		got, err := tar.NewReader(bytes.NewReader(append(b, make([]byte, h.Size+1024)...))).Next()
		if err != nil {
			t.Errorf("others read of %+v: %v", h, err)
			continue
		}
		read := api.Head{Name: got.Name, Link: got.Linkname, Mode: int(got.Mode), Size: int(got.Size), Kind: got.Typeflag}
		if read != h || got.Uid != 0 || got.Gid != 0 || got.ModTime.Unix() != 0 {
			t.Errorf("others read %+v, want %+v", read, h)
		}
	}
}
