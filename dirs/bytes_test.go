package dirs

import (
	"math/rand"
	"slices"
	"strings"
	"testing"

	"sutler/api"
)

// 7.1: Check

func TestCheckOfLengths(t *testing.T) {
	wantErr(t, "Check of no bytes", Check(""), api.ErrName)
	for n := 1; n <= 600; n++ {
		want := api.OK
		if n > 32 {
			want = api.ErrName
		}
		wantErr(t, "Check", Check(strings.Repeat("a", n)), want)
	}
	wantErr(t, "Check of many bytes", Check(strings.Repeat("a", 1<<20)), api.ErrName)
}

func TestCheckOfBytes(t *testing.T) {
	edges := map[byte]api.Errno{0: api.ErrName, 31: api.ErrName, 32: api.ErrName, 33: api.OK, 46: api.OK, 47: api.ErrName, 48: api.OK, 126: api.OK, 127: api.ErrName, 128: api.ErrName, 161: api.ErrName, 254: api.ErrName, 255: api.ErrName}
	for c, want := range edges {
		wantErr(t, "Check of an edge", Check("a"+string([]byte{c})), want)
	}
	long := strings.Repeat("a", 31)
	for c := range 256 {
		x := string([]byte{byte(c)})
		for _, name := range []string{x, x + "a", "a" + x, "a" + x + "a", x + x + x, long + x, x + long} {
			want := api.OK
			if !isName(name) {
				want = api.ErrName
			}
			if got := Check(name); got != want {
				t.Errorf("Check(%q): error %d, want %d", name, got, want)
			}
		}
	}
}

func TestCheckOfNames(t *testing.T) {
	for _, name := range []string{"a", "...", "....", ".a", "a.", "..a", "a..", ".a.", ".-", "usr", "lib-1.0~rc1+b", "!", "~", "\\", "*", "C:", letters[:32], letters[32:64], letters[61:]} {
		if e := Check(name); e != api.OK {
			t.Errorf("Check(%q): error %d", name, e)
		}
	}
	for _, name := range noNames() {
		if e := Check(name); e != api.ErrName {
			t.Errorf("Check(%q): error %d", name, e)
		}
	}
}

// 7.1: Parse

func TestTheExampleOfTheBytes(t *testing.T) {
	wantParse(t, "\x01a\x02\x01", []api.Name{{Name: "a", Inode: 258}})
	wantPrint(t, []api.Name{{Name: "a", Inode: 258}}, "\x01a\x02\x01")
}

func TestParseOfDirectories(t *testing.T) {
	wantParse(t, "\x01a\x00\x00\x02ab\xff\xff\x01b\xff\x00", []api.Name{{Name: "a"}, {Name: "ab", Inode: 65535}, {Name: "b", Inode: 255}})
	wantParse(t, "\x03...\x07\x00\x02.a\x00\x01", []api.Name{{Name: "...", Inode: 7}, {Name: ".a", Inode: 256}})
	for _, l := range goodDirs() {
		wantParse(t, laid(l), l)
	}
}

func TestParseOfNoBytes(t *testing.T) {
	for _, b := range [][]byte{nil, {}} {
		l, e := Parse(b)
		wantErr(t, "Parse of no bytes", e, api.OK)
		wantList(t, "Parse of no bytes", l, nil)
	}
}

func TestParseOfBytesThatEndEarly(t *testing.T) {
	for _, l := range goodDirs() {
		b := laid(l)
		ends := map[int]int{} // where entries end, and how many there are then
		for i := range l {
			ends[len(laid(l[:i]))] = i
		}
		for n := range len(b) {
			if i, ok := ends[n]; ok {
				wantParse(t, b[:n], l[:i])
				continue
			}
			wantNoParse(t, b[:n])
		}
	}
	for _, b := range []string{"\x01", "\x01a", "\x01a\x02", "\x03", "\x03a", "\x03ab", "\x03abc", "\x03abc\x00", "\x20", "\xff"} {
		wantNoParse(t, b)
		wantNoParse(t, "\x01A\x00\x00"+b)
	}
}

func TestParseOfBytesBehindTheLastEntry(t *testing.T) {
	for _, l := range goodDirs() {
		if len(l) == 256 {
			continue
		}
		for c := range 256 {
			wantNoParse(t, laid(l)+string([]byte{byte(c)}))
		}
		for _, rest := range []string{"\x00\x00", "\x00\x00\x00", "\x00\x00\x00\x00", "\x01\x7f\x00\x00", "\x01~\x00", "\xff\xff"} {
			wantNoParse(t, laid(l)+rest)
		}
	}
}

func TestParseOfLengths(t *testing.T) {
	for n := range 256 {
		b := string([]byte{byte(n)}) + strings.Repeat("x", n) + "\x05\x06"
		if n >= 1 && n <= 32 {
			wantParse(t, b, []api.Name{{Name: strings.Repeat("x", n), Inode: 0x605}})
			wantParse(t, "\x01a\x00\x00"+b, []api.Name{{Name: "a"}, {Name: strings.Repeat("x", n), Inode: 0x605}})
			continue
		}
		wantNoParse(t, b)
		wantNoParse(t, "\x01a\x00\x00"+b)
		wantNoParse(t, b+"\x01y\x00\x00")
		wantNoParse(t, b+strings.Repeat("\x01", 300))
	}
}

func TestParseOfTextsThatAreNoNames(t *testing.T) {
	for _, name := range noNames() {
		if len(name) > 255 {
			continue
		}
		wantNoParse(t, entry(name, 1))
		wantNoParse(t, entry(name, 1)+entry("~~", 2))
		wantNoParse(t, entry("!", 1)+entry(name, 2))
	}
	for c := range 256 {
		b := entry("n"+string([]byte{byte(c)})+"n", 9)
		if strings.IndexByte(letters, byte(c)) < 0 {
			wantNoParse(t, b)
		} else {
			wantParse(t, b, []api.Name{{Name: "n" + string([]byte{byte(c)}) + "n", Inode: 9}})
		}
	}
}

func TestParseOfInodes(t *testing.T) {
	for n := 0; n < 65536; n += 1 + n%3 {
		wantParse(t, entry("a", n), []api.Name{{Name: "a", Inode: n}})
	}
	wantParse(t, "\x01a\xff\xff", []api.Name{{Name: "a", Inode: 65535}})
}

// disorder is names of which none may stand right behind the other.
func disorder() [][2]string {
	long := strings.Repeat("x", 32)
	return [][2]string{
		{"a", "a"}, {"b", "a"}, {"ab", "a"}, {"b", "aa"}, {"a", "Z"}, {"aa", "a"}, {"10", "1"}, {"2", "10"}, {"~", "!"},
		{long, long}, {long, long[1:]}, {"...a", "..."}, {".a", ".-"}, {"abcdefgh1", "abcdefgh0"}, {"abcdefghij", "abcdefghi"},
	}
}

func TestEntriesOutOfOrder(t *testing.T) {
	for _, two := range disorder() {
		for _, l := range [][]api.Name{
			entries(two[0], two[1]), entries("!", two[0], two[1]), entries(two[0], two[1], "~~~"), {{Name: two[0], Inode: 3}, {Name: two[1], Inode: 3}},
		} {
			wantNoParse(t, laid(l))
			wantNoPrint(t, l)
		}
	}
	for at := range 255 { // two neighbours of a full directory by turns, or with one name
		l := numbered(256)
		l[at], l[at+1] = l[at+1], l[at]
		wantNoParse(t, laid(l))
		wantNoPrint(t, l)
		l = numbered(256)
		l[at].Name = l[at+1].Name
		wantNoParse(t, laid(l))
		wantNoPrint(t, l)
	}
	wantNoPrint(t, entries("a", "c", "b", "d"))
	wantNoParse(t, laid(entries("a", "c", "b", "d")))
	wantNoPrint(t, entries("a", "b", "a"))
	wantNoParse(t, laid(entries("a", "b", "a")))
}

func TestMoreEntriesThanMaxItems(t *testing.T) {
	for _, count := range []int{0, 1, 254, 255, 256} {
		wantParse(t, laid(numbered(count)), numbered(count))
		wantPrint(t, numbered(count), laid(numbered(count)))
	}
	for _, count := range []int{257, 258, 300, 512, 513, 900} {
		wantNoParse(t, laid(numbered(count)))
		wantNoPrint(t, numbered(count))
	}
	full := laid(numbered(256))
	for _, rest := range []string{"\x00", "\x01", "\x01~", "\x01~\x00", "\x01~\x00\x00", "\x00\x00\x00", "\x04n255\xff\x00"} {
		wantNoParse(t, full+rest)
	}
}

// 7.1: Print

func TestPrintOfDirectories(t *testing.T) {
	wantPrint(t, []api.Name{{Name: "a"}, {Name: "ab", Inode: 65535}, {Name: "b", Inode: 255}}, "\x01a\x00\x00\x02ab\xff\xff\x01b\xff\x00")
	long := strings.Repeat("x", 32)
	wantPrint(t, []api.Name{{Name: long, Inode: 256}}, "\x20"+long+"\x00\x01")
	wantPrint(t, nil, "")
	wantPrint(t, []api.Name{}, "")
	for _, l := range goodDirs() {
		wantPrint(t, l, laid(l))
	}
}

func TestPrintOfTextsThatAreNoNames(t *testing.T) {
	for _, name := range noNames() {
		wantNoPrint(t, entries(name))
		wantNoPrint(t, entries(name, "~~"))
		wantNoPrint(t, entries("!", name))
		wantNoPrint(t, slices.Concat(numbered(100), entries(name), entries("~~")))
	}
}

func TestPrintOfInodes(t *testing.T) {
	for n := 0; n < 65536; n += 1 + n%3 {
		wantPrint(t, []api.Name{{Name: "a", Inode: n}}, entry("a", n))
	}
	wantPrint(t, []api.Name{{Name: "a", Inode: 65535}}, "\x01a\xff\xff")
	for _, n := range noInodes() {
		wantNoPrint(t, []api.Name{{Name: "a", Inode: n}})
		wantNoPrint(t, []api.Name{{Name: "a", Inode: n}, {Name: "b"}})
		wantNoPrint(t, []api.Name{{Name: "a"}, {Name: "b", Inode: n}})
		wantNoPrint(t, append(numbered(255), api.Name{Name: "o", Inode: n}))
	}
}

func TestPrintOfAllThatIsWrongAtOnce(t *testing.T) {
	bad := append(numbered(300), entries("a/b", "", "a", "a")...)
	bad[3].Inode = -1
	wantNoPrint(t, bad)
	slices.Reverse(bad)
	wantNoPrint(t, bad)
}

// 7.1 and 7.3, by other words

func TestParseOfAllShortBytes(t *testing.T) {
	var b []byte
	var grow func()
	grow = func() {
		holdParse(t, string(b))
		if len(b) == 8 {
			return
		}
		for _, c := range []byte("\x00\x01\x02ab") {
			b = append(b, c)
			grow()
			b = b[:len(b)-1]
		}
	}
	grow()
}

// holdParse holds what Parse tells of bytes against the chapter's words, and sees to it that Print
// leads back.
func holdParse(t *testing.T, b string) {
	t.Helper()
	l, whole := unlaid(b)
	if !whole || !isDir(l) {
		wantNoParse(t, b)
		return
	}
	wantParse(t, b, l)
	wantPrint(t, l, b)
}

func TestParseOfBytesThatWereChanged(t *testing.T) {
	r := rand.New(rand.NewSource(7))
	good := goodDirs()
	for range 60000 {
		b := []byte(laid(good[r.Intn(len(good)-3)]))
		for range r.Intn(4) {
			at := r.Intn(len(b) + 1)
			switch r.Intn(3) {
			case 0:
				b = slices.Insert(b, at, byte(r.Intn(256)))
			case 1:
				b = slices.Delete(b, min(at, max(0, len(b)-1)), min(at+1, len(b)))
			case 2:
				if at < len(b) {
					b[at] = byte(r.Intn(256)) >> r.Intn(8)
				}
			}
		}
		holdParse(t, string(b))
	}
}

func TestParseOfAnyBytes(t *testing.T) {
	r := rand.New(rand.NewSource(70))
	for range 60000 {
		b := make([]byte, r.Intn(40))
		for i := range b {
			b[i] = []byte{byte(r.Intn(5)), byte(r.Intn(256)), 'a' + byte(r.Intn(26))}[r.Intn(3)]
		}
		holdParse(t, string(b))
	}
}

func TestPrintOfAllShortLists(t *testing.T) {
	var from []api.Name
	for _, name := range []string{"", ".", "a", "ab", "b", "b/", "b\x7f", strings.Repeat("b", 33)} {
		for _, inode := range []int{-1, 0, 65535, 65536} {
			from = append(from, api.Name{Name: name, Inode: inode})
		}
	}
	lists(from, 3, func(l []api.Name) {
		if !isDir(l) {
			wantNoPrint(t, l)
			return
		}
		wantPrint(t, l, laid(l))
		wantParse(t, laid(l), l)
	})
}

// 7.3

func TestParseAndPrintLeadBack(t *testing.T) {
	for _, l := range goodDirs() {
		b, e := Print(l)
		wantErr(t, "Print", e, api.OK)
		back, e := Parse(b)
		wantErr(t, "Parse", e, api.OK)
		wantList(t, "Parse of what was printed", back, l)
		again, e := Print(back)
		wantErr(t, "Print", e, api.OK)
		if string(again) != string(b) {
			t.Errorf("Print of what was parsed: %q, want %q", again, b)
		}
	}
}
