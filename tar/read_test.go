package tar

import (
	"bytes"
	"fmt"
	"slices"
	"strings"
	"testing"

	"sutler/api"
)

// 15.1, example 1: archives without members.
func TestNoMembers(t *testing.T) {
	wantRead(t, "two empty blocks", block+block)
	wantRead(t, "one empty block", block)
	wantNotRead(t, "no bytes", "", api.ErrShort)
	if got, e := Read(nil); e != api.ErrShort || got != nil {
		t.Errorf("Read of nil: %s, error %d", shown(got), e)
	}
	for _, n := range []int{1, 100, 511} {
		wantNotRead(t, fmt.Sprint(n, " bytes of 0"), block[:n], api.ErrShort)
		wantNotRead(t, fmt.Sprint(n, " other bytes"), some(n, 1), api.ErrShort)
	}
	wantNotRead(t, "a block that is not empty", turned(block, 511, 1), api.ErrHead)
}

// 15.1: an archive of all kinds told by hand.
func TestReadByHand(t *testing.T) {
	all := ustar("", "./", "", 0o755, 0, 53) +
		ustar("", "./usr/", "", 0o755, 0, 53) +
		ustar("usr", "bin/x", "", 0o4755, 3, 48) + whole("abc") +
		ustar("", "usr/y", "./bin/../bin/x", 0o644, 0, 50) +
		ustar("", "pax_global_header", "", 0, 19, 103) + whole("19 path=global/../\n") +
		ustar("", "pax", "", 0o644, 24, 120) + whole("15 path=some/z\n9 size=2\n") +
		ustar("", "cut", "", 0, 0, 48) + whole("hi") +
		block + "what is behind"
	wantRead(t, "by hand", all,
		api.Entry{Path: "usr", Kind: api.KDir, Mode: 0o755},
		api.Entry{Path: "usr/bin/x", Kind: api.KFile, Mode: 0o4755, Data: "abc"},
		api.Entry{Path: "usr/y", Kind: api.KLink, Mode: 0o777, Data: "/usr/bin/x"},
		api.Entry{Path: "some/z", Kind: api.KFile, Data: "hi"})
}

// 15.1: files of each length at which they have one block more.
func TestSizes(t *testing.T) {
	for _, n := range []int{0, 1, 2, 511, 512, 513, 1023, 1024, 1025, 100000, api.MaxBytes - 1, api.MaxBytes} {
		data := some(n, uint64(n))
		what := fmt.Sprint(n, " bytes")
		all := file("a", data)
		wantRead(t, what, all+block, aFile("a", data))
		wantRead(t, what+", twice", all+file("b", data)+block, aFile("a", data), aFile("b", data))
		told := words(record("size", fmt.Sprint(n))) + ustar("", "a", "", 0o640, 77, 48) + whole(data)
		wantRead(t, what+", told by words", told+block, aFile("a", data))
		for _, m := range []string{all, told} {
			wantNotRead(t, what+", no empty block", m, api.ErrShort)
			wantNotRead(t, what+", an empty block that is short", m+block[:511], api.ErrShort)
			wantNotRead(t, what+", cut", m[:len(m)-1], api.ErrShort)
			wantNotRead(t, what+", a block missing", m[:len(m)-512], api.ErrShort)
		}
	}
}

// 15.1: sizes that go beyond the end are told ahead of all else but the header's own error.
func TestSizesBeyondTheEnd(t *testing.T) {
	for kind := 1; kind < 256; kind++ {
		h := ustar("", "/no/path", "", 0, 513, byte(kind))
		wantNotRead(t, fmt.Sprint("kind ", kind, ", too few bytes"), h+block, api.ErrShort)
		wantNotRead(t, fmt.Sprint("kind ", kind, ", one byte too few"), h+block+block[1:], api.ErrShort)
		if kind != 120 && kind != 103 {
			h = words("12 size=513\n") + ustar("", "/no/path", "", 0, 0, byte(kind))
			wantNotRead(t, fmt.Sprint("kind ", kind, ", too few bytes by words"), h+block+block[1:], api.ErrShort)
		}
	}
	wantNotRead(t, "a size beyond MaxBytes", ustar("", "a", "", 0, api.MaxBytes+1, 48)+block, api.ErrHead)
	wantNotRead(t, "a size beyond MaxBytes, though words tell another one", words("9 size=0\n")+ustar("", "a", "", 0, api.MaxBytes+1, 48)+block, api.ErrHead)
	wantNotRead(t, "a size beyond MaxBytes by words", words("15 size=262145\n")+file("a", "")+strings.Repeat(block, 600), api.ErrTar)
}

// 15.1: a header that is none is told, ahead of what is missing behind it.
func TestHeaders(t *testing.T) {
	good := file("a", "data")
	for at := range 512 {
		if at >= 148 && at < 156 {
			continue
		}
		bad := turned(good, at, good[at]+1)
		wantNotRead(t, fmt.Sprint("byte ", at), bad+block, api.ErrHead)
		wantNotRead(t, fmt.Sprint("byte ", at, ", cut"), bad[:512], api.ErrHead)
		wantNotRead(t, fmt.Sprint("byte ", at, ", behind others"), good+file("b", "")+bad+block, api.ErrHead)
		wantNotRead(t, fmt.Sprint("byte ", at, ", behind words"), words("4 =\n")+bad+block, api.ErrHead)
	}
	wantNotRead(t, "an empty name", file("", "")+block, api.ErrHead)
	wantNotRead(t, "an empty name, though words tell one", words("9 path=a\n")+file("", "")+block, api.ErrHead)
}

// 15.1: each kind, and kinds that are none.
func TestKinds(t *testing.T) {
	for kind := range 256 {
		what := fmt.Sprint("kind ", kind)
		m := ofKind(byte(kind), "a", "b", "") + block
		switch kind {
		case 0, 48:
			wantRead(t, what, m, aFile("a", ""))
		case 53:
			wantRead(t, what, m, aDir("a"))
		case 50:
			wantRead(t, what, m, aLink("a", "/b"))
		case 103:
			wantRead(t, what, m)
		default:
			wantNotRead(t, what, m, api.ErrTar)
			wantNotRead(t, what+", no path", ofKind(byte(kind), "..", "..", "")+block, api.ErrTar)
			wantNotRead(t, what+", with bytes", ofKind(byte(kind), "a", "b", "bytes")+block, api.ErrTar)
			wantNotRead(t, what+", behind others", dir("d")+words("4 =\n")+m, api.ErrTar)
		}
	}
}

// 15.1: directories and links have no bytes, whether their header tells so or words do.
func TestMembersWithoutBytes(t *testing.T) {
	for _, kind := range []byte{53, 50} {
		for _, name := range []string{"a", "../no path", "."} {
			what := fmt.Sprintf("kind %d, named %s, ", kind, name)
			wantNotRead(t, what+"with a byte", ofKind(kind, name, "b", "x")+block, api.ErrTar)
			wantNotRead(t, what+"with blocks", ofKind(kind, name, "b", some(1024, 1))+block, api.ErrTar)
			wantNotRead(t, what+"with a byte by words", words("9 size=1\n")+ofKind(kind, name, "b", "")+whole("x")+block, api.ErrTar)
		}
	}
	wantRead(t, "a directory that has no bytes by words", words("9 size=0\n")+ustar("", "a", "", 0o640, 1, 53)+block, aDir("a"))
	wantRead(t, "a link that has no bytes by words", words("9 size=0\n")+ustar("", "a", "b", 0, 1000, 50)+block, aLink("a", "/b"))
}

// 15.1: modes are told, but those of links.
func TestModes(t *testing.T) {
	for _, mode := range []int{0, 1, 0o644, 0o777, 0o4755, 0o7777, 0o100644} {
		all := ustar("", "a", "", mode, 0, 48) + ustar("", "d", "", mode, 0, 53) + ustar("", "l", "a", mode, 0, 50)
		wantRead(t, fmt.Sprintf("mode %o", mode), all+block,
			api.Entry{Path: "a", Kind: api.KFile, Mode: mode % 4096},
			api.Entry{Path: "d", Kind: api.KDir, Mode: mode % 4096},
			api.Entry{Path: "l", Kind: api.KLink, Mode: 511, Data: "/a"})
	}
}

// 15.1: names become clean paths, or are refused.
func TestNames(t *testing.T) {
	for name, want := range map[string]string{"./a/b": "a/b", "a/b/": "a/b", "./a/b/": "a/b", "a": "a"} {
		wantRead(t, name, file(name, "x")+block, aFile(want, "x"))
		wantRead(t, name, dir(name)+block, aDir(want))
		wantRead(t, name, link(name, "/")+block, aLink(want, "/"))
		wantRead(t, name+" by words", words(record("path", name))+file("other", "x")+block, aFile(want, "x"))
	}
	for _, name := range []string{"/a", "..", "a/..", "a/../b", "a//b", "./", ".", "a b", "a/./b", "././a", "a\x80", strings.Repeat("n", 33)} {
		for _, kind := range []byte{48, 50, 53} {
			if kind != 53 || name != "." && name != "./" {
				wantNotRead(t, fmt.Sprintf("%s, kind %d", name, kind), ofKind(kind, name, "..", "")+block, api.ErrPath)
				wantNotRead(t, fmt.Sprintf("%s by words, kind %d", name, kind), words(record("path", name))+ofKind(kind, "a", "..", "")+block, api.ErrPath)
			}
		}
	}
	wantNotRead(t, "an empty path by words", words("8 path=\n")+dir("a")+block, api.ErrPath)
	wantRead(t, "a path of 200 bytes", words(record("path", long(200)))+file("a", "")+block, aFile(long(200), ""))
	wantNotRead(t, "a path of 201 bytes", words(record("path", long(201)))+file("a", "")+block, api.ErrPath)
	wantRead(t, "a name with a prefix", ustar(long(100), long(98), "", 0o640, 0, 48)+block, aFile(long(100)+"/"+long(98), ""))
}

// 15.1: the root is a directory that makes no entry, as often as it is told.
func TestTheRoot(t *testing.T) {
	for _, name := range []string{".", "./"} {
		wantRead(t, "a directory", dir(name)+dir(name)+file("a", "")+dir(name)+block, aFile("a", ""))
		wantNotRead(t, "a file", file(name, "")+block, api.ErrPath)
		wantNotRead(t, "a file with bytes", file(name, "x")+block, api.ErrPath)
		wantNotRead(t, "a link", link(name, "a")+block, api.ErrPath)
		wantRead(t, "a directory by words", words(record("path", name))+dir("a")+file("a", "")+block, aFile("a", ""))
		wantRead(t, "words for the root alone", words("9 path=b\n")+words("4 =\n")+dir(name)+file("a", "")+block, aFile("a", ""))
	}
}

// 15.1: where links lead to.
func TestLinks(t *testing.T) {
	for to, want := range map[string]string{
		"b": "/x/b", "/b": "/b", "..": "/", "../": "/", "/": "/", "//": "/", ".": "/x", "../y/./z/": "/y/z", "../../a": "", "/..": "",
		"": "", "a b": "", "\x80": "", "/" + long(100)[:98]: "/" + long(100)[:98], strings.Repeat("../", 2): "",
	} {
		at := "./x/l"
		told := words(record("linkpath", to)) + link(at, "other")
		if want == "" {
			wantNotRead(t, short(to), link(at, to)+block, api.ErrPath)
			wantNotRead(t, short(to)+" by words", told+block, api.ErrPath)
		} else {
			wantRead(t, short(to), link(at, to)+block, aLink("x/l", want))
			wantRead(t, short(to)+" by words", told+block, aLink("x/l", want))
		}
	}
	for _, n := range []int{98, 100, 101, 196, 197, 200} {
		wantRead(t, fmt.Sprint("a target of ", n), words(record("linkpath", "/"+long(n)))+link("l", "")+block, aLink("l", "/"+long(n)))
	}
	wantNotRead(t, "a target of 201", words(record("linkpath", "/"+long(201)))+link("l", "")+block, api.ErrPath)
	wantRead(t, "a link's text of any length", words(Record("linkpath", strings.Repeat("a/../", 50000)+"b"))+link("l", "")+block, aLink("l", "/b"))
	wantRead(t, "what a file links to tells nothing", ofKind(48, "a", "../../x", "")+ofKind(53, "b", "\x80", "")+block, aFile("a", ""), aDir("b"))
}

// 15.1, 15.4: what may stand beside what.
func TestUnderOneAnother(t *testing.T) {
	link := func(name, _ string) string { return link(name, "/t") }
	dirs := func(name, _ string) string { return dir(name) }
	for i, made := range []func(name, data string) string{file, link} {
		for j, under := range []func(name, data string) string{file, link, dirs} {
			what := fmt.Sprint(i, " and ", j)
			wantNotRead(t, what+", under it", made("a", "")+under("a/b", "")+block, api.ErrPath)
			wantNotRead(t, what+", far under it", made("a", "")+dir("b")+under("a/b/c/d", "")+block, api.ErrPath)
			wantNotRead(t, what+", ahead of it", under("a/b", "")+made("a", "")+block, api.ErrPath)
			wantNotRead(t, what+", far ahead of it", under("x/a/b/c/d", "")+dir("b")+made("x/a", "")+block, api.ErrPath)
			wantNotRead(t, what+", under it and there already", dir("a")+under("a/b", "")+made("a", "")+block, api.ErrPath)
			wantNotRead(t, what+", there already and under it", dir("a")+under("a/b", "")+made("./a/", "")+block, api.ErrPath)
			wantNotRead(t, what+", there already", made("a", "")+under("a", "")+block, api.ErrSame)
			wantNotRead(t, what+", there already", under("a", "")+made("a", "")+block, api.ErrSame)
			if all, e := Read([]byte(made("a", "") + under("ab", "") + under("b/a", "") + made("b/ab", "") + made("aa", "") + block)); len(all) != 5 || e != api.OK {
				t.Errorf("%s, beside it: %s, error %d", what, shown(all), e)
			}
		}
	}
	wantRead(t, "a directory", dir("a")+file("a/b", "")+dir("a/c/d")+dir("a/c")+block, aDir("a"), aFile("a/b", ""), aDir("a/c/d"), aDir("a/c"))
	wantNotRead(t, "a directory twice", dir("a")+dir("a")+block, api.ErrSame)
	wantNotRead(t, "a directory twice, told otherwise", dir("a")+file("a/b", "")+dir("./a/")+block, api.ErrSame)
}

// 15.1: more words for the next member.
func TestWords(t *testing.T) {
	told := func(what string, w string, want ...api.Entry) {
		t.Helper()
		m := file("a", "12345")
		wantRead(t, what, w+m+file("z", "z")+block, append(want, aFile("z", "z"))...)
		wantRead(t, what+", nothing between", w+nothing(comment(600, 1))+m+file("z", "z")+block, append(want, aFile("z", "z"))...)
	}
	told("no records", words(), aFile("a", "12345"))
	told("other keys", words("4 =\n", record("Path", "b"), record("mtime", "1"), record(" path", "b"), record("path ", "b"), record("linkpat", "b")), aFile("a", "12345"))
	told("a path", words("9 path=b\n"), aFile("b", "12345"))
	told("a size", words("9 size=3\n"), aFile("a", "123"))
	told("a link", words(record("linkpath", "..")), aFile("a", "12345"))
	told("a path twice", words("9 path=b\n", "9 path=c\n"), aFile("c", "12345"))
	told("a path twice, no path ahead", words("11 path=..\n", "9 path=c\n"), aFile("c", "12345"))
	told("a path thrice", words("9 path=d\n", "9 path=b\n", "9 size=5\n", "9 path=c\n"), aFile("c", "12345"))
	told("a size twice", words("9 size=4\n", "9 size=3\n"), aFile("a", "123"))
	told("a size twice, the smaller one ahead", words("9 size=3\n", "9 size=4\n"), aFile("a", "1234"))
	told("all of them", words("9 size=3\n", "11 path=bb\n", "9 size=4\n", record("linkpath", "x")), aFile("bb", "1234"))
	told("two members", words("9 path=b\n")+words("9 size=3\n"), aFile("a", "123"))
	told("two members of one key", words("9 path=b\n", "9 size=1\n")+words("9 path=c\n"), aFile("c", "12345"))
	told("two members, the second one without records", words("9 path=b\n")+words(), aFile("a", "12345"))
	told("two members, nothing between them", words("9 path=b\n")+nothing("9 path=x\n")+words("9 size=2\n"), aFile("a", "12"))
	told("three members", words("9 path=b\n")+words("9 path=c\n")+words("9 path=d\n"), aFile("d", "12345"))
	told("the word's own name, link and mode", ustar("..", "..", "..", 4095, 9, 120)+whole("9 path=b\n"), aFile("b", "12345"))
	wantRead(t, "a link twice", words(record("linkpath", ".."), record("linkpath", "x"))+link("l", "y")+link("m", "y")+block, aLink("l", "/x"), aLink("m", "/y"))
	wantRead(t, "two members for a link", words(record("linkpath", "x"))+words("9 path=b\n")+link("l", "y")+block, aLink("b", "/y"))
	wantRead(t, "words for two of three", words("9 path=b\n")+file("a", "")+file("a", "")+words("9 path=c\n")+file("a", "")+block, aFile("b", ""), aFile("a", ""), aFile("c", ""))
	wantRead(t, "words of their own size", words("9 size=1\n")+nothing(comment(1000, 2))+words("9 path=b\n", "9 size=2\n", comment(1000, 3))+file("a", "xyz")+block, aFile("b", "xy"))
	wantRead(t, "a path that makes what follows one beside it", words("9 path=b\n")+file("a", "")+file("a/b", "")+block, aFile("b", ""), aFile("a/b", ""))
}

// 15.1: words that are none.
func TestNoWords(t *testing.T) {
	behind := file("a", "")
	for _, data := range []string{"x", "\n", "9 path=a", "9 path=a\n\n", "9 path=a\n8 path=b\n", "08 path=\n", "9 path:a\n", "5 a=b\n", "1000000 a=b\n", " 4 =\n"} {
		wantNotRead(t, short(data), words(data)+behind+block, api.ErrTar)
		wantNotRead(t, short(data)+", others behind", words(data)+words()+behind+block, api.ErrTar)
		wantNotRead(t, short(data)+", at the end", words(data), api.ErrTar)
		wantNotRead(t, short(data)+", behind nothing but the empty block", words(data)+block, api.ErrTar)
		wantNotRead(t, short(data)+" that tells nothing", nothing(data)+behind+block, api.ErrTar)
		wantNotRead(t, short(data)+" that tells nothing, behind words", words()+nothing("4 =\n", data)+behind+block, api.ErrTar)
		wantNotRead(t, short(data)+" that tells nothing, at the end", behind+nothing(data), api.ErrTar)
		wantRead(t, short(data)+" behind the records", words()+behind+block, aFile("a", ""))
	}
	for _, size := range []string{"", "x", "1x", "-1", "+1", " 1", "1 ", "00", "01", "262145", "999999999", "1000000000", "0000000001", "18446744073709551616", "0x1", "1\n", "1=", "\u0661"} {
		bad := record("size", size)
		wantNotRead(t, "size "+size, words(bad)+behind+block, api.ErrTar)
		wantNotRead(t, "size "+size+", a good one behind", words(bad, "9 size=0\n")+behind+block, api.ErrTar)
		wantNotRead(t, "size "+size+", a good one ahead", words("9 size=0\n", bad)+behind+block, api.ErrTar)
		wantNotRead(t, "size "+size+", other words behind", words(bad)+words("9 size=0\n")+behind+block, api.ErrTar)
		wantNotRead(t, "size "+size+", of nothing", words(bad)+nothing("")+link("a", "b")+block, api.ErrTar)
		wantRead(t, "size "+size+", told to nothing", nothing(bad, "9 path=b\n")+words()+nothing("9 size=0\n", bad)+behind+block, aFile("a", ""))
		wantRead(t, "size "+size+", another key", words(record("Size", size), record("size ", size), record("", "size="+size))+behind+block, aFile("a", ""))
	}
	for _, w := range []string{words(), words("4 =\n"), words("9 path=b\n"), words("9 path=b\n") + nothing("4 =\n"), words() + words(), behind + words("9 size=0\n")} {
		wantNotRead(t, "words that no member follows", w+block, api.ErrTar)
		wantNotRead(t, "words that no member follows ahead of the end", w+block+behind+block, api.ErrTar)
		wantNotRead(t, "words that nothing follows", w, api.ErrShort)
		wantNotRead(t, "words that too little follows", w+block[:511], api.ErrShort)
		if got, e := Read([]byte(w + link("l", "x") + block)); e != api.OK || len(got) == 0 {
			t.Errorf("words that a member follows: error %d, %s", e, shown(got))
		}
	}
}

// 15.1: sizes by words with so many digits as they may have.
func TestSizesByWords(t *testing.T) {
	for _, size := range []int{0, 1, 9, 10, 99, 100, 512, 1000, 10000, 100000, 262143, 262144} {
		data := some(size, 5)
		wantRead(t, fmt.Sprint("size ", size), words(record("size", fmt.Sprint(size)))+file("a", "")+whole(data)+block, aFile("a", data))
	}
	for _, size := range []string{"262145", "300000", "999999", "1000000", "999999999", "4294967296", "18446744073709551616"} {
		wantNotRead(t, "size "+size, words(record("size", size))+file("a", "")+block, api.ErrTar)
	}
}

// 15.1: words of up to as many bytes as a member has.
func TestManyWords(t *testing.T) {
	for _, n := range []int{api.MaxBytes, 100000, 99999, 10000} {
		digits := fmt.Sprint(n - 18)
		r := digits + " path=" + strings.Repeat("x", n-18-len(digits)-len(" path=\n")) + "\n"
		wantRead(t, fmt.Sprint(n, " bytes"), words("9 path=b\n", r, "9 path=c\n")+file("a", "x")+block, aFile("c", "x"))
		wantNotRead(t, fmt.Sprint(n, " bytes, the long one last"), words("9 path=b\n", "9 path=c\n", r)+file("a", "x")+block, api.ErrPath)
	}
	many := strings.Repeat("4 =\n", api.MaxBytes/4)
	wantRead(t, "many records", words(many)+file("a", "x")+block, aFile("a", "x"))
	wantNotRead(t, "many records, the last one of which is none", words(many[1:])+file("a", "x")+block, api.ErrTar)
}

// 15.1: entries up to MaxItems.
func TestMostEntries(t *testing.T) {
	all := ""
	var want []api.Entry
	for i := range api.MaxItems {
		switch name := fmt.Sprint("d/e", i); i % 3 {
		case 0:
			all += file(name, "x")
			want = append(want, aFile(name, "x"))
		case 1:
			all += dir(".") + dir(name)
			want = append(want, aDir(name))
		default:
			all += nothing("9 path=x\n") + words(record("linkpath", "y")) + link(name, "x")
			want = append(want, aLink(name, "/d/y"))
		}
	}
	wantRead(t, "MaxItems", all+block, want...)
	wantRead(t, "MaxItems and nothing", all+nothing("9 path=x\n")+nothing()+block, want...)
	for _, m := range []string{file("z", ""), file("/no/path", ""), dir("z"), dir("./"), dir("."), link("z", ""), file("d/e0", ""), file("d", ""), link(".", "")} {
		wantNotRead(t, "one member more", all+m+block, api.ErrTar)
		wantNotRead(t, "one member more and words", all+words()+m+block, api.ErrTar)
		wantNotRead(t, "one member more, cut", all+m, api.ErrTar)
		wantNotRead(t, "one member more, beyond the end", all+words("9 size=1\n")+m+block[1:], api.ErrShort)
		wantNotRead(t, "one member more, no header", all+turned(m, 0, 0)+block, api.ErrHead)
	}
	wantNotRead(t, "words alone", all+words()+block, api.ErrTar)
	wantNotRead(t, "no words", all+words("x")+block, api.ErrTar)
	wantNotRead(t, "no empty block", all, api.ErrShort)
}

// 15.1: of several faults the first member's is told, and of one member's the one that is named first.
func TestSeveralFaults(t *testing.T) {
	faults := []struct {
		member string
		e      api.Errno
	}{
		{turned(file("a", ""), 0, 'b'), api.ErrHead},
		{file("/a", ""), api.ErrPath},
		{ofKind(49, "/a", "", ""), api.ErrTar},
		{words("x"), api.ErrTar},
		{nothing("x"), api.ErrTar},
		{dir("there"), api.ErrSame},
		{file("there/under", "x"), api.ErrPath},
		{link("l", "../.."), api.ErrPath},
		{link("there", "../.."), api.ErrSame},
		{ofKind(53, "there/under", "", "x"), api.ErrTar},
	}
	for i, f := range faults {
		for j, g := range faults {
			wantNotRead(t, fmt.Sprint(i, " ahead of ", j), file("there", "")+f.member+g.member+block, f.e)
			wantNotRead(t, fmt.Sprint(i, " ahead of ", j, ", cut"), file("there", "")+file("other", "")+f.member+g.member[:100], f.e)
		}
		wantNotRead(t, fmt.Sprint(i, " ahead of a cut one"), file("there", "")+f.member+file("z", "x")[:512], f.e)
		wantNotRead(t, fmt.Sprint(i, " cut"), file("there", "")+f.member[:511], api.ErrShort)
	}
	wantNotRead(t, "under a file, and its target leads out", file("a", "")+link("a/l", "../../..")+block, api.ErrPath)
	wantNotRead(t, "there already, and its target leads out", dir("a")+link("a", "../../..")+block, api.ErrSame)
}

// 15.5: behind the empty block nothing counts.
func TestBehindTheEmptyBlock(t *testing.T) {
	all := dir("d") + file("d/a", some(700, 1)) + link("l", "d") + block
	want := []api.Entry{aDir("d"), aFile("d/a", some(700, 1)), aLink("l", "/d")}
	for _, behind := range []string{"", "x", block, block[1:], block + block, file("d/a", ""), words("x"), some(5000, 1), ofKind(49, "..", "", "")} {
		wantRead(t, "behind the empty block: "+short(behind), all+behind, want...)
		wantRead(t, "behind an empty block alone: "+short(behind), block+behind)
	}
}

// 15.5: cut anywhere ahead of its end, an archive is refused.
func TestCut(t *testing.T) {
	all := dir("d") + words("9 path=b\n") + file("a", some(700, 1)) + nothing("9 path=x\n") + words("9 path=l\n", "15 linkpath=d\n\n") + link("x", "d") + file("c", "") + block
	if _, e := Read([]byte(all)); e != api.ErrPath {
		t.Fatalf("error %d", e)
	}
	all = strings.ReplaceAll(all, "=d\n\n", "=/d\n")
	wantRead(t, "not cut", all, aDir("d"), aFile("b", some(700, 1)), aLink("l", "/d"), aFile("c", ""))
	for n := range len(all) {
		wantNotRead(t, fmt.Sprint("cut at ", n), all[:n], api.ErrShort)
	}
}

// 15.6: members that tell nothing, put in ahead of any member, change nothing.
func TestWhatTellsNothing(t *testing.T) {
	members := []string{
		dir("d"), words("9 path=b\n"), words("9 size=3\n"), file("a", "xyz"), words(record("linkpath", "e"), "12 path=d/l\n"), link("x", "y"), file("c", some(600, 1)), dir("."), block,
	}
	want := []api.Entry{aDir("d"), aFile("a", "xyz"), aLink("d/l", "/d/e"), aFile("c", some(600, 1))}
	wantRead(t, "as it is", strings.Join(members, ""), want...)
	many := strings.Repeat("8 size=\n", api.MaxBytes/8)
	for _, m := range []string{
		nothing(), nothing("4 =\n"), nothing("9 path=q\n", "9 size=1\n", record("linkpath", "q")), nothing("10 size=x\n", "9 size=7\n", "11 size=01\n"),
		nothing("8 path=\n", "11 path=..\n"), nothing(many), nothing(record("", block)), nothing("5 x=\n") + nothing("5 =x\n"), ustar("", "n", "", 0, 0, 103),
	} {
		for at := range members {
			other := slices.Insert(slices.Clone(members), at, m)
			wantRead(t, fmt.Sprint("put in at ", at), strings.Join(other, ""), want...)
			wantNotRead(t, fmt.Sprint("put in at ", at, ", cut"), strings.Join(other[:at+1], "")[:512*(at+1)-1], api.ErrShort)
		}
	}
	for _, m := range []string{nothing("x"), nothing(block), nothing(many[1:]), nothing(many[:len(many)-1]), nothing("4 =\n", "08 path=\n")} {
		for at := range members {
			other := slices.Insert(slices.Clone(members), at, m)
			wantNotRead(t, fmt.Sprint("no records put in at ", at), strings.Join(other, ""), api.ErrTar)
			wantNotRead(t, fmt.Sprint("no records put in at ", at, ", nothing behind"), strings.Join(other[:at+1], ""), api.ErrTar)
			cut := strings.Join(other[:at+1], "")
			wantNotRead(t, fmt.Sprint("no records put in at ", at, ", cut"), cut[:len(cut)-1], api.ErrShort)
		}
	}
}

// Rule 4: what is handed in stays as it is, and what is handed out is the caller's own.
func TestReadSharesNothing(t *testing.T) {
	all := file("a", "xyz") + words("9 path=b\n") + file("q", "uvw") + block
	b := []byte(all)
	got, e := Read(b)
	if e != api.OK || string(b) != all {
		t.Fatalf("error %d, or the bytes were changed", e)
	}
	clear(b)
	if want := []api.Entry{aFile("a", "xyz"), aFile("b", "uvw")}; !slices.Equal(got, want) {
		t.Errorf("behind a change of the bytes: %s", shown(got))
	}
	clear(got)
	wantRead(t, "behind a change of the answer", all, aFile("a", "xyz"), aFile("b", "uvw"))
	r := []byte("9 path=b\n5 a=\n")
	told, e := Records(r)
	if e != api.OK || string(r) != "9 path=b\n5 a=\n" {
		t.Fatalf("error %d, or the bytes were changed", e)
	}
	clear(r)
	if want := []string{"path", "b", "a", ""}; !slices.Equal(told, want) {
		t.Errorf("behind a change of the bytes: %q", told)
	}
	for n := range len(all) {
		bad := bytes.Clone([]byte(all[:n]))
		Read(bad)
		if string(bad) != all[:n] {
			t.Errorf("cut at %d: the bytes were changed", n)
		}
	}
}
