package tar

import (
	"archive/tar"
	"bytes"
	"fmt"
	"io"
	"math"
	"slices"
	"strings"
	"testing"

	"sutler/api"
)

// 15.2: an archive told by hand.
func TestWriteByHand(t *testing.T) {
	l := []api.Entry{
		{Path: "usr", Kind: api.KDir, Mode: 0o755},
		{Path: "usr/x", Kind: api.KFile, Mode: 0o4711, Data: "abc"},
		{Path: "usr/y", Kind: api.KLink, Mode: 511, Data: "/usr/x"},
		{Path: "e", Kind: api.KFile},
		{Path: "all", Kind: api.KLink, Mode: 511, Data: "/"},
	}
	wantWritten(t, "by hand", l, ustar("", "usr/", "", 0o755, 0, 53)+
		ustar("", "usr/x", "", 0o4711, 3, 48)+noughts("abc")+
		ustar("", "usr/y", "/usr/x", 0o777, 0, 50)+
		ustar("", "e", "", 0, 0, 48)+
		ustar("", "all", "/", 0o777, 0, 50)+
		block+block)
	wantWritten(t, "nil", nil, block+block)
	wantWritten(t, "an empty list", []api.Entry{}, block+block)
}

// 15.2: files of each length at which they have one block more.
func TestWriteSizes(t *testing.T) {
	for _, n := range []int{0, 1, 2, 511, 512, 513, 1023, 1024, 1025, 100000, api.MaxBytes - 1, api.MaxBytes} {
		data := some(n, uint64(n))
		l := []api.Entry{aFile("a", data), aFile("b", data)}
		wantWritten(t, fmt.Sprint(n, " bytes"), l, ustar("", "a", "", 0o640, n, 48)+noughts(data)+ustar("", "b", "", 0o640, n, 48)+noughts(data)+block+block)
	}
	wantNotWritten(t, "too many bytes", aFile("a", some(api.MaxBytes+1, 1)))
}

// 15.2: modes up to the highest one.
func TestWriteModes(t *testing.T) {
	for mode := range 4096 {
		l := []api.Entry{{Path: "a", Kind: api.KFile, Mode: mode}, {Path: "b", Kind: api.KDir, Mode: mode}}
		wantWritten(t, fmt.Sprint("mode ", mode), l, ustar("", "a", "", mode, 0, 48)+ustar("", "b/", "", mode, 0, 53)+block+block)
		if mode != 511 {
			wantNotWritten(t, "a link's mode", api.Entry{Path: "a", Kind: api.KLink, Mode: mode, Data: "/b"})
		}
	}
	for _, mode := range []int{-1, 4096, 0o100644, math.MinInt, math.MaxInt, 1 << 32} {
		for kind, data := range map[int]string{api.KFile: "x", api.KDir: "", api.KLink: "/x"} {
			wantNotWritten(t, "a mode that is none", api.Entry{Path: "a", Kind: kind, Mode: mode, Data: data})
		}
	}
}

// 15.2: names of all lengths, whole or parted at the last / where that may be.
func TestWriteNames(t *testing.T) {
	for n := 1; n <= 200; n++ {
		if n%33 == 0 {
			continue
		}
		p := long(n)
		for _, entry := range []api.Entry{aFile(p, ""), aDir(p), aLink(p, "/x")} {
			name, prefix := p, ""
			if entry.Kind == api.KDir {
				name += "/"
			}
			if len(name) > 100 {
				at := strings.LastIndex(p[:min(len(p), 156)], "/")
				name, prefix = name[at+1:], p[:at]
			}
			kind := map[int]byte{api.KFile: 48, api.KDir: 53, api.KLink: 50}[entry.Kind]
			wantWritten(t, fmt.Sprint(n, " bytes"), []api.Entry{entry}, ustar(prefix, name, entry.Data, entry.Mode, 0, kind)+block+block)
		}
	}
	wantNotWritten(t, "a path of 201 bytes", aFile(long(201), ""))
	wantNotWritten(t, "a directory's path of 201 bytes", aDir(long(201)))
	wantNotWritten(t, "a path of 1000 bytes", aFile(long(1000), ""))
	wantNotWritten(t, "a path that words can't tell", aFile(long(api.MaxBytes+1), ""))
	wantNotWritten(t, "a path not to be parted", aFile(strings.Repeat("n", 101), ""))
}

// 15.2: links of all lengths, in their place up to 100 bytes, by words above that.
func TestWriteLinks(t *testing.T) {
	for n := 1; n <= 200; n++ {
		if n%33 == 0 {
			continue
		}
		to := "/" + long(n)
		want := ustar("", "l", to[:min(n+1, 100)], 0o777, 0, 50)
		if n+1 > 100 {
			r := record("linkpath", to)
			want = ustar("", "pax", "", 420, len(r), 120) + noughts(r) + want
		}
		l := []api.Entry{aFile("f", "x"), aLink("l", to), aLink("m", "/n")}
		wantWritten(t, fmt.Sprint(n+1, " bytes"), l, ustar("", "f", "", 0o640, 1, 48)+noughts("x")+want+ustar("", "m", "/n", 0o777, 0, 50)+block+block)
	}
	r := record("linkpath", "/"+long(200))
	wantWritten(t, "a long path and a long link", []api.Entry{aLink(long(200), "/"+long(200))},
		ustar("", "pax", "", 420, len(r), 120)+noughts(r)+ustar(long(131), long(200)[132:], ("/" + long(200))[:100], 0o777, 0, 50)+block+block)
	wantNotWritten(t, "a link of 201 bytes", aLink("l", "/"+long(201)))
	wantNotWritten(t, "a link that words can't tell", aLink("l", "/"+strings.Repeat("a", api.MaxBytes)))
}

// 15.2: what head.Print refuses of a name or a link is told by words, whatever comes of it.
func TestMembers(t *testing.T) {
	name, to := strings.Repeat("n", 101), strings.Repeat("t", 500)
	path, linkpath := record("path", name), record("linkpath", to)
	for _, c := range []struct {
		what  string
		entry api.Entry
		want  string
	}{
		{"a name", aFile(name, "x"), ustar("", "pax", "", 420, len(path), 120) + noughts(path) + ustar("", name[:100], "", 0o640, 1, 48) + noughts("x")},
		{"a link", aLink("l", to), ustar("", "pax", "", 420, len(linkpath), 120) + noughts(linkpath) + ustar("", "l", to[:100], 511, 0, 50)},
		{"both", aLink(name, to), ustar("", "pax", "", 420, len(path+linkpath), 120) + noughts(path+linkpath) + ustar("", name[:100], to[:100], 511, 0, 50)},
		{"a directory", aDir(name[1:]), ustar("", "pax", "", 420, len(path), 120) + noughts(record("path", name[1:]+"/")) + ustar("", name[1:], "", 0o640, 0, 53)},
		{"neither", aLink("l", to[:100]), ustar("", "l", to[:100], 511, 0, 50)},
		{"a name and a directory's /", aDir(name[2:]), ustar("", name[2:]+"/", "", 0o640, 0, 53)},
	} {
		got, e := members(c.entry)
		if e != api.OK || string(got) != c.want {
			t.Errorf("%s: error %d, %s, want %s", c.what, e, short(string(got)), short(c.want))
		}
	}
}

// 15.2: entries that no archive has.
func TestNotWritten(t *testing.T) {
	for _, kind := range []int{0, -1, 4, 48, 50, 53, 103, 120, 256 + 48, math.MinInt, math.MaxInt} {
		wantNotWritten(t, "a kind that is none", api.Entry{Path: "a", Kind: kind})
		wantNotWritten(t, "a kind that is none", api.Entry{Path: "a", Kind: kind, Mode: 511, Data: "/x"})
	}
	for _, p := range []string{"", ".", "./", "./a", "a/", "/", "/a", "a//b", "a/../b", "..", "a b", "a\x00", "\x00", "a\x80", "\n", strings.Repeat("n", 33), "./a/"} {
		wantNotWritten(t, "a path that is not clean", aFile(p, ""))
		wantNotWritten(t, "a path that is not clean", aDir(p))
		wantNotWritten(t, "a path that is not clean", aLink(p, "/x"))
		wantNotWritten(t, "a path that is not clean, behind others", aDir("d"), aFile("d/f", "x"), aFile(p, ""))
	}
	for _, to := range []string{"", "b", "./b", "//", "/b/", "//b", "/./b", "/.", "/..", "/b/..", "/../b", "/b//c", "/a b", "/\x00", "/b\x00", "\x00", "/" + strings.Repeat("n", 33), ".."} {
		wantNotWritten(t, "a link that would be read otherwise", aLink("a", to))
	}
	wantNotWritten(t, "a directory with data", api.Entry{Path: "a", Kind: api.KDir, Data: "x"})
	wantNotWritten(t, "a directory with a block", api.Entry{Path: "a", Kind: api.KDir, Data: block})
	wantNotWritten(t, "a directory with a header", api.Entry{Path: "a", Kind: api.KDir, Data: file("b", "")})
	for _, first := range []api.Entry{aFile("a", ""), aLink("a", "/")} {
		for _, other := range []api.Entry{aFile("a/b", ""), aLink("a/b", "/"), aDir("a/b"), aFile("a/b/c", "")} {
			wantNotWritten(t, "one under another", first, other)
			wantNotWritten(t, "one under another", other, first)
			wantNotWritten(t, "one under another", other, aDir("b"), first)
		}
		for _, other := range []api.Entry{aFile("a", "x"), aLink("a", "/b"), aDir("a"), first} {
			wantNotWritten(t, "two of one path", first, other)
			wantNotWritten(t, "two of one path", other, aDir("b"), first)
		}
	}
	wantNotWritten(t, "two of one path", aDir("a"), aDir("a"))
}

// 15.2: entries up to MaxItems.
func TestWriteMostEntries(t *testing.T) {
	var l []api.Entry
	want := ""
	for i := range api.MaxItems {
		name := fmt.Sprint("e", i)
		l = append(l, aFile(name, name))
		want += ustar("", name, "", 0o640, len(name), 48) + noughts(name)
	}
	wantWritten(t, "MaxItems", l, want+block+block)
	wantNotWritten(t, "one more", append(slices.Clone(l), aFile("z", ""))...)
	wantNotWritten(t, "one more, the root", append(slices.Clone(l), aDir(""))...)
	wantNotWritten(t, "many more", make([]api.Entry, 100000)...)
	for i := range l {
		l[i].Data = some(api.MaxBytes, 1)
	}
	b, e := Write(l)
	if e != api.OK || len(b) != api.MaxItems*(api.MaxBytes+512)+1024 {
		t.Errorf("the most: error %d, %d bytes", e, len(b))
	}
}

// Rule 4: what is handed in stays as it is, and what is handed out is the caller's own.
func TestWriteSharesNothing(t *testing.T) {
	l := []api.Entry{aDir("d"), aFile("d/f", "x"), aLink("l", "/"+long(150))}
	as := slices.Clone(l)
	first, e := Write(l)
	if e != api.OK || !slices.Equal(l, as) {
		t.Fatalf("error %d, or the entries were changed", e)
	}
	want := string(first)
	clear(first[:cap(first)])
	wantWritten(t, "behind a change of the answer", l, want)
	bad := append(slices.Clone(l), aFile("d/f", "y"))
	as = slices.Clone(bad)
	wantNotWritten(t, "refused", bad...)
	if !slices.Equal(bad, as) {
		t.Error("the entries were changed")
	}
	wantWritten(t, "behind one that was refused", l, want)
}

// 15.1, 15.2: archives as others write and read them.
func TestAsOthersDo(t *testing.T) {
	to := "/" + long(150)
	l := []api.Entry{aDir("d"), aFile("d/f", some(1000, 1)), aLink("d/l", "/d/f"), aLink("m", to), aFile(long(200), "x"), aDir(long(128) + "/d")}
	b, e := Write(l)
	if e != api.OK {
		t.Fatalf("error %d", e)
	}
	r := tar.NewReader(bytes.NewReader(b))
	for _, entry := range l {
		h, err := r.Next()
		if err != nil {
			t.Fatal(err)
		}
		data, err := io.ReadAll(r)
		if err != nil || strings.TrimSuffix(h.Name, "/") != entry.Path || h.Mode != int64(entry.Mode) || string(data)+h.Linkname != entry.Data {
			t.Errorf("another reader reads %s as %s, mode %o, %s: %v", shown([]api.Entry{entry}), h.Name, h.Mode, short(string(data)+h.Linkname), err)
		}
	}
	if _, err := r.Next(); err != io.EOF {
		t.Error(err)
	}
	for _, format := range []tar.Format{tar.FormatUSTAR, tar.FormatPAX} {
		var out bytes.Buffer
		w := tar.NewWriter(&out)
		for _, entry := range l {
			h := &tar.Header{Name: "./" + entry.Path, Mode: int64(entry.Mode), Size: int64(len(entry.Data)), Typeflag: tar.TypeReg, Format: format}
			switch entry.Kind {
			case api.KDir:
				h.Typeflag, h.Name = tar.TypeDir, h.Name+"/"
			case api.KLink:
				h.Typeflag, h.Linkname, h.Size = tar.TypeSymlink, entry.Data, 0
			}
			if format == tar.FormatPAX {
				h.PAXRecords = map[string]string{"a.comment": "told"}
			} else if len(h.Linkname) > 100 {
				h.Linkname = "/m"
			}
			if err := w.WriteHeader(h); err != nil {
				t.Fatal(err)
			}
			if entry.Kind == api.KFile {
				io.WriteString(w, entry.Data)
			}
		}
		w.Close()
		want := slices.Clone(l)
		if format == tar.FormatUSTAR {
			want[3].Data = "/m"
		}
		wantRead(t, fmt.Sprint("another writer's ", format), out.String(), want...)
	}
}
