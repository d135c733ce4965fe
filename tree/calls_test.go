package tree

import (
	"fmt"
	"strings"
	"testing"

	"sutler/api"
)

// laid is what most of these tests begin with: a directory with a file and a directory in it, a
// file, a link to the directory, one to the file, one to nothing and one to itself.
func laid() []string {
	return []string{"d/", "d/e/", "d/f=in", "f=hi", "l>d", "m>f", "none>gone", "x>x"}
}

// noPaths are texts that are no paths, with their errors; some of them would be refused on the way,
// too.
func noPaths() map[string]api.Errno {
	all := map[string]api.Errno{}
	for _, path := range []string{
		"/", "//", "/d", "d/", "d//e", "d/e/", "//d", "d//", ".", "..", "d/.", "d/..", "./d", "../d", "d/./e", "d/../d",
		" ", "d e", "d/ ", "\n", "d/\x00", "\x7f", "d/\x80", "d/\xff", "é", strings.Repeat("n", 33),
		"d/" + strings.Repeat("n", 33), strings.Repeat("n", 33) + "/d", "f/..", "f//a", "gone//a", "gone/a/", "x/a/", "none/a/..",
		strings.Repeat("/", 200), strings.Repeat("n", 200),
	} {
		all[path] = api.ErrName
	}
	for _, path := range []string{
		long(201), strings.Repeat("/", 201), strings.Repeat("n", 201), strings.Repeat(" ", 1<<16), "f/" + long(199),
		"gone/" + long(200), "/" + long(200), long(200) + "/",
	} {
		all[path] = api.ErrLong
	}
	return all
}

// dead are paths whose way ends, with their errors.
func dead() map[string]api.Errno {
	return map[string]api.Errno{
		"gone/a": api.ErrNone, "d/gone/a": api.ErrNone, "gone/a/b/c": api.ErrNone, "l/gone/a": api.ErrNone, "none/a": api.ErrNone,
		"f/a": api.ErrKind, "d/f/a": api.ErrKind, "l/f/a": api.ErrKind, "m/a": api.ErrKind, "f/a/b": api.ErrKind,
		"x/a": api.ErrLoop, "x/x": api.ErrLoop, "x/gone/a": api.ErrLoop,
		long(200): api.ErrNone,
	}
}

// wantRefused sees to it that all calls of a path answer that error, whatever else might be one.
func wantRefused(t *testing.T, x *Tx, path string, want api.Errno) {
	t.Helper()
	wantIdle(t, fmt.Sprintf("%.40q", path), x, func() {
		for _, mode := range []int{0o644, -1} {
			wantErr(t, "Mkdir", x.Mkdir(path, mode), want)
			wantErr(t, "Put", x.Put(path, "", mode), want)
			wantErr(t, "Put", x.Put(path, tooMuch, mode), want)
		}
		wantErr(t, "Link", x.Link(path, "d"), want)
		wantErr(t, "Link", x.Link(path, "/"), want)
		wantErr(t, "Link", x.Link(path, long(201)), want)
		wantErr(t, "Remove", x.Remove(path), want)
		wantErr(t, "Rename", x.Rename(path, "new"), want)
		wantErr(t, "Rename", x.Rename(path, "d"), want)
		wantErr(t, "Rename", x.Rename(path, "a//b"), want)
		wantErr(t, "Rename to it", x.Rename("d", path), want)
		wantErr(t, "Rename to it", x.Rename("f", path), want)
		wantNoGet(t, x, path, want)
		wantNoList(t, x, path, want)
	})
	if t.Failed() {
		t.Fatalf("with the path %.80q", path)
	}
}

func TestPathsThatAreNone(t *testing.T) {
	x := started(t, laid()...)
	for path, want := range noPaths() {
		wantRefused(t, x, path, want)
	}
	for path, want := range dead() {
		wantRefused(t, x, path, want)
	}
}

func TestMkdir(t *testing.T) {
	x := started(t, laid()...)
	for path, mode := range map[string]int{"a": 0, "d/a": 4095, "d/e/a": 1, "l/b": 0o700, "l/e/b": 0o777} {
		wantErr(t, "Mkdir", x.Mkdir(path, mode), api.OK)
	}
	wantTree(t, x, "a/ 2 0", "d/", "d/a/ 2 7777", "d/b/ 2 700", "d/e/", "d/e/a/ 2 1", "d/e/b/ 2 777", "d/f=in", "f=hi", "l>d", "m>f", "none>gone", "x>x")
	wantIdle(t, "Mkdir", x, func() {
		for _, path := range []string{"", "a", "d", "d/f", "f", "l", "m", "none", "x", "l/f"} {
			for _, mode := range []int{0o755, -1, 4096} {
				wantErr(t, "Mkdir "+path, x.Mkdir(path, mode), api.ErrSame)
			}
		}
		for _, mode := range []int{-1, 4096, -4096, 1 << 16, 1 << 32, 1<<63 - 1, -1 << 63} {
			wantErr(t, "Mkdir", x.Mkdir("new", mode), api.ErrArg)
			wantErr(t, "Mkdir", x.Mkdir("l/new", mode), api.ErrArg)
		}
	})
}

func TestPut(t *testing.T) {
	x := started(t, laid()...)
	for path, data := range map[string]string{
		"none2": "", "d/a": mixed(256, 0), "d/e/a": "\x00\xff", "l/b": mixed(5000, 0), "f": mixed(2048, 1), "l/f": "x",
	} {
		wantErr(t, "Put", x.Put(path, data, 0o644), api.OK)
		got, e := x.Get(path)
		if got.Data != data || e != api.OK {
			t.Errorf("Get(%q): %.80q, error %d, want %.80q", path, got.Data, e, data)
		}
	}
	wantTree(t, x, "d/", "d/a="+mixed(256, 0), "d/b="+mixed(5000, 0), "d/e/", "d/e/a=\x00\xff", "d/f=x", "f="+mixed(2048, 1), "l>d", "m>f", "none>gone", "none2=", "x>x")
	wantIdle(t, "Put", x, func() {
		for _, path := range []string{"", "d", "d/e", "l", "m", "none", "x", "l/e"} {
			for _, mode := range []int{0o644, -1, 4096} {
				wantErr(t, "Put "+path, x.Put(path, "", mode), api.ErrKind)
				wantErr(t, "Put "+path, x.Put(path, tooMuch, mode), api.ErrKind)
			}
		}
		for _, path := range []string{"f", "new", "l/f", "l/new"} {
			for _, mode := range []int{-1, 4096, -4096, 1 << 16, 1 << 32, 1<<63 - 1, -1 << 63} {
				wantErr(t, "Put "+path, x.Put(path, "", mode), api.ErrArg)
				wantErr(t, "Put "+path, x.Put(path, tooMuch, mode), api.ErrArg)
			}
			wantErr(t, "Put "+path, x.Put(path, tooMuch, 0), api.ErrLong)
			wantErr(t, "Put "+path, x.Put(path, strings.Repeat(tooMuch, 3), 4095), api.ErrLong)
		}
	})
}

func TestPutOverAFile(t *testing.T) {
	sizes := []int{0, 1, 255, 256, 257, 2048, 2049, 3000, 137 * 256}
	x, _ := fresh(t, size{400, 100, 4})
	m := empty(size{400, 100, 4})
	for i, from := range sizes {
		for _, to := range sizes {
			y := begun(t, x)
			wantErr(t, "Put", y.Put("f", mixed(from, 1), i), api.OK)
			wantErr(t, "Put", y.Put("f", mixed(to, 2), 4095-i), api.OK)
			wantTree(t, y, fmt.Sprintf("f=%s 1 %o", mixed(to, 2), 4095-i))
			if max(from, to) > 3000 {
				wantErr(t, "Abort", y.Abort(), api.OK)
				continue
			}
			m.write("f", mixed(to, 2), 4095-i)
			wantErr(t, "Commit", y.Commit(), api.OK)
			m.checkTree(t, x)
		}
	}
}

func TestPutOfAllThatAFileMayHave(t *testing.T) {
	x, _ := fresh(t, great())
	y := begun(t, x)
	for range 2 {
		wantErr(t, "Put", y.Put("f", tooMuch, 420), api.ErrLong)
		wantErr(t, "Put", y.Put("f", most, 420), api.OK)
		wantGet(t, y, "f", "f="+most)
	}
	wantErr(t, "Put", y.Put("f", most[1:]+"y", 420), api.OK)
	wantGet(t, y, "f", "f="+most[1:]+"y")
	wantErr(t, "Put", y.Put("f", "", 420), api.OK)
	wantTree(t, y, "f=")
}

func TestLink(t *testing.T) {
	targets := []string{
		"a", "/a", "d/f", "/d/e", "gone", "...", "/...", "a!", strings.Repeat("n", 32), "/" + strings.Repeat("n", 32),
		long(199), long(200), "/" + long(199), "/" + long(200), "l", "l0",
	}
	x := started(t, laid()...)
	for i, target := range targets {
		wantErr(t, "Link", x.Link(fmt.Sprint("l", i), target), api.OK)
		wantGet(t, x, fmt.Sprint("l", i), fmt.Sprint("l", i, ">", target))
		wantErr(t, "Remove", x.Remove(fmt.Sprint("l", i)), api.OK)
	}
	wantErr(t, "Link", x.Link("l/a", "f"), api.OK)
	wantTree(t, x, "d/", "d/a>f", "d/e/", "d/f=in", "f=hi", "l>d", "m>f", "none>gone", "x>x")
	refused := map[string]api.Errno{"": api.ErrName, "/": api.ErrName, "//": api.ErrName, "//a": api.ErrName, "/a/": api.ErrName}
	for text, e := range noPaths() {
		refused["/"+text] = e
		if !strings.HasPrefix(text, "/") {
			refused[text] = e
		}
	}
	wantIdle(t, "Link", x, func() {
		for target, want := range refused {
			wantErr(t, fmt.Sprintf("Link to %.40q", target), x.Link("new", target), want)
			wantErr(t, fmt.Sprintf("Link to %.40q", target), x.Link("l/new", target), want)
			for _, path := range []string{"", "d", "f", "l", "m", "none", "x", "l/f"} {
				wantErr(t, "Link "+path, x.Link(path, target), api.ErrSame)
				wantErr(t, "Link "+path, x.Link(path, "d"), api.ErrSame)
			}
		}
	})
}

func TestRemove(t *testing.T) {
	x := started(t, laid()...)
	wantIdle(t, "Remove", x, func() {
		wantErr(t, "Remove", x.Remove(""), api.ErrArg)
		wantErr(t, "Remove", x.Remove("gone"), api.ErrNone)
		wantErr(t, "Remove", x.Remove("d/gone"), api.ErrNone)
		wantErr(t, "Remove", x.Remove("l/gone"), api.ErrNone)
		wantErr(t, "Remove", x.Remove("d"), api.ErrEmpty)
	})
	left := []string{"d/", "d/e/", "d/f=in", "f=hi", "l>d", "m>f", "none>gone", "x>x"}
	for _, step := range []struct {
		path string
		i    int
	}{{"l/f", 2}, {"f", 2}, {"m", 3}, {"x", 4}, {"none", 3}, {"d/e", 1}, {"d", 0}, {"l", 0}} {
		wantErr(t, "Remove "+step.path, x.Remove(step.path), api.OK)
		left = append(left[:step.i:step.i], left[step.i+1:]...)
		wantTree(t, x, left...)
		wantErr(t, "Remove "+step.path, x.Remove(step.path), api.ErrNone)
	}
	wantErr(t, "Remove", x.Remove("l"), api.ErrNone)
	wantErr(t, "Remove", x.Remove(""), api.ErrArg)
}

func TestRename(t *testing.T) {
	for _, c := range []struct {
		from, to string
		want     []string
	}{
		{"f", "g", []string{"d/", "d/e/", "d/f=in", "g=hi", "l>d", "m>f", "none>gone", "x>x"}},
		{"f", "a", []string{"a=hi", "d/", "d/e/", "d/f=in", "l>d", "m>f", "none>gone", "x>x"}},
		{"f", "d/g", []string{"d/", "d/e/", "d/f=in", "d/g=hi", "l>d", "m>f", "none>gone", "x>x"}},
		{"f", "l/e/f", []string{"d/", "d/e/", "d/e/f=hi", "d/f=in", "l>d", "m>f", "none>gone", "x>x"}},
		{"d/f", "g", []string{"d/", "d/e/", "f=hi", "g=in", "l>d", "m>f", "none>gone", "x>x"}},
		{"l/f", "d/a", []string{"d/", "d/a=in", "d/e/", "f=hi", "l>d", "m>f", "none>gone", "x>x"}},
		{"d/f", "l/a", []string{"d/", "d/a=in", "d/e/", "f=hi", "l>d", "m>f", "none>gone", "x>x"}},
		{"d", "a", []string{"a/", "a/e/", "a/f=in", "f=hi", "l>d", "m>f", "none>gone", "x>x"}},
		{"d", "dd", []string{"dd/", "dd/e/", "dd/f=in", "f=hi", "l>d", "m>f", "none>gone", "x>x"}},
		{"d/e", "d/ee", []string{"d/", "d/ee/", "d/f=in", "f=hi", "l>d", "m>f", "none>gone", "x>x"}},
		{"d/e", "e", []string{"d/", "d/f=in", "e/", "f=hi", "l>d", "m>f", "none>gone", "x>x"}},
		{"l", "l2", []string{"d/", "d/e/", "d/f=in", "f=hi", "l2>d", "m>f", "none>gone", "x>x"}},
		{"l", "l/l", []string{"d/", "d/e/", "d/f=in", "d/l>d", "f=hi", "m>f", "none>gone", "x>x"}},
		{"x", "d/e/x", []string{"d/", "d/e/", "d/e/x>x", "d/f=in", "f=hi", "l>d", "m>f", "none>gone"}},
		{"none", "gone", []string{"d/", "d/e/", "d/f=in", "f=hi", "gone>gone", "l>d", "m>f", "x>x"}},
	} {
		x := started(t, laid()...)
		wantErr(t, "Rename "+c.from+" to "+c.to, x.Rename(c.from, c.to), api.OK)
		wantTree(t, x, c.want...)
		wantErr(t, "Rename "+c.from+" to "+c.to, x.Rename(c.from, c.to), api.ErrNone)
	}
}

func TestRenameRefused(t *testing.T) {
	x := started(t, append(laid(), "d/e/g=", "k>d/e", "de/")...)
	refused := func(from, to string, want api.Errno) {
		t.Helper()
		wantIdle(t, "Rename", x, func() {
			wantErr(t, fmt.Sprintf("Rename %.20q to %.20q", from, to), x.Rename(from, to), want)
		})
	}
	for _, other := range []string{"", "d", "f", "gone", "..", "x/a", "f/a", long(201)} {
		refused("", other, api.ErrArg)
		refused(other, "", api.ErrArg)
	}
	for _, to := range []string{"new", "d", "d/new", "..", "x/a", "f/a", long(201)} {
		refused("gone", to, api.ErrNone)
		refused("l/gone", to, api.ErrNone)
	}
	for _, to := range []string{"d", "f", "l", "m", "none", "x", "d/e", "l/e", "d/f", "k/g"} {
		for _, from := range []string{"d", "f", "l", "m", "x", "d/e", "l/f"} {
			refused(from, to, api.ErrSame)
		}
	}
	for _, to := range []string{"d/new", "d/e/new", "l/new", "l/e/new", "k/new", "d/d", "d/l"} {
		refused("d", to, api.ErrArg)
	}
	refused("d/e", "k/new", api.ErrArg)
	refused("l/e", "d/e/e", api.ErrArg)
	refused("d", "d/gone/new", api.ErrNone)
	refused("d", "d/f/new", api.ErrKind)
	refused("f", "f/new", api.ErrKind)
	refused("d", "x/new", api.ErrLoop)
	for _, c := range [][2]string{{"d/f", "d/e/f"}, {"d/e", "de/e"}, {"d", "de/d"}, {"l", "de/d/l"}} {
		wantErr(t, "Rename "+c[0]+" to "+c[1], x.Rename(c[0], c[1]), api.OK)
	}
}

func TestRenameThereAndBack(t *testing.T) {
	x, _ := settled(t, small(), "d/", "d/f="+mixed(700, 0), "e/", "e/l>d")
	all := []string{"d/", "d/f=" + mixed(700, 0), "e/", "e/l>d"}
	left, inodes := x.Blocks(), x.Inodes()
	y := begun(t, x)
	for _, c := range [][2]string{{"d", "e/d"}, {"e/l", "l"}, {"e/d/f", "f"}, {"e", "a"}} {
		wantErr(t, "Rename", y.Rename(c[0], c[1]), api.OK)
	}
	wantTree(t, y, "a/", "a/d/", "f="+mixed(700, 0), "l>d")
	for _, c := range [][2]string{{"a", "e"}, {"f", "e/d/f"}, {"l", "e/l"}, {"e/d", "d"}} {
		wantErr(t, "Rename", y.Rename(c[0], c[1]), api.OK)
	}
	wantTree(t, y, all...)
	wantErr(t, "Commit", y.Commit(), api.OK)
	wantInt(t, "Blocks", x.Blocks(), left)
	wantInt(t, "Inodes", x.Inodes(), inodes)
}

func TestGet(t *testing.T) {
	x := started(t, append(laid(), "d/e/g=deep", "k>/d/e", "d/up>/l")...)
	for path, want := range map[string]string{
		"": "/", "d": "d/", "d/e": "d/e/", "d/f": "d/f=in", "f": "f=hi", "l": "l>d", "m": "m>f", "none": "none>gone", "x": "x>x",
		"l/e": "d/e/", "l/f": "d/f=in", "l/e/g": "d/e/g=deep", "k/g": "d/e/g=deep", "d/up/f": "d/f=in", "l/up": "d/up>/l",
		"l/up/up/e/g": "d/e/g=deep",
	} {
		wantGet(t, x, path, want)
	}
	for _, path := range []string{"gone", "d/gone", "l/gone", "k/gone", "l/up/gone"} {
		wantNoGet(t, x, path, api.ErrNone)
	}
	got, e := x.Get("")
	if got != (api.Entry{Kind: api.KDir, Mode: 493}) || e != api.OK {
		t.Errorf("Get of the root: %v, error %d", got, e)
	}
}

func TestList(t *testing.T) {
	x := started(t, append(laid(), "d/e/g=", "k>/d/e", "empty/")...)
	wantList(t, x, "", "d", "empty", "f", "k", "l", "m", "none", "x")
	wantList(t, x, "d", "e", "f")
	wantList(t, x, "d/e", "g")
	wantList(t, x, "l/e", "g")
	wantList(t, x, "empty")
	for _, path := range []string{"f", "d/f", "l", "k", "m", "none", "x", "l/f", "k/g"} {
		wantNoList(t, x, path, api.ErrKind)
	}
	for _, path := range []string{"gone", "d/gone", "k/gone"} {
		wantNoList(t, x, path, api.ErrNone)
	}
}

func TestAskingChangesNothing(t *testing.T) {
	x := started(t, laid()...)
	wantIdle(t, "asking", x, func() {
		for _, path := range []string{"", "d", "f", "l", "l/f", "x/a", "gone"} {
			x.Get(path)
			x.List(path)
		}
		x.Walk()
	})
}

func TestNamesOfMaxNameBytes(t *testing.T) {
	name := strings.Repeat("n", 32)
	x := started(t, name+"/", name+"/"+name+"/", name+"/"+name+"/"+name+"=hi", "l>"+name, "d/", "f=")
	wantGet(t, x, "l/"+name+"/"+name, name+"/"+name+"/"+name+"=hi")
	wantList(t, x, "l/"+name, name)
	wantRefused(t, x, name+"n", api.ErrName)
	wantRefused(t, x, "l/"+name+"n", api.ErrName)
	wantRefused(t, x, name+"n/"+name, api.ErrName)
}

func TestPathsOfMaxPathBytes(t *testing.T) {
	path := long(200)
	x := started(t, "d/")
	deepened(t, x, path)
	for _, do := range []func(path string) api.Errno{
		func(path string) api.Errno { return x.Put(path, "hi", 420) },
		func(path string) api.Errno { return x.Mkdir(path, 493) },
		func(path string) api.Errno { return x.Link(path, "a") },
		func(path string) api.Errno { return x.Rename("f", path) },
	} {
		lay(t, x, "f=hi")
		wantErr(t, "201 bytes", do(path+"e"), api.ErrLong)
		wantErr(t, "200 bytes", do(path), api.OK)
		got, e := x.Get(path)
		if got.Path != path || e != api.OK {
			t.Errorf("Get: %v, error %d", got, e)
		}
		wantErr(t, "Rename", x.Rename(path, "a"), api.OK)
		wantErr(t, "Remove", x.Remove("a"), api.OK)
		wantErr(t, "Remove", x.Remove(path), api.ErrNone)
	}
	lay(t, x, path+"/", "f=hi")
	wantList(t, x, path)
	wantRefused(t, x, path+"e", api.ErrLong)
	wantErr(t, "Remove", x.Remove(path), api.OK)
}
