package tree

import (
	"fmt"
	"slices"
	"strings"
	"testing"

	"sutler/api"
)

// chain is links to links: l1 to what is told, each other one to the one ahead of it.
func chain(count int, to string) []string {
	all := []string{"l1>" + to}
	for i := 2; i <= count; i++ {
		all = append(all, fmt.Sprintf("l%d>l%d", i, i-1))
	}
	return all
}

func TestAChainOfMaxHopsLinks(t *testing.T) {
	for _, to := range []string{"d", "/d"} {
		x := started(t, append(chain(10, to), "d/", "d/f=hi")...)
		for i := range 10 {
			path := fmt.Sprintf("l%d/f", i+1)
			if i+1 > api.MaxHops {
				wantNoGet(t, x, path, api.ErrLoop)
				continue
			}
			wantGet(t, x, path, "d/f=hi")
		}
		wantErr(t, "Put", x.Put("l8/g", "", 420), api.OK)
		wantErr(t, "Put", x.Put("l9/g", "", 420), api.ErrLoop)
		wantErr(t, "Rename", x.Rename("l8/g", "l8/h"), api.OK)
		wantErr(t, "Rename", x.Rename("l9/gone", "l8/h"), api.ErrLoop)
		wantErr(t, "Rename", x.Rename("l8/h", "l9/g"), api.ErrLoop)
		wantList(t, x, "d", "f", "h")
	}
}

func TestMaxHopsLinksOneByOne(t *testing.T) {
	x := started(t, "d/", "d/f=hi", "d/e/", "d/up>/d", "e>d/e", "d/e/back>/e")
	ups := func(n int) string { return "d/" + strings.Repeat("up/", n) }
	for n := range 9 {
		wantGet(t, x, ups(n)+"f", "d/f=hi")
		wantGet(t, x, ups(n)+"up", "d/up>/d")
		wantNoGet(t, x, ups(n)+"gone", api.ErrNone)
		wantErr(t, "Mkdir", x.Mkdir(ups(n)+"new", 493), api.OK)
		wantErr(t, "Remove", x.Remove(ups(n)+"new"), api.OK)
	}
	for _, n := range []int{9, 10, 40} {
		for _, name := range []string{"f", "up", "gone"} {
			wantNoGet(t, x, ups(n)+name, api.ErrLoop)
		}
	}
	wantNoGet(t, x, ups(8)+"f/a", api.ErrKind)
	wantNoGet(t, x, ups(8)+"gone/a", api.ErrNone)
	wantGet(t, x, "e/back/back/back/back", "d/e/back>/e")
	wantNoGet(t, x, "e/back/back/back/back/back", api.ErrLoop)
}

func TestTheNinthLinkIsNotLookedInto(t *testing.T) {
	for _, to := range []string{"gone", "f", "l9", "/gone/a", "f/a"} {
		x := started(t, append(chain(9, to), "f=")...)
		wantNoGet(t, x, "l9/a", api.ErrLoop)
	}
	for to, want := range map[string]api.Errno{"gone": api.ErrNone, "f": api.ErrKind, "f/a": api.ErrKind, "gone/a": api.ErrNone, "l8": api.ErrLoop} {
		x := started(t, append(chain(9, to), "f=")...)
		wantNoGet(t, x, "l8/a", want)
	}
}

func TestLinksToThemselves(t *testing.T) {
	x := started(t, "a>b", "b>/a", "c>c", "d/", "d/d>d", "d/u>/d/u/u", "e>e/e")
	for _, path := range []string{"a/x", "b/x", "c/x", "c/c", "d/d/x", "d/u/x", "e/x", "d/d/d/d"} {
		wantRefusedAlone(t, x, path, api.ErrLoop)
	}
	wantGet(t, x, "d/d", "d/d>d")
	wantGet(t, x, "c", "c>c")
}

// wantRefusedAlone sees to it that calls of a path answer that error.
func wantRefusedAlone(t *testing.T, x *Tx, path string, want api.Errno) {
	t.Helper()
	wantNoGet(t, x, path, want)
	wantNoList(t, x, path, want)
	wantErr(t, "Mkdir "+path, x.Mkdir(path, 493), want)
	wantErr(t, "Put "+path, x.Put(path, "", 420), want)
	wantErr(t, "Link "+path, x.Link(path, "a"), want)
	wantErr(t, "Remove "+path, x.Remove(path), want)
	wantErr(t, "Rename "+path, x.Rename(path, "new"), want)
	wantErr(t, "Rename to "+path, x.Rename("a", path), want)
}

func TestWhereLinksAreGoneFrom(t *testing.T) {
	x := started(t, "d/", "d/e/", "d/e/f=deep", "e/", "e/f=high", "d/r>e", "d/s>/e", "e/r>f", "k>d/e", "q>d/r", "d/e/r>t", "d/e/t/", "d/e/t/g=", "d/t>e/t")
	for path, want := range map[string]string{
		"d/r/f": "d/e/f=deep", "d/s/f": "e/f=high", "k/f": "d/e/f=deep", "q/f": "d/e/f=deep", "k/r/g": "d/e/t/g=",
		"q/r/g": "d/e/t/g=", "d/r/r/g": "d/e/t/g=", "d/t/g": "d/e/t/g=", "d/s/r": "e/r>f", "d/e/r/g": "d/e/t/g=",
		"d/r/t": "d/e/t/",
	} {
		wantGet(t, x, path, want)
	}
	wantNoGet(t, x, "e/r/x", api.ErrKind)
	wantErr(t, "Rename", x.Rename("d/r", "r"), api.OK)
	wantGet(t, x, "r/f", "e/f=high")
	wantNoGet(t, x, "q/f", api.ErrNone)
	wantErr(t, "Rename", x.Rename("d/s", "e/s"), api.OK)
	wantGet(t, x, "e/s/f", "e/f=high")
	wantErr(t, "Rename", x.Rename("e", "d/x"), api.OK)
	wantNoGet(t, x, "r/f", api.ErrNone)
	wantNoGet(t, x, "d/x/s/f", api.ErrNone)
}

func TestALinkIsFollowedOnTheWayAlone(t *testing.T) {
	lines := []string{"d/", "d/f=hi", "l>d", "m>l", "n>d/f"}
	x := started(t, lines...)
	wantNoList(t, x, "l", api.ErrKind)
	wantNoList(t, x, "m", api.ErrKind)
	wantGet(t, x, "m", "m>l")
	wantErr(t, "Put", x.Put("n", "", 420), api.ErrKind)
	wantErr(t, "Mkdir", x.Mkdir("l", 493), api.ErrSame)
	wantErr(t, "Remove", x.Remove("m"), api.OK)
	wantErr(t, "Rename", x.Rename("l", "m"), api.OK)
	wantErr(t, "Remove", x.Remove("n"), api.OK)
	wantTree(t, x, "d/", "d/f=hi", "m>d")
}

// TestThroughALinkItIsAsAlongItsTarget does all calls along the one, and along the other.
func TestThroughALinkItIsAsAlongItsTarget(t *testing.T) {
	base := []string{"d/", "d/e/", "d/e/f=hi", "d/e/g/", "d/l>e", "l>d/e", "k>/l", "d/e/m>/d/e", "top>d"}
	for _, l := range []string{"l", "k", "d/l", "l/m", "k/m/m", "top/e", "top/l"} {
		for what, do := range map[string]func(x *Tx, in string) api.Errno{
			"Mkdir":         func(x *Tx, in string) api.Errno { return x.Mkdir(in+"/new", 7) },
			"Mkdir again":   func(x *Tx, in string) api.Errno { return x.Mkdir(in+"/g", 7) },
			"Put":           func(x *Tx, in string) api.Errno { return x.Put(in+"/new", "new", 7) },
			"Put over":      func(x *Tx, in string) api.Errno { return x.Put(in+"/f", "new", 7) },
			"Put over none": func(x *Tx, in string) api.Errno { return x.Put(in+"/g", "new", 7) },
			"Link":          func(x *Tx, in string) api.Errno { return x.Link(in+"/new", "g") },
			"Remove":        func(x *Tx, in string) api.Errno { return x.Remove(in + "/f") },
			"Remove a link": func(x *Tx, in string) api.Errno { return x.Remove(in + "/m") },
			"Remove none":   func(x *Tx, in string) api.Errno { return x.Remove(in + "/none") },
			"Rename from":   func(x *Tx, in string) api.Errno { return x.Rename(in+"/g", "new") },
			"Rename to":     func(x *Tx, in string) api.Errno { return x.Rename("d/e/f", in+"/g/new") },
			"Rename into":   func(x *Tx, in string) api.Errno { return x.Rename("d/e", in+"/new") },
			"Get":           func(x *Tx, in string) api.Errno { _, e := x.Get(in + "/f"); return e },
			"List":          func(x *Tx, in string) api.Errno { _, e := x.List(in + "/g"); return e },
			"beyond a file": func(x *Tx, in string) api.Errno { return x.Mkdir(in+"/f/new", 7) },
			"beyond none":   func(x *Tx, in string) api.Errno { return x.Mkdir(in+"/none/new", 7) },
		} {
			x, y := started(t, base...), started(t, base...)
			wantErr(t, what+" through "+l, do(x, l), do(y, "d/e"))
			a, _ := x.Walk()
			b, _ := y.Walk()
			wantLines(t, what+" through "+l, lines(a), lines(b))
			g, ge := x.Get(l + "/f")
			h, he := y.Get("d/e/f")
			if what != "Remove a link" && (g != h || ge != he) {
				t.Errorf("%s: Get through %s: %v, error %d, want %v, error %d", what, l, g, ge, h, he)
			}
		}
	}
}

// TestPathsThatAreLongerThanMaxPath are come to by links alone.
func TestPathsThatAreLongerThanMaxPath(t *testing.T) {
	path := long(200)
	x := started(t)
	deepened(t, x, path)
	lay(t, x, path+"/", "l>"+path, "l/l>a", "l/a/", "l/a/f=hi", "k>l/l", "s/", "s/t/", "s/t/u=")
	wantGet(t, x, "l/a", path+"/a/")
	wantGet(t, x, "l/a/f", path+"/a/f=hi")
	wantGet(t, x, "k/f", path+"/a/f=hi")
	wantList(t, x, "l/a", "f")
	wantNoGet(t, x, path+"/a", api.ErrLong)
	wantErr(t, "Rename", x.Rename("s", "l/a/s"), api.OK)
	wantGet(t, x, "k/s/t/u", path+"/a/s/t/u=")
	wantErr(t, "Rename", x.Rename("l/a", "k/s/t/v"), api.ErrArg)
	all, e := x.Walk()
	wantErr(t, "Walk", e, api.OK)
	want := []string{"k>l/l", "l>" + path}
	for _, p := range parents(path) {
		want = append(want, p+"/")
	}
	want = append(want, path+"/", path+"/a/", path+"/a/f=hi", path+"/a/s/", path+"/a/s/t/", path+"/a/s/t/u=", path+"/l>a")
	slices.Sort(want[2:])
	wantLines(t, "Walk", lines(all), want)
	for _, p := range []string{"k/f", "k/s/t/u", "l/a/s/t", "l/a/s", "l/a", "l/l"} {
		wantErr(t, "Remove "+p, x.Remove(p), api.OK)
	}
	wantTree(t, x, append([]string{"k>l/l", "l>" + path}, want[2:len(want)-6]...)...)
}

// TestTheDeepestThereIs has each inode as a directory within another one: all that there is goes into
// a new one, again and again.
func TestTheDeepestThereIs(t *testing.T) {
	tree, d := fresh(t, great())
	name := strings.Repeat("n", 32)
	want := []string{"a/"}
	x := begun(t, tree)
	lay(t, x, "a/")
	for n := range 254 {
		want = append(want, "a"+strings.Repeat("/"+name, n+1)+"/")
		wantErr(t, "Mkdir", x.Mkdir("b", 493), api.OK)
		wantErr(t, "Rename", x.Rename("a", "b/"+name), api.OK)
		wantErr(t, "Rename", x.Rename("b", "a"), api.OK)
		if n%20 == 0 || n == 253 {
			wantErr(t, "Commit", x.Commit(), api.OK)
			x = begun(t, tree)
		}
	}
	wantTree(t, x, want...)
	wantErr(t, "Mkdir", x.Mkdir("b", 493), api.ErrFull)
	tree = mounted(t, d)
	wantWalk(t, tree, want...)
	wantInt(t, "Inodes", tree.Inodes(), 0)
	wantInt(t, "Blocks", tree.Blocks(), great().room()-255)
}
