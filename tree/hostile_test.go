package tree

import (
	"bytes"
	"fmt"
	"math/rand"
	"strings"
	"testing"

	"sutler/api"
	"sutler/dirs"
	"sutler/disk"
	"sutler/inode"
	"sutler/store"
)

// A store may have any bytes as directories, links and inodes. What a tree on it answers is not told
// by the document, but for P1: all calls end, and none panics.

// callAll does all calls in a transaction, and sees to it that nothing is told beside an error.
func callAll(t *testing.T, x *Tx, paths ...string) {
	t.Helper()
	for _, path := range paths {
		got, e := x.Get(path)
		if e != api.OK && got != (api.Entry{}) {
			t.Errorf("Get(%q): %v, error %d", path, got, e)
		}
		l, e := x.List(path)
		if e != api.OK && len(l) != 0 {
			t.Errorf("List(%q): %v, error %d", path, l, e)
		}
	}
	for _, path := range paths {
		x.Mkdir(path+"/new", 493)
		x.Put(path+"/newer", "hi", 420)
		x.Put(path, mixed(700, 0), 420)
		x.Link(path+"/newest", "a")
		x.Rename(path, "moved")
		x.Rename("moved", path)
		x.Rename(path, path+"/d/moved")
		x.Remove(path)
	}
	l, e := x.Walk()
	if e != api.OK && len(l) != 0 {
		t.Errorf("Walk: %d entries, error %d", len(l), e)
	}
	x.Commit()
}

// put makes an inode's bytes these names.
func put(t *testing.T, x *store.Tx, n int, l ...api.Name) {
	t.Helper()
	b, e := dirs.Print(l)
	wantErr(t, "Print", e, api.OK)
	wantErr(t, "the inode's Write", inode.Write(x, n, 0, b), api.OK)
}

func TestDirectoriesWithinThemselves(t *testing.T) {
	for what, do := range map[string]func(x *store.Tx){
		"the root in it":       func(x *store.Tx) { put(t, x, 1, api.Name{Name: "d", Inode: 0}) },
		"itself in it":         func(x *store.Tx) { put(t, x, 1, api.Name{Name: "d", Inode: 1}) },
		"itself in it, twice":  func(x *store.Tx) { put(t, x, 1, api.Name{Name: "a", Inode: 1}, api.Name{Name: "d", Inode: 1}) },
		"the root in the root": func(x *store.Tx) { put(t, x, 0, api.Name{Name: "d", Inode: 0}) },
	} {
		_, d := settled(t, small(), "d/", "e/")
		byHand(t, d, do)
		x := mounted(t, d)
		l, e := x.Walk()
		if e == api.OK || len(l) != 0 {
			t.Errorf("%s: Walk: %d entries, error %d", what, len(l), e)
		}
		y := begun(t, x)
		wantGet(t, y, "d/d/d/d", "d/d/d/d/")
		callAll(t, y, "d", "d/d", "d/d/d", strings.Repeat("d/", 99)+"d", "e", "")
	}
}

// TestDirectoriesThatShareTheirs has twice as many paths with each directory.
func TestDirectoriesThatShareTheirs(t *testing.T) {
	_, d := settled(t, small(), "d/")
	byHand(t, d, func(x *store.Tx) {
		for n := 2; n < 24; n++ {
			inode.New(x, api.KDir, 493)
		}
		for n := 1; n < 23; n++ {
			put(t, x, n, api.Name{Name: "a", Inode: n + 1}, api.Name{Name: "d", Inode: n + 1})
		}
	})
	x := mounted(t, d)
	l, e := x.Walk()
	if e == api.OK || len(l) != 0 {
		t.Errorf("Walk: %d entries, error %d", len(l), e)
	}
	callAll(t, begun(t, x), "d/a/d/a", "d/d/d/d")
}

func TestNamesOfNoInodes(t *testing.T) {
	for _, n := range []int{2, 3, 23, 24, 255, 256, 65535} {
		_, d := settled(t, small(), "d/")
		byHand(t, d, func(x *store.Tx) {
			inode.New(x, api.KFile, 420)
			inode.Drop(x, 2)
			put(t, x, 1, api.Name{Name: "f", Inode: n})
		})
		x := mounted(t, d)
		l, e := x.Walk()
		if e == api.OK || len(l) != 0 {
			t.Errorf("Walk: %d entries, error %d", len(l), e)
		}
		y := begun(t, x)
		wantIdle(t, "a call", y, func() {
			wantRefusedAlone(t, y, "d/f", api.ErrNone)
			wantRefusedAlone(t, y, "d/f/a", api.ErrNone)
		})
		wantList(t, y, "d", "f")
	}
}

func TestTargetsThatAreNone(t *testing.T) {
	for _, target := range []string{"", "/", "//", "a//b", "../a", "d/", strings.Repeat("d/", 1<<16) + "d", long(201), "\x00"} {
		_, d := settled(t, small(), "d/", "d/f=hi", "d/d>d", "f=")
		byHand(t, d, func(x *store.Tx) {
			wantErr(t, "the inode's Cut", inode.Cut(x, 3, 0), api.OK)
			wantErr(t, "the inode's Write", inode.Write(x, 3, 0, []byte(target[:min(len(target), 5000)])), api.OK)
		})
		y := begun(t, mounted(t, d))
		for _, path := range []string{"d/d/f", "d/d/d/f"} {
			got, e := y.Get(path)
			if e == api.OK || got != (api.Entry{}) {
				t.Errorf("Get(%q): %v, error %d", path, got, e)
			}
		}
		callAll(t, y, "d/d/f", "d/d", "d")
	}
}

func TestDirectoriesOfOtherBytes(t *testing.T) {
	for _, b := range [][]byte{{0}, {1}, {1, 'a', 0}, {2, '.', '.', 0, 0}, {1, 'b', 1, 0, 1, 'a', 1, 0}, bytes.Repeat([]byte{7}, 3000)} {
		_, d := settled(t, small(), "d/", "d/f=hi", "e=", "l>d")
		byHand(t, d, func(x *store.Tx) {
			wantErr(t, "the inode's Cut", inode.Cut(x, 1, 0), api.OK)
			wantErr(t, "the inode's Write", inode.Write(x, 1, 0, b), api.OK)
		})
		y := begun(t, mounted(t, d))
		wantIdle(t, "a call", y, func() {
			for _, path := range []string{"d/f", "l/f", "d/f/a"} {
				got, e := y.Get(path)
				if e == api.OK || got != (api.Entry{}) {
					t.Errorf("Get(%q): %v, error %d", path, got, e)
				}
				for _, e := range []api.Errno{y.Mkdir(path, 493), y.Put(path, "", 420), y.Link(path, "a"), y.Remove(path), y.Rename(path, "a"), y.Rename("e", path), y.Remove("d")} {
					if e == api.OK {
						t.Errorf("a call of %q is done", path)
					}
				}
			}
		})
		wantGet(t, y, "d", "d/")
		wantErr(t, "Rename", y.Rename("d", "a"), api.OK)
		callAll(t, y, "a", "a/f", "l/f", "e")
	}
}

// broken is a tree one of whose inodes has a block that no disk has.
func broken(t *testing.T, inode int) *Tx {
	t.Helper()
	_, d := settled(t, small(), "d/", "d/f=hi", "f=hi", "l>e", "e/", "e/f=")
	byHand(t, d, func(x *store.Tx) {
		b, e := x.Read(x.Table() + inode/4)
		wantErr(t, "the store's Read", e, api.OK)
		copy(b[64*(inode%4)+10:], "\xff\xff")
		wantErr(t, "the store's Write", x.Write(x.Table()+inode/4, b), api.OK)
	})
	return begun(t, mounted(t, d))
}

func TestBlocksThatThereAreNot(t *testing.T) {
	for n, calls := range map[int]map[string]func(x *Tx) api.Errno{
		1: {
			"List":        func(x *Tx) api.Errno { _, e := x.List("d"); return e },
			"Get":         func(x *Tx) api.Errno { _, e := x.Get("d/f"); return e },
			"Mkdir":       func(x *Tx) api.Errno { return x.Mkdir("d/new", 493) },
			"Put":         func(x *Tx) api.Errno { return x.Put("d/f", "", 420) },
			"Link":        func(x *Tx) api.Errno { return x.Link("d/new", "a") },
			"Remove":      func(x *Tx) api.Errno { return x.Remove("d/f") },
			"Remove d":    func(x *Tx) api.Errno { return x.Remove("d") },
			"Rename from": func(x *Tx) api.Errno { return x.Rename("d/f", "new") },
			"Rename to":   func(x *Tx) api.Errno { return x.Rename("f", "d/new") },
		},
		3: {
			"Get":    func(x *Tx) api.Errno { _, e := x.Get("f"); return e },
			"Put":    func(x *Tx) api.Errno { return x.Put("f", "", 1) },
			"Remove": func(x *Tx) api.Errno { return x.Remove("f") },
		},
		4: {
			"Get":     func(x *Tx) api.Errno { _, e := x.Get("l"); return e },
			"through": func(x *Tx) api.Errno { _, e := x.Get("l/f"); return e },
			"Mkdir":   func(x *Tx) api.Errno { return x.Mkdir("l/new", 493) },
			"Remove":  func(x *Tx) api.Errno { return x.Remove("l") },
		},
	} {
		for what, call := range calls {
			x := broken(t, n)
			wantIdle(t, what, x, func() {
				if e := call(x); e == api.OK {
					t.Errorf("%s, of the inode %d: it is done", what, n)
				}
				l, e := x.Walk()
				if e == api.OK || len(l) != 0 {
					t.Errorf("Walk: %d entries, error %d", len(l), e)
				}
			})
		}
	}
}

// TestAnyBytes changes sectors of a store by chance, the log and the super as well as all others.
func TestAnyBytes(t *testing.T) {
	r := rand.New(rand.NewSource(8))
	_, d := settled(t, small(), "d/", "d/d/", "d/d/f=hi", "d/f="+mixed(3000, 0), "l>d", "d/l>/l", "f=")
	image := d.Image()
	for range 1500 {
		b := bytes.Clone(image)
		for range 1 + r.Intn(6) {
			at := r.Intn(len(b))
			if r.Intn(3) > 0 {
				at = (1 + small().capacity + 1 + r.Intn(20)) * api.Sector
				at += r.Intn(api.Sector)
			}
			b[at] = byte([]int{0, 1, 2, 3, 255, r.Intn(256)}[r.Intn(6)])
		}
		c, e := disk.Load(b)
		wantErr(t, "Load", e, api.OK)
		x, e := Mount(c)
		if e != api.OK {
			if x != nil {
				t.Errorf("Mount: %v, error %d", x, e)
			}
			continue
		}
		y := begun(t, x)
		callAll(t, y, "d", "d/f", "l/d/f", "d/d", "f", fmt.Sprint("l/d/", r.Intn(2)))
	}
}

// TestAnyPaths calls with texts that chance makes of a path's bytes.
func TestAnyPaths(t *testing.T) {
	r := rand.New(rand.NewSource(9))
	x := started(t, "a/", "a/b/", "b>a", "c=", "a/a>/b/b")
	m := empty(small())
	for _, s := range []string{"a", "a/b"} {
		m.mkdir(s, 493)
	}
	m.link("b", "a")
	m.write("c", "", 420)
	m.link("a/a", "/b/b")
	for range 20000 {
		s := make([]byte, r.Intn(9))
		for i := range s {
			s[i] = "aabbc//. \x00"[r.Intn(10)]
		}
		m.ask(t, x, string(s))
		wantErr(t, fmt.Sprintf("Mkdir(%q)", s), x.Mkdir(string(s), -1), m.mkdir(string(s), -1))
		wantErr(t, fmt.Sprintf("Put(%q)", s), x.Put(string(s), "", -1), m.write(string(s), "", -1))
		wantErr(t, fmt.Sprintf("Link(%q)", s), x.Link(string(s), ""), m.link(string(s), ""))
		wantErr(t, fmt.Sprintf("Rename(%q)", s), x.Rename(string(s), "a"), m.clone().rename(string(s), "a"))
	}
}
