package tree

import (
	"fmt"
	"slices"
	"strings"
	"testing"

	"sutler/api"
	"sutler/dirs"
	"sutler/disk"
	"sutler/inode"
	"sutler/store"
)

// wantFull sees to it that a call finds no room, that its transaction is over then, and that
// nothing was done.
func wantFull(t *testing.T, what string, x *Tree, do func(y *Tx) api.Errno) {
	t.Helper()
	l, e := x.Walk()
	wantErr(t, "Walk", e, api.OK)
	was, left, inodes := lines(l), x.Blocks(), x.Inodes()
	y := begun(t, x)
	if e := do(y); e != api.ErrFull {
		t.Fatalf("%s: error %d", what, e)
	}
	wantOver(t, y)
	wantWalk(t, x, was...)
	wantInt(t, "Blocks", x.Blocks(), left)
	wantInt(t, "Inodes", x.Inodes(), inodes)
}

// making are the calls that take an inode.
func making(path string) map[string]func(y *Tx) api.Errno {
	return map[string]func(y *Tx) api.Errno{
		"Mkdir": func(y *Tx) api.Errno { return y.Mkdir(path, 493) },
		"Put":   func(y *Tx) api.Errno { return y.Put(path, "", 420) },
		"Link":  func(y *Tx) api.Errno { return y.Link(path, "a") },
	}
}

func TestNoInodesLeft(t *testing.T) {
	for _, z := range []size{{60, 20, 4}, {400, 100, 100}} {
		var lines []string
		for n := range z.inodes - 2 {
			lines = append(lines, fmt.Sprintf("f%d=", n))
		}
		x, _ := settled(t, z, append(lines, "d/")...)
		wantInt(t, "Inodes", x.Inodes(), 0)
		for what, do := range making("new") {
			wantFull(t, what, x, do)
		}
		for what, do := range making("d/new") {
			wantFull(t, what, x, func(y *Tx) api.Errno {
				wantErr(t, "Put", y.Put("f0", "lost", 420), api.OK)
				wantErr(t, "Rename", y.Rename("f1", "d/lost"), api.OK)
				return do(y)
			})
		}
		y := begun(t, x)
		wantErr(t, "Put", y.Put("f0", "hi", 420), api.OK)
		wantErr(t, "Remove", y.Remove("f1"), api.OK)
		wantErr(t, "Mkdir", y.Mkdir("new", 493), api.OK)
		wantErr(t, "Commit", y.Commit(), api.OK)
	}
}

func TestAnotherErrorComesAheadOfNoRoom(t *testing.T) {
	z := size{33, 20, 4}
	x, _ := settled(t, z, "f=", "d/", "l>d")
	y := begun(t, x)
	wantErr(t, "Put", y.Put("f", mixed(256*6+1, 0), 420), api.ErrFull)
	y = begun(t, x)
	wantErr(t, "Put", y.Put("f", mixed(256*6, 0), 420), api.OK)
	wantErr(t, "Commit", y.Commit(), api.OK)
	wantInt(t, "Blocks", x.Blocks(), 0)
	y = begun(t, x)
	wantIdle(t, "a call", y, func() {
		wantErr(t, "Mkdir", y.Mkdir("d", 493), api.ErrSame)
		wantErr(t, "Mkdir", y.Mkdir("new", -1), api.ErrArg)
		wantErr(t, "Mkdir", y.Mkdir("f/new", 493), api.ErrKind)
		wantErr(t, "Put", y.Put("new", "", 4096), api.ErrArg)
		wantErr(t, "Put", y.Put("new", tooMuch, 0), api.ErrLong)
		wantErr(t, "Put", y.Put("f", tooMuch, 0), api.ErrLong)
		wantErr(t, "Put", y.Put("d", "", 0), api.ErrKind)
		wantErr(t, "Link", y.Link("new", ""), api.ErrName)
		wantErr(t, "Link", y.Link("new", long(201)), api.ErrLong)
		wantErr(t, "Link", y.Link("new", "a//b"), api.ErrName)
		wantErr(t, "Rename", y.Rename("f", "l/gone/new"), api.ErrNone)
		wantErr(t, "Rename", y.Rename("d", "d/new"), api.ErrArg)
	})
	wantErr(t, "Put", y.Put("f", mixed(256*6+1, 0), 420), api.ErrFull)
	wantOver(t, y)
}

// TestNoBlocksLeft does calls with any number of blocks left, and sees at which they find room.
func TestNoBlocksLeft(t *testing.T) {
	base := []string{"d/", "d/f=hi", "d/g=", "e/", "e/f=" + mixed(600, 0), "long/", "one/", "one/f="}
	for i := range 8 { // 256 bytes
		base = append(base, fmt.Sprintf("long/%d%s=", i, strings.Repeat("n", 28)))
	}
	for _, c := range []struct {
		what string
		need int
		do   func(y *Tx) api.Errno
	}{
		{"an empty file", 0, func(y *Tx) api.Errno { return y.Put("d/new", "", 420) }},
		{"a file of a byte", 1, func(y *Tx) api.Errno { return y.Put("d/new", "x", 420) }},
		{"a file of three blocks", 3, func(y *Tx) api.Errno { return y.Put("d/new", mixed(513, 0), 420) }},
		{"a file of nine blocks", 10, func(y *Tx) api.Errno { return y.Put("d/new", mixed(9*256, 0), 420) }},
		{"a link", 1, func(y *Tx) api.Errno { return y.Link("d/new", "x") }},
		{"a directory", 0, func(y *Tx) api.Errno { return y.Mkdir("d/new", 493) }},
		{"a greater file", 2, func(y *Tx) api.Errno { return y.Put("e/f", mixed(5*256, 1), 420) }},
		{"a smaller file", 0, func(y *Tx) api.Errno { return y.Put("e/f", mixed(255, 1), 420) }},
		{"a directory's second block", 1, func(y *Tx) api.Errno { return y.Mkdir("long/n", 493) }},
		{"a link in a second block", 2, func(y *Tx) api.Errno { return y.Link("long/n", "x") }},
		{"another name", 0, func(y *Tx) api.Errno { return y.Rename("d/f", "d/a") }},
		{"another directory", 0, func(y *Tx) api.Errno { return y.Rename("d/f", "e/a") }},
		{"a second block's name", 1, func(y *Tx) api.Errno { return y.Rename("d/f", "long/a") }},
		{"one that leaves a block", 0, func(y *Tx) api.Errno { return y.Rename("one/f", "long/a") }},
		{"a longer name", 1, func(y *Tx) api.Errno {
			return y.Rename("long/0"+strings.Repeat("n", 28), "long/"+strings.Repeat("a", 32))
		}},
		{"all that can be gone", 0, func(y *Tx) api.Errno { return y.Remove("d/g") }},
	} {
		for left := range c.need + 3 {
			x, _ := settled(t, size{120, 40, 40}, base...)
			fill(t, x, left)
			if left < c.need {
				wantFull(t, c.what, x, c.do)
				continue
			}
			y := begun(t, x)
			wantErr(t, fmt.Sprint(c.what, " with ", left), c.do(y), api.OK)
			wantErr(t, "Commit", y.Commit(), api.OK)
			if c.need > 0 {
				wantInt(t, c.what+": Blocks", x.Blocks(), left-c.need)
			}
		}
	}
}

// fill takes blocks till so many are left, commit by commit.
func fill(t *testing.T, x *Tree, left int) {
	t.Helper()
	y := begun(t, x)
	wantErr(t, "Put", y.Put("fill", "", 420), api.OK)
	wantErr(t, "Commit", y.Commit(), api.OK)
	for n := 1; x.Blocks() > left; n++ {
		y = begun(t, x)
		if x.Blocks()-left == 1 { // a file's ninth block would bring one of numbers
			wantErr(t, "Put", y.Put("last", "x", 420), api.OK)
		} else {
			wantErr(t, "Put", y.Put("fill", mixed(256*n, 0), 420), api.OK)
		}
		wantErr(t, "Commit", y.Commit(), api.OK)
	}
	wantInt(t, "Blocks", x.Blocks(), left)
}

func TestAsManyNamesAsInodes(t *testing.T) {
	x, d := fresh(t, great())
	var want []string
	for n := range 255 {
		want = append(want, fmt.Sprintf("n%03d%s=", n, strings.Repeat("-", 28)))
	}
	y := begun(t, x)
	for n := range 255 {
		lay(t, y, want[n*7%255])
		if n%80 == 0 {
			wantErr(t, "Commit", y.Commit(), api.OK)
			y = begun(t, x)
		}
	}
	wantTree(t, y, want...)
	wantErr(t, "Commit", y.Commit(), api.OK)
	x = mounted(t, d)
	wantWalk(t, x, want...)
	wantInt(t, "Inodes", x.Inodes(), 0)
	wantInt(t, "Blocks", x.Blocks(), great().room()-blocks(255*35))
	for what, do := range making("new") {
		wantFull(t, what, x, do)
	}
}

// crowded is a tree whose directory d has MaxItems names, all of one file: there are not as many
// inodes, so it takes a store that was changed by hand. A directory e is beside it.
func crowded(t *testing.T) (*Tree, *disk.Disk, []string) {
	t.Helper()
	_, d := settled(t, size{400, 100, 30}, "d/", "d/f=hi", "e/", "e/f=", "f=")
	var l []api.Name
	var names []string
	for n := range api.MaxItems {
		names = append(names, fmt.Sprintf("n%03d", n))
		l = append(l, api.Name{Name: names[n], Inode: 2})
	}
	byHand(t, d, func(x *store.Tx) {
		b, e := dirs.Print(l)
		wantErr(t, "Print", e, api.OK)
		wantErr(t, "the inode's Write", inode.Write(x, 1, 0, b), api.OK)
	})
	return mounted(t, d), d, names
}

func TestADirectoryOfMaxItemsNames(t *testing.T) {
	x, _, names := crowded(t)
	for what, do := range making("d/new") {
		wantFull(t, what, x, do)
	}
	wantFull(t, "Rename", x, func(y *Tx) api.Errno { return y.Rename("f", "d/new") })
	wantFull(t, "Rename", x, func(y *Tx) api.Errno {
		wantErr(t, "Rename", y.Rename("e/f", "g"), api.OK)
		return y.Rename("e", "d/new")
	})
	y := begun(t, x)
	wantIdle(t, "a call", y, func() {
		wantErr(t, "Mkdir", y.Mkdir("d/new", -1), api.ErrArg)
		wantErr(t, "Mkdir", y.Mkdir("d/n255", 493), api.ErrSame)
		wantErr(t, "Put", y.Put("d/new", tooMuch, 1), api.ErrLong)
		wantErr(t, "Link", y.Link("d/new", "/"), api.ErrName)
		wantErr(t, "Rename", y.Rename("f", "d/n000"), api.ErrSame)
	})
	wantList(t, y, "d", names...)
	wantGet(t, y, "d/n255", "d/n255=hi")
	l, e := y.Walk()
	wantErr(t, "Walk", e, api.OK)
	wantInt(t, "Walk", len(l), api.MaxItems+4)
	wantErr(t, "Put", y.Put("d/n100", "new", 420), api.OK)
	wantErr(t, "Rename", y.Rename("d/n100", "d/new"), api.OK)
	names = append(slices.Delete(names, 100, 101), "new")
	wantList(t, y, "d", names...)
	wantErr(t, "Rename", y.Rename("d/n007", "g"), api.OK)
	wantErr(t, "Mkdir", y.Mkdir("d/a", 493), api.OK)
	wantList(t, y, "d", append([]string{"a"}, slices.Delete(names, 7, 8)...)...)
	wantErr(t, "Mkdir", y.Mkdir("d/b", 493), api.ErrFull)
	wantOver(t, y)
}
