package tree

import (
	"fmt"
	"slices"
	"testing"

	"sutler/api"
	"sutler/dirs"
	"sutler/disk"
	"sutler/inode"
	"sutler/store"
)

func TestTheChaptersExample(t *testing.T) {
	x := started(t, "a/", "a/f=hi", "l>a", "x>x")
	wantGet(t, x, "l/f", "a/f=hi")
	wantNoGet(t, x, "x/f", api.ErrLoop)
}

func TestFormatAnswersTheStoresErrors(t *testing.T) {
	for _, z := range []size{
		{20, 0, 4}, {20, -1, 4}, {20, 3, 0}, {20, 3, -1}, {4096, 101, 4}, {4096, 3, 257}, {20, 15, 4}, {1, 1, 1}, {6, 1, 1},
		{4096, 1 << 62, 4}, {20, 3, -1 << 63}, {7, 1, 5}, {106, 100, 5},
	} {
		d, _ := disk.New(z.sectors)
		other, _ := disk.New(z.sectors)
		want := store.Format(other, z.capacity, z.inodes)
		wantErr(t, fmt.Sprint(z), want, api.ErrArg)
		wantErr(t, fmt.Sprint(z), Format(d, z.capacity, z.inodes), want)
		wantInt(t, "Ops", d.Ops(), 0)
	}
	wantErr(t, "no disk", Format(nil, 0, 0), api.ErrNil)
	wantErr(t, "a disk that no call made", Format(&disk.Disk{}, 3, 4), api.ErrNil)
}

// sizes are the least and the greatest, and some between.
func sizes() []size {
	return []size{small(), great(), {20, 3, 4}, {7, 1, 1}, {8, 1, 4}, {8, 2, 1}, {9, 2, 5}, {2049, 1, 256}, {106, 100, 1}}
}

func TestFormatMakesAStoreWithTheRoot(t *testing.T) {
	for _, z := range sizes() {
		x, d := fresh(t, z)
		wantInt(t, "Blocks", x.Blocks(), z.room())
		wantInt(t, "Inodes", x.Inodes(), z.inodes-1)
		wantWalk(t, x)
		y := begun(t, x)
		wantGet(t, y, "", "/")
		wantList(t, y, "")
		wantErr(t, "Abort", y.Abort(), api.OK)
		byHand(t, d, func(s *store.Tx) {
			i, e := inode.Get(s, 0)
			wantErr(t, "the inode's Get", e, api.OK)
			if i != (api.Inode{Kind: api.KDir, Mode: 493, Links: 1}) {
				t.Errorf("the root: %v", i)
			}
			if s.Taken(1) {
				t.Errorf("the inode 1 is taken")
			}
		})
	}
}

func TestFormatForgetsWhatWasThere(t *testing.T) {
	_, d := settled(t, small(), "a/", "a/f=hi", "l>a")
	wantErr(t, "Format", Format(d, 20, 9), api.OK)
	x := mounted(t, d)
	wantWalk(t, x)
	wantInt(t, "Blocks", x.Blocks(), size{120, 20, 9}.room())
	wantInt(t, "Inodes", x.Inodes(), 8)
}

func TestFormatWithoutPower(t *testing.T) {
	for n := 0; ; n++ {
		d, _ := disk.New(30)
		d.Limit(n)
		e := Format(d, 3, 4)
		if e == api.OK {
			break
		}
		wantErr(t, "Format", e, api.ErrPower)
		_, e = Mount(d)
		wantErr(t, "Mount without power", e, api.ErrPower)
		for _, pick := range []int{0, 1} {
			c := d.Clone()
			wantErr(t, "Crash", c.Crash(slices.Repeat([]int{pick}, 9)), api.OK)
			if x, e := Mount(c); e == api.OK {
				wantWalk(t, x)
			} else {
				wantErr(t, "Mount", e, api.ErrSuper)
			}
		}
	}
}

func TestMountAnswersTheStoresErrors(t *testing.T) {
	refused := func(what string, d *disk.Disk, want api.Errno) {
		t.Helper()
		x, e := Mount(d)
		if x != nil || e != want {
			t.Errorf("%s: %v, error %d, want %d", what, x, e, want)
		}
	}
	refused("no disk", nil, api.ErrNil)
	refused("a disk that no call made", &disk.Disk{}, api.ErrNil)
	d, _ := disk.New(20)
	refused("no store", d, api.ErrSuper)
	d = formatted(t, small())
	d.Write(0, make([]byte, api.Sector))
	refused("no super", d, api.ErrSuper)
	d = formatted(t, small())
	d.Write(1, make([]byte, api.Sector))
	refused("no log", d, api.ErrLog)
	d = formatted(t, small())
	darken(d)
	refused("no power", d, api.ErrPower)
}

func TestMountWantsADirectoryAsInode0(t *testing.T) {
	for what, do := range map[string]func(x *store.Tx){
		"nothing":               func(x *store.Tx) {},
		"a file":                func(x *store.Tx) { inode.New(x, api.KFile, 0o755) },
		"a file of no bytes":    func(x *store.Tx) { inode.New(x, api.KFile, 0o644) },
		"a link":                func(x *store.Tx) { inode.New(x, api.KLink, 0o777); inode.Write(x, 0, 0, []byte("a")) },
		"an inode without kind": func(x *store.Tx) { x.NewInode() },
		"bytes that are no directory": func(x *store.Tx) {
			inode.New(x, api.KDir, 0o755)
			inode.Write(x, 0, 0, []byte{1, 'a', 0})
		},
		"another one": func(x *store.Tx) {
			inode.New(x, api.KDir, 0o755)
			inode.New(x, api.KDir, 0o755)
			inode.Drop(x, 0)
		},
	} {
		d, _ := disk.New(40)
		wantErr(t, "the store's Format", store.Format(d, 10, 4), api.OK)
		byHand(t, d, do)
		x, e := Mount(d)
		if x != nil || e != api.ErrSuper {
			t.Errorf("%s: %v, error %d", what, x, e)
		}
	}
}

// TestATreeLiesOnInodes holds what a tree writes against the chapter's words, by the layers below.
func TestATreeLiesOnInodes(t *testing.T) {
	_, d := settled(t, small(), "b/", "b/f="+mixed(3000, 0), "b/e/", "a>/b/f", "b/none=")
	byHand(t, d, func(x *store.Tx) {
		wantNode(t, x, 0, api.Inode{Kind: api.KDir, Mode: 493, Links: 1}, printed(t, api.Name{Name: "a", Inode: 4}, api.Name{Name: "b", Inode: 1}))
		wantNode(t, x, 1, api.Inode{Kind: api.KDir, Mode: 493, Links: 1}, printed(t, api.Name{Name: "e", Inode: 3}, api.Name{Name: "f", Inode: 2}, api.Name{Name: "none", Inode: 5}))
		wantNode(t, x, 2, api.Inode{Kind: api.KFile, Mode: 420, Links: 1}, mixed(3000, 0))
		wantNode(t, x, 3, api.Inode{Kind: api.KDir, Mode: 493, Links: 1}, "")
		wantNode(t, x, 4, api.Inode{Kind: api.KLink, Mode: 511, Links: 1}, "/b/f")
		wantNode(t, x, 5, api.Inode{Kind: api.KFile, Mode: 420, Links: 1}, "")
	})
}

func printed(t *testing.T, l ...api.Name) string {
	t.Helper()
	b, e := dirs.Print(l)
	wantErr(t, "Print", e, api.OK)
	return string(b)
}

// wantNode holds an inode against what is known of it, and its bytes; the size is theirs.
func wantNode(t *testing.T, x *store.Tx, n int, want api.Inode, data string) {
	t.Helper()
	want.Size = len(data)
	i, e := inode.Get(x, n)
	if i != want || e != api.OK {
		t.Errorf("the inode %d: %v, error %d, want %v", n, i, e, want)
	}
	b, e := inode.Read(x, n, 0, api.MaxFile)
	if string(b) != data || e != api.OK {
		t.Errorf("the inode %d: %.80q, error %d, want %.80q", n, b, e, data)
	}
	l, e := inode.Blocks(x, n)
	if len(l) != blocks(len(data)) || e != api.OK {
		t.Errorf("the inode %d: %v, error %d", n, l, e)
	}
}

// TestATreeOfInodes reads what was laid by the layers below.
func TestATreeOfInodes(t *testing.T) {
	d := formatted(t, small())
	byHand(t, d, func(x *store.Tx) {
		for n, kind := range []int{api.KLink, api.KFile, api.KDir, api.KFile} {
			inode.New(x, kind, 100+n)
		}
		inode.Write(x, 0, 0, []byte(printed(t, api.Name{Name: "d", Inode: 3}, api.Name{Name: "f", Inode: 2}, api.Name{Name: "l", Inode: 1})))
		inode.Write(x, 1, 0, []byte("d"))
		inode.Write(x, 2, 700, []byte("end"))
		inode.Write(x, 3, 0, []byte(printed(t, api.Name{Name: "g", Inode: 4})))
	})
	x := mounted(t, d)
	wantWalk(t, x, "d/ 2 146", "d/g= 1 147", "f="+string(make([]byte, 700))+"end 1 145", "l>d 3 144")
	y := begun(t, x)
	wantGet(t, y, "l/g", "d/g= 1 147")
	wantList(t, y, "", "d", "f", "l")
}

func TestOneTransactionAtATime(t *testing.T) {
	x, _ := settled(t, small(), "a/")
	for _, end := range []func(y *Tx) api.Errno{(*Tx).Commit, (*Tx).Abort} {
		y := begun(t, x)
		for range 2 {
			z, e := x.Begin()
			if z != nil || e != api.ErrBusy {
				t.Errorf("Begin: %v, error %d", z, e)
			}
			l, e := x.Walk()
			if len(l) != 0 || e != api.ErrBusy {
				t.Errorf("Walk: %v, error %d", l, e)
			}
		}
		wantTree(t, y, "a/")
		wantErr(t, "the end", end(y), api.OK)
		wantWalk(t, x, "a/")
		wantWalk(t, x, "a/")
	}
}

func TestWalkRisesByBytes(t *testing.T) {
	laid := []string{"~=", "aa=", "a/", "a/b/", "a/b!=", "a!b/", "a0>a", "a/b/c=", "a-=", "a/b0=", "a!=", "0/", "A/", "A/z=", "-=", "!/", "!/!="}
	want := []string{"!/", "!/!=", "-=", "0/", "A/", "A/z=", "a/", "a!=", "a!b/", "a-=", "a/b/", "a/b!=", "a/b/c=", "a/b0=", "a0>a", "aa=", "~="}
	x := started(t, laid...)
	wantTree(t, x, want...)
	wantList(t, x, "", "!", "-", "0", "A", "a", "a!", "a!b", "a-", "a0", "aa", "~")
	wantList(t, x, "a", "b", "b!", "b0")
}

func TestWalkHasAllOfAnEntry(t *testing.T) {
	x := started(t)
	wantErr(t, "Mkdir", x.Mkdir("d", 0), api.OK)
	wantErr(t, "Put", x.Put("d/f", "a\x00\xff\n", 4095), api.OK)
	wantErr(t, "Link", x.Link("d/l", "/none/x"), api.OK)
	l, e := x.Walk()
	wantErr(t, "Walk", e, api.OK)
	want := []api.Entry{{Path: "d", Kind: 2}, {Path: "d/f", Kind: 1, Mode: 4095, Data: "a\x00\xff\n"}, {Path: "d/l", Kind: 3, Mode: 511, Data: "/none/x"}}
	if !slices.Equal(l, want) {
		t.Errorf("Walk: %v, want %v", l, want)
	}
}

func TestBlocksAndInodesAreTheStores(t *testing.T) {
	x, d := fresh(t, small())
	room := small().room()
	y := begun(t, x)
	lay(t, y, "a/", "a/f="+mixed(9*256, 0), "e=", "l>a")
	wantInt(t, "Blocks", x.Blocks(), room)
	wantInt(t, "Inodes", x.Inodes(), 23)
	wantErr(t, "Commit", y.Commit(), api.OK)
	wantInt(t, "Blocks", x.Blocks(), room-1-1-10-1)
	wantInt(t, "Inodes", x.Inodes(), 19)
	y = begun(t, x)
	for _, path := range []string{"a/f", "e", "l", "a"} {
		wantErr(t, "Remove", y.Remove(path), api.OK)
	}
	wantErr(t, "Commit", y.Commit(), api.OK)
	wantInt(t, "Blocks", x.Blocks(), room)
	wantInt(t, "Inodes", x.Inodes(), 23)
	darken(d)
	wantInt(t, "Blocks", x.Blocks(), 0)
	wantInt(t, "Inodes", x.Inodes(), 0)
}

func TestCommitAndAbort(t *testing.T) {
	x, d := settled(t, small(), "a/", "a/f=old")
	y := begun(t, x)
	lay(t, y, "a/f=new", "b=")
	wantTree(t, y, "a/", "a/f=new", "b=")
	wantErr(t, "Abort", y.Abort(), api.OK)
	wantOver(t, y)
	wantWalk(t, x, "a/", "a/f=old")
	ops := d.Ops()
	y = begun(t, x)
	lay(t, y, "a/f=new", "b=")
	wantInt(t, "Ops", d.Ops(), ops)
	wantErr(t, "Commit", y.Commit(), api.OK)
	wantOver(t, y)
	wantWalk(t, x, "a/", "a/f=new", "b=")
	wantWalk(t, mounted(t, d), "a/", "a/f=new", "b=")
	ops = d.Ops()
	y = begun(t, x)
	wantErr(t, "Commit of nothing", y.Commit(), api.OK)
	wantInt(t, "Ops", d.Ops(), ops)
}

func TestACommitOfTooManySectors(t *testing.T) {
	x, d := settled(t, size{60, 6, 8}, "a=old")
	ops := d.Ops()
	y := begun(t, x)
	lay(t, y, "a="+mixed(2000, 0), "b/")
	wantErr(t, "Commit", y.Commit(), api.ErrFull)
	wantOver(t, y)
	wantInt(t, "Ops", d.Ops(), ops)
	wantWalk(t, x, "a=old")
	y = begun(t, x)
	lay(t, y, "b/")
	wantErr(t, "Commit", y.Commit(), api.OK)
	wantWalk(t, x, "a=old", "b/")
}

// TestALogOfFewSectorsIsEnough changes a file that has more sectors than the log, bit by bit: what
// stays is not written.
func TestALogOfFewSectorsIsEnough(t *testing.T) {
	x, _ := settled(t, size{60, 8, 8}, "a=")
	data := ""
	for i := range 20 {
		data += mixed(256, byte(i))
		y := begun(t, x)
		wantErr(t, "Put", y.Put("a", data, 420), api.OK)
		wantErr(t, "Commit", y.Commit(), api.OK)
	}
	data = data[:7*256] + "x" + data[7*256+1:5000]
	y := begun(t, x)
	wantErr(t, "Put", y.Put("a", data, 7), api.OK)
	wantErr(t, "Commit", y.Commit(), api.OK)
	wantWalk(t, x, "a="+data+" 1 7")
}

func TestWithoutPower(t *testing.T) {
	x, d := settled(t, small(), "a/", "a/f=hi", "l>a")
	y := begun(t, x)
	lay(t, y, "b=")
	darken(d)
	for _, path := range []string{"a", "a/f", "l", "l/f", "none", "none/x", "b/x"} {
		wantErr(t, "Mkdir", y.Mkdir(path, 493), api.ErrPower)
		wantErr(t, "Put", y.Put(path, "", 420), api.ErrPower)
		wantErr(t, "Link", y.Link(path, "a"), api.ErrPower)
		wantErr(t, "Remove", y.Remove(path), api.ErrPower)
		wantErr(t, "Rename", y.Rename(path, "c"), api.ErrPower)
		wantNoGet(t, y, path, api.ErrPower)
		wantNoList(t, y, path, api.ErrPower)
	}
	wantNoGet(t, y, "", api.ErrPower)
	wantNoList(t, y, "", api.ErrPower)
	l, e := y.Walk()
	if len(l) != 0 || e != api.ErrPower {
		t.Errorf("Walk: %v, error %d", l, e)
	}
	wantErr(t, "a long path", y.Mkdir(long(201), 493), api.ErrLong)
	wantErr(t, "no path", y.Put("a//b", "", 420), api.ErrName)
	wantErr(t, "the root", y.Mkdir("", 493), api.ErrSame)
	wantErr(t, "the root", y.Put("", "", 420), api.ErrKind)
	wantErr(t, "the root", y.Link("", "a"), api.ErrSame)
	wantErr(t, "the root", y.Remove(""), api.ErrArg)
	wantErr(t, "the root", y.Rename("a", ""), api.ErrArg)
	wantErr(t, "Commit", y.Commit(), api.ErrPower)
	wantOver(t, y)
	l, e = x.Walk()
	if len(l) != 0 || e != api.ErrPower {
		t.Errorf("the tree's Walk: %v, error %d", l, e)
	}
	wantErr(t, "Crash", d.Crash(nil), api.OK)
	wantWalk(t, mounted(t, d), "a/", "a/f=hi", "l>a")
}

func TestWhatNoCallMade(t *testing.T) {
	for _, x := range []*Tree{nil, {}} {
		y, e := x.Begin()
		if y != nil || e != api.ErrNil {
			t.Errorf("Begin: %v, error %d", y, e)
		}
		l, e := x.Walk()
		if len(l) != 0 || e != api.ErrNil {
			t.Errorf("Walk: %v, error %d", l, e)
		}
		wantInt(t, "Blocks", x.Blocks(), 0)
		wantInt(t, "Inodes", x.Inodes(), 0)
	}
	for _, y := range []*Tx{nil, {}, {&store.Tx{}}} {
		wantOver(t, y)
	}
}

func TestATransactionThatIsOverLeavesTheNextOneAlone(t *testing.T) {
	x, _ := settled(t, small(), "a/")
	old := begun(t, x)
	wantErr(t, "Abort", old.Abort(), api.OK)
	y := begun(t, x)
	lay(t, y, "b/")
	wantIdle(t, "the old one", y, func() { wantOver(t, old) })
	wantErr(t, "Commit", y.Commit(), api.OK)
	wantWalk(t, x, "a/", "b/")
}

func TestWhatIsHandedOutIsTheCallers(t *testing.T) {
	x := started(t, "a/", "a/f=hi", "l>a")
	l, _ := x.Walk()
	names, _ := x.List("")
	wantIdle(t, "what was handed out", x, func() {
		for i := range l {
			l[i] = api.Entry{Path: "none"}
		}
		names[0] = "none"
		_ = append(names[:1], "none")
	})
	wantTree(t, x, "a/", "a/f=hi", "l>a")
	wantList(t, x, "", "a", "l")
}
