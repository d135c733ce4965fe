package tree

import (
	"bytes"
	"fmt"
	"slices"
	"strings"
	"testing"

	"sutler/api"
	"sutler/disk"
	"sutler/store"
)

// size is a tree's numbers: of its disk, of its log, and how many inodes there are.
type size struct{ sectors, capacity, inodes int }

// small is the size that most of the tests go by.
func small() size { return size{120, 40, 24} }

// great is the greatest there is.
func great() size { return size{api.MaxSectors, api.MaxLog, api.MaxInodes} }

// room is how many data sectors there are: all behind the super, the log, the maps and the table.
func (z size) room() int {
	return z.sectors - 1 - (1 + z.capacity) - (z.sectors+2047)/2048 - 1 - (z.inodes+3)/4
}

// formatted is a disk with a tree on it, whose free sectors have bytes of their own.
func formatted(t *testing.T, z size) *disk.Disk {
	t.Helper()
	d, e := disk.Load(bytes.Repeat([]byte{0xa5}, z.sectors*api.Sector))
	wantErr(t, "Load", e, api.OK)
	wantErr(t, "Format", Format(d, z.capacity, z.inodes), api.OK)
	return d
}

func mounted(t *testing.T, d *disk.Disk) *Tree {
	t.Helper()
	x, e := Mount(d)
	if e != api.OK || x == nil {
		t.Fatalf("Mount: %v, error %d", x, e)
	}
	return x
}

// fresh is a tree that was just made, and its disk.
func fresh(t *testing.T, z size) (*Tree, *disk.Disk) {
	t.Helper()
	d := formatted(t, z)
	return mounted(t, d), d
}

func begun(t *testing.T, x *Tree) *Tx {
	t.Helper()
	y, e := x.Begin()
	if e != api.OK || y == nil {
		t.Fatalf("Begin: %v, error %d", y, e)
	}
	return y
}

// started is a transaction on a tree that was just made, in which lines were laid.
func started(t *testing.T, lines ...string) *Tx {
	t.Helper()
	x, _ := fresh(t, small())
	y := begun(t, x)
	lay(t, y, lines...)
	return y
}

// settled is a tree with these lines, and its disk.
func settled(t *testing.T, z size, lines ...string) (*Tree, *disk.Disk) {
	t.Helper()
	x, d := fresh(t, z)
	y := begun(t, x)
	lay(t, y, lines...)
	wantErr(t, "Commit", y.Commit(), api.OK)
	return x, d
}

// lay makes entries in order: "d/" a directory, "d/f=hi" a file, "l>d" a link.
func lay(t *testing.T, x *Tx, lines ...string) {
	t.Helper()
	for _, line := range lines {
		wantErr(t, "to lay "+line, layLine(x, line), api.OK)
	}
}

func layLine(x *Tx, line string) api.Errno {
	if path, data, is := strings.Cut(line, "="); is {
		return x.Put(path, data, 0o644)
	}
	if path, target, is := strings.Cut(line, ">"); is {
		return x.Link(path, target)
	}
	return x.Mkdir(strings.TrimSuffix(line, "/"), 0o755)
}

// line is an entry's line; a mode that is not the one that lay gives stands behind it.
func line(x api.Entry) string {
	signs := map[int]string{api.KFile: "=", api.KDir: "/", api.KLink: ">"}
	modes := map[int]int{api.KFile: 0o644, api.KDir: 0o755, api.KLink: 0o777}
	s := x.Path + signs[x.Kind] + x.Data
	if x.Mode != modes[x.Kind] || signs[x.Kind] == "" {
		s += fmt.Sprintf(" %d %o", x.Kind, x.Mode)
	}
	return s
}

func lines(l []api.Entry) []string {
	var all []string
	for _, x := range l {
		all = append(all, line(x))
	}
	return all
}

// darken makes the power go.
func darken(d *disk.Disk) {
	d.Limit(0)
	d.Sync()
}

// byHand changes a store, not by a tree.
func byHand(t *testing.T, d *disk.Disk, do func(x *store.Tx)) {
	t.Helper()
	s, e := store.Mount(d)
	wantErr(t, "the store's Mount", e, api.OK)
	x, e := s.Begin()
	wantErr(t, "the store's Begin", e, api.OK)
	do(x)
	wantErr(t, "the store's Commit", x.Commit(), api.OK)
}

// mixed is a text of so many bytes, which differ from one another and from block to block.
func mixed(count int, c byte) string {
	b := make([]byte, count)
	for i := range b {
		b[i] = byte(i%251+i/256*7) ^ c
	}
	return string(b)
}

// most and tooMuch are as many bytes as a file may have, and one more.
var (
	most    = strings.Repeat("x", api.MaxFile)
	tooMuch = most + "x"
)

// long is a path of so many bytes, which is no multiple of 33.
func long(count int) string {
	name := strings.Repeat("n", api.MaxName) + "/"
	return strings.Repeat(name, count/len(name)) + strings.Repeat("e", count%len(name))
}

// parents are the paths of the directories above a path, the first one first.
func parents(path string) []string {
	var all []string
	for i, c := range path {
		if c == '/' {
			all = append(all, path[:i])
		}
	}
	return all
}

// deepened makes the directories above a path.
func deepened(t *testing.T, x *Tx, path string) {
	t.Helper()
	for _, p := range parents(path) {
		lay(t, x, p+"/")
	}
}

func wantErr(t *testing.T, what string, got, want api.Errno) {
	t.Helper()
	if got != want {
		t.Errorf("%s: error %d, want %d", what, got, want)
	}
}

func wantInt(t *testing.T, what string, got, want int) {
	t.Helper()
	if got != want {
		t.Errorf("%s: %d, want %d", what, got, want)
	}
}

func wantLines(t *testing.T, what string, got, want []string) {
	t.Helper()
	if !slices.Equal(got, want) {
		t.Errorf("%s:\n%.300q, want\n%.300q", what, got, want)
	}
}

// wantTree holds what a transaction has against lines, which are in Walk's order.
func wantTree(t *testing.T, x *Tx, want ...string) {
	t.Helper()
	l, e := x.Walk()
	wantErr(t, "Walk", e, api.OK)
	wantLines(t, "Walk", lines(l), want)
}

// wantWalk holds what a tree has against lines, which are in Walk's order.
func wantWalk(t *testing.T, x *Tree, want ...string) {
	t.Helper()
	l, e := x.Walk()
	wantErr(t, "the tree's Walk", e, api.OK)
	wantLines(t, "the tree's Walk", lines(l), want)
}

func wantGet(t *testing.T, x *Tx, path, want string) {
	t.Helper()
	got, e := x.Get(path)
	if e != api.OK || line(got) != want {
		t.Errorf("Get(%q): %.300q, error %d, want %.300q", path, line(got), e, want)
	}
}

func wantNoGet(t *testing.T, x *Tx, path string, want api.Errno) {
	t.Helper()
	got, e := x.Get(path)
	if e != want || got != (api.Entry{}) {
		t.Errorf("Get(%q): %v, error %d, want %d", path, got, e, want)
	}
}

func wantList(t *testing.T, x *Tx, path string, want ...string) {
	t.Helper()
	got, e := x.List(path)
	if e != api.OK || !slices.Equal(got, want) {
		t.Errorf("List(%q): %q, error %d, want %q", path, got, e, want)
	}
}

func wantNoList(t *testing.T, x *Tx, path string, want api.Errno) {
	t.Helper()
	got, e := x.List(path)
	if e != want || len(got) != 0 {
		t.Errorf("List(%q): %q, error %d, want %d", path, got, e, want)
	}
}

// seen is all that a transaction sees of its store: every sector, and how many are changed.
func seen(t *testing.T, x *Tx) string {
	t.Helper()
	var all []byte
	for at := 0; ; at++ {
		b, e := x.Tx.Read(at)
		if e != api.OK {
			break
		}
		all = append(all, b...)
	}
	return fmt.Sprint(x.Changed()) + string(all)
}

// wantIdle does something and sees to it that a transaction is as it was, to the last bit.
func wantIdle(t *testing.T, what string, x *Tx, do func()) {
	t.Helper()
	was := seen(t, x)
	do()
	if seen(t, x) != was {
		t.Errorf("%s: the transaction is another one", what)
	}
}

// wantOver sees to it that a transaction is of no use to any call, whatever it is called with.
func wantOver(t *testing.T, x *Tx) {
	t.Helper()
	for _, path := range []string{"", "a", "a/b", "..", "/", long(api.MaxPath + 1)} {
		wantErr(t, "Mkdir", x.Mkdir(path, -1), api.ErrNil)
		wantErr(t, "Put", x.Put(path, tooMuch, -1), api.ErrNil)
		wantErr(t, "Link", x.Link(path, ""), api.ErrNil)
		wantErr(t, "Remove", x.Remove(path), api.ErrNil)
		wantErr(t, "Rename", x.Rename(path, "a"), api.ErrNil)
		wantErr(t, "Rename", x.Rename("a", path), api.ErrNil)
		wantNoGet(t, x, path, api.ErrNil)
		wantNoList(t, x, path, api.ErrNil)
	}
	l, e := x.Walk()
	if len(l) != 0 || e != api.ErrNil {
		t.Errorf("Walk: %v, error %d", l, e)
	}
	wantErr(t, "Commit", x.Commit(), api.ErrNil)
	wantErr(t, "Abort", x.Abort(), api.ErrNil)
}
