package tree

import (
	"fmt"
	"slices"
	"testing"

	"sutler/api"
	"sutler/disk"
)

// cutBase is what is there ahead of the transactions that the power is cut in.
func cutBase() []string {
	return []string{"d/", "d/e/", "d/e/f=" + mixed(300, 0), "d/f=in", "f=" + mixed(2200, 1), "l>d/e", "m>/f"}
}

func cutSize() size { return size{90, 30, 14} }

// cuts are transactions that the power is cut in.
func cuts() map[string][]func(x *Tx) api.Errno {
	mkdir := func(path string) func(x *Tx) api.Errno {
		return func(x *Tx) api.Errno { return x.Mkdir(path, 448) }
	}
	put := func(path, data string) func(x *Tx) api.Errno {
		return func(x *Tx) api.Errno { return x.Put(path, data, 384) }
	}
	link := func(path, target string) func(x *Tx) api.Errno {
		return func(x *Tx) api.Errno { return x.Link(path, target) }
	}
	remove := func(path string) func(x *Tx) api.Errno { return func(x *Tx) api.Errno { return x.Remove(path) } }
	rename := func(from, to string) func(x *Tx) api.Errno {
		return func(x *Tx) api.Errno { return x.Rename(from, to) }
	}
	type calls = []func(x *Tx) api.Errno
	return map[string]calls{
		"a mode":           {put("d/f", "in")},
		"a directory":      {mkdir("d/new")},
		"a file":           {put("new", mixed(1000, 2))},
		"a file over":      {put("f", mixed(900, 3))},
		"a link":           {link("l/new", "x")},
		"a removal":        {remove("d/e/f")},
		"a rename":         {rename("d", "a")},
		"another place":    {rename("l/f", "g")},
		"all of the above": {put("f", mixed(2100, 4)), mkdir("l/new"), put("l/new/a", "a"), link("n", "l/new"), put("n/b", mixed(400, 5)), remove("d/f"), rename("d", "a"), remove("m"), rename("a/e/f", "z")},
		"what is undone":   {mkdir("new"), rename("new", "old"), remove("old")},
		"nothing":          {},
	}
}

// whole is all that is told of a tree.
func whole(t *testing.T, x *Tree) string {
	t.Helper()
	l, e := x.Walk()
	wantErr(t, "Walk", e, api.OK)
	return fmt.Sprintf("%q %d %d", lines(l), x.Blocks(), x.Inodes())
}

// behind does calls in a transaction.
func behind(t *testing.T, x *Tree, calls []func(x *Tx) api.Errno) *Tx {
	t.Helper()
	y := begun(t, x)
	for _, call := range calls {
		wantErr(t, "a call", call(y), api.OK)
	}
	return y
}

// remount mounts again and again, each time with the power going behind so many operations, till a
// Mount answers OK.
func remount(t *testing.T, d *disk.Disk, limits []int, picks []int) *Tree {
	t.Helper()
	for _, n := range limits {
		d.Limit(n)
		x, e := Mount(d)
		if e == api.OK {
			d.Limit(-1)
			return x
		}
		if x != nil || e != api.ErrPower {
			t.Fatalf("Mount: %v, error %d", x, e)
		}
		wantErr(t, "Crash", d.Crash(picks), api.OK)
	}
	return mounted(t, d)
}

// choices are several ways to pick what a crash leaves.
func choices() [][]int {
	return [][]int{
		nil, slices.Repeat([]int{1}, 99), slices.Repeat([]int{0, 1}, 50), slices.Repeat([]int{1, 0}, 50),
		slices.Repeat([]int{1, 1, 0}, 33), slices.Repeat([]int{-1, 0, 0, 1, 2}, 20),
	}
}

// limits are where the mountings behind a crash are cut, if they bring home so many sectors.
func limits(sectors, n int) [][]int {
	return [][]int{nil, {n % (sectors + 4)}, {(n + 1) % (sectors + 3), sectors, n % 3}}
}

func TestAllOrNone(t *testing.T) {
	for what, calls := range cuts() {
		x, d := settled(t, cutSize(), cutBase()...)
		old := whole(t, x)
		done := d.Clone()
		x = mounted(t, done)
		y := behind(t, x, calls)
		sectors := y.Changed()
		ops := done.Ops()
		wantErr(t, "Commit", y.Commit(), api.OK)
		ops = done.Ops() - ops
		wanted := whole(t, x)
		if len(calls) > 0 && what != "what is undone" && old == wanted {
			t.Fatalf("%s: nothing is changed", what)
		}
		for n := range ops + 1 {
			for i, picks := range choices() {
				for _, l := range limits(sectors, n+i) {
					c := d.Clone()
					y := behind(t, mounted(t, c), calls)
					c.Limit(n)
					e := y.Commit()
					wantOver(t, y)
					wantErr(t, "Crash", c.Crash(picks), api.OK)
					got := whole(t, remount(t, c, l, picks))
					if got != wanted && (got != old || e == api.OK) || e != api.OK && e != api.ErrPower || n == ops && e != api.OK {
						t.Fatalf("%s, cut behind %d, picks %.5v: error %d, there is\n%.300s, ahead was\n%.300s", what, n, picks, e, got, old)
					}
				}
			}
		}
	}
}

// TestTheEndsOfACommit sees to it that the power does cut: ahead of the header's sync nothing is
// done, behind it all is.
func TestTheEndsOfACommit(t *testing.T) {
	calls := cuts()["all of the above"]
	x, d := settled(t, cutSize(), cutBase()...)
	old := whole(t, x)
	y := behind(t, mounted(t, d.Clone()), calls)
	sectors := y.Changed()
	for n, want := range map[int]bool{0: false, sectors: false, sectors + 1: false, sectors + 3: true, 2*sectors + 5: true} {
		c := d.Clone()
		y := behind(t, mounted(t, c), calls)
		c.Limit(n)
		wantErr(t, "Commit", y.Commit(), api.ErrPower)
		wantErr(t, "Crash", c.Crash(nil), api.OK)
		if got := whole(t, mounted(t, c)); (got != old) != want {
			t.Errorf("cut behind %d of %d: there is\n%.300s", n, 2*sectors+6, got)
		}
	}
}

func TestACrashWhileATransactionGoesOn(t *testing.T) {
	for what, calls := range cuts() {
		x, d := settled(t, cutSize(), cutBase()...)
		old := whole(t, x)
		behind(t, x, calls)
		wantInt(t, "Pending", d.Pending(), 0)
		darken(d)
		wantErr(t, "Crash", d.Crash([]int{1, 1, 1}), api.OK)
		if got := whole(t, mounted(t, d)); got != old {
			t.Errorf("%s: there is\n%.300s, ahead was\n%.300s", what, got, old)
		}
	}
}

// TestLifeGoesOnBehindCrashes commits, is cut, and mounts again, one behind the other.
func TestLifeGoesOnBehindCrashes(t *testing.T) {
	x, d := fresh(t, small())
	var want []string
	for i := range 18 {
		y := begun(t, x)
		made := fmt.Sprintf("f%02d=%s", i, mixed(10*i, byte(i)))
		lay(t, y, made)
		wantErr(t, "Commit", y.Commit(), api.OK)
		want = append(want, made)
		y = begun(t, x)
		lay(t, y, "lost/", "lost/f=lost", "f00=lost")
		d.Limit(i % 7)
		wantErr(t, "Commit", y.Commit(), api.ErrPower)
		_, e := x.Walk()
		wantErr(t, "Walk", e, api.ErrPower)
		wantErr(t, "Crash", d.Crash(slices.Repeat([]int{i, 1}, 9)), api.OK)
		x = mounted(t, d)
		wantWalk(t, x, want...)
		wantInt(t, "Inodes", x.Inodes(), small().inodes-2-i)
	}
}
