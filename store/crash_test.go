package store

import (
	"bytes"
	"slices"
	"testing"

	"sutler/api"
	"sutler/disk"
)

// crashed is the place that the power goes at: a log of capacity 8, the block map at 10, the inode
// map at 11, the table at 12 and 13.
func crashed() place { return place{30, 8, 6, 10, 11, 12, 14} }

// settled is a store in which some is taken already.
func settled(t *testing.T) (*Store, *disk.Disk) {
	t.Helper()
	s, d := fresh(t, crashed())
	x := begun(t, s)
	x.Alloc()
	x.Alloc()
	x.NewInode()
	x.Write(12, mixed(50))
	x.Write(15, mixed(51))
	wantErr(t, "Commit", x.Commit(), api.OK)
	return s, d
}

// changes are what transactions do that the power is cut in, each of a number of sectors.
func changes() map[int]func(x *Tx) {
	return map[int]func(x *Tx){
		1: func(x *Tx) { x.NewInode() },
		3: func(x *Tx) { x.Alloc(); x.Write(29, mixed(60)) },
		8: func(x *Tx) {
			x.Free(14)
			for i := range 3 {
				at, _ := x.Alloc()
				x.Write(at, mixed(byte(61+i)))
			}
			x.NewInode()
			x.FreeInode(0)
			x.Write(13, mixed(70))
			x.Write(15, mixed(71))
			x.Write(29, mixed(72))
		},
	}
}

// choices are several ways to pick what a crash leaves.
func choices() [][]int {
	var all [][]int
	for bits := range 16 {
		all = append(all, []int{bits & 1, bits >> 1 & 1, bits >> 2 & 1, bits >> 3 & 1, 1, 0, 1})
	}
	return append(all, nil, []int{2, 1, 2, 1, 2, 1}, []int{-1, -1, -1, -1, -1, -1, -1, -1})
}

// regionsOf is the bytes of a store's maps, its table and its data.
func regionsOf(d *disk.Disk) []byte { return d.Image()[crashed().blockMap*api.Sector:] }

// remount mounts again and again, each time with the power going behind so many operations, till a
// Mount answers OK.
func remount(t *testing.T, d *disk.Disk, cuts []int, picks []int) *Store {
	t.Helper()
	for _, n := range cuts {
		d.Limit(n)
		s, e := Mount(d)
		if e == api.OK {
			d.Limit(-1)
			return s
		}
		wantErr(t, "Mount", e, api.ErrPower)
		wantErr(t, "Crash", d.Crash(picks), api.OK)
	}
	return mounted(t, d)
}

// cutsOf are how often, and where, the mountings behind a crash are cut, if they bring home so many
// sectors.
func cutsOf(sectors int) [][]int {
	all := [][]int{nil, {2, 1}, {sectors + 1, 0, sectors}, {sectors, sectors + 2, 3}}
	for n := range sectors + 4 {
		all = append(all, []int{n})
	}
	return all
}

// ends tells whether a store is as it is behind its transaction, and sees to it that it is as it
// was if not.
func ends(t *testing.T, s *Store, d *disk.Disk, old, wanted []byte) bool {
	t.Helper()
	is := bytes.Equal(regionsOf(d), wanted)
	if !is && !bytes.Equal(regionsOf(d), old) {
		t.Errorf("the store is neither as it was nor as it is wanted")
	}
	x := begun(t, s)
	wantBytes(t, "what is seen", seen(t, x, 30)[crashed().blockMap*api.Sector:], regionsOf(d))
	wantErr(t, "Abort", x.Abort(), api.OK)
	return is
}

func TestAllOrNone(t *testing.T) {
	for sectors, change := range changes() {
		_, d := settled(t)
		old := regionsOf(d)
		whole := d.Clone()
		x := begun(t, mounted(t, whole))
		change(x)
		wantInt(t, "Changed", x.Changed(), sectors)
		wantErr(t, "Commit", x.Commit(), api.OK)
		wanted := regionsOf(whole)
		for n := range 2*sectors + 7 {
			for _, picks := range choices() {
				for _, cuts := range cutsOf(sectors) {
					cut := d.Clone()
					x := begun(t, mounted(t, cut))
					change(x)
					cut.Limit(n)
					e := x.Commit()
					wantErr(t, "Crash", cut.Crash(picks), api.OK)
					is := ends(t, remount(t, cut, cuts, picks), cut, old, wanted)
					if e == api.OK && !is || e != api.OK && e != api.ErrPower {
						t.Fatalf("cut behind %d, picks %v: error %d, there: %v", n, picks, e, is)
					}
					if n < sectors+2 && is || n >= sectors+3 && !is {
						t.Fatalf("cut behind %d, picks %v: there: %v", n, picks, is)
					}
				}
			}
		}
	}
}

func TestACrashWhileATransactionGoesOn(t *testing.T) {
	for _, picks := range choices() {
		s, d := settled(t)
		old := d.Image()
		x := begun(t, s)
		changes()[8](x)
		darken(d)
		wantErr(t, "Crash", d.Crash(picks), api.OK)
		s = mounted(t, d)
		wantBytes(t, "the disk", d.Image(), old)
		wantInt(t, "Blocks", s.Blocks(), 14)
		wantInt(t, "Inodes", s.Inodes(), 5)
		y := begun(t, s)
		wantBytes(t, "what is seen", seen(t, y, 30), old)
	}
}

func TestWhatWasAnsweredStaysThroughCrashes(t *testing.T) {
	s, d := fresh(t, crashed())
	want := d.Image()
	for i := range 15 {
		x := begun(t, s)
		at, e := x.Alloc()
		wantGot(t, "Alloc", at, e, 14+i, api.OK)
		wantErr(t, "Write", x.Write(at, mixed(byte(i))), api.OK)
		wantErr(t, "Commit", x.Commit(), api.OK)
		copy(want[at*api.Sector:], mixed(byte(i)))
		want[10*api.Sector+at/8] |= 1 << (at % 8)
		x = begun(t, s)
		x.Write(13, full(byte(i)))
		x.Alloc()
		d.Limit(i % 5)
		wantErr(t, "Commit", x.Commit(), api.ErrPower)
		wantErr(t, "Crash", d.Crash(slices.Repeat([]int{i}, 9)), api.OK)
		s = mounted(t, d)
		wantBytes(t, "the store", regionsOf(d), want[10*api.Sector:])
		wantInt(t, "Blocks", s.Blocks(), 15-i)
	}
}
