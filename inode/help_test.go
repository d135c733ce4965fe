package inode

import (
	"bytes"
	"slices"
	"testing"

	"sutler/api"
	"sutler/disk"
	"sutler/store"
)

// place is a store's numbers, with where its regions begin.
type place struct {
	sectors, capacity, inodes         int
	blockMap, inodeMap, table, dataAt int
}

// small is the place that most of the tests go by: 43 data sectors, and two of the table full.
func small() place { return place{60, 10, 9, 12, 13, 14, 17} }

// great is the greatest there is.
func great() place {
	return place{api.MaxSectors, api.MaxLog, api.MaxInodes, 102, 104, 105, 169}
}

// data is how many data sectors there are.
func (p place) data() int { return p.sectors - p.dataAt }

// fresh is a store that was just made, and its disk, whose free sectors have bytes of their own.
func fresh(t *testing.T, p place) (*store.Store, *disk.Disk) {
	t.Helper()
	d, e := disk.Load(bytes.Repeat([]byte{0xa5}, p.sectors*api.Sector))
	wantErr(t, "Load", e, api.OK)
	wantErr(t, "Format", store.Format(d, p.capacity, p.inodes), api.OK)
	return mounted(t, d), d
}

func mounted(t *testing.T, d *disk.Disk) *store.Store {
	t.Helper()
	s, e := store.Mount(d)
	if e != api.OK || s == nil {
		t.Fatalf("Mount: %v, error %d", s, e)
	}
	return s
}

func begun(t *testing.T, s *store.Store) *store.Tx {
	t.Helper()
	x, e := s.Begin()
	if e != api.OK || x == nil {
		t.Fatalf("Begin: %v, error %d", x, e)
	}
	return x
}

// started is a transaction on a store that was just made.
func started(t *testing.T, p place) *store.Tx {
	t.Helper()
	s, _ := fresh(t, p)
	return begun(t, s)
}

// darken makes the power go.
func darken(d *disk.Disk) {
	d.Limit(0)
	d.Sync()
}

// made is a new file.
func made(t *testing.T, x *store.Tx, kind, mode int) int {
	t.Helper()
	n, e := New(x, kind, mode)
	wantErr(t, "New", e, api.OK)
	return n
}

// filled is a new file of so many bytes, which differ from one another.
func filled(t *testing.T, x *store.Tx, size int) int {
	t.Helper()
	n := made(t, x, api.KFile, 420)
	wantErr(t, "Write", Write(x, n, 0, mixed(size, 0)), api.OK)
	return n
}

// mixed is bytes that differ from one another, and from block to block; none is 0.
func mixed(size int, c byte) []byte {
	b := make([]byte, size)
	for i := range b {
		b[i] = byte(i%251+i/256*7)&0x7f ^ c&0x7f | 0x80
	}
	return b
}

// seen is all that a transaction sees of the sectors from the block map on.
func seen(t *testing.T, x *store.Tx, p place) []byte {
	t.Helper()
	var all []byte
	for at := p.blockMap; at < p.sectors; at++ {
		b, e := x.Read(at)
		wantErr(t, "the transaction's Read", e, api.OK)
		all = append(all, b...)
	}
	return all
}

// wantIdle does something and sees to it that a transaction is as it was.
func wantIdle(t *testing.T, what string, x *store.Tx, p place, do func()) {
	t.Helper()
	was, changed := seen(t, x, p), x.Changed()
	do()
	wantInt(t, what+": Changed", x.Changed(), changed)
	if !bytes.Equal(seen(t, x, p), was) {
		t.Errorf("%s: the transaction sees other bytes", what)
	}
}

func wantErr(t *testing.T, what string, got, want api.Errno) {
	t.Helper()
	if got != want {
		t.Errorf("%s: error %d, want %d", what, got, want)
	}
}

func wantInt(t *testing.T, what string, got, want int) {
	t.Helper()
	if got != want {
		t.Errorf("%s: %d, want %d", what, got, want)
	}
}

func wantBytes(t *testing.T, what string, got, want []byte) {
	t.Helper()
	if bytes.Equal(got, want) {
		return
	}
	at := 0
	for at < min(len(got), len(want)) && got[at] == want[at] {
		at++
	}
	t.Errorf("%s: %d bytes, want %d; from %d on %.8x.., want %.8x..", what, len(got), len(want), at, got[at:], want[at:])
}

// wantSector holds what a transaction sees of a sector against bytes, behind which noughts are.
func wantSector(t *testing.T, x *store.Tx, at int, want []byte) {
	t.Helper()
	b, e := x.Read(at)
	wantErr(t, "the transaction's Read", e, api.OK)
	wantBytes(t, "a sector", b, slices.Concat(want, make([]byte, api.Sector-len(want))))
}

func wantInode(t *testing.T, x *store.Tx, n int, want api.Inode) {
	t.Helper()
	got, e := Get(x, n)
	if got != want || e != api.OK {
		t.Errorf("Get(%d): %v, error %d, want %v", n, got, e, want)
	}
}

func wantSize(t *testing.T, x *store.Tx, n, want int) {
	t.Helper()
	got, e := Get(x, n)
	wantErr(t, "Get", e, api.OK)
	wantInt(t, "Size", got.Size, want)
}

func wantRead(t *testing.T, x *store.Tx, n, at, count int, want []byte) {
	t.Helper()
	got, e := Read(x, n, at, count)
	wantErr(t, "Read", e, api.OK)
	wantBytes(t, "Read", got, want)
}

func wantBlocks(t *testing.T, x *store.Tx, n int, want ...int) {
	t.Helper()
	got, e := Blocks(x, n)
	if e != api.OK || !slices.Equal(got, want) {
		t.Errorf("Blocks(%d): %v, error %d, want %v", n, got, e, want)
	}
}

// wantRefused sees to it that all calls of a file answer that error, with zero values beside it.
func wantRefused(t *testing.T, x *store.Tx, n int, want api.Errno) {
	t.Helper()
	i, e := Get(x, n)
	if i != (api.Inode{}) || e != want {
		t.Errorf("Get(%d): %v, error %d, want %d", n, i, e, want)
	}
	for _, at := range []int{-1, 0, api.MaxFile + 1} {
		b, e := Read(x, n, at, 1)
		if len(b) != 0 || e != want {
			t.Errorf("Read(%d): %v, error %d, want %d", n, b, e, want)
		}
		wantErr(t, "Write", Write(x, n, at, []byte{1}), want)
		wantErr(t, "Write", Write(x, n, at, nil), want)
		wantErr(t, "Cut", Cut(x, n, at), want)
		wantErr(t, "Set", Set(x, n, at, 1), want)
	}
	wantErr(t, "Drop", Drop(x, n), want)
	l, e := Blocks(x, n)
	if len(l) != 0 || e != want {
		t.Errorf("Blocks(%d): %v, error %d, want %d", n, l, e, want)
	}
}

// wantOver sees to it that a transaction is of no use to any call.
func wantOver(t *testing.T, x *store.Tx) {
	t.Helper()
	for _, kind := range []int{api.KFile, 0} {
		n, e := New(x, kind, 420)
		wantErr(t, "New", e, api.ErrNil)
		wantInt(t, "New", n, 0)
	}
	for _, n := range []int{-1, 0, 1, 300} {
		wantRefused(t, x, n, api.ErrNil)
	}
}

// little is numbers of two bytes each.
func little(l ...int) []byte {
	var b []byte
	for _, n := range l {
		b = append(b, byte(n), byte(n>>8))
	}
	return b
}
