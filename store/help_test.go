package store

import (
	"bytes"
	"encoding/binary"
	"hash/crc32"
	"slices"
	"testing"

	"sutler/api"
	"sutler/disk"
)

// full is a sector of one byte.
func full(c byte) []byte { return bytes.Repeat([]byte{c}, api.Sector) }

// mixed is a sector whose bytes differ from one another.
func mixed(c byte) []byte {
	b := make([]byte, api.Sector)
	for i := range b {
		b[i] = byte(i)*7 ^ c
	}
	return b
}

// painted is a disk each of whose sectors has bytes of its own, for sure.
func painted(t *testing.T, sectors int) *disk.Disk {
	t.Helper()
	var image []byte
	for at := range sectors {
		image = append(image, full(byte(at%200)+1)...)
	}
	d, e := disk.Load(image)
	if e != api.OK {
		t.Fatalf("Load: error %d", e)
	}
	return d
}

// place is a store's numbers, with where its regions begin.
type place struct {
	sectors, capacity, inodes         int
	blockMap, inodeMap, table, dataAt int
}

// places are reckoned by hand, by the chapter's words.
func places() []place {
	return []place{
		{20, 3, 4, 5, 6, 7, 8},
		{7, 1, 1, 3, 4, 5, 6},
		{8, 1, 4, 3, 4, 5, 6},
		{8, 1, 5, 3, 4, 5, 7},
		{400, 100, 20, 102, 103, 104, 109},
		{2048, 1, 1, 3, 4, 5, 6},
		{2049, 1, 1, 3, 5, 6, 7},
		{2049, 2, 9, 4, 6, 7, 10},
		{106, 100, 1, 102, 103, 104, 105},
		{70, 1, 256, 3, 4, 5, 69},
		{api.MaxSectors, api.MaxLog, api.MaxInodes, 102, 104, 105, 169},
		{api.MaxSectors, 1, 255, 3, 5, 6, 70},
	}
}

// small is the place of the chapter's example, which most of the tests go by.
func small() place { return places()[0] }

// formatted is a painted disk with a store on it.
func formatted(t *testing.T, p place) *disk.Disk {
	t.Helper()
	d := painted(t, p.sectors)
	wantErr(t, "Format", Format(d, p.capacity, p.inodes), api.OK)
	return d
}

func mounted(t *testing.T, d *disk.Disk) *Store {
	t.Helper()
	s, e := Mount(d)
	if e != api.OK || s == nil {
		t.Fatalf("Mount: %v, error %d", s, e)
	}
	return s
}

// fresh is a store that was just made, and its disk.
func fresh(t *testing.T, p place) (*Store, *disk.Disk) {
	t.Helper()
	d := formatted(t, p)
	return mounted(t, d), d
}

func begun(t *testing.T, s *Store) *Tx {
	t.Helper()
	x, e := s.Begin()
	if e != api.OK || x == nil {
		t.Fatalf("Begin: %v, error %d", x, e)
	}
	return x
}

// darken makes the power go.
func darken(d *disk.Disk) {
	d.Limit(0)
	d.Sync()
}

// super is a super as the chapter's words put it, reckoned without the package: the checksum is
// gzip's own.
func super(sectors, capacity, inodes int) []byte {
	b := []byte{0x53, 0x55, 0x54, 0x4c}
	for _, n := range []int{sectors, capacity, inodes} {
		b = binary.LittleEndian.AppendUint16(b, uint16(n))
	}
	return seal(append(b, make([]byte, 252-len(b))...))
}

// logHead is a log's header.
func logHead(turn uint32, homes []int, data ...[]byte) []byte {
	b := []byte{0x53, 0x4c, 0x4f, 0x47}
	b = binary.LittleEndian.AppendUint32(b, turn)
	b = binary.LittleEndian.AppendUint16(b, uint16(len(homes)))
	for _, h := range homes {
		b = binary.LittleEndian.AppendUint16(b, uint16(h))
	}
	return seal(append(b, make([]byte, 252-len(b))...), data...)
}

// seal puts the checksum behind the first 252 bytes.
func seal(b []byte, data ...[]byte) []byte {
	b = slices.Clone(b[:252])
	sum := crc32.ChecksumIEEE(append(slices.Clone(b), bytes.Join(data, nil)...))
	return binary.LittleEndian.AppendUint32(b, sum)
}

// op is an operation as the chapters have it; without data it is a sync.
type op struct {
	at   int
	data []byte
}

// formatOps is what Format does, in order.
func formatOps(p place) []op {
	var ops []op
	for at := p.blockMap; at < p.dataAt; at++ {
		b := make([]byte, api.Sector)
		for bit := range 2048 {
			if at < p.inodeMap && bit+2048*(at-p.blockMap) < p.dataAt {
				b[bit/8] |= 1 << (bit % 8)
			}
		}
		ops = append(ops, op{at, b})
	}
	return append(ops, op{1, logHead(0, nil)}, op{}, op{0, super(p.sectors, p.capacity, p.inodes)}, op{})
}

// commitOps is what a commit does with sectors that are rising.
func commitOps(turn uint32, l []api.Block) []op {
	var ops, home []op
	var homes []int
	var data [][]byte
	for i, x := range l {
		ops = append(ops, op{2 + i, x.Data})
		home = append(home, op{x.At, x.Data})
		homes = append(homes, x.At)
		data = append(data, x.Data)
	}
	ops = append(ops, op{}, op{1, logHead(turn, homes, data...)}, op{})
	return append(append(ops, home...), op{}, op{1, logHead(turn, nil)}, op{})
}

// play does operations on a disk by hand.
func play(t *testing.T, d *disk.Disk, ops []op) {
	t.Helper()
	for _, o := range ops {
		if o.data == nil {
			wantErr(t, "Sync", d.Sync(), api.OK)
		} else {
			wantErr(t, "Write", d.Write(o.at, o.data), api.OK)
		}
	}
}

// lay writes a sector by hand, for sure.
func lay(t *testing.T, d *disk.Disk, at int, b []byte) {
	t.Helper()
	play(t, d, []op{{at, b}, {}})
}

func wantErr(t *testing.T, what string, got, want api.Errno) {
	t.Helper()
	if got != want {
		t.Errorf("%s: error %d, want %d", what, got, want)
	}
}

func wantInt(t *testing.T, what string, got, want int) {
	t.Helper()
	if got != want {
		t.Errorf("%s: %d, want %d", what, got, want)
	}
}

func wantBool(t *testing.T, what string, got, want bool) {
	t.Helper()
	if got != want {
		t.Errorf("%s: %v, want %v", what, got, want)
	}
}

func wantBytes(t *testing.T, what string, got, want []byte) {
	t.Helper()
	if !bytes.Equal(got, want) {
		t.Errorf("%s: %.8x.., want %.8x..", what, got, want)
	}
}

// wantSeen holds what a transaction sees of a sector against other bytes.
func wantSeen(t *testing.T, x *Tx, at int, want []byte) {
	t.Helper()
	b, e := x.Read(at)
	wantErr(t, "Read", e, api.OK)
	wantBytes(t, "Read", b, want)
}

// wantOn holds what a disk has in a sector against other bytes.
func wantOn(t *testing.T, d *disk.Disk, at int, want []byte) {
	t.Helper()
	b, e := d.Read(at)
	wantErr(t, "the disk's Read", e, api.OK)
	wantBytes(t, "the disk's Read", b, want)
}

// wantGot holds an answer of a number against another one.
func wantGot(t *testing.T, what string, got int, e api.Errno, want int, wantE api.Errno) {
	t.Helper()
	wantErr(t, what, e, wantE)
	wantInt(t, what, got, want)
}

// wantSame holds all that a crash may make of two disks against each other, as far as it is to be
// told from outside.
func wantSame(t *testing.T, what string, got, want *disk.Disk) {
	t.Helper()
	wantInt(t, what+": Ops", got.Ops(), want.Ops())
	wantInt(t, what+": Pending", got.Pending(), want.Pending())
	if !bytes.Equal(got.Image(), want.Image()) {
		t.Errorf("%s: another image", what)
	}
	if !bytes.Equal(got.Sure(), want.Sure()) {
		t.Errorf("%s: other sure bytes", what)
	}
}

// wantUnmoved does something and sees to it that the disk is as it was.
func wantUnmoved(t *testing.T, what string, d *disk.Disk, do func()) {
	t.Helper()
	was := d.Clone()
	do()
	wantSame(t, what, d, was)
}
