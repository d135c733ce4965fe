package store

import (
	"sutler/api"
	"sutler/bits"
	"sutler/crc"
	"sutler/disk"
)

// mark is what a super begins with.
const mark = "SUTL"

// Where the super and the log are; what lies behind them hangs on the numbers of a store.
const (
	superAt = 0
	logAt   = superAt + 1
)

// Where the parts of a super are, and how many bytes a number has there.
const (
	numberBytes     = 2
	sectorsAt       = len(mark)
	capacityAt      = sectorsAt + numberBytes
	inodesAt        = capacityAt + numberBytes
	sumAt, sumBytes = api.Sector - 4, 4
)

// inodesOfSector is how many inodes have their records in one sector of the table.
const inodesOfSector = 4

// sector is the bytes of a sector. It is an array, so that it is copied wherever it goes: neither a
// transaction nor its caller ever sees the other one's changes.
type sector [api.Sector]byte

// sectorOf is the sector of the first bytes of b.
func sectorOf(b []byte) sector {
	var s sector
	copy(s[:], b)
	return s
}

// regions are the numbers of a store, which tell where its parts lie.
type regions struct{ sectors, capacity, inodes int }

// roundedUp is how many parts of that size n things need.
func roundedUp(n, size int) int { return (n + size - 1) / size }

// blockMap is the first sector behind the log; all from here on can be written by a transaction.
func (r regions) blockMap() int { return logAt + 1 + r.capacity }

func (r regions) inodeMap() int { return r.blockMap() + roundedUp(r.sectors, bitsOfSector) }

func (r regions) table() int { return r.inodeMap() + 1 }

func (r regions) data() int { return r.table() + roundedUp(r.inodes, inodesOfSector) }

// possible tells whether a store can have these numbers.
func (r regions) possible() bool {
	return r.capacity >= 1 && r.capacity <= api.MaxLog && r.inodes >= 1 && r.inodes <= api.MaxInodes && r.data() < r.sectors
}

// super is the sector that tells of the regions.
func (r regions) super() sector {
	var s sector
	copy(s[:], mark)
	s = s.with(sectorsAt, numberBytes, r.sectors)
	s = s.with(capacityAt, numberBytes, r.capacity)
	s = s.with(inodesAt, numberBytes, r.inodes)
	return s.with(sumAt, sumBytes, int(crc.Sum(s[:sumAt])))
}

// with is the sector with a number in it.
func (s sector) with(at, bytes, n int) sector {
	b, _ := bits.Put(s[:], at, bytes, n)
	return sectorOf(b)
}

// number is the number that stands there.
func (s sector) number(at int) int {
	n, _ := bits.Get(s[:], at, numberBytes)
	return n
}

// regionsOn are those that a disk's super tells of. It is held against the one that Format would
// write for them, so that first bytes, noughts, checksum and the disk's size are asked for at once.
func regionsOn(d *disk.Disk) (regions, api.Errno) {
	b, e := d.Read(superAt)
	if e != api.OK {
		return regions{}, e
	}
	s := sectorOf(b)
	r := regions{d.Sectors(), s.number(capacityAt), s.number(inodesAt)}
	if !r.possible() || r.super() != s {
		return regions{}, api.ErrSuper
	}
	return r, api.OK
}

// empty is the maps and the table of a store in which nothing is taken but what lies ahead of the
// data.
func (r regions) empty() []sector {
	taken := make([]byte, (r.inodeMap()-r.blockMap())*api.Sector)
	for at := range r.data() {
		taken, _ = bits.Set(taken, at, true)
	}
	all := make([]sector, r.data()-r.blockMap())
	for i := range len(taken) / api.Sector {
		all[i] = sectorOf(taken[i*api.Sector:])
	}
	return all
}
