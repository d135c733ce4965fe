// Package disk is layer 1: sectors, written and synced; a crash. See shared/doc/01-disk.md.
package disk

import (
	"maps"
	"slices"

	"sutler/api"
)

// noLimit stands for any limit below 0.
const noLimit = -1

// value is what a sector has at one time. It is an array, so that it is copied wherever it goes:
// neither two disks nor a disk and its caller ever share one.
type value [api.Sector]byte

// valueOf is the value of the first bytes of b, as many as a sector has.
func valueOf(b []byte) value {
	var v value
	copy(v[:], b)
	return v
}

// place is where one of a sector's values since the last sync is found: at turn 0 the sure one,
// behind it those that were written since, in order.
type place struct{ sector, turn int }

// Disk is a number of sectors, with all that a crash may leave of them.
type Disk struct {
	sectors int             // 0 of a disk that no call made
	values  map[place]value // without an entry: all 0, as every sector is at first
	turns   map[int]int     // the latest turn of each sector that was written since the last sync
	ops     int
	limit   int
	dark    bool // the power is gone
}

// New makes a disk of so many sectors.
func New(sectors int) (*Disk, api.Errno) {
	if sectors < 1 || sectors > api.MaxSectors {
		return nil, api.ErrArg
	}
	return &Disk{sectors: sectors, values: map[place]value{}, turns: map[int]int{}, limit: noLimit}, api.OK
}

// Load makes a disk whose sectors are sure to have the image's bytes.
func Load(image []byte) (*Disk, api.Errno) {
	if len(image)%api.Sector != 0 {
		return nil, api.ErrArg
	}
	d, e := New(len(image) / api.Sector)
	if e != api.OK {
		return nil, e
	}
	for at := range d.sectors {
		d.values[place{at, 0}] = valueOf(image[at*api.Sector:])
	}
	return d, api.OK
}

// made tells whether a call made the disk.
func (d *Disk) made() bool { return d != nil && d.sectors > 0 }

// has tells whether there is such a sector.
func (d *Disk) has(at int) bool { return at >= 0 && at < d.sectors }

// sure is the sector's value that a crash can't take.
func (d *Disk) sure(at int) value { return d.values[place{at, 0}] }

// latest is the sector's last value.
func (d *Disk) latest(at int) value { return d.values[place{at, d.turns[at]}] }

// take takes an operation, or makes the power go where the limit is come to.
func (d *Disk) take() api.Errno {
	if d.limit == 0 {
		d.dark = true
	}
	if d.dark {
		return api.ErrPower
	}
	if d.limit > 0 {
		d.limit--
	}
	d.ops++
	return api.OK
}

// settle makes the value at that turn the sector's only one. That the sector was written is left
// to the caller to forget, who may be going through those that were.
func (d *Disk) settle(at, turn int) {
	v := d.values[place{at, turn}]
	for i := range d.turns[at] {
		delete(d.values, place{at, i + 1})
	}
	d.values[place{at, 0}] = v
}

// Read tells the sector's latest bytes.
func (d *Disk) Read(at int) ([]byte, api.Errno) {
	if !d.made() {
		return nil, api.ErrNil
	}
	if !d.has(at) {
		return nil, api.ErrArg
	}
	if d.dark {
		return nil, api.ErrPower
	}
	v := d.latest(at)
	return v[:], api.OK
}

// Write gives the sector one more value, which a crash may take.
func (d *Disk) Write(at int, b []byte) api.Errno {
	if !d.made() {
		return api.ErrNil
	}
	if !d.has(at) || len(b) != api.Sector {
		return api.ErrArg
	}
	if e := d.take(); e != api.OK {
		return e
	}
	d.turns[at]++
	d.values[place{at, d.turns[at]}] = valueOf(b)
	return api.OK
}

// Sync makes each sector's latest value its sure one.
func (d *Disk) Sync() api.Errno {
	if !d.made() {
		return api.ErrNil
	}
	if e := d.take(); e != api.OK {
		return e
	}
	for at, turn := range d.turns {
		d.settle(at, turn)
	}
	d.turns = map[int]int{}
	return api.OK
}

// Limit lets n more operations be taken; below 0 any number of them.
func (d *Disk) Limit(n int) {
	if !d.made() {
		return
	}
	d.limit = max(n, noLimit)
}

// Crash leaves each sector with one of its values since the last sync, and turns the power on.
func (d *Disk) Crash(picks []int) api.Errno {
	if !d.made() {
		return api.ErrNil
	}
	for j, at := range slices.Sorted(maps.Keys(d.turns)) {
		turn := 0
		if j < len(picks) {
			turn = int(uint64(picks[j]) % uint64(d.turns[at]+1))
		}
		d.settle(at, turn)
	}
	d.turns = map[int]int{}
	d.limit, d.dark = noLimit, false
	return api.OK
}

// Sectors tells how many sectors there are.
func (d *Disk) Sectors() int {
	if !d.made() {
		return 0
	}
	return d.sectors
}

// Ops tells how many operations were taken.
func (d *Disk) Ops() int {
	if !d.made() {
		return 0
	}
	return d.ops
}

// Pending tells how many sectors were written since the last sync.
func (d *Disk) Pending() int {
	if !d.made() {
		return 0
	}
	return len(d.turns)
}

// gather puts the sectors' bytes one behind the other.
func (d *Disk) gather(of func(int) value) []byte {
	all := make([]byte, 0, d.sectors*api.Sector)
	for at := range d.sectors {
		v := of(at)
		all = append(all, v[:]...)
	}
	return all
}

// Image tells all latest bytes, with the power gone, too.
func (d *Disk) Image() []byte {
	if !d.made() {
		return nil
	}
	return d.gather(d.latest)
}

// Sure tells all sure bytes, with the power gone, too.
func (d *Disk) Sure() []byte {
	if !d.made() {
		return nil
	}
	return d.gather(d.sure)
}

// Clone makes a disk that is as this one, and goes its own way from here.
func (d *Disk) Clone() *Disk {
	if !d.made() {
		return nil
	}
	c := *d
	c.values = maps.Clone(d.values)
	c.turns = maps.Clone(d.turns)
	return &c
}
