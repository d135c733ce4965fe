package store

import (
	"sutler/api"
	"sutler/bits"
)

// bitsOfSector is how many things one sector of a map tells of.
const bitsOfSector = 8 * api.Sector

// stock is the things that a map tells of: those from first on, below end. What other bits of the
// map say changes nothing: a transaction may write them as it likes.
type stock struct {
	at         int // the first sector of the map
	first, end int
}

// blocks are the data sectors.
func (r regions) blocks() stock { return stock{r.blockMap(), r.data(), r.sectors} }

// nodes are the inodes.
func (r regions) nodes() stock { return stock{r.inodeMap(), 0, r.inodes} }

// read tells the map's bytes, which are as its sectors are seen.
func (k stock) read(see func(at int) ([]byte, api.Errno)) ([]byte, api.Errno) {
	var all []byte
	for i := range roundedUp(k.end, bitsOfSector) {
		b, e := see(k.at + i)
		if e != api.OK {
			return nil, e
		}
		all = append(all, b...)
	}
	return all, api.OK
}

// free tells how many are free, by the map's bytes.
func (k stock) free(b []byte) int {
	taken := bits.Count(b, k.end) - bits.Count(b, k.first)
	return k.end - k.first - taken
}

// next tells the first one that is free.
func (k stock) next(b []byte) (int, api.Errno) {
	i := bits.First(b, k.first, k.end)
	if i < 0 {
		return 0, api.ErrFull
	}
	return i, api.OK
}

// taken tells whether there is such a one, and it is taken.
func (k stock) taken(b []byte, i int) bool {
	if i < k.first || i >= k.end {
		return false
	}
	is, _ := bits.Has(b, i)
	return is
}

// turned tells the sector of the map that has a bit of b, and what it is with that bit turned.
func (k stock) turned(b []byte, i int) (int, sector) {
	was, _ := bits.Has(b, i)
	b, _ = bits.Set(b, i, !was)
	nth := i / bitsOfSector
	return k.at + nth, sectorOf(b[nth*api.Sector:])
}
