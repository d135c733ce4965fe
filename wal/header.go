package wal

import (
	"sutler/api"
	"sutler/bits"
	"sutler/crc"
)

// mark is what a header begins with.
const mark = "SLOG"

// Where the parts of a header are, and how many bytes a number has there.
const (
	turnAt, turnBytes   = len(mark), 4
	countAt, countBytes = turnAt + turnBytes, 2
	homesAt, homeBytes  = countAt + countBytes, 2
	sumAt, sumBytes     = api.Sector - 4, 4
)

// header is the bytes of a header. It is an array, so that what one has to be is held against what
// it is at once: mark, noughts and checksum need no asking of their own.
type header [api.Sector]byte

// headerFrom is the header of a sector's bytes.
func headerFrom(b []byte) header {
	var h header
	copy(h[:], b)
	return h
}

// with is the header with a number in it.
func (h header) with(at, bytes, n int) header {
	b, _ := bits.Put(h[:], at, bytes, n)
	return headerFrom(b)
}

// number is the number that stands there.
func (h header) number(at, bytes int) int {
	n, _ := bits.Get(h[:], at, bytes)
	return n
}

func (h header) turn() int { return h.number(turnAt, turnBytes) }

func (h header) count() int { return h.number(countAt, countBytes) }

func (h header) homeOf(i int) int { return h.number(homesAt+i*homeBytes, homeBytes) }

// headerOf is the header that logs l.
func headerOf(turn int, l []api.Block) header {
	var h header
	copy(h[:], mark)
	h = h.with(turnAt, turnBytes, turn).with(countAt, countBytes, len(l))
	for i, x := range l {
		h = h.with(homesAt+i*homeBytes, homeBytes, x.At)
	}
	sum := crc.Sum(h[:sumAt])
	for _, x := range l {
		sum = crc.More(sum, x.Data)
	}
	return h.with(sumAt, sumBytes, int(sum))
}
