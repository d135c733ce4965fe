package flow

import (
	"slices"

	"sutler/api"
)

// Writer writes bits to bytes of its own. The bits of its last byte behind its place are noughts.
type Writer struct {
	place
	bytes []byte
}

// Write makes a writer of nothing.
func Write() *Writer { return &Writer{place: place{made: true}} }

// missing tells whether no call made the writer.
func (w *Writer) missing() bool { return w == nil || !w.made }

// mayPut tells why n can't be written in so many bits. Of a number below 0 all bits above them are
// 1 when it is shifted, so that it never goes in.
func (w *Writer) mayPut(n, bits int) api.Errno {
	switch {
	case w.missing():
		return api.ErrNil
	case !mayBe(bits) || n>>bits != 0:
		return api.ErrArg
	}
	return api.OK
}

// bit writes one bit.
func (w *Writer) bit(b int) {
	if !w.within() {
		w.bytes = append(w.bytes, 0)
	}
	w.bytes[w.at/8] |= byte(b << (w.at % 8))
	w.at++
}

// lowestFirst hands on each of the lower bits of n, the lowest one first.
func lowestFirst(n, bits int, on func(bit int)) {
	for i := range bits {
		on(n >> i & 1)
	}
}

// highestFirst hands on each of the lower bits of n, the highest one first.
func highestFirst(n, bits int, on func(bit int)) {
	for i := range bits {
		on(n >> (bits - 1 - i) & 1)
	}
}

// Put writes n in so many bits, lowest first.
func (w *Writer) Put(n, bits int) api.Errno {
	if e := w.mayPut(n, bits); e != api.OK {
		return e
	}
	lowestFirst(n, bits, w.bit)
	return api.OK
}

// Code writes n in so many bits, highest first.
func (w *Writer) Code(n, bits int) api.Errno {
	if e := w.mayPut(n, bits); e != api.OK {
		return e
	}
	highestFirst(n, bits, w.bit)
	return api.OK
}

// Align writes noughts up to a whole byte.
func (w *Writer) Align() api.Errno {
	if w.missing() {
		return api.ErrNil
	}
	w.at += w.rest()
	return api.OK
}

// Bytes writes b, at a byte's beginning.
func (w *Writer) Bytes(b []byte) api.Errno {
	switch {
	case w.missing():
		return api.ErrNil
	case w.within():
		return api.ErrArg
	}
	w.bytes = append(w.bytes, b...)
	w.at += 8 * len(b)
	return api.OK
}

// All tells all bytes, the last one filled up with noughts.
func (w *Writer) All() []byte {
	if w.missing() {
		return nil
	}
	return slices.Clone(w.bytes)
}

// Len tells how many bits were written.
func (w *Writer) Len() int {
	if w.missing() {
		return 0
	}
	return w.at
}
