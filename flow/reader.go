package flow

import (
	"slices"

	"sutler/api"
)

// Reader reads bits of bytes of its own.
type Reader struct {
	place
	bytes []byte
}

// New makes a reader at bit 0 of b.
func New(b []byte) *Reader {
	return &Reader{place: place{made: true}, bytes: slices.Clone(b)}
}

// missing tells whether no call made the reader.
func (r *Reader) missing() bool { return r == nil || !r.made }

// left is how many bits are left.
func (r *Reader) left() int { return 8*len(r.bytes) - r.at }

// mayTake tells why no number of n bits can be taken.
func (r *Reader) mayTake(n int) api.Errno {
	switch {
	case r.missing():
		return api.ErrNil
	case !mayBe(n):
		return api.ErrArg
	case n > r.left():
		return api.ErrShort
	}
	return api.OK
}

// next is the next number of n bits, with noughts for bits behind the end. Its bits lie in four
// bytes at the most, as up to seven bits of the first one are taken.
func (r *Reader) next(n int) int {
	ahead, four := r.bytes[r.at/8:], 0
	for i, x := range ahead[:min(4, len(ahead))] {
		four |= int(x) << (8 * i)
	}
	return four >> (r.at % 8) & (1<<n - 1)
}

// Take tells the next number of n bits, lowest bit first, and goes behind it.
func (r *Reader) Take(n int) (int, api.Errno) {
	if e := r.mayTake(n); e != api.OK {
		return 0, e
	}
	taken := r.next(n)
	r.at += n
	return taken, api.OK
}

// Peek tells the next number of n bits, with noughts for bits behind the end, and stays.
func (r *Reader) Peek(n int) int {
	if r.missing() || !mayBe(n) {
		return 0
	}
	return r.next(n)
}

// Skip goes behind the next n bits.
func (r *Reader) Skip(n int) api.Errno {
	_, e := r.Take(n)
	return e
}

// Align goes to the next byte's beginning, if the reader is within one.
func (r *Reader) Align() api.Errno {
	if r.missing() {
		return api.ErrNil
	}
	r.at += r.rest()
	return api.OK
}

// Bytes tells the next n bytes and goes behind them.
func (r *Reader) Bytes(n int) ([]byte, api.Errno) {
	switch {
	case r.missing():
		return nil, api.ErrNil
	case n < 0 || r.within():
		return nil, api.ErrArg
	case n > r.left()/8:
		return nil, api.ErrShort
	}
	from := r.at / 8
	r.at += 8 * n
	return slices.Clone(r.bytes[from : from+n]), api.OK
}

// At tells at which bit the reader stands.
func (r *Reader) At() int {
	if r.missing() {
		return 0
	}
	return r.at
}

// Left tells how many bits are left.
func (r *Reader) Left() int {
	if r.missing() {
		return 0
	}
	return r.left()
}
