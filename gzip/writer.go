package gzip

import (
	"slices"

	"sutler/bits"
	"sutler/flate"
)

// header is a header that is being written.
type header struct {
	b []byte
}

// newHeader is a header without flags.
func newHeader() *header {
	return &header{b: append([]byte(begins), make([]byte, 1+untold)...)}
}

// flag sets a flag.
func (h *header) flag(flag byte) { h.b[len(begins)] |= flag }

// number puts a number behind.
func (h *header) number(n int) { h.b = append(h.b, number(n, headBytes)...) }

// extra puts an extra part behind, if it is not empty.
func (h *header) extra(b []byte) {
	if len(b) == 0 {
		return
	}
	h.flag(ofExtra)
	h.number(len(b))
	h.b = append(h.b, b...)
}

// text puts a text behind, if it is not empty.
func (h *header) text(flag byte, s string) {
	if s == "" {
		return
	}
	h.flag(flag)
	h.b = append(append(h.b, s...), 0)
}

// sum puts the checksum behind. Its flag is among what is summed up.
func (h *header) sum() {
	h.flag(ofSum)
	h.number(sumOfHead(h.b))
}

// number is a number in so many bytes, which it goes into.
func number(n, size int) []byte {
	b, _ := bits.Put(make([]byte, size), 0, size, n)
	return b
}

// frame is a frame around b, with that header.
func frame(h *header, b []byte) []byte {
	return slices.Concat(h.b, flate.Runs(b), number(sumOf(b), tailBytes), number(sizeOf(b), tailBytes))
}
