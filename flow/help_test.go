package flow

import (
	"bytes"
	"math"
	"slices"
	"testing"

	"sutler/api"
)

// some is n bytes without a pattern, the same in each run.
func some(n int, seed uint64) []byte {
	b := make([]byte, n)
	for i := range b {
		seed = seed*6364136223846793005 + 1442695040888963407
		b[i] = byte(seed >> 56)
	}
	return b
}

// lists are bytes of some lengths and kinds.
func lists() [][]byte {
	all := [][]byte{nil, {}, {0}, {255}, {5, 1}, make([]byte, 9), bytes.Repeat([]byte{255}, 9)}
	for n := range 12 {
		all = append(all, some(n, uint64(n)))
	}
	return all
}

// widths are numbers of bits that may be.
func widths() []int {
	all := make([]int, 25)
	for i := range all {
		all[i] = i
	}
	return all
}

// wrongWidths are numbers of bits that may not be.
func wrongWidths() []int {
	return []int{math.MinInt, math.MinInt + 1, math.MinInt32, -64, -25, -24, -8, -2, -1,
		25, 26, 31, 32, 33, 63, 64, 65, 1 << 16, math.MaxInt32, math.MaxInt - 1, math.MaxInt}
}

// bitsOf is the bits of bytes, as the chapter's words tell them.
func bitsOf(b []byte) []int {
	var all []int
	for i := range 8 * len(b) {
		all = append(all, int(b[i/8])/(1<<(i%8))%2)
	}
	return all
}

// bytesOf is the bytes of bits, the last one filled up with noughts.
func bytesOf(all []int) []byte {
	b := make([]byte, (len(all)+7)/8)
	for i, x := range all {
		b[i/8] += byte(x << (i % 8))
	}
	return b
}

// numberOf is the number of bits that are read lowest bit first.
func numberOf(all []int) int {
	n := 0
	for i, x := range all {
		n += x << i
	}
	return n
}

func wantError(t *testing.T, what string, got, want api.Errno) {
	t.Helper()
	if got != want {
		t.Errorf("%s: error %d, want %d", what, got, want)
	}
}

func wantInt(t *testing.T, what string, got, want int) {
	t.Helper()
	if got != want {
		t.Errorf("%s: %d, want %d", what, got, want)
	}
}

func wantBytes(t *testing.T, what string, got, want []byte) {
	t.Helper()
	if !bytes.Equal(got, want) {
		t.Errorf("%s: %v, want %v", what, got, want)
	}
}

// wantTake takes n bits, which must be there.
func wantTake(t *testing.T, r *Reader, n, want int) {
	t.Helper()
	got, e := r.Take(n)
	if e != api.OK || got != want {
		t.Errorf("Take(%d): %d, error %d, want %d", n, got, e, want)
	}
}

// wantRead asks for the next n bytes, which must be there.
func wantRead(t *testing.T, r *Reader, n int, want []byte) {
	t.Helper()
	got, e := r.Bytes(n)
	if e != api.OK || !bytes.Equal(got, want) {
		t.Errorf("Bytes(%d): %v, error %d, want %v", n, got, e, want)
	}
}

// wantStands asks a reader of b whether it stands at that bit: what is told of it, and what is next.
func wantStands(t *testing.T, what string, r *Reader, b []byte, at int) {
	t.Helper()
	wantInt(t, what+", At", r.At(), at)
	wantInt(t, what+", Left", r.Left(), 8*len(b)-at)
	rest := bitsOf(b)[at:]
	wantInt(t, what+", Peek(24)", r.Peek(24), numberOf(rest[:min(24, len(rest))]))
}

// wantWritten asks whether just these bits were written.
func wantWritten(t *testing.T, what string, w *Writer, all []int) {
	t.Helper()
	wantInt(t, what+", Len", w.Len(), len(all))
	wantBytes(t, what+", All", w.All(), bytesOf(all))
}

// readerAt is a reader of b that was brought to that bit.
func readerAt(t *testing.T, b []byte, at int) *Reader {
	t.Helper()
	r := New(b)
	for range at {
		wantError(t, "Skip(1)", r.Skip(1), api.OK)
	}
	return r
}

// writerOf is a writer of these bits.
func writerOf(t *testing.T, all []int) *Writer {
	t.Helper()
	w := Write()
	for _, x := range all {
		wantError(t, "Put of a bit", w.Put(x, 1), api.OK)
	}
	return w
}

// reversed is a copy of a list, its last one first.
func reversed(all []int) []int {
	back := slices.Clone(all)
	slices.Reverse(back)
	return back
}

// isKnown tells whether an error is one of those that the chapter names.
func isKnown(e api.Errno) bool {
	return e == api.OK || e == api.ErrArg || e == api.ErrShort
}
