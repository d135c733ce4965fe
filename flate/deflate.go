package flate

import "sutler/flow"

// longestPlain is how many bytes a plain block has at the most, shortestCopy and longestCopy how
// many a copy has.
const (
	longestPlain = 1<<16 - 1
	shortestCopy = 3
	longestCopy  = 258
)

// block is a fixed block that is being written, the only one of its stream.
type block struct {
	out   *flow.Writer
	codes pair
}

// Store deflates by plain blocks.
func Store(b []byte) []byte {
	w := flow.Write()
	for len(b) > longestPlain {
		putPlain(w, b[:longestPlain], 0)
		b = b[longestPlain:]
	}
	putPlain(w, b, 1)
	return w.All()
}

// putPlain writes a plain block.
func putPlain(w *flow.Writer, b []byte, last int) {
	putKind(w, plain, last)
	w.Align()
	w.Put(len(b), 16)
	w.Put(longestPlain-len(b), 16)
	w.Bytes(b)
}

// putKind writes what all blocks begin with.
func putKind(w *flow.Writer, kind, last int) {
	w.Put(last, 1)
	w.Put(kind, 2)
}

// begin begins a fixed block.
func begin() *block {
	w := &block{out: flow.Write(), codes: fixedPair()}
	putKind(w.out, fixed, 1)
	return w
}

// all ends the block and tells its bytes.
func (w *block) all() []byte {
	w.symbol(end)
	return w.out.All()
}

// symbol writes a symbol.
func (w *block) symbol(n int) { w.codes.symbols.Write(w.out, n) }

// bytes writes a byte so many times.
func (w *block) bytes(b byte, times int) {
	for range times {
		w.symbol(int(b))
	}
}

// copies writes a copy of n bytes from one back. Its length is of the last span that begins with
// it or ahead of it.
func (w *block) copies(n int) {
	at := len(lengths) - 1
	for lengths[at].base > n {
		at--
	}
	w.symbol(end + 1 + at)
	w.out.Put(n-lengths[at].base, lengths[at].bits)
	w.codes.distances.Write(w.out, 0)
}

// row writes n like bytes.
func (w *block) row(b byte, n int) {
	w.bytes(b, 1)
	left := n - 1
	for left >= shortestCopy {
		many := min(left, longestCopy)
		w.copies(many)
		left -= many
	}
	w.bytes(b, left)
}

// Fixed deflates by one fixed block of bytes alone.
func Fixed(b []byte) []byte {
	w := begin()
	for _, x := range b {
		w.bytes(x, 1)
	}
	return w.all()
}

// Runs deflates by one fixed block, in which rows of like bytes are copied.
func Runs(b []byte) []byte {
	w := begin()
	for len(b) > 0 {
		n := like(b)
		w.row(b[0], n)
		b = b[n:]
	}
	return w.all()
}

// like tells how many like bytes b begins with.
func like(b []byte) int {
	n := 1
	for n < len(b) && b[n] == b[0] {
		n++
	}
	return n
}
