package flow

import (
	"bytes"
	"fmt"
	"math"
	"testing"

	"sutler/api"
)

func TestExampleOfCode(t *testing.T) {
	w := Write()
	wantError(t, "Code(1, 3)", w.Code(1, 3), api.OK)
	wantError(t, "Put(1, 3)", w.Put(1, 3), api.OK)
	wantBytes(t, "the example", w.All(), []byte{12})
	wantInt(t, "Len", w.Len(), 6)
}

func TestWriteIsOfNothing(t *testing.T) {
	wantWritten(t, "Write", Write(), nil)
}

// numbers are some that just go into so many bits.
func numbers(bits int) []int {
	most := 1<<bits - 1
	return []int{0, min(1, most), most / 2, most - most/2, most - most/3, most}
}

// bitsUpTo is the bits of n, lowest first.
func bitsUpTo(n, bits int) []int {
	var all []int
	for range bits {
		all = append(all, n%2)
		n /= 2
	}
	return all
}

// 9.2: numbers of each width, behind each number of bits.
func TestPutAndCodeBehindEachBit(t *testing.T) {
	for ahead := range 18 {
		first := bitsOf(some(3, 5))[:ahead]
		for _, bits := range widths() {
			for _, n := range numbers(bits) {
				low := bitsUpTo(n, bits)
				what := fmt.Sprintf("(%d, %d) behind %d bits", n, bits, ahead)
				w := writerOf(t, first)
				wantError(t, "Put"+what, w.Put(n, bits), api.OK)
				wantWritten(t, "Put"+what, w, append(first[:ahead:ahead], low...))
				w = writerOf(t, first)
				wantError(t, "Code"+what, w.Code(n, bits), api.OK)
				wantWritten(t, "Code"+what, w, append(first[:ahead:ahead], reversed(low)...))
			}
		}
	}
}

// 9.2: what does not go in, and widths that may not be, ahead of each number of bits.
func TestNumbersThatDoNotGoIn(t *testing.T) {
	for ahead := range 10 {
		first := bitsOf(some(2, 6))[:ahead]
		w := writerOf(t, first)
		refused := func(n, bits int) {
			t.Helper()
			what := fmt.Sprintf("(%d, %d) behind %d bits", n, bits, ahead)
			wantError(t, "Put"+what, w.Put(n, bits), api.ErrArg)
			wantError(t, "Code"+what, w.Code(n, bits), api.ErrArg)
			wantWritten(t, what, w, first)
		}
		for _, bits := range widths() {
			for _, n := range []int{1 << bits, 1<<bits + 1, 1 << 24, 1 << 25, 1 << 32, 1 << 62,
				math.MaxInt, -1, -2, -1 << bits, -1<<bits - 1, math.MinInt32, math.MinInt + 1, math.MinInt} {
				refused(n, bits)
			}
		}
		for _, bits := range wrongWidths() {
			for _, n := range []int{0, 1, -1, math.MaxInt, math.MinInt} {
				refused(n, bits)
			}
		}
		wantError(t, "Put behind the refused", w.Put(1, 1), api.OK)
		wantWritten(t, "behind the refused", w, append(first[:ahead:ahead], 1))
	}
}

func TestPutAndCodeOfNoBits(t *testing.T) {
	w := Write()
	wantError(t, "Put(0, 0)", w.Put(0, 0), api.OK)
	wantError(t, "Code(0, 0)", w.Code(0, 0), api.OK)
	wantWritten(t, "no bits", w, nil)
	wantError(t, "Put(1, 0)", w.Put(1, 0), api.ErrArg)
	wantError(t, "Code(1, 0)", w.Code(1, 0), api.ErrArg)
	wantError(t, "Put(-1, 0)", w.Put(-1, 0), api.ErrArg)
	wantError(t, "Code(-1, 0)", w.Code(-1, 0), api.ErrArg)
	wantError(t, "Bytes behind no bits", w.Bytes([]byte{7}), api.OK)
	wantWritten(t, "behind no bits", w, bitsOf([]byte{7}))
}

// 9.2: noughts up to a whole byte, which is where Bytes may follow.
func TestAlignOfWriter(t *testing.T) {
	for ahead := range 26 {
		all := bitsOf(bytes.Repeat([]byte{255}, 4))[:ahead]
		w := writerOf(t, all)
		for len(all)%8 != 0 {
			all = append(all[:len(all):len(all)], 0)
		}
		for _, what := range []string{"Align", "Align again"} {
			what = fmt.Sprintf("%s behind %d bits", what, ahead)
			wantError(t, what, w.Align(), api.OK)
			wantWritten(t, what, w, all)
		}
		wantError(t, "Bytes", w.Bytes([]byte{6, 5}), api.OK)
		wantError(t, "Put", w.Put(1, 1), api.OK)
		wantWritten(t, "behind Align", w, append(all, append(bitsOf([]byte{6, 5}), 1)...))
	}
}

// 9.2: Bytes at a byte's beginning and within one, of none, of one and of many.
func TestBytesOfWriter(t *testing.T) {
	for ahead := range 18 {
		for _, b := range [][]byte{nil, {}, {0}, {200}, some(700, 4)} {
			all := bitsOf(some(3, 8))[:ahead]
			w := writerOf(t, all)
			e := api.OK
			if ahead%8 != 0 {
				e = api.ErrArg
			} else {
				all = append(all[:ahead:ahead], bitsOf(b)...)
			}
			what := fmt.Sprintf("Bytes of %d behind %d bits", len(b), ahead)
			wantError(t, what, w.Bytes(b), e)
			wantWritten(t, what, w, all)
			wantError(t, "Put", w.Put(5, 3), api.OK)
			wantWritten(t, what+", Put", w, append(all[:len(all):len(all)], 1, 0, 1))
		}
	}
}

func TestAllOfALastByteThatIsNotWhole(t *testing.T) {
	for bits := range 25 {
		w, n := Write(), 1<<bits-1
		wantError(t, "Put", w.Put(n, bits), api.OK)
		want := []byte{byte(n), byte(n >> 8), byte(n >> 16)}[:(bits+7)/8]
		wantBytes(t, "All", w.All(), want)
		wantBytes(t, "All again", w.All(), want)
		wantInt(t, "Len", w.Len(), bits)
		if bits%8 != 0 {
			wantError(t, "Bytes behind All", w.Bytes(nil), api.ErrArg)
		}
	}
}

// 9.3: what was put is taken in order; a code bit by bit, its highest bit first.
func TestWhatWasPutIsTaken(t *testing.T) {
	w := Write()
	for _, bits := range widths() {
		for _, n := range numbers(bits) {
			wantError(t, "Put", w.Put(n, bits), api.OK)
			wantError(t, "Code", w.Code(n, bits), api.OK)
		}
	}
	r := New(w.All())
	for _, bits := range widths() {
		for _, n := range numbers(bits) {
			wantTake(t, r, bits, n)
			for i := range bits {
				wantTake(t, r, 1, n>>(bits-1-i)&1)
			}
		}
	}
	wantInt(t, "At", r.At(), w.Len())
}

func TestBytesThatWerePutAreRead(t *testing.T) {
	w := Write()
	b := some(40, 2)
	for n := range 20 {
		wantError(t, "Put", w.Put(n, 5), api.OK)
		wantError(t, "Align", w.Align(), api.OK)
		wantError(t, "Bytes", w.Bytes(b[:n]), api.OK)
	}
	r := New(w.All())
	for n := range 20 {
		wantTake(t, r, 5, n)
		wantError(t, "Align", r.Align(), api.OK)
		wantRead(t, r, n, b[:n])
	}
	wantInt(t, "Left", r.Left(), 0)
}

func TestWriterThatNoCallMade(t *testing.T) {
	for _, w := range []*Writer{nil, {}, new(Writer)} {
		for _, bits := range append(wrongWidths(), widths()...) {
			for _, n := range []int{0, 1, -1, math.MaxInt} {
				wantError(t, "Put", w.Put(n, bits), api.ErrNil)
				wantError(t, "Code", w.Code(n, bits), api.ErrNil)
			}
		}
		wantError(t, "Align", w.Align(), api.ErrNil)
		wantError(t, "Bytes", w.Bytes([]byte{1}), api.ErrNil)
		wantError(t, "Bytes of none", w.Bytes(nil), api.ErrNil)
		wantBytes(t, "All", w.All(), nil)
		wantInt(t, "Len", w.Len(), 0)
	}
}

// Rule 4: what is handed in is neither changed nor kept.
func TestWriterKeepsNothingHandedIn(t *testing.T) {
	b := some(8, 1)
	was := bytes.Clone(b)
	w := Write()
	wantError(t, "Bytes", w.Bytes(b[:6]), api.OK)
	wantError(t, "Put", w.Put(255, 8), api.OK)
	wantError(t, "Bytes", w.Bytes([]byte{1}), api.OK)
	wantBytes(t, "what was handed in", b, was)
	clear(b)
	wantBytes(t, "All", w.All(), append(bytes.Clone(was[:6]), 255, 1))
}

// Rule 4: what is handed out is the caller's own.
func TestAllIsTheCallersOwn(t *testing.T) {
	w := Write()
	wantError(t, "Put", w.Put(5, 3), api.OK)
	first := w.All()
	clear(first)
	_ = append(first, 9, 9)
	wantBytes(t, "All again", w.All(), []byte{5})
	later := w.All()
	wantError(t, "Put", w.Put(31, 5), api.OK)
	wantError(t, "Put", w.Put(7, 9), api.OK)
	wantBytes(t, "what was handed out", later, []byte{5})
	wantBytes(t, "All of more", w.All(), []byte{253, 7, 0})
}

func TestWritersAreApart(t *testing.T) {
	one, other := Write(), Write()
	wantError(t, "Put", one.Put(3, 2), api.OK)
	wantWritten(t, "the other one", other, nil)
	wantWritten(t, "the one", one, []int{1, 1})
}
