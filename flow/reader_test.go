package flow

import (
	"bytes"
	"fmt"
	"math"
	"testing"

	"sutler/api"
)

func TestExampleOfTake(t *testing.T) {
	r := New([]byte{5, 1})
	wantTake(t, r, 1, 1)
	wantTake(t, r, 2, 2)
	wantTake(t, r, 6, 32)
	wantStands(t, "behind the example", r, []byte{5, 1}, 9)
}

func TestNewStandsAtBit0(t *testing.T) {
	for _, b := range lists() {
		wantStands(t, fmt.Sprint("New of ", b), New(b), b, 0)
	}
}

// 9.1: numbers of each width, from each bit of each list: taken, skipped and looked at.
func TestNumbersFromEachBit(t *testing.T) {
	for _, b := range lists() {
		all := bitsOf(b)
		for at := range len(all) + 1 {
			for _, n := range widths() {
				numberFrom(t, b, all, at, n)
			}
		}
	}
}

// numberFrom asks a reader of b, whose bits are all, for the number of n bits from that bit on.
func numberFrom(t *testing.T, b []byte, all []int, at, n int) {
	t.Helper()
	what := fmt.Sprintf("of %v from bit %d, %d bits", b, at, n)
	r := readerAt(t, b, at)
	end := min(at+n, len(all))
	wantInt(t, what+", Peek", r.Peek(n), numberOf(all[at:end]))
	wantStands(t, what+", behind Peek", r, b, at)
	want, e, stands := numberOf(all[at:end]), api.OK, end
	if at+n > len(all) {
		want, e, stands = 0, api.ErrShort, at
	}
	got, took := r.Take(n)
	wantError(t, what+", Take", took, e)
	wantInt(t, what+", Take", got, want)
	wantStands(t, what+", behind Take", r, b, stands)
	r = readerAt(t, b, at)
	wantError(t, what+", Skip", r.Skip(n), e)
	wantStands(t, what+", behind Skip", r, b, stands)
}

func TestEdgesOfTake(t *testing.T) {
	r := New([]byte{1, 2, 3})
	wantTake(t, r, 24, 3<<16|2<<8|1)
	wantTake(t, r, 0, 0)
	got, e := r.Take(1)
	wantError(t, "Take of one bit more", e, api.ErrShort)
	wantInt(t, "Take of one bit more", got, 0)

	r = New([]byte{0xff, 0x7f})
	wantTake(t, r, 15, 1<<15-1)
	_, e = r.Take(2)
	wantError(t, "Take of two bits of one", e, api.ErrShort)
	wantTake(t, r, 1, 0)
	wantStands(t, "at the end", r, []byte{0xff, 0x7f}, 16)

	wantTake(t, New(nil), 0, 0)
	_, e = New(nil).Take(1)
	wantError(t, "Take(1) of nothing", e, api.ErrShort)
	wantInt(t, "Peek of nothing", New(nil).Peek(24), 0)
	wantError(t, "Skip(0) of nothing", New(nil).Skip(0), api.OK)
	wantError(t, "Skip(1) of nothing", New(nil).Skip(1), api.ErrShort)
}

func TestPeekOverTheEndHasNoughts(t *testing.T) {
	r := New([]byte{0xff})
	wantInt(t, "Peek(24) of one byte", r.Peek(24), 0xff)
	wantError(t, "Skip(3)", r.Skip(3), api.OK)
	wantInt(t, "Peek(6) of five bits", r.Peek(6), 31)
	wantInt(t, "Peek(24) of five bits", r.Peek(24), 31)
	wantInt(t, "Peek(5) of five bits", r.Peek(5), 31)
	wantInt(t, "Peek(4) of five bits", r.Peek(4), 15)
	wantError(t, "Skip(5)", r.Skip(5), api.OK)
	wantInt(t, "Peek(1) at the end", r.Peek(1), 0)
	wantInt(t, "Peek(24) at the end", r.Peek(24), 0)
}

// 9.1: ErrArg comes ahead of ErrShort, and the reader stays.
func TestWidthsThatMayNotBe(t *testing.T) {
	for _, b := range [][]byte{nil, {7}, bytes.Repeat([]byte{255}, 40)} {
		for _, at := range []int{0, 1, 8 * len(b)} {
			at = min(at, 8*len(b))
			for _, n := range wrongWidths() {
				what := fmt.Sprintf("%d bits of %d bytes at bit %d", n, len(b), at)
				r := readerAt(t, b, at)
				got, e := r.Take(n)
				wantError(t, what+", Take", e, api.ErrArg)
				wantInt(t, what+", Take", got, 0)
				wantInt(t, what+", Peek", r.Peek(n), 0)
				wantError(t, what+", Skip", r.Skip(n), api.ErrArg)
				wantStands(t, what, r, b, at)
			}
		}
	}
}

func TestAlignOfReader(t *testing.T) {
	for _, b := range lists() {
		for at := range 8*len(b) + 1 {
			r := readerAt(t, b, at)
			for _, what := range []string{"Align", "Align again"} {
				wantError(t, what, r.Align(), api.OK)
				wantStands(t, fmt.Sprintf("%s of %v at bit %d", what, b, at), r, b, (at+7)/8*8)
			}
		}
	}
}

// 9.1: each number of bytes that may be, from each bit of each list.
func TestBytesFromEachBit(t *testing.T) {
	for _, b := range lists() {
		for at := range 8*len(b) + 1 {
			for n := range len(b) + 3 {
				bytesFrom(t, b, at, n)
			}
		}
	}
}

// bytesFrom asks a reader of b for n bytes from that bit on.
func bytesFrom(t *testing.T, b []byte, at, n int) {
	t.Helper()
	what := fmt.Sprintf("Bytes(%d) of %v at bit %d", n, b, at)
	r := readerAt(t, b, at)
	got, e := r.Bytes(n)
	switch {
	case at%8 != 0:
		wantError(t, what, e, api.ErrArg)
	case at/8+n > len(b):
		wantError(t, what, e, api.ErrShort)
	default:
		wantError(t, what, e, api.OK)
		wantBytes(t, what, got, b[at/8:at/8+n])
		wantStands(t, what, r, b, at+8*n)
		return
	}
	if got != nil {
		t.Errorf("%s: %v beside an error", what, got)
	}
	wantStands(t, what, r, b, at)
}

func TestEdgesOfBytes(t *testing.T) {
	b := []byte{1, 2, 3}
	r := New(b)
	wantRead(t, r, 0, nil)
	wantTake(t, r, 8, 1)
	_, e := r.Bytes(3)
	wantError(t, "Bytes of one more than are left", e, api.ErrShort)
	wantRead(t, r, 2, []byte{2, 3})
	wantRead(t, r, 0, nil)
	wantRead(t, New(nil), 0, nil)

	r = readerAt(t, b, 17)
	for _, n := range []int{0, 1, 4, math.MaxInt, -1, math.MinInt} {
		_, e = r.Bytes(n)
		wantError(t, fmt.Sprintf("Bytes(%d) within a byte", n), e, api.ErrArg)
	}
	wantStands(t, "within a byte", r, b, 17)
}

func TestWrongNumbersOfBytes(t *testing.T) {
	b := []byte{1, 2, 3}
	for _, at := range []int{0, 8, 24} {
		r := readerAt(t, b, at)
		for _, n := range []int{-1, -2, -3, -24, math.MinInt32, math.MinInt + 1, math.MinInt} {
			_, e := r.Bytes(n)
			wantError(t, fmt.Sprintf("Bytes(%d)", n), e, api.ErrArg)
		}
		for _, n := range []int{4, 24, 25, 1 << 16, math.MaxInt32, math.MaxInt/8 + 1, 1 << 61, math.MaxInt - 1, math.MaxInt} {
			_, e := r.Bytes(n)
			wantError(t, fmt.Sprintf("Bytes(%d)", n), e, api.ErrShort)
		}
		wantStands(t, "behind wrong numbers", r, b, at)
	}
}

// Bytes takes more than a number may have.
func TestBytesOfMany(t *testing.T) {
	b := some(5000, 3)
	r := New(b)
	wantRead(t, r, 1000, b[:1000])
	wantTake(t, r, 24, int(b[1000])|int(b[1001])<<8|int(b[1002])<<16)
	wantRead(t, r, 3997, b[1003:])
	wantStands(t, "at the end", r, b, 40000)
}

// 9.4: in two pieces, of each widths, from each bit.
func TestTakeInTwoPieces(t *testing.T) {
	b := some(6, 9)
	for at := range 8*len(b) + 1 {
		for _, n := range widths() {
			for first := range n + 1 {
				at24 := readerAt(t, b, at)
				whole, e := at24.Take(n)
				if e != api.OK {
					continue
				}
				r := readerAt(t, b, at)
				low, _ := r.Take(first)
				high, _ := r.Take(n - first)
				wantInt(t, fmt.Sprintf("%d and %d bits from bit %d", first, n-first, at), low+high<<first, whole)
				wantInt(t, "At", r.At(), at24.At())
			}
		}
	}
}

// 9.5: whatever is called.
func TestAtAndLeftSumUp(t *testing.T) {
	for _, b := range lists() {
		r := New(b)
		sums := func(what string) {
			t.Helper()
			wantInt(t, what, r.At()+r.Left(), 8*len(b))
		}
		sums("New")
		for n := range 30 {
			r.Take(n % 7)
			sums("Take")
			r.Skip(n % 5)
			sums("Skip")
			r.Peek(n)
			sums("Peek")
			r.Align()
			sums("Align")
			r.Bytes(n % 3)
			sums("Bytes")
		}
	}
}

func TestReaderThatNoCallMade(t *testing.T) {
	for _, r := range []*Reader{nil, {}, new(Reader)} {
		for _, n := range append(wrongWidths(), widths()...) {
			got, e := r.Take(n)
			wantError(t, "Take", e, api.ErrNil)
			wantInt(t, "Take", got, 0)
			wantInt(t, "Peek", r.Peek(n), 0)
			wantError(t, "Skip", r.Skip(n), api.ErrNil)
			b, e := r.Bytes(n)
			wantError(t, "Bytes", e, api.ErrNil)
			wantBytes(t, "Bytes", b, nil)
		}
		wantError(t, "Align", r.Align(), api.ErrNil)
		wantInt(t, "At", r.At(), 0)
		wantInt(t, "Left", r.Left(), 0)
	}
}

// Rule 4: what is handed in is neither changed nor kept.
func TestReaderKeepsNothingHandedIn(t *testing.T) {
	b := some(8, 1)
	was := bytes.Clone(b)
	r := New(b[:6:8])
	clear(b)
	wantStands(t, "behind the change", r, was[:6], 0)
	wantTake(t, r, 8, int(was[0]))
	wantRead(t, r, 5, was[1:6])

	b = bytes.Clone(was)
	r = New(b)
	for r.Left() > 0 {
		r.Take(3)
		r.Align()
		got, _ := r.Bytes(1)
		clear(got)
	}
	wantBytes(t, "what was handed in", b, was)
}

// Rule 4: what is handed out is the caller's own.
func TestBytesAreTheCallersOwn(t *testing.T) {
	b := []byte{1, 2, 3, 4}
	r := New(b)
	first, _ := r.Bytes(2)
	clear(first)
	_ = append(first, 9, 9)
	wantRead(t, r, 2, []byte{3, 4})
	wantBytes(t, "what was handed in", b, []byte{1, 2, 3, 4})
}

func TestReadersAreApart(t *testing.T) {
	b := []byte{1, 2, 3, 4}
	one, other := New(b), New(b)
	wantTake(t, one, 9, 1)
	wantStands(t, "the other one", other, b, 0)
	wantStands(t, "the one", one, b, 9)
}
