package code

import (
	"fmt"
	"math"
	"slices"
	"strings"
	"testing"

	"sutler/api"
	"sutler/flow"
)

// 10.2: each symbol of each code, with nothing behind it and with something.
func TestReadAndWriteEachSymbol(t *testing.T) {
	for _, lengths := range codes() {
		c, words := made(t, lengths), wordsOf(lengths)
		for symbol, word := range words {
			if word == "" {
				continue
			}
			wantWritten(t, c, symbol, word)
			for _, behind := range []string{"", "0", "1", "0000000000000000", "1111111111111111"} {
				left := wantRead(t, c, readerOf(t, word+behind), words, word+behind)
				wantInt(t, "bits left", len(left), len(behind))
			}
		}
	}
}

func TestExampleOfRead(t *testing.T) {
	c, words := made(t, []int{2, 1, 3, 3}), []string{"10", "0", "110", "111"}
	bits := "10" + "0" + "110" + "111" + "0" + "0" + "10" + "11"
	r := readerOf(t, bits)
	for _, want := range []int{0, 1, 2, 3, 1, 1, 0} {
		symbol, e := c.Read(r)
		wantError(t, "Read", e, api.OK)
		wantInt(t, "Read", symbol, want)
	}
	wantRead(t, c, r, words, "11")
	wantError(t, "Read at the end", readError(c, r), api.ErrShort)
	wantInt(t, "At", r.At(), 16)

	// A code's bits go into a byte from its lowest one on.
	w := flow.Write()
	for _, symbol := range []int{2, 0, 3} {
		wantError(t, "Write", c.Write(w, symbol), api.OK)
	}
	wantInt(t, "the byte", int(w.All()[0]), 0b11101011)
}

// readError is Read's error alone.
func readError(c *Code, r *flow.Reader) api.Errno {
	_, e := c.Read(r)
	return e
}

// 10.2: the shortest codes and the longest ones.
func TestCodesOfOneBitAndOf15(t *testing.T) {
	lengths := append(ladder(15), 15)
	c, words := made(t, lengths), wordsOf(lengths)
	for symbol := range 16 {
		word := strings.Repeat("1", symbol)
		if symbol < 15 {
			word += "0"
		}
		if words[symbol] != word {
			t.Errorf("the word of %d: %q, want %q", symbol, words[symbol], word)
		}
		r := readerOf(t, word+"01")
		got, e := c.Read(r)
		wantError(t, "Read", e, api.OK)
		wantInt(t, "Read", got, symbol)
		wantInt(t, "Left", r.Left(), 2)
		wantWritten(t, c, symbol, word)
	}
}

// 10.2: the bits end within a code, each number of them ahead of its end, and at none.
func TestBitsEndWithinACode(t *testing.T) {
	for _, lengths := range codes() {
		c, words := made(t, lengths), wordsOf(lengths)
		for _, word := range words {
			for n := range len(word) {
				r := readerOf(t, word[:n])
				for range 2 {
					symbol, e := c.Read(r)
					wantError(t, fmt.Sprintf("Read of %q", word[:n]), e, api.ErrShort)
					wantInt(t, "Read", symbol, 0)
					wantInt(t, "Left", r.Left(), 0)
				}
			}
		}
		for _, r := range []*flow.Reader{flow.New(nil), flow.New([]byte{}), readerOf(t, "")} {
			at := r.At()
			symbol, e := c.Read(r)
			wantError(t, "Read of nothing", e, api.ErrShort)
			wantInt(t, "Read of nothing", symbol, 0)
			wantInt(t, "At", r.At(), at)
		}
	}
}

// 10.2: no code's beginning: any bit, where there is no code, and 1, where there is one code.
func TestBitsThatAreNoCode(t *testing.T) {
	for _, lengths := range [][]int{nil, {0}, zeros(288)} {
		c := made(t, lengths)
		for _, bits := range []string{"0", "1", "01", "10", "000", "1111111111111111"} {
			r := readerOf(t, bits)
			for left := len(bits) - 1; left >= 0; left-- {
				symbol, e := c.Read(r)
				wantError(t, fmt.Sprintf("Read of %q", bits), e, api.ErrFlate)
				wantInt(t, "Read", symbol, 0)
				wantInt(t, "Left", r.Left(), left)
			}
			wantError(t, "Read at the end", readError(c, r), api.ErrShort)
		}
	}
	for _, lengths := range [][]int{{1}, {0, 0, 1}, append(zeros(287), 1)} {
		c, bits := made(t, lengths), "0110100"
		r := readerOf(t, bits)
		for i, bit := range bits {
			want, wants := slices.Index(lengths, 1), api.OK
			if bit == '1' {
				want, wants = 0, api.ErrFlate
			}
			symbol, e := c.Read(r)
			wantError(t, fmt.Sprint("Read of bit ", i), e, wants)
			wantInt(t, fmt.Sprint("Read of bit ", i), symbol, want)
			wantInt(t, "Left", r.Left(), len(bits)-1-i)
		}
		wantError(t, "Read at the end", readError(c, r), api.ErrShort)
	}
}

// 10.2: of a reader that stands at each bit of its bytes.
func TestReadFromEachBit(t *testing.T) {
	c, words := made(t, Fixed()), wordsOf(Fixed())
	bits := strings.Repeat("0110100111000101", 4)
	for at := range len(bits) + 1 {
		r := readerOf(t, bits)
		for range at {
			wantError(t, "Skip", r.Skip(1), api.OK)
		}
		for rest := bits[at:]; rest != ""; {
			rest = wantRead(t, c, r, words, rest)
		}
	}
}

// 10.1, 10.2: symbols that have no code: -1, one among the others, one more than the last one.
func TestSymbolsWithoutACode(t *testing.T) {
	c := made(t, []int{0, 2, 1, 0, 3, 3, 0})
	for _, symbol := range []int{math.MinInt, -288, -7, -1, 0, 3, 6, 7, 8, 287, 288, math.MaxInt} {
		for _, ahead := range []int{0, 3, 8} {
			w := flow.Write()
			wantError(t, "Put", w.Put(0, ahead), api.OK)
			wantError(t, fmt.Sprintf("Write(%d)", symbol), c.Write(w, symbol), api.ErrNone)
			wantInt(t, "Len", w.Len(), ahead)
			wantError(t, "Write behind it", c.Write(w, 4), api.OK)
			if got, want := bitsOf(w), strings.Repeat("0", ahead)+"110"; got != want {
				t.Errorf("behind a refused Write: %q, want %q", got, want)
			}
		}
	}
	for _, symbol := range []int{1, 2, 4, 5} {
		wantError(t, fmt.Sprintf("Write(%d)", symbol), c.Write(flow.Write(), symbol), api.OK)
	}
	fixed := made(t, Fixed())
	for symbol, want := range map[int]api.Errno{-1: api.ErrNone, 0: api.OK, 287: api.OK, 288: api.ErrNone} {
		wantError(t, fmt.Sprintf("fixed, Write(%d)", symbol), fixed.Write(flow.Write(), symbol), want)
	}
}

// 10.2: the writer's errors come behind ErrNone, as the chapter names them.
func TestErrorsOfAWriterThatIsNone(t *testing.T) {
	for _, lengths := range [][]int{{2, 1, 3, 3}, {1}, Fixed()} {
		c := made(t, lengths)
		for _, w := range []*flow.Writer{nil, {}, new(flow.Writer)} {
			wantError(t, "Write of a symbol", c.Write(w, 0), api.ErrNil)
			wantError(t, "Write of the last one", c.Write(w, len(lengths)-1), api.ErrNil)
			wantError(t, "Write of -1", c.Write(w, -1), api.ErrNone)
			wantError(t, "Write of one more", c.Write(w, len(lengths)), api.ErrNone)
		}
	}
	wantError(t, "Write of no code", made(t, nil).Write(nil, 0), api.ErrNone)
}

func TestReaderThatIsNone(t *testing.T) {
	for _, lengths := range codes() {
		c := made(t, lengths)
		for _, r := range []*flow.Reader{nil, {}, new(flow.Reader)} {
			symbol, e := c.Read(r)
			wantError(t, "Read", e, api.ErrNil)
			wantInt(t, "Read", symbol, 0)
		}
	}
}

// 10.3: all symbols, one behind the other, there and back.
func TestReadAsWritten(t *testing.T) {
	for _, lengths := range codes() {
		c := made(t, lengths)
		w, sum := flow.Write(), 0
		var want []int
		for i := range 2 * len(lengths) {
			symbol := min(i, 2*len(lengths)-1-i)
			_, bits, e := c.Word(symbol)
			wantError(t, "Write", c.Write(w, symbol), e)
			if e == api.OK {
				want, sum = append(want, symbol), sum+bits
			}
		}
		wantInt(t, "Len", w.Len(), sum)
		r := flow.New(w.All())
		var got []int
		for range want {
			symbol, e := c.Read(r)
			wantError(t, "Read", e, api.OK)
			got = append(got, symbol)
		}
		wantInts(t, "read", got, want)
		wantInt(t, "At", r.At(), w.Len())
	}
}

// 10.5: of a full code each 15 bits that there are begin with a code, and with just one.
func TestAnyBitsOfAFullCode(t *testing.T) {
	for _, lengths := range [][]int{{1, 1}, {2, 1, 3, 3}, append(ladder(15), 15), append([]int{15}, ladder(15)...), alike(256, 8), Fixed()} {
		c, words := made(t, lengths), wordsOf(lengths)
		seen := make([]int, len(lengths))
		for n := range 1 << 15 {
			w := flow.Write()
			wantError(t, "Code", w.Code(n, 15), api.OK)
			r := flow.New(w.All())
			symbol, e := c.Read(r)
			if e != api.OK || words[symbol] != textOf(n, 15)[:r.At()] {
				t.Fatalf("Read of %015b: %d, error %d, %d bits", n, symbol, e, r.At())
			}
			seen[symbol]++
		}
		for symbol, n := range seen {
			wantInt(t, fmt.Sprint("how often ", symbol), n, 1<<(15-lengths[symbol]))
		}
	}
}
