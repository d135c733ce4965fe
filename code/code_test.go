package code

import (
	"fmt"
	"math"
	"slices"
	"testing"

	"sutler/api"
	"sutler/flow"
)

func TestExamples(t *testing.T) {
	wantWords(t, "2 1 3 3", made(t, []int{2, 1, 3, 3}), []string{"10", "0", "110", "111"})
	wantRefused(t, []int{1, 1, 1})
	wantRefused(t, []int{2, 2})
}

// 10.1: no symbol has a code.
func TestNoCodeAtAll(t *testing.T) {
	for _, n := range []int{0, 1, 2, 30, 287, 288} {
		c := made(t, zeros(n))
		wantWords(t, fmt.Sprint(n, " symbols"), c, make([]string, n))
		wantInt(t, "Symbols", c.Symbols(), 0)
	}
	wantWords(t, "nil", made(t, nil), nil)
}

// 10.1: 288 symbols at the most, with a code or without.
func TestHowManySymbols(t *testing.T) {
	last := append(zeros(287), 1)
	wantWords(t, "the last one of 288", made(t, last), append(make([]string, 287), "0"))
	both := append(append([]int{1}, zeros(286)...), 1)
	wantWords(t, "the first and the last one of 288", made(t, both), wordsOf(both))
	wantInt(t, "Symbols of 288", made(t, Fixed()).Symbols(), 288)

	wantRefused(t, zeros(289))
	wantRefused(t, append(zeros(288), 1))
	wantRefused(t, append([]int{1}, zeros(288)...))
	wantRefused(t, append(Fixed(), 0))
	wantRefused(t, append(alike(256, 8), zeros(33)...))
	wantRefused(t, append(alike(255, 8), append(zeros(32), 9, 9)...))
	for _, n := range []int{290, 320, 512, 1 << 16} {
		wantRefused(t, zeros(n))
		wantRefused(t, append([]int{1, 1}, zeros(n)...))
		wantRefused(t, alike(n, 15))
	}
}

// wrongLengths are lengths that no symbol may have.
func wrongLengths() []int {
	return []int{-1, -2, -15, -16, -63, -64, 16, 17, 31, 32, 33, 47, 63, 64, 65, 79, 255, 256, 1 << 16,
		1<<32 + 1, math.MaxInt32, math.MinInt32, math.MaxInt - 1, math.MaxInt, math.MinInt, math.MinInt + 1}
}

// 10.1: one length not from 0 to 15, wherever it stands, whatever room the others leave.
func TestLengthsThatMayNotBe(t *testing.T) {
	for _, wrong := range wrongLengths() {
		wantRefused(t, []int{wrong})
		wantRefused(t, []int{wrong, wrong})
		wantInt(t, fmt.Sprint("Room of ", wrong), Room([]int{wrong}), 32768)
		for _, others := range [][]int{{0}, {1}, {1, 1}, {2, 1, 3, 3}, alike(255, 8), Fixed()[:287], append(ladder(15), 15)} {
			for _, at := range []int{0, len(others) / 2, len(others)} {
				lengths := slices.Insert(slices.Clone(others), at, wrong)
				wantRefused(t, lengths)
				wantInt(t, fmt.Sprint("Room with ", wrong), Room(lengths), roomOf(others))
			}
		}
	}
}

// 10.1: one code alone has the length 1.
func TestOneCode(t *testing.T) {
	for n := 1; n <= 15; n++ {
		for _, at := range []int{0, 1, 29, 287} {
			lengths := append(zeros(at), n)
			for _, lengths := range [][]int{lengths, append(slices.Clone(lengths), zeros(287-at)...)} {
				wantInt(t, "Room", Room(lengths), 32768-32768>>n)
				if n > 1 {
					wantRefused(t, lengths)
					continue
				}
				c := made(t, lengths)
				wantInt(t, "Symbols", c.Symbols(), 1)
				wantWords(t, fmt.Sprint("one code, of ", at), c, wordsOf(lengths))
			}
		}
	}
}

// 10.1: two codes have the length 1, and not another one.
func TestTwoCodes(t *testing.T) {
	for one := 1; one <= 15; one++ {
		for other := 1; other <= 15; other++ {
			lengths := []int{0, one, 0, other}
			if one > 1 || other > 1 {
				wantRefused(t, lengths)
				continue
			}
			wantWords(t, "1 and 1", made(t, lengths), []string{"", "0", "", "1"})
		}
	}
}

// 10.1: what just uses up the room, one code fewer, and one more.
func TestRoomJustUsedUp(t *testing.T) {
	for n := 2; n <= 15; n++ {
		lengths := append(ladder(n), n)
		wantInt(t, "Room", Room(lengths), 0)
		wantWords(t, fmt.Sprint("a ladder of ", n), made(t, lengths), wordsOf(lengths))
		wantInt(t, "Room of one fewer", Room(lengths[:n]), 1<<(15-n))
		wantRefused(t, lengths[:n])
		for more := 1; more <= 15; more++ {
			over := append(lengths[:n+1:n+1], more)
			wantInt(t, "Room of one more", Room(over), -32768>>more)
			wantRefused(t, over)
		}
		shorter := append(ladder(n), n-1)
		wantInt(t, "Room of a shorter one", Room(shorter), -1<<(15-n))
		wantRefused(t, shorter)
	}
	for n := 1; n <= 8; n++ {
		lengths := alike(1<<n, n)
		wantInt(t, "Room of like ones", Room(lengths), 0)
		wantWords(t, fmt.Sprint("like ones of ", n), made(t, lengths), wordsOf(lengths))
		wantRefused(t, append(lengths[1:], n+1))
		wantRefused(t, append(lengths[:1<<n:1<<n], n))
		wantRefused(t, append(lengths[:1<<n:1<<n], 15))
	}
	wantRefused(t, alike(255, 8))
	wantRefused(t, alike(288, 9))
	wantRefused(t, alike(288, 8))
	wantRefused(t, alike(288, 1))
	wantRefused(t, alike(288, 15))
}

// 10.1: all short lists of short lengths, and of those at the edges.
func TestAllShortLists(t *testing.T) {
	var lists func(ahead []int, more int, of []int)
	lists = func(ahead []int, more int, of []int) {
		wantInt(t, fmt.Sprint("Room of ", ahead), Room(ahead), roomOf(ahead))
		if mayBe(ahead) {
			wantWords(t, fmt.Sprint(ahead), made(t, ahead), wordsOf(ahead))
		} else {
			wantRefused(t, ahead)
		}
		if more == 0 {
			return
		}
		for _, n := range of {
			lists(append(ahead[:len(ahead):len(ahead)], n), more-1, of)
		}
	}
	lists(nil, 6, []int{0, 1, 2, 3})
	lists(nil, 5, []int{0, 1, 2, 3, 4, 15})
	lists(nil, 3, append(ladder(17), -1, 0, 64, -64, math.MaxInt, math.MinInt))
}

// 10.1: Room of lists of any number of members.
func TestRoomOfLongLists(t *testing.T) {
	wantInt(t, "Room of nil", Room(nil), 32768)
	wantInt(t, "Room of none", Room([]int{}), 32768)
	wantInt(t, "Room of 288 noughts", Room(zeros(288)), 32768)
	wantInt(t, "Room of 1000 noughts", Room(zeros(1000)), 32768)
	for n := 1; n <= 15; n++ {
		for _, many := range []int{1, 2, 3, 288, 289, 1000, 32767, 32768, 32769, 100000} {
			wantInt(t, fmt.Sprintf("Room of %d times %d", many, n), Room(alike(many, n)), 32768-many<<(15-n))
		}
	}
	wantInt(t, "Room of the fixed ones", Room(Fixed()), 0)
}

// 10.1: the lengths of the fixed code at their bounds, and its words.
func TestFixed(t *testing.T) {
	lengths := Fixed()
	wantInt(t, "Fixed, how many", len(lengths), 288)
	bounds := []struct{ from, to, length int }{{0, 143, 8}, {144, 255, 9}, {256, 279, 7}, {280, 287, 8}}
	for _, b := range bounds {
		for symbol := b.from; symbol <= b.to; symbol++ {
			wantInt(t, fmt.Sprint("Fixed, of ", symbol), lengths[symbol], b.length)
		}
	}
	c := made(t, lengths)
	wantWords(t, "fixed", c, wordsOf(lengths))
	words := map[int]string{0: "00110000", 143: "10111111", 144: "110010000", 255: "111111111",
		256: "0000000", 279: "0010111", 280: "11000000", 287: "11000111"}
	for symbol, word := range words {
		code, bits, e := c.Word(symbol)
		if textOf(code, bits) != word || e != api.OK {
			t.Errorf("fixed, Word(%d): %s, error %d, want %s", symbol, textOf(code, bits), e, word)
		}
	}
}

// Rule 4: the lengths that are handed out are the caller's own.
func TestFixedTwice(t *testing.T) {
	first := Fixed()
	was := slices.Clone(first)
	clear(first)
	_ = append(first, 9)
	wantInts(t, "Fixed again", Fixed(), was)
	later := Fixed()
	for i := range first {
		first[i] = 15
	}
	wantInts(t, "Fixed, handed out", later, was)
	wantWords(t, "fixed", made(t, later), wordsOf(was))
}

// 10.4: no code is another one's beginning.
func TestNoCodeBeginsAnother(t *testing.T) {
	for _, lengths := range codes() {
		c := made(t, lengths)
		for one := range lengths {
			code, bits, e := c.Word(one)
			if e != api.OK {
				continue
			}
			for other := range lengths {
				longer, more, e := c.Word(other)
				if e == api.OK && one != other && more >= bits && longer>>(more-bits) == code {
					t.Errorf("of %v: the code of %d begins that of %d", lengths, one, other)
				}
			}
		}
	}
}

// Rule 4: what is handed in is neither changed nor kept.
func TestNewKeepsNothingHandedIn(t *testing.T) {
	for _, was := range append(codes(), []int{1, 1, 1}, []int{2, 2}, []int{1, 1, -1}, zeros(289)) {
		lengths := append(slices.Clone(was), 7, 7, 7)[:len(was)]
		c, _ := New(lengths)
		Room(lengths)
		wantInts(t, "what was handed in", lengths, was)
		wantInts(t, "what stands behind it", lengths[:len(was)+3][len(was):], []int{7, 7, 7})
		for i := range lengths {
			lengths[i] = 16 - lengths[i]
		}
		if c == nil {
			continue
		}
		words := wordsOf(was)
		wantWords(t, "behind the change", c, words)
		for symbol, word := range words {
			if word != "" {
				wantRead(t, c, readerOf(t, word), words, word)
				wantWritten(t, c, symbol, word)
			}
		}
	}
}

// P2: a code that was refused leaves those that are there as they were.
func TestCodesAreApart(t *testing.T) {
	one := made(t, []int{2, 1, 3, 3})
	other := made(t, []int{1, 1})
	wantRefused(t, []int{1, 1, 1})
	copied := *one
	wantWords(t, "the one", one, []string{"10", "0", "110", "111"})
	wantWords(t, "the other one", other, []string{"0", "1"})
	wantWords(t, "a copy", &copied, []string{"10", "0", "110", "111"})
}

// Rule 2: a code that no call made, and one that was refused.
func TestCodeThatNoCallMade(t *testing.T) {
	refused, _ := New([]int{1, 1, 1})
	for _, c := range []*Code{nil, {}, new(Code), refused} {
		wantInt(t, "Symbols", c.Symbols(), 0)
		for _, symbol := range []int{math.MinInt, -1, 0, 1, 287, 288, math.MaxInt} {
			code, bits, e := c.Word(symbol)
			wantError(t, "Word", e, api.ErrNil)
			wantInt(t, "Word", code, 0)
			wantInt(t, "Word, bits", bits, 0)
			w := flow.Write()
			wantError(t, "Write", c.Write(w, symbol), api.ErrNil)
			wantInt(t, "Len behind Write", w.Len(), 0)
			wantError(t, "Write to nil", c.Write(nil, symbol), api.ErrNil)
			wantError(t, "Write to a plain one", c.Write(&flow.Writer{}, symbol), api.ErrNil)
		}
		for _, r := range []*flow.Reader{nil, {}, flow.New(nil), flow.New([]byte{1, 2})} {
			symbol, e := c.Read(r)
			wantError(t, "Read", e, api.ErrNil)
			wantInt(t, "Read", symbol, 0)
			wantInt(t, "At behind Read", r.At(), 0)
		}
	}
}
