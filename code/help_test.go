package code

import (
	"fmt"
	"math"
	"math/rand"
	"slices"
	"strings"
	"testing"

	"sutler/api"
	"sutler/flow"
)

func wantError(t *testing.T, what string, got, want api.Errno) {
	t.Helper()
	if got != want {
		t.Errorf("%s: error %d, want %d", what, got, want)
	}
}

func wantInt(t *testing.T, what string, got, want int) {
	t.Helper()
	if got != want {
		t.Errorf("%s: %d, want %d", what, got, want)
	}
}

func wantInts(t *testing.T, what string, got, want []int) {
	t.Helper()
	if !slices.Equal(got, want) {
		t.Errorf("%s: %v, want %v", what, got, want)
	}
}

// made is the code of lengths that may be.
func made(t *testing.T, lengths []int) *Code {
	t.Helper()
	c, e := New(lengths)
	if c == nil || e != api.OK {
		t.Fatalf("New(%v): error %d", lengths, e)
	}
	return c
}

func wantRefused(t *testing.T, lengths []int) {
	t.Helper()
	c, e := New(lengths)
	if c != nil || e != api.ErrCode {
		t.Errorf("New(%v): %v, error %d, want none and %d", lengths, c, e, api.ErrCode)
	}
}

// plusOne is a number of noughts and ones, and 1. It never is ones alone.
func plusOne(word string) string {
	at := strings.LastIndexByte(word, '0')
	return word[:at] + "1" + strings.Repeat("0", len(word)-at-1)
}

// wordsOf is the codes as the chapter's words tell them, as texts of noughts and ones: none for a
// symbol that has no code.
func wordsOf(lengths []int) []string {
	words, last := make([]string, len(lengths)), ""
	for n := 1; n <= 15; n++ {
		for symbol, length := range lengths {
			if length != n {
				continue
			}
			if last != "" {
				last = plusOne(last)
			}
			last += strings.Repeat("0", n-len(last))
			words[symbol] = last
		}
	}
	return words
}

// textOf is a code as a text.
func textOf(code, bits int) string {
	if bits == 0 {
		return ""
	}
	return fmt.Sprintf("%0*b", bits, code)
}

// wantWords holds all that a code tells without a reader or a writer against its words.
func wantWords(t *testing.T, what string, c *Code, words []string) {
	t.Helper()
	coded := 0
	for symbol, word := range words {
		want := api.ErrNone
		if word != "" {
			want, coded = api.OK, coded+1
		}
		code, bits, e := c.Word(symbol)
		wantError(t, fmt.Sprintf("%s, Word(%d)", what, symbol), e, want)
		if textOf(code, bits) != word || word == "" && code != 0 {
			t.Errorf("%s, Word(%d): %d, %d bits, want %q", what, symbol, code, bits, word)
		}
	}
	wantInt(t, what+", Symbols", c.Symbols(), coded)
	for _, symbol := range []int{math.MinInt, -288, -2, -1, len(words), len(words) + 1, 288, 289, math.MaxInt} {
		if symbol >= 0 && symbol < len(words) {
			continue
		}
		code, bits, e := c.Word(symbol)
		if code != 0 || bits != 0 || e != api.ErrNone {
			t.Errorf("%s, Word(%d): %d, %d bits, error %d, want %d", what, symbol, code, bits, e, api.ErrNone)
		}
	}
}

// readerOf is a reader that stands ahead of these bits, which are its last ones.
func readerOf(t *testing.T, bits string) *flow.Reader {
	t.Helper()
	ahead := -len(bits) & 7
	w := flow.Write()
	for _, x := range strings.Repeat("1", ahead) + bits {
		wantError(t, "Put of a bit", w.Put(int(x-'0'), 1), api.OK)
	}
	r := flow.New(w.All())
	wantError(t, "Skip", r.Skip(ahead), api.OK)
	wantInt(t, "Left", r.Left(), len(bits))
	return r
}

// bitsOf is all that was written.
func bitsOf(w *flow.Writer) string {
	return bitsOfBytes(w.All())[:w.Len()]
}

// bitsOfBytes is the bits of bytes, the lowest of each byte first.
func bitsOfBytes(b []byte) string {
	var all strings.Builder
	for _, x := range b {
		for i := range 8 {
			all.WriteByte('0' + x>>i&1)
		}
	}
	return all.String()
}

// reading is what is read of bits by a list of words: a symbol, an error, and how many bits are
// gone.
func reading(words []string, bits string) (int, api.Errno, int) {
	longest := 1
	for _, word := range words {
		longest = max(longest, len(word))
	}
	for n := 1; n <= longest; n++ {
		if n > len(bits) {
			return 0, api.ErrShort, len(bits)
		}
		if symbol := slices.Index(words, bits[:n]); symbol >= 0 {
			return symbol, api.OK, n
		}
	}
	return 0, api.ErrFlate, longest
}

// wantRead reads once out of bits that are told, and answers those that are left.
func wantRead(t *testing.T, c *Code, r *flow.Reader, words []string, bits string) string {
	t.Helper()
	want, wants, gone := reading(words, bits)
	symbol, e := c.Read(r)
	if symbol != want || e != wants {
		t.Errorf("Read of %q: %d, error %d, want %d, error %d", bits, symbol, e, want, wants)
	}
	if r.Left() != len(bits)-gone {
		t.Errorf("Read of %q: %d bits are left, want %d", bits, r.Left(), len(bits)-gone)
	}
	return bits[gone:]
}

// wantWritten writes a symbol behind each of some numbers of bits, and asks for what is there then.
func wantWritten(t *testing.T, c *Code, symbol int, word string) {
	t.Helper()
	for _, ahead := range []string{"", "1", "0110101", "10010110", "111100001010"} {
		w := flow.Write()
		for _, x := range ahead {
			wantError(t, "Put", w.Put(int(x-'0'), 1), api.OK)
		}
		wantError(t, fmt.Sprintf("Write(%d)", symbol), c.Write(w, symbol), api.OK)
		if got := bitsOf(w); got != ahead+word {
			t.Errorf("Write(%d) behind %q: %q, want %q", symbol, ahead, got, ahead+word)
		}
	}
}

// zeros is n lengths of symbols that have no code.
func zeros(n int) []int { return make([]int, n) }

// alike is n times the same length.
func alike(n, length int) []int { return slices.Repeat([]int{length}, n) }

// ladder is the lengths from 1 up to n.
func ladder(n int) []int {
	all := make([]int, n)
	for i := range all {
		all[i] = i + 1
	}
	return all
}

// roomOf is how much of the room is left, each length's use reckoned by halves.
func roomOf(lengths []int) int {
	left := 32768
	for _, n := range lengths {
		if n < 1 || n > 15 {
			continue
		}
		use := 32768
		for range n {
			use /= 2
		}
		left -= use
	}
	return left
}

// mayBe tells whether lengths may be, as the chapter has it.
func mayBe(lengths []int) bool {
	if len(lengths) > 288 {
		return false
	}
	var codes []int
	for _, n := range lengths {
		if n < 0 || n > 15 {
			return false
		}
		if n > 0 {
			codes = append(codes, n)
		}
	}
	left := roomOf(lengths)
	if left > 0 {
		return len(codes) == 0 || len(codes) == 1 && codes[0] == 1
	}
	return left == 0
}

// full is the lengths of so many codes that are full, among which there may be symbols without one.
func full(rng *rand.Rand, codes, without int) []int {
	lengths := []int{1, 1}
	for len(lengths) < codes {
		at := rng.Intn(len(lengths))
		if rng.Intn(3) == 0 {
			at = slices.Index(lengths, slices.Max(lengths))
		}
		if lengths[at] < 15 {
			lengths[at]++
			lengths = append(lengths, lengths[at])
		}
	}
	lengths = append(lengths, zeros(without)...)
	rng.Shuffle(len(lengths), func(i, j int) { lengths[i], lengths[j] = lengths[j], lengths[i] })
	return lengths
}

// codes are lengths of some kinds that may be.
func codes() [][]int {
	rng := rand.New(rand.NewSource(10))
	all := [][]int{
		nil, {}, {0}, zeros(288), {1}, {0, 1}, {1, 0}, append(zeros(287), 1), {1, 1}, {0, 1, 0, 1, 0},
		{2, 1, 3, 3}, {3, 3, 1, 2}, alike(4, 2), alike(256, 8), append(zeros(32), alike(256, 8)...),
		append(ladder(15), 15), append([]int{15}, ladder(15)...), Fixed(),
	}
	for n := 2; n <= 15; n++ {
		all = append(all, append(ladder(n), n))
	}
	for range 40 {
		n := 2 + rng.Intn(200)
		all = append(all, full(rng, n, rng.Intn(289-n)))
	}
	return append(all, full(rng, 288, 0))
}
