package flate

import (
	"bytes"
	"fmt"
	"strings"
	"sync"
	"testing"

	"sutler/api"
)

func wantError(t *testing.T, what string, got, want api.Errno) {
	t.Helper()
	if got != want {
		t.Errorf("%s: error %d, want %d", what, got, want)
	}
}

func wantInt(t *testing.T, what string, got, want int) {
	t.Helper()
	if got != want {
		t.Errorf("%s: %d, want %d", what, got, want)
	}
}

// short is bytes as a text, of which only the first ones are told.
func short(b []byte) string {
	if len(b) > 60 {
		return fmt.Sprintf("%x.. (%d bytes)", b[:60], len(b))
	}
	return fmt.Sprintf("%x", b)
}

func wantBytes(t *testing.T, what string, got, want []byte) {
	t.Helper()
	if !bytes.Equal(got, want) {
		t.Errorf("%s: %s, want %s", what, short(got), short(want))
	}
}

// wantInflated asks for what a stream of b's first at bytes is made.
func wantInflated(t *testing.T, what string, b []byte, most int, want []byte, at int) {
	t.Helper()
	got, ends, e := Inflate(b, most)
	wantError(t, what, e, api.OK)
	wantBytes(t, what, got, want)
	wantInt(t, what+", the end", ends, at)
}

// wantRefused asks for an error, and for nothing beside it.
func wantRefused(t *testing.T, what string, b []byte, most int, want api.Errno) {
	t.Helper()
	got, ends, e := Inflate(b, most)
	wantError(t, what, e, want)
	if got != nil || ends != 0 {
		t.Errorf("%s: %s, %d, beside an error", what, short(got), ends)
	}
}

// some is n bytes without a pattern, the same in each run.
func some(n int, seed uint64) []byte {
	b := make([]byte, n)
	for i := range b {
		seed = seed*6364136223846793005 + 1442695040888963407
		b[i] = byte(seed >> 56)
	}
	return b
}

// rowOf is n like bytes.
func rowOf(b byte, n int) []byte { return bytes.Repeat([]byte{b}, n) }

// join is lists one behind the other.
func join(all ...[]byte) []byte { return bytes.Join(all, nil) }

// Streams are told here as texts of noughts and ones, in the order in which they are read.

// number is n in so many bits, lowest first.
func number(n, bits int) string {
	text := make([]byte, bits)
	for i := range text {
		text[i] = byte('0' + n>>i&1)
	}
	return string(text)
}

// packed is the bytes of bits, the last one filled up with noughts.
func packed(bits string) []byte {
	b := make([]byte, (len(bits)+7)/8)
	for i, x := range bits {
		b[i/8] |= byte(x-'0') << (i % 8)
	}
	return b
}

// unpacked is the bits of bytes.
func unpacked(b []byte) string {
	var all strings.Builder
	for _, x := range b {
		all.WriteString(number(int(x), 8))
	}
	return all.String()
}

// plusOne is a number of noughts and ones, and 1. It never is ones alone.
func plusOne(word string) string {
	at := strings.LastIndexByte(word, '0')
	return word[:at] + "1" + strings.Repeat("0", len(word)-at-1)
}

// wordsOf is the codes of lengths as the words of chapter 10 tell them: none for a symbol that has
// no code.
func wordsOf(lengths []int) []string {
	words, last := make([]string, len(lengths)), ""
	for n := 1; n <= 15; n++ {
		for symbol, length := range lengths {
			if length != n {
				continue
			}
			if last != "" {
				last = plusOne(last)
			}
			last += strings.Repeat("0", n-len(last))
			words[symbol] = last
		}
	}
	return words
}

// alike is n times the same length.
func alike(n, length int) []int {
	all := make([]int, n)
	for i := range all {
		all[i] = length
	}
	return all
}

// codes are the words of a block's symbols and of its distances.
type codes struct {
	symbols, distances []string
}

// fixedCodes are those of fixed blocks: of symbols 0 to 143, to 255, to 279, to 287; and thirty
// distances, behind which two words of five bits are none.
var fixedCodes = sync.OnceValue(func() codes {
	all := append(append(append(alike(144, 8), alike(112, 9)...), alike(24, 7)...), alike(8, 8)...)
	return codes{symbols: wordsOf(all), distances: wordsOf(alike(32, 5))}
})

// bounds is a base and a number of extra bits.
type bounds struct {
	base, bits int
}

// last is the last number of a span.
func (b bounds) last() int { return b.base + 1<<b.bits - 1 }

// lengthBounds is the lengths by the chapter's rule, from the symbol 257 on: eight without extra
// bits, then of each four one more, each base behind the last one's span; and the last one alone.
var lengthBounds = sync.OnceValue(func() []bounds {
	all, base := []bounds{}, 3
	for i := range 28 {
		b := bounds{base: base, bits: max(0, i/4-1)}
		all, base = append(all, b), b.last()+1
	}
	return append(all, bounds{base: 258})
})

// distanceBounds is the distances by the chapter's rule: four without extra bits, then of each two
// one more.
var distanceBounds = sync.OnceValue(func() []bounds {
	all, base := []bounds{}, 1
	for i := range 30 {
		b := bounds{base: base, bits: max(0, i/2-1)}
		all, base = append(all, b), b.last()+1
	}
	return all
})

// within is the bits of a number in a list of spans: the last one that reaches it, as the length
// 258 stands in two.
func within(all []bounds, words []string, n int) string {
	for i := len(all) - 1; ; i-- {
		if n >= all[i].base && n <= all[i].last() {
			return words[i] + number(n-all[i].base, all[i].bits)
		}
	}
}

// bytes is the bits of bytes.
func (c codes) bytes(b ...byte) string {
	var all strings.Builder
	for _, x := range b {
		all.WriteString(c.symbols[x])
	}
	return all.String()
}

// length is the bits of a copy's length, distance those of its distance.
func (c codes) length(n int) string   { return within(lengthBounds(), c.symbols[257:], n) }
func (c codes) distance(n int) string { return within(distanceBounds(), c.distances, n) }

// copy is the bits of a copy.
func (c codes) copy(n, back int) string { return c.length(n) + c.distance(back) }

// end is the bits of a block's end.
func (c codes) end() string { return c.symbols[256] }

// The three kinds of blocks begin so, with 1 for a last one ahead of them.
const (
	ofPlain = "00"
	ofFixed = "10"
	ofTold  = "01"
)

// plainBlock is the bits of a plain block that begins at a bit, which is filled up with ones, as
// these bits mean nothing.
func plainBlock(at int, last string, b []byte) string {
	fill := strings.Repeat("1", -(at+3)&7)
	return last + ofPlain + fill + number(len(b), 16) + number(len(b)^65535, 16) + unpacked(b)
}

// fixedBlock is the bits of a fixed block of these symbols, ahead of its end.
func fixedBlock(last, symbols string) string {
	return last + ofFixed + symbols + fixedCodes().end()
}

// shift is bits ahead of a stream's last block that end at a bit of that rest, and what they are
// made: fixed blocks of one byte, which has nine bits, so that each block has 19.
func shift(rest int) (string, []byte) {
	bits, b := "", []byte(nil)
	for len(bits)%8 != rest {
		bits += fixedBlock("0", fixedCodes().bytes(200))
		b = append(b, 200)
	}
	return bits, b
}

// upTo puts blocks ahead of bits, so that they end with a byte; and tells what these are made.
func upTo(bits string) ([]byte, []byte) {
	ahead, b := shift(-len(bits) & 7)
	return packed(ahead + bits), b
}

// wantEnds asks what is answered where a stream's bits end just behind these, which stand behind
// blocks that may be; there is room for so many bytes behind what those blocks are made.
func wantEnds(t *testing.T, what, bits string, room int, want api.Errno) {
	t.Helper()
	b, out := upTo(bits)
	wantRefused(t, what, b, len(out)+room, want)
}

// wantMade asks for what a stream is made, whatever bit it begins at, with nothing behind it and
// with something.
func wantMade(t *testing.T, what, bits string, want []byte) {
	t.Helper()
	for rest := range 8 {
		ahead, out := shift(rest)
		b, all := packed(ahead+bits), join(out, want)
		wantInflated(t, what, b, len(all), all, len(b))
		wantInflated(t, what, join(b, some(9, 7)), api.MaxBytes, all, len(b))
	}
}

// tell is a told block's codes: its lengths as rows by a code for lengths.
type tell struct {
	forLengths         []int // of the 19 symbols
	many               int   // how many of them are told
	symbols, distances int   // how many lengths follow
	rows               string
}

// places is the order in which the code for lengths is told.
func places() []int {
	return []int{16, 17, 18, 0, 8, 7, 9, 6, 10, 5, 11, 4, 12, 3, 13, 2, 14, 1, 15}
}

// anyRow is a code for lengths in which all symbols have a code.
func anyRow() []int { return append(alike(13, 4), alike(6, 5)...) }

// single is the rows of lengths one by one, again that of the last one n times, nones that of n
// noughts, from 3 up to 10 or from 11 up to 138.
func single(lengths ...int) string {
	words, text := wordsOf(anyRow()), ""
	for _, n := range lengths {
		text += words[n]
	}
	return text
}

func again(n int) string { return wordsOf(anyRow())[16] + number(n-3, 2) }

func nones(n int) string {
	if n <= 10 {
		return wordsOf(anyRow())[17] + number(n-3, 3)
	}
	return wordsOf(anyRow())[18] + number(n-11, 7)
}

// bits is the bits of a told block's codes, from its last one's bit on.
func (k tell) bits(last string) string {
	text := last + ofTold + number(k.symbols-257, 5) + number(k.distances-1, 5) + number(k.many-4, 4)
	for _, at := range places()[:k.many] {
		text += number(k.forLengths[at], 3)
	}
	return text + k.rows
}

// toldBy is the codes of a last told block of these lengths, told one by one, and their words.
func toldBy(symbols, distances []int) (string, codes) {
	k := tell{forLengths: anyRow(), many: 19, symbols: len(symbols), distances: len(distances)}
	k.rows = single(symbols...) + single(distances...)
	return k.bits("1"), codes{symbols: wordsOf(symbols), distances: wordsOf(distances)}
}

// lengthsWith is n lengths: those that are told by their symbols, and noughts.
func lengthsWith(n int, told map[int]int) []int {
	all := make([]int, n)
	for symbol, length := range told {
		all[symbol] = length
	}
	return all
}
