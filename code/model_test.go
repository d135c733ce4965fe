package code

import (
	"fmt"
	"math/rand"
	"strings"
	"testing"

	"sutler/api"
	"sutler/flow"
)

// someLengths are lengths that may be, mostly, of up to some number of codes.
func someLengths(rng *rand.Rand) []int {
	n := 2 + rng.Intn(6)
	if rng.Intn(3) == 0 {
		n = 2 + rng.Intn(287)
	}
	lengths := full(rng, n, rng.Intn(289-n))
	for range max(0, rng.Intn(6)-3) {
		lengths[rng.Intn(len(lengths))] = rng.Intn(19) - 1
	}
	return lengths
}

// anyLengths are lengths without a rule, few of which may be.
func anyLengths(rng *rand.Rand) []int {
	lengths := make([]int, rng.Intn(300))
	if rng.Intn(2) == 0 {
		lengths = lengths[:rng.Intn(len(lengths)+1)/8]
	}
	for i := range lengths {
		lengths[i] = rng.Intn(16)
	}
	return lengths
}

// someBits is a text of noughts and ones.
func someBits(rng *rand.Rand, n int) string {
	var all strings.Builder
	for range n {
		all.WriteByte(byte('0' + rng.Intn(2)))
	}
	return all.String()
}

// Codes by the rule of the chapter's words are those of Word, for random lengths; and random bits
// are read as by a list of words.
func TestRandomLengths(t *testing.T) {
	rng := rand.New(rand.NewSource(1))
	codes, refused := 0, 0
	for range 1500 {
		lengths := someLengths(rng)
		if rng.Intn(4) == 0 {
			lengths = anyLengths(rng)
		}
		wantInt(t, "Room", Room(lengths), roomOf(lengths))
		if !mayBe(lengths) {
			wantRefused(t, lengths)
			refused++
			continue
		}
		c, words := made(t, lengths), wordsOf(lengths)
		wantWords(t, fmt.Sprint(lengths), c, words)
		bits := someBits(rng, rng.Intn(200))
		for r := readerOf(t, bits); ; {
			rest := wantRead(t, c, r, words, bits)
			if rest == "" {
				break
			}
			bits = rest
		}
		codes++
		if t.Failed() {
			return
		}
	}
	if codes < 500 || refused < 200 {
		t.Errorf("%d codes, %d refused: too few", codes, refused)
	}
}

// 10.3: random symbols, written by turns by two codes, with refused ones between.
func TestRandomSymbols(t *testing.T) {
	rng := rand.New(rand.NewSource(2))
	for range 300 {
		n := 2 + rng.Intn(200)
		lengths := [][]int{full(rng, n, rng.Intn(289-n)), {2, 1, 3, 3}}
		c := []*Code{made(t, lengths[0]), made(t, lengths[1])}
		words := [][]string{wordsOf(lengths[0]), wordsOf(lengths[1])}
		w, all := flow.Write(), ""
		var symbols, turns []int
		for range rng.Intn(200) {
			turn := rng.Intn(2)
			symbol := rng.Intn(len(lengths[turn])+2) - 1
			if symbol < 0 || symbol == len(lengths[turn]) || words[turn][symbol] == "" {
				wantError(t, "Write", c[turn].Write(w, symbol), api.ErrNone)
				continue
			}
			wantError(t, "Write", c[turn].Write(w, symbol), api.OK)
			symbols, turns, all = append(symbols, symbol), append(turns, turn), all+words[turn][symbol]
		}
		if got := bitsOf(w); got != all {
			t.Fatalf("written: %q, want %q", got, all)
		}
		r := flow.New(w.All())
		for i, symbol := range symbols {
			got, e := c[turns[i]].Read(r)
			wantError(t, "Read", e, api.OK)
			wantInt(t, "Read", got, symbol)
		}
		wantInt(t, "At", r.At(), w.Len())
	}
}

// Each answer is one that the chapter names, whatever the lengths and the bits are.
func FuzzCodes(f *testing.F) {
	f.Add([]byte{2, 1, 3, 3}, []byte{0x2d, 0xff})
	f.Add([]byte{1}, []byte{1, 0})
	f.Add([]byte{}, []byte{})
	f.Add([]byte{255, 16, 15}, []byte{7})
	f.Fuzz(func(t *testing.T, b, from []byte) {
		var lengths []int
		for _, n := range b {
			lengths = append(lengths, int(int8(n)))
		}
		wantInt(t, "Room", Room(lengths), roomOf(lengths))
		if !mayBe(lengths) {
			wantRefused(t, lengths)
			return
		}
		c, words := made(t, lengths), wordsOf(lengths)
		wantWords(t, fmt.Sprint(lengths), c, words)
		r, bits := flow.New(from), bitsOfBytes(from)
		for bits != "" {
			bits = wantRead(t, c, r, words, bits)
		}
	})
}
