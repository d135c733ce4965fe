package flate

import (
	"fmt"
	"slices"
	"strings"
	"testing"

	"sutler/api"
)

// onlyEnd is the lengths of n symbols of which 256 alone has a code, of one bit.
func onlyEnd(n int) []int { return lengthsWith(n, map[int]int{256: 1}) }

// wantTold asks for what is answered by a last told block of these codes and these bits behind them.
func wantTold(t *testing.T, what string, k tell, body string, want []byte) {
	t.Helper()
	wantMade(t, what, k.bits("1")+body, want)
}

// wantNotTold asks for ErrFlate where the codes end, whether something stands behind them or not.
func wantNotTold(t *testing.T, what string, k tell) {
	t.Helper()
	wantEnds(t, what, k.bits("1"), 0, api.ErrFlate)
	wantEnds(t, what+", and more", k.bits("0")+strings.Repeat("01", 20), 9, api.ErrFlate)
}

// telling is a last told block of these many lengths, told by rows.
func telling(symbols, distances int, rows string) tell {
	return tell{forLengths: anyRow(), many: 19, symbols: symbols, distances: distances, rows: rows}
}

// toldOneByOne is a told block whose lengths are told one by one.
func toldOneByOne(symbols, distances []int) tell {
	return telling(len(symbols), len(distances), single(symbols...)+single(distances...))
}

// 11.1: how many lengths there may be: asked when all three numbers are read.
func TestHowManyLengths(t *testing.T) {
	for symbols := 257; symbols <= 286; symbols++ {
		for distances := 1; distances <= 30; distances++ {
			k := toldOneByOne(onlyEnd(symbols), make([]int, distances))
			made := packed(k.bits("1") + "0")
			wantInflated(t, fmt.Sprintf("%d and %d lengths", symbols, distances), made, 0, nil, len(made))
		}
	}
	for _, n := range []struct{ symbols, distances int }{{287, 1}, {288, 1}, {287, 30}, {288, 30},
		{257, 31}, {257, 32}, {286, 31}, {286, 32}, {287, 31}, {288, 32}} {
		k := tell{forLengths: make([]int, 19), many: 4, symbols: n.symbols, distances: n.distances}
		three := k.bits("1")[:3+14]
		what := fmt.Sprintf("%d and %d lengths", n.symbols, n.distances)
		wantEnds(t, what, three, 0, api.ErrFlate)
		for cut := 1; cut <= 14; cut++ {
			wantEnds(t, what+", within the numbers", three[:17-cut], 0, api.ErrShort)
		}
		wantNotTold(t, what, toldOneByOne(onlyEnd(n.symbols), make([]int, n.distances)))
	}
	for _, n := range []struct{ symbols, distances int }{{257, 1}, {286, 30}} {
		k := tell{forLengths: make([]int, 19), many: 4, symbols: n.symbols, distances: n.distances}
		wantEnds(t, "three numbers that may be", k.bits("1")[:17], 0, api.ErrShort)
	}
}

// 11.1: lengths of symbols up to the last one, and of distances: those that are not told have none.
func TestSymbolsOfToldBlocks(t *testing.T) {
	for symbol := range 286 {
		if symbol == 256 {
			continue
		}
		lengths := lengthsWith(max(257, symbol+1), map[int]int{symbol: 1, 256: 1})
		head, c := toldBy(lengths, []int{1})
		if symbol < 256 {
			wantMade(t, fmt.Sprint("the byte ", symbol), head+c.bytes(byte(symbol), byte(symbol))+c.end(), rowOf(byte(symbol), 2))
			continue
		}
		of := lengthBounds()[symbol-257]
		copied := c.symbols[symbol] + number(1<<of.bits-1, of.bits) + "0"
		ahead := fixedBlock("0", fixedCodes().bytes('q'))
		wantMade(t, fmt.Sprint("the symbol ", symbol), ahead+head+copied+c.end(), rowOf('q', of.last()+1))
	}
	for symbol, of := range distanceBounds() {
		head, c := toldBy(lengthsWith(258, map[int]int{256: 1, 257: 1}), lengthsWith(symbol+1, map[int]int{symbol: 1}))
		copied := c.symbols[257] + "0" + number(0, of.bits)
		b := some(of.base, 5)
		made := packed(plainBlock(0, "0", b) + head + copied + c.end())
		want := join(b, join(b, b, b)[:3])
		wantInflated(t, fmt.Sprint("the distance ", symbol), made, len(want), want, len(made))
	}
}

// 11.1: codes of all lengths from 1 to 15, of symbols and of distances.
func TestLongCodes(t *testing.T) {
	symbols, distances := make([]int, 286), make([]int, 30)
	for i := range 15 {
		symbols['a'+i], distances[i] = i+1, i+1
	}
	symbols[256], symbols['o'], symbols[257] = 14, 15, 15
	symbols['n'] = 0
	distances[15] = 15
	head, c := toldBy(symbols, distances)
	b := []byte("abcdefghijklmoabcdefghijklmoabcdefghijklmo")
	for back := range 16 {
		of := distanceBounds()[back]
		if of.base > len(b) {
			continue
		}
		want := slices.Clone(b)
		for range 3 {
			want = append(want, want[len(want)-of.base])
		}
		wantMade(t, "long codes", head+c.bytes(b...)+c.copy(3, of.base)+c.end(), want)
	}
}

// 11.1: no code for 256, with all else as it may be: found where the codes end.
func TestNoCodeForTheEnd(t *testing.T) {
	for _, symbols := range [][]int{make([]int, 257), make([]int, 286), lengthsWith(257, map[int]int{'a': 1}),
		lengthsWith(257, map[int]int{'a': 1, 'b': 1}), lengthsWith(258, map[int]int{255: 1, 257: 1}), append(alike(256, 8), 0)} {
		for _, distances := range [][]int{{0}, {1}, {1, 1}} {
			wantNotTold(t, "no code for 256", toldOneByOne(symbols, distances))
		}
	}
	wantNotTold(t, "noughts alone", telling(257, 30, nones(138)+nones(138)+nones(11)))
}

// 11.1: lengths of which no code is made: over or short ones, of symbols and of distances.
func TestLengthsThatMakeNoCode(t *testing.T) {
	for _, symbols := range []map[int]int{{256: 2}, {256: 15}, {256: 1, 0: 2}, {256: 1, 0: 1, 1: 1}, {256: 2, 0: 2, 1: 2},
		{256: 15, 0: 1}, {256: 1, 0: 1, 285: 15}, {256: 3, 0: 1, 1: 2}} {
		wantNotTold(t, fmt.Sprint("symbols ", symbols), toldOneByOne(lengthsWith(286, symbols), []int{1}))
	}
	for _, distances := range [][]int{{2}, {15}, {0, 2}, {1, 2}, {2, 2}, {1, 1, 1}, {2, 2, 2}, {1, 1, 15}, alike(30, 5), alike(30, 4), alike(30, 15)} {
		wantNotTold(t, fmt.Sprint("distances ", distances), toldOneByOne(onlyEnd(257), distances))
	}
	wantNotTold(t, "symbols and distances", toldOneByOne(lengthsWith(257, map[int]int{256: 2}), []int{2}))
	for _, distances := range [][]int{{0}, {1}, {0, 1}, {1, 1}, {2, 1, 3, 3}, append(alike(28, 5), 4, 4), make([]int, 30)} {
		wantTold(t, fmt.Sprint("distances ", distances), toldOneByOne(onlyEnd(257), distances), "0", nil)
	}
}

// 11.1: of a code of one symbol the other bit is no code.
func TestOneSymbolAlone(t *testing.T) {
	k := toldOneByOne(onlyEnd(257), []int{0})
	wantTold(t, "the end alone", k, "0", nil)
	wantEnds(t, "the other bit", k.bits("1")+"1", 9, api.ErrFlate)
	wantEnds(t, "no bit", k.bits("1"), 9, api.ErrShort)
}

// 11.1: a block without distances, and with one, of which the other bit is no code.
func TestFewDistances(t *testing.T) {
	symbols := lengthsWith(258, map[int]int{'a': 1, 256: 2, 257: 2})
	c := codes{symbols: wordsOf(symbols)}
	none := toldOneByOne(symbols, []int{0}).bits("1") + c.bytes('a')
	wantMade(t, "no distance, no copy", none+c.end(), []byte("a"))
	wantEnds(t, "no distance, a copy", none+c.symbols[257], 9, api.ErrShort)
	for _, bit := range []string{"0", "1"} {
		wantEnds(t, "no distance, a copy", none+c.symbols[257]+bit, 9, api.ErrFlate)
		wantEnds(t, "no distance, a copy, no room", none+c.symbols[257]+bit, 1, api.ErrFlate)
	}
	one := toldOneByOne(symbols, []int{1}).bits("1") + c.bytes('a') + c.symbols[257]
	wantMade(t, "one distance", one+"0"+c.end(), []byte("aaaa"))
	wantEnds(t, "one distance", one, 9, api.ErrShort)
	wantEnds(t, "one distance, the other bit", one+"1", 9, api.ErrFlate)
	wantEnds(t, "one distance, the other bit, no room", one+"1", 1, api.ErrFlate)
}

// wantRows asks whether rows tell these lengths: by all bytes that have a code, and by a copy of
// each length that has one, of a distance that has one.
func wantRows(t *testing.T, what, rows string, symbols, distances []int) {
	t.Helper()
	c := codes{symbols: wordsOf(symbols), distances: wordsOf(distances)}
	body, want := fixedCodes().bytes(7, 8, 9, 10), []byte{7, 8, 9, 10}
	bits := fixedBlock("0", body) + telling(len(symbols), len(distances), rows).bits("1")
	for _, symbol := range coded(c.symbols) {
		if symbol < 256 {
			bits, want = bits+c.bytes(byte(symbol)), append(want, byte(symbol))
		}
	}
	for _, symbol := range coded(c.symbols) {
		for _, back := range coded(c.distances) {
			length, distance := lengthBounds()[max(symbol, 257)-257], distanceBounds()[back]
			if symbol < 257 || distance.base > len(want) {
				continue
			}
			bits += c.symbols[symbol] + number(0, length.bits) + c.distances[back] + number(0, distance.bits)
			for range length.base {
				want = append(want, want[len(want)-distance.base])
			}
		}
	}
	made := packed(bits + c.end())
	wantInflated(t, what, made, len(want), want, len(made))
}

// rowsWith is rows that tell lengths one by one, but for n of them from a place on.
func rowsWith(all []int, at, n int, row string) string {
	return single(all[:at]...) + row + single(all[at+n:]...)
}

// fives are lengths that are 5 from the symbol 258 up to the last distance but two.
func fives() ([]int, []int) {
	symbols := lengthsWith(286, map[int]int{0: 4, 256: 4})
	for i := 258; i < 286; i++ {
		symbols[i] = 5
	}
	return symbols, append(alike(28, 5), 4, 4)
}

// 11.1: the last length again, from 3 up to 6 times, in the symbols, in the distances, from these to
// those, and behind a row of its own kind.
func TestLastLengthAgain(t *testing.T) {
	symbols, distances := fives()
	all := slices.Concat(symbols, distances)
	for n := 3; n <= 6; n++ {
		for _, at := range []int{259, 260, 285 - n, 286 - n, 287 - n, 284, 285, 286, 287, 308} {
			what := fmt.Sprintf("the last one %d times from %d on", n, at)
			wantRows(t, what, rowsWith(all, at, n, again(n)), symbols, distances)
		}
		for other := 3; other <= 6; other++ {
			for _, at := range []int{259, 286 - n, 285 - n} {
				row := again(n) + again(other)
				wantRows(t, "twice", rowsWith(all, at, n+other, row), symbols, distances)
			}
		}
	}
}

// 11.1: noughts, from 3 up to 138, in the symbols and from these to the distances; and noughts again.
func TestNoughtsInRows(t *testing.T) {
	symbols, distances := fives()
	all := slices.Concat(symbols, distances)
	for n := 3; n <= 138; n++ {
		for _, at := range []int{1, 2, 256 - n} {
			what := fmt.Sprintf("%d noughts from %d on", n, at)
			wantRows(t, what, rowsWith(all, at, n, nones(n)), symbols, distances)
		}
		again := nones(n) + again(3) + again(6) + nones(3)
		wantRows(t, "noughts again", rowsWith(all, 2, n+12, again), symbols, distances)
	}
	wantRows(t, "a nought, again", rowsWith(all, 1, 7, single(0)+again(6)), symbols, distances)

	symbols, distances = lengthsWith(286, map[int]int{0: 1, 256: 1}), lengthsWith(30, map[int]int{29: 1})
	all = slices.Concat(symbols, distances)
	for n := 3; n <= 58; n++ {
		for _, at := range []int{257, 286 - n/2, 286 - n, 315 - n} {
			at = max(257, at)
			if at+n > 315 {
				continue
			}
			what := fmt.Sprintf("%d noughts from %d on", n, at)
			wantRows(t, what, rowsWith(all, at, n, nones(n)), symbols, distances)
		}
	}
}

// 11.1: a repetition that just reaches the last length, and one beyond it: found when it's known
// how often it repeats.
func TestRepetitionsBeyond(t *testing.T) {
	for _, many := range []struct{ symbols, distances int }{{257, 1}, {257, 30}, {286, 1}, {286, 30}} {
		symbols, distances := onlyEnd(many.symbols), make([]int, many.distances)
		all := slices.Concat(symbols, distances)
		left := len(all) - 257
		for n := 3; n <= 138; n++ {
			if n > left {
				ahead := single(all[:257]...)
				k := telling(many.symbols, many.distances, ahead+nones(n))
				wantNotTold(t, fmt.Sprintf("%d noughts, %d are left", n, left), k)
				bits := k.bits("1")
				wantEnds(t, "within their number", bits[:len(bits)-1], 9, api.ErrShort)
				continue
			}
			wantRows(t, "noughts up to the end", single(all[:len(all)-n]...)+nones(n), symbols, distances)
			k := telling(many.symbols, many.distances, single(all[:len(all)-n+1]...)+nones(n))
			wantNotTold(t, fmt.Sprint("one nought too many, of ", n), k)
			bits := k.bits("1")
			wantEnds(t, "within its number", bits[:len(bits)-1], 9, api.ErrShort)
			if n <= 6 && n < left {
				wantRows(t, "again, up to the end", single(all[:len(all)-n]...)+again(n), symbols, distances)
				wantNotTold(t, "again, one too many", telling(many.symbols, many.distances, single(all[:len(all)-n+1]...)+again(n)))
			}
		}
	}
}

// 11.1: a repetition of nothing: found ahead of how often it repeats; and noughts, which may come
// first.
func TestRepetitionOfNothing(t *testing.T) {
	nothing := wordsOf(anyRow())[16]
	wantNotTold(t, "nothing again", telling(257, 1, nothing))
	for n := 3; n <= 6; n++ {
		wantNotTold(t, "nothing again", telling(286, 30, again(n)+single(make([]int, 316-n)...)))
	}
	wantEnds(t, "its beginning", telling(257, 1, nothing[:len(nothing)-1]).bits("1"), 9, api.ErrShort)
	for _, first := range []int{3, 10, 11, 138} {
		all := lengthsWith(258, map[int]int{200: 1, 256: 1})
		wantRows(t, "noughts first", nones(first)+single(all[first:257]...)+single(0), all[:257], all[257:])
		all[first+6] = 1
		all[200] = 0
		wantRows(t, "noughts first, and again", nones(first)+again(6)+single(all[first+6:257]...)+single(0), all[:257], all[257:])
	}
}

// 11.1: the code for lengths: over and short ones, none, and one symbol alone.
func TestCodesForLengths(t *testing.T) {
	for _, wrong := range []map[int]int{{0: 2}, {18: 7}, {0: 1, 1: 1, 2: 1}, {0: 1, 1: 2}, {15: 2, 16: 2, 17: 2},
		{0: 7, 1: 7}, {14: 1, 15: 1, 1: 7}, {1: 1, 2: 1, 16: 7}} {
		k := tell{forLengths: lengthsWith(19, wrong), many: 19, symbols: 257, distances: 1}
		wantNotTold(t, fmt.Sprint("a code of ", wrong), k)
		bits := k.bits("1")
		for cut := 1; cut <= 3*19+14; cut++ {
			wantEnds(t, "within its lengths", bits[:len(bits)-cut], 9, api.ErrShort)
		}
	}
	wantNotTold(t, "seven bits all", tell{forLengths: alike(19, 7), many: 19, symbols: 257, distances: 1})
	wantNotTold(t, "four bits all", tell{forLengths: alike(19, 4), many: 19, symbols: 257, distances: 1})
	for many := 4; many <= 19; many++ {
		none := tell{forLengths: make([]int, 19), many: many, symbols: 257, distances: 1}.bits("1")
		wantEnds(t, "no code for lengths", none, 9, api.ErrShort)
		wantEnds(t, "no code for lengths, a bit", none+"0", 9, api.ErrFlate)
		wantEnds(t, "no code for lengths, a bit", none+"1", 9, api.ErrFlate)
		last := places()[many-1]
		one := tell{forLengths: lengthsWith(19, map[int]int{last: 1}), many: many, symbols: 257, distances: 1}
		wantEnds(t, "one symbol, the other bit", one.bits("1")+"1", 9, api.ErrFlate)
		wantEnds(t, "one symbol", one.bits("1"), 9, api.ErrShort)
	}
}

// 11.1: one symbol alone of the code for lengths: what is told by it, up to where it is found to be
// wrong, wherever it stands in the order.
func TestOneLengthAlone(t *testing.T) {
	for at, symbol := range places() {
		if symbol == 0 || symbol > 15 {
			continue
		}
		k := tell{forLengths: lengthsWith(19, map[int]int{symbol: 1}), many: max(4, at+1), symbols: 257, distances: 1}
		bits := k.bits("1") + strings.Repeat("0", 258)
		wantEnds(t, fmt.Sprint("all lengths are ", symbol), bits, 9, api.ErrFlate)
		wantEnds(t, fmt.Sprint("all but one are ", symbol), bits[:len(bits)-1], 9, api.ErrShort)
	}
}

// 11.1: each length that two symbols of a code for lengths tell beside noughts: so many codes of it
// that they are full.
func TestLengthsByTwoSymbols(t *testing.T) {
	for at, n := range places() {
		if n < 1 || n > 8 {
			continue
		}
		symbols := make([]int, 257)
		for i := range 1 << n {
			symbols[256-i] = n
		}
		k := tell{forLengths: lengthsWith(19, map[int]int{0: 1, n: 1}), many: at + 1, symbols: 257, distances: 1}
		for _, length := range append(slices.Clone(symbols), 0) {
			k.rows += number(min(length, 1), 1)
		}
		c := codes{symbols: wordsOf(symbols)}
		wantTold(t, fmt.Sprint("codes of ", n), k, c.bytes(255)+c.end(), []byte{255})
		k.many--
		k.forLengths[n] = 0
		wantEnds(t, "one fewer told", k.bits("1"), 9, api.ErrFlate)
	}
}
