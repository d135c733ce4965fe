package flate

import (
	"bytes"
	"fmt"
	"math"
	"slices"
	"strings"
	"testing"

	"sutler/api"
)

func TestExamples(t *testing.T) {
	wantInflated(t, "4b 04 00", []byte{0x4b, 4, 0}, api.MaxBytes, []byte("a"), 3)
	wantInflated(t, "01 00 00 ff ff", []byte{1, 0, 0, 255, 255}, api.MaxBytes, nil, 5)
	wantRefused(t, "06", []byte{6}, api.MaxBytes, api.ErrFlate)
	wantBytes(t, "Fixed of a", Fixed([]byte("a")), []byte{0x4b, 4, 0})
	wantBytes(t, "Store of nothing", Store(nil), []byte{1, 0, 0, 255, 255})
}

// 11.1: a most that may not be is told ahead of all that is wrong with the bytes.
func TestMost(t *testing.T) {
	streams := [][]byte{nil, {}, {6}, {0x4b}, {0x4b, 4, 0}, {1, 0, 0, 255, 255}, {1, 1, 0, 255, 255}}
	for _, most := range []int{-1, -2, -api.MaxBytes, math.MinInt32, math.MinInt + 1, math.MinInt,
		api.MaxBytes + 1, api.MaxBytes + 2, 2 * api.MaxBytes, 1 << 32, math.MaxInt32, math.MaxInt - 1, math.MaxInt} {
		for _, b := range streams {
			wantRefused(t, fmt.Sprintf("Inflate(%x, %d)", b, most), b, most, api.ErrArg)
		}
	}
	for _, most := range []int{1, 2, api.MaxBytes - 1, api.MaxBytes} {
		wantInflated(t, fmt.Sprint("a, at most ", most), []byte{0x4b, 4, 0}, most, []byte("a"), 3)
	}
	for _, most := range []int{0, 1, api.MaxBytes - 1, api.MaxBytes} {
		wantInflated(t, fmt.Sprint("nothing, at most ", most), []byte{1, 0, 0, 255, 255}, most, nil, 5)
		wantRefused(t, "no byte", nil, most, api.ErrShort)
		wantRefused(t, "no byte", []byte{}, most, api.ErrShort)
	}
	wantRefused(t, "a, at most 0", []byte{0x4b, 4, 0}, 0, api.ErrLong)
	for _, b := range [][]byte{some(api.MaxBytes, 3), make([]byte, api.MaxBytes)} {
		for name, deflate := range ways() {
			made := deflate(b)
			wantInflated(t, name+" of MaxBytes", made, api.MaxBytes, b, len(made))
			wantRefused(t, name+" of MaxBytes, at most one fewer", made, api.MaxBytes-1, api.ErrLong)
			wantRefused(t, name+" of one more", deflate(append(b[:api.MaxBytes:api.MaxBytes], 0)), api.MaxBytes, api.ErrLong)
		}
	}
}

// 11.1: the kind 3, in the first block and in a later one, as the last one and not, with nothing
// behind it, and where nothing more may come out.
func TestKindThree(t *testing.T) {
	for _, last := range []string{"0", "1"} {
		wantEnds(t, "the kind 3", last+"11", 0, api.ErrFlate)
		wantEnds(t, "the kind 3, and more", last+"11"+strings.Repeat("01", 30), 9, api.ErrFlate)
		for _, kind := range []string{"", "0", "1"} {
			wantEnds(t, "within the kind", last+kind, 9, api.ErrShort)
		}
		ahead := plainBlock(0, "0", []byte{1, 2})
		wantRefused(t, "behind a plain block", packed(ahead+last+"11"), 2, api.ErrFlate)
		wantRefused(t, "behind a plain block", packed(ahead), 2, api.ErrShort)
		wantRefused(t, "first", packed(last+"11"), 0, api.ErrFlate)
	}
	wantEnds(t, "no block", "", 9, api.ErrShort)
}

// 11.1: plain blocks at each bit, whatever stands ahead of a byte's beginning.
func TestPlainBlocks(t *testing.T) {
	for _, n := range []int{0, 1, 2, 255, 256, 257, 65534, 65535} {
		for rest := range 8 {
			ahead, out := shift(rest)
			b := some(n, uint64(rest))
			made, all := packed(ahead+plainBlock(len(ahead), "1", b)), join(out, b)
			wantInflated(t, fmt.Sprint("plain, of ", n), made, len(all), all, len(made))
			wantInflated(t, "and more", join(made, []byte{255, 0}), api.MaxBytes, all, len(made))
			wantRefused(t, "one byte fewer", made[:len(made)-1], len(all), api.ErrShort)
			if n > 0 {
				wantRefused(t, "one byte too many", made, len(all)-1, api.ErrLong)
			}
		}
	}
	fill := packed("1" + ofPlain + "00000" + number(2, 16) + number(65533, 16))
	wantInflated(t, "filled up with noughts", join(fill, []byte("ab")), 2, []byte("ab"), 7)
}

// 11.1: two numbers that do not make 65535, each bit of both.
func TestNumbersOfPlainBlocks(t *testing.T) {
	for _, n := range []int{0, 1, 2, 255, 4660, 65534, 65535} {
		right := plainBlock(0, "1", make([]byte, n))
		for bit := 8; bit < 40; bit++ {
			wrong := right[:bit] + string('0'+'1'-rune(right[bit])) + right[bit+1:]
			wantRefused(t, "two numbers", packed(wrong), api.MaxBytes, api.ErrFlate)
			wantRefused(t, "two numbers, and no room", packed(wrong), 0, api.ErrFlate)
			wantRefused(t, "two numbers alone", packed(wrong[:40]), 0, api.ErrFlate)
		}
		wantRefused(t, "twice the same", packed("1"+ofPlain+"00000"+number(n, 16)+number(n, 16)), 0, api.ErrFlate)
		for _, at := range []int{8, 16, 24, 32} {
			wantRefused(t, "within the numbers", packed(right[:at]), 0, api.ErrShort)
		}
	}
}

// 11.1: ErrLong ahead of a plain block's bytes: whether they are there or not.
func TestPlainBlockThatIsTooLong(t *testing.T) {
	for _, n := range []int{1, 2, 9, 65535} {
		all := plainBlock(0, "1", some(n, 1))
		for _, there := range []int{0, n / 2, n - 1} {
			b := packed(all[:40+8*there])
			wantRefused(t, "too long, and short", b, n-1, api.ErrLong)
			wantRefused(t, "too long, and short", b, 0, api.ErrLong)
			wantRefused(t, "short alone", b, n, api.ErrShort)
		}
		ahead := packed(plainBlock(0, "0", some(5, 2)))
		wantRefused(t, "too long behind others", join(ahead, packed(all[:40])), n+4, api.ErrLong)
		wantRefused(t, "short behind others", join(ahead, packed(all[:40])), n+5, api.ErrShort)
		wantInflated(t, "both", join(ahead, packed(all)), n+5, join(some(5, 2), some(n, 1)), 15+n)
	}
}

// 11.1: blocks of all three kinds, in each order of three.
func TestBlocksOfAllKinds(t *testing.T) {
	head, c := toldBy(lengthsWith(258, map[int]int{'x': 1, 256: 2, 257: 2}), []int{1})
	block := func(kind int, at int, last string) (string, func([]byte) []byte) {
		switch kind {
		case 0:
			return plainBlock(at, last, []byte("plain")), func(b []byte) []byte { return join(b, []byte("plain")) }
		case 1:
			return fixedBlock(last, fixedCodes().bytes('f')+fixedCodes().copy(4, 1)),
				func(b []byte) []byte { return join(b, []byte("fffff")) }
		}
		return last + head[1:] + c.bytes('x') + c.copy(3, 1) + c.end(),
			func(b []byte) []byte { return join(b, []byte("xxxx")) }
	}
	for order := range 27 {
		bits, want := "", []byte(nil)
		for i, kind := range []int{order / 9, order / 3 % 3, order % 3} {
			more, of := block(kind, len(bits), number(i/2, 1))
			bits, want = bits+more, of(want)
		}
		b := packed(bits)
		wantInflated(t, fmt.Sprint("blocks ", order), b, len(want), want, len(b))
		wantInflated(t, "and bytes behind", join(b, b), api.MaxBytes, want, len(b))
		for n := range len(b) {
			wantRefused(t, "its beginning", b[:n], len(want), api.ErrShort)
		}
	}
}

// 11.1: what ends a block is the end alone, and what ends a stream the last block's alone.
func TestBlocksOfNothing(t *testing.T) {
	for many := range 40 {
		bits := strings.Repeat(fixedBlock("0", ""), many) + fixedBlock("1", "")
		b := packed(bits)
		wantInflated(t, "empty blocks", b, 0, nil, len(b))
		wantInflated(t, "empty blocks, and more", join(b, []byte{6, 6}), 0, nil, len(b))
		wantRefused(t, "none is the last one", packed(strings.Repeat(fixedBlock("0", ""), 4*many)), 0, api.ErrShort)
	}
}

// 11.1: each byte by the fixed code, and in a told block.
func TestEachByte(t *testing.T) {
	all := make([]byte, 256)
	for i := range all {
		all[i] = byte(i)
		wantMade(t, fmt.Sprint("fixed, the byte ", i), fixedBlock("1", fixedCodes().bytes(byte(i))), all[i:i+1])
	}
	wantMade(t, "fixed, each byte", fixedBlock("1", fixedCodes().bytes(all...)), all)
	head, c := toldBy(append(append(alike(255, 8), 9), 9), []int{0})
	wantMade(t, "told, each byte", head+c.bytes(all...)+c.end(), all)
}

// everyCode is a told block's codes in which all symbols and all distances have one.
func everyCode() (string, codes) {
	return toldBy(append(alike(226, 8), alike(60, 9)...), append([]int{4, 4}, alike(28, 5)...))
}

// bothCodes are blocks that are last ones in which each symbol that may be has a code: how they
// begin, and their words.
func bothCodes() map[string]codes {
	head, c := everyCode()
	return map[string]codes{"1" + ofFixed: fixedCodes(), head: c}
}

// 11.1: each length from 3 to 258; the last one in both ways.
func TestEachLength(t *testing.T) {
	for head, c := range bothCodes() {
		for n := 3; n <= 258; n++ {
			bits := head + c.bytes('a', 'b', 'c') + c.copy(n, 3) + c.bytes('d') + c.end()
			want := append(bytes.Repeat([]byte("abc"), 100)[:n+3], 'd')
			wantInflated(t, fmt.Sprint("the length ", n), packed(bits), n+4, want, (len(bits)+7)/8)
			wantRefused(t, "one byte too many", packed(bits), n+3, api.ErrLong)
			wantRefused(t, "a copy too many", packed(bits), n+2, api.ErrLong)
		}
		bits := head + c.bytes('a') + c.symbols[284] + "11111" + c.distance(1) + c.bytes('d') + c.end()
		wantMade(t, "258 by 284", bits, append(rowOf('a', 259), 'd'))
		for symbol := 257; symbol <= 285; symbol++ {
			of := lengthBounds()[symbol-257]
			for extra := range 1 << of.bits {
				bits := head + c.bytes(255) + c.symbols[symbol] + number(extra, of.bits) + c.distance(1) + c.end()
				n := of.base + extra
				wantInflated(t, fmt.Sprint("the symbol ", symbol), packed(bits), n+1, rowOf(255, n+1), (len(bits)+7)/8)
			}
		}
	}
}

// 11.1: each distance at both ends of its span: as far back as there are bytes, one farther, and
// one nearer.
func TestEachDistance(t *testing.T) {
	for head, c := range bothCodes() {
		for symbol, of := range distanceBounds() {
			for _, back := range []int{of.base, of.last(), (of.base + of.last()) / 2} {
				what := fmt.Sprintf("the distance %d, of %d", back, symbol)
				copied := head + c.copy(5, back) + c.end()
				b := some(back, uint64(back))
				want := join(b, bytes.Repeat(b[:min(5, back)], 5)[:5])
				made := packed(plainBlock(0, "0", b) + copied)
				wantInflated(t, what, made, back+5, want, len(made))

				b = some(back-1, 1)
				wantRefused(t, what+", farther", packed(plainBlock(0, "0", b)+copied), api.MaxBytes, api.ErrFlate)
				wantRefused(t, what+", farther, no room", packed(plainBlock(0, "0", b)+copied), back-1, api.ErrFlate)

				b = some(back+1, 3)
				want = join(b, bytes.Repeat(b[1:], 5)[:5])
				made = packed(plainBlock(0, "0", b) + copied)
				wantInflated(t, what+", nearer", made, back+6, want, len(made))
			}
		}
	}
}

// 11.1: the farthest distance there is, in a stream of as many bytes as may be.
func TestFarthestDistance(t *testing.T) {
	b := some(65535, 4)
	bits := strings.Repeat(plainBlock(0, "0", b), 4) + fixedBlock("1", fixedCodes().copy(4, 32768))
	all := join(b, b, b, b)
	made := packed(bits)
	want := join(all, all[len(all)-32768:][:4])
	wantInflated(t, "the farthest one", made, api.MaxBytes, want, len(made))
	more := packed(strings.Repeat(plainBlock(0, "0", b), 4) + fixedBlock("1", fixedCodes().copy(5, 32768)))
	wantRefused(t, "one byte too many", more, api.MaxBytes, api.ErrLong)
}

// 11.1: a copy reaches into itself, into another copy, and into other blocks.
func TestCopiesOfCopies(t *testing.T) {
	f := fixedCodes()
	for n := 3; n <= 20; n++ {
		for back := 1; back <= 7; back++ {
			b := []byte("abcdefg")
			want := join(b, bytes.Repeat(b[7-back:], 30)[:n])
			wantMade(t, "a copy", fixedBlock("1", f.bytes(b...)+f.copy(n, back)), want)
			want = join(want, bytes.Repeat(want[len(want)-back:], 30)[:n+1])
			wantMade(t, "a copy of it", fixedBlock("1", f.bytes(b...)+f.copy(n, back)+f.copy(n+1, back)), want)
			bits := fixedBlock("0", f.bytes(b...)) + fixedBlock("0", f.copy(n, back)) + fixedBlock("1", f.copy(n+1, back))
			wantMade(t, "in blocks of their own", bits, want)
		}
	}
}

// 11.1: a distance counts bytes of the stream's own alone; there are none ahead of the first one.
func TestCopyOfNothing(t *testing.T) {
	for head, c := range bothCodes() {
		for _, back := range []int{1, 2, 3, 4, 5, 32768} {
			bits := head + c.copy(3, back)
			wantRefused(t, "a copy of nothing", packed(bits), 0, api.ErrFlate)
			wantRefused(t, "a copy of nothing", packed(bits), 9, api.ErrFlate)
		}
		for back := 2; back < 9; back++ {
			bits := head + c.bytes(make([]byte, back-1)...) + c.copy(3, back)
			wantRefused(t, "a copy of one byte too many", packed(bits), 99, api.ErrFlate)
		}
	}
}

// 11.1: the symbols 286 and 287 have codes in fixed blocks, and may not be, whatever else is wrong
// behind them; and so the distances 30 and 31.
func TestSymbolsThatAreNone(t *testing.T) {
	f := fixedCodes()
	for _, symbol := range []int{286, 287} {
		for _, ahead := range []string{"", f.bytes('a'), f.bytes('a') + f.copy(3, 1)} {
			bits := "1" + ofFixed + ahead + f.symbols[symbol]
			wantEnds(t, fmt.Sprint("the symbol ", symbol), bits, 4, api.ErrFlate)
			wantEnds(t, "and more", bits+strings.Repeat("0", 40), 4, api.ErrFlate)
			wantEnds(t, "its beginning", bits[:len(bits)-1], 4, api.ErrShort)
		}
		wantEnds(t, "no room", "1"+ofFixed+f.symbols[symbol], 0, api.ErrFlate)
	}
	for _, symbol := range []int{30, 31} {
		for n := 3; n <= 258; n++ {
			bits := "1" + ofFixed + f.bytes('a') + f.length(n) + f.distances[symbol]
			wantEnds(t, fmt.Sprint("the distance ", symbol), bits, 1, api.ErrFlate)
			wantEnds(t, "and more", bits+strings.Repeat("0", 40), n+1, api.ErrFlate)
			wantEnds(t, "its beginning", bits[:len(bits)-1], 1, api.ErrShort)
		}
	}
	for _, symbol := range []int{28, 29} {
		bits := "1" + ofFixed + f.bytes('a') + f.length(3) + f.distances[symbol]
		wantEnds(t, "ahead of its extra bits", bits, 1, api.ErrShort)
		wantEnds(t, "within its extra bits", bits+strings.Repeat("0", 12), 1, api.ErrShort)
		wantEnds(t, "too far", bits+strings.Repeat("0", 13), 1, api.ErrFlate)
	}
}

// 11.1: ErrLong of each byte: behind its code, and ahead of all that follows.
func TestByteThatIsTooMany(t *testing.T) {
	for head, c := range bothCodes() {
		for _, x := range []byte{0, 'a', 143, 144, 255} {
			bits := head + c.bytes(x)
			wantRefused(t, "a byte, no room", packed(bits+"0000000"), 0, api.ErrLong)
			bits = head + c.bytes(1, 2, x) + c.end()
			wantInflated(t, "three bytes", packed(bits), 3, []byte{1, 2, x}, (len(bits)+7)/8)
			wantRefused(t, "three bytes, two may be", packed(bits), 2, api.ErrLong)
			wantRefused(t, "one may be", packed(bits), 1, api.ErrLong)
		}
	}
	f := fixedCodes()
	for _, x := range []byte{0, 143, 144, 255} {
		bits := "1" + ofFixed + f.bytes(x)
		wantEnds(t, "a byte, no room", bits, 0, api.ErrLong)
		wantEnds(t, "a byte, no room, 286", bits+f.symbols[286], 0, api.ErrLong)
		wantEnds(t, "a byte, room, 286", bits+f.symbols[286], 1, api.ErrFlate)
		wantEnds(t, "a byte's beginning", bits[:len(bits)-1], 0, api.ErrShort)
		wantEnds(t, "a byte, room, no end", bits, 1, api.ErrShort)
	}
}

// 11.1: ErrLong of a copy: behind its distance, all of it, and behind a distance that is too far.
func TestCopyThatIsTooLong(t *testing.T) {
	f := fixedCodes()
	for _, n := range []int{3, 4, 10, 11, 18, 130, 257, 258} {
		for _, back := range []int{1, 2, 4, 5, 6} {
			bits := "1" + ofFixed + f.bytes(1, 2, 3, 4, 5, 6) + f.copy(n, back)
			for _, fewer := range []int{1, 2, n - 1, n} {
				wantEnds(t, "a copy, too little room", bits, 6+n-fewer, api.ErrLong)
				for cut := 1; cut <= len(f.copy(n, back)); cut++ {
					wantEnds(t, "within a copy", bits[:len(bits)-cut], 6+n-fewer, api.ErrShort)
				}
			}
			wantEnds(t, "a copy, room enough", bits, 6+n, api.ErrShort)
			wantEnds(t, "a copy, room enough, and a byte", bits+f.bytes(0), 6+n, api.ErrLong)
			wantMade(t, "a copy, room enough, and the end", bits+f.end(),
				join([]byte{1, 2, 3, 4, 5, 6}, bytes.Repeat([]byte{1, 2, 3, 4, 5, 6}[6-back:], n)[:n]))
		}
		far := packed("1" + ofFixed + f.bytes(1, 2, 3, 4) + f.copy(n, 5))
		for _, most := range []int{4, 5, 4 + n - 1, 4 + n, 300} {
			wantRefused(t, "a copy of too far, and too long", far, most, api.ErrFlate)
		}
	}
}

// 11.4: a stream's beginning is short, and what stands behind it changes nothing.
func TestBeginnings(t *testing.T) {
	head, c := everyCode()
	b := []byte("abracadabra, aaaaaaaaaaaaaaa")
	told := head + c.bytes(b...) + c.copy(200, 9) + c.end()
	streams := map[string][]byte{"Store": Store(b), "Fixed": Fixed(b), "Runs": Runs(b), "told": packed(told)}
	for name, made := range streams {
		out, at, e := Inflate(made, 300)
		wantError(t, name, e, api.OK)
		wantInt(t, name+", the end", at, len(made))
		for n := range made {
			wantRefused(t, fmt.Sprintf("%s, %d bytes of it", name, n), made[:n], 300, api.ErrShort)
			wantRefused(t, "with others behind it in memory", made[:n:len(made)], len(out), api.ErrShort)
		}
		for _, behind := range [][]byte{{0}, {255}, {6}, made, some(100, 8), make([]byte, 100)} {
			wantInflated(t, name, join(made, behind), 300, out, len(made))
			wantInflated(t, name, join(made, behind), len(out), out, len(made))
		}
	}
}

// 11.1: the bits of the last byte behind a stream's end mean nothing.
func TestBitsBehindTheEnd(t *testing.T) {
	for rest := range 8 {
		ahead, out := shift(rest)
		bits := ahead + fixedBlock("1", "")
		for _, fill := range []string{"0000000", "1111111", "0110011"} {
			all := bits + fill[:-len(bits)&7]
			wantInflated(t, "the last byte filled up", packed(all), len(out), out, len(all)/8)
		}
	}
}

// Rule 4: what is handed in is neither changed nor kept, and what is handed out is the caller's own.
func TestInflateKeepsNothing(t *testing.T) {
	for name, deflate := range ways() {
		b := []byte("aaaaaaaaabcdefffffffffff")
		made := deflate(b)
		was := slices.Clone(made)
		in := append(slices.Clone(made), 9, 9, 9)[:len(made)]
		one, _, _ := Inflate(in, 99)
		wantBytes(t, name+", handed in", in[:len(in)+3], append(slices.Clone(was), 9, 9, 9))
		clear(in)
		wantBytes(t, name+", handed out", one, b)
		other, _, _ := Inflate(was, 99)
		clear(one[:cap(one)])
		wantBytes(t, name+", handed out again", other, b)
		wantInflated(t, name+", later", was, 99, b, len(was))
	}
	for _, b := range [][]byte{{6}, {0x4b}, {1, 1, 0, 255, 255}, {1, 1, 0, 254, 255}, {0x4b, 4, 0}} {
		in := append(slices.Clone(b), 9)
		wantByWords(t, in[:len(b)], 0)
		wantBytes(t, "refused, handed in", in, append(slices.Clone(b), 9))
	}
}

// P1: many blocks of nothing, and many that are told, end.
func TestManyBlocks(t *testing.T) {
	empty := packed(strings.Repeat(fixedBlock("0", ""), 100000))
	wantRefused(t, "many fixed blocks", empty, 0, api.ErrShort)
	k := tell{forLengths: lengthsWith(19, map[int]int{1: 1, 18: 1}), many: 18, symbols: 257, distances: 1}
	k.rows = "1" + number(127, 7) + "1" + number(107, 7) + "0" + "0"
	block := k.bits("0") + "0"
	wantMade(t, "a told block of nothing", block+fixedBlock("1", ""), nil)
	wantRefused(t, "many told blocks", packed(strings.Repeat(block, 4000)), 0, api.ErrShort)
	wantRefused(t, "many plain blocks", bytes.Repeat([]byte{0, 0, 0, 255, 255}, 50000), 0, api.ErrShort)
	wantRefused(t, "noughts", make([]byte, 1<<18), api.MaxBytes, api.ErrFlate)
	wantRefused(t, "ones", bytes.Repeat([]byte{255}, 1<<18), api.MaxBytes, api.ErrFlate)
}
