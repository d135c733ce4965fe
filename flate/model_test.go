package flate

import (
	"bytes"
	"compress/flate"
	"fmt"
	"io"
	"math/rand"
	"slices"
	"strings"
	"testing"

	"sutler/api"
)

// reading is a stream as a text of bits that is read by the chapter's words. What is wrong ends it
// by a panic, so that the first thing that is found is told.
type reading struct {
	bits string
	at   int
	out  []byte
	most int
}

// inflated is what the chapter's words make of b.
func inflated(b []byte, most int) (out []byte, ends int, e api.Errno) {
	if most < 0 || most > 1<<18 {
		return nil, 0, api.ErrArg
	}
	m := &reading{bits: unpacked(b), most: most}
	defer func() {
		if wrong, is := recover().(api.Errno); is {
			out, ends, e = nil, 0, wrong
		}
	}()
	for last := 0; last == 0; {
		last = m.number(1)
		m.block(m.number(2))
	}
	return m.out, (m.at + 7) / 8, api.OK
}

// must panics with an error, if something does not hold.
func must(holds bool, e api.Errno) {
	if !holds {
		panic(e)
	}
}

func (m *reading) number(bits int) int {
	must(m.at+bits <= len(m.bits), api.ErrShort)
	n := 0
	for i := range bits {
		n += int(m.bits[m.at+i]-'0') << i
	}
	m.at += bits
	return n
}

func (m *reading) block(kind int) {
	switch kind {
	case 0:
		m.plain()
	case 1:
		m.coded(fixedCodes())
	case 2:
		m.coded(m.told())
	default:
		panic(api.ErrFlate)
	}
}

func (m *reading) plain() {
	for m.at%8 != 0 {
		m.at++
	}
	n, other := m.number(16), m.number(16)
	must(n+other == 65535, api.ErrFlate)
	must(len(m.out)+n <= m.most, api.ErrLong)
	for range n {
		m.out = append(m.out, byte(m.number(8)))
	}
}

// symbol reads one of a list of words.
func (m *reading) symbol(words map[string]int) int {
	longest := 1
	for word := range words {
		longest = max(longest, len(word))
	}
	for n := 1; n <= longest; n++ {
		must(m.at+n <= len(m.bits), api.ErrShort)
		if symbol, is := words[m.bits[m.at:m.at+n]]; is {
			m.at += n
			return symbol
		}
	}
	panic(api.ErrFlate)
}

// found is words by what they are.
func found(words []string) map[string]int {
	all := map[string]int{}
	for symbol, word := range words {
		if word != "" {
			all[word] = symbol
		}
	}
	return all
}

// mayBe panics, if lengths make no code: their words use up all that begins with 15 bits, or there
// is one of one bit, or none.
func mayBe(lengths []int) {
	used, many := 0, 0
	for _, n := range lengths {
		if n > 0 {
			used, many = used+1<<(15-n), many+1
		}
	}
	must(used == 1<<15 || many == 0 || many == 1 && used == 1<<14, api.ErrFlate)
}

func (m *reading) told() codes {
	symbols, distances, many := m.number(5)+257, m.number(5)+1, m.number(4)+4
	must(symbols <= 286 && distances <= 30, api.ErrFlate)
	forLengths := make([]int, 19)
	for _, at := range places()[:many] {
		forLengths[at] = m.number(3)
	}
	mayBe(forLengths)
	words, all := found(wordsOf(forLengths)), []int{}
	for len(all) < symbols+distances {
		length, times := m.symbol(words), 1
		switch length {
		case 16:
			must(len(all) > 0, api.ErrFlate)
			length, times = all[len(all)-1], 3+m.number(2)
		case 17:
			length, times = 0, 3+m.number(3)
		case 18:
			length, times = 0, 11+m.number(7)
		}
		all = append(all, alike(times, length)...)
	}
	must(len(all) == symbols+distances, api.ErrFlate)
	must(all[256] > 0, api.ErrFlate)
	mayBe(all[:symbols])
	mayBe(all[symbols:])
	return codes{symbols: wordsOf(all[:symbols]), distances: wordsOf(all[symbols:])}
}

func (m *reading) coded(c codes) {
	symbols, distances := found(c.symbols), found(c.distances)
	for {
		symbol := m.symbol(symbols)
		if symbol == 256 {
			return
		}
		if symbol < 256 {
			must(len(m.out) < m.most, api.ErrLong)
			m.out = append(m.out, byte(symbol))
			continue
		}
		must(symbol < 286, api.ErrFlate)
		of := lengthBounds()[symbol-257]
		n := of.base + m.number(of.bits)
		symbol = m.symbol(distances)
		must(symbol < 30, api.ErrFlate)
		of = distanceBounds()[symbol]
		back := of.base + m.number(of.bits)
		must(back <= len(m.out), api.ErrFlate)
		must(len(m.out)+n <= m.most, api.ErrLong)
		from := len(m.out) - back
		for i := range n {
			m.out = append(m.out, m.out[from+i])
		}
	}
}

// wantByWords holds Inflate against the chapter's words, and tells the error.
func wantByWords(t *testing.T, b []byte, most int) api.Errno {
	t.Helper()
	want, at, wants := inflated(b, most)
	got, ends, e := Inflate(b, most)
	what := fmt.Sprintf("Inflate(%s, %d)", short(b), most)
	wantError(t, what, e, wants)
	wantBytes(t, what, got, want)
	wantInt(t, what+", the end", ends, at)
	if e != api.OK && got != nil {
		t.Errorf("%s: %s beside an error", what, short(got))
	}
	return e
}

// full is the lengths of so many codes that are full, none longer than longest, among symbols
// without one.
func full(rng *rand.Rand, many, without, longest int) []int {
	all := []int{1, 1}
	for len(all) < many {
		at := rng.Intn(len(all))
		if rng.Intn(3) == 0 {
			at = slices.Index(all, slices.Max(all))
		}
		if all[at] < longest {
			all[at]++
			all = append(all, all[at])
		}
	}
	all = append(all, make([]int, without)...)
	rng.Shuffle(len(all), func(i, j int) { all[i], all[j] = all[j], all[i] })
	return all
}

// someSymbols is lengths of symbols, of which 256 has a code.
func someSymbols(rng *rand.Rand) []int {
	n := 257 + rng.Intn(30)
	many := 2 + rng.Intn(n-1)
	if rng.Intn(2) == 0 {
		many = 2 + rng.Intn(12)
	}
	all := full(rng, many, n-many, 15)
	if all[256] == 0 {
		at := slices.IndexFunc(all, func(n int) bool { return n > 0 })
		all[256], all[at] = all[at], 0
	}
	return all
}

// someDistances is lengths of distances: full ones, one, or none.
func someDistances(rng *rand.Rand) []int {
	n := 1 + rng.Intn(30)
	all := make([]int, n)
	switch kind := rng.Intn(8); {
	case kind > 1 && n > 1:
		many := 2 + rng.Intn(n-1)
		all = full(rng, many, n-many, 15)
	case kind > 0:
		all[rng.Intn(n)] = 1
	}
	return all
}

// likeOnes is how many like members a list begins with.
func likeOnes(all []int) int {
	n := 1
	for n < len(all) && all[n] == all[0] {
		n++
	}
	return n
}

// rowsOf is lengths as symbols of a code for lengths, each with its extra bits; some of the rows of
// like ones become repetitions.
func rowsOf(rng *rand.Rand, all []int) (symbols []int, extra []string) {
	put := func(symbol int, bits string) { symbols, extra = append(symbols, symbol), append(extra, bits) }
	for at := 0; at < len(all); {
		n := likeOnes(all[at:])
		n = max(1, n-rng.Intn(3))
		switch {
		case rng.Intn(4) == 0:
			n = 1
			put(all[at], "")
		case at > 0 && all[at] == all[at-1] && n >= 3 && rng.Intn(2) == 0:
			n = min(n, 6)
			put(16, number(n-3, 2))
		case all[at] == 0 && n >= 11 && rng.Intn(4) > 0:
			n = min(n, 138)
			put(18, number(n-11, 7))
		case all[at] == 0 && n >= 3:
			n = min(n, 10)
			put(17, number(n-3, 3))
		default:
			n = 1
			put(all[at], "")
		}
		at += n
	}
	return symbols, extra
}

// lengthsFor is the lengths of a code for lengths in which these symbols have a code.
func lengthsFor(rng *rand.Rand, symbols []int) []int {
	used := map[int]bool{}
	for _, symbol := range symbols {
		used[symbol] = true
	}
	if len(used) == 1 {
		return lengthsWith(19, map[int]int{symbols[0]: 1})
	}
	for range rng.Intn(4) {
		used[rng.Intn(19)] = true
	}
	lengths, at, all := full(rng, len(used), 0, 7), 0, make([]int, 19)
	for symbol := range 19 {
		if used[symbol] {
			all[symbol], at = lengths[at], at+1
		}
	}
	return all
}

// someTold is the codes of a told block, and their words.
func someTold(rng *rand.Rand, last string) (string, codes) {
	symbols, distances := someSymbols(rng), someDistances(rng)
	rows, extra := rowsOf(rng, append(slices.Clone(symbols), distances...))
	k := tell{forLengths: lengthsFor(rng, rows), many: 19, symbols: len(symbols), distances: len(distances)}
	for k.many > 4 && k.forLengths[places()[k.many-1]] == 0 && rng.Intn(8) > 0 {
		k.many--
	}
	words := wordsOf(k.forLengths)
	for i, symbol := range rows {
		k.rows += words[symbol] + extra[i]
	}
	return k.bits(last), codes{symbols: wordsOf(symbols), distances: wordsOf(distances)}
}

// coded is which of a list of words are there.
func coded(words []string) []int {
	var all []int
	for symbol, word := range words {
		if word != "" {
			all = append(all, symbol)
		}
	}
	return all
}

// someOf is some symbols by their codes, and what they are made behind out.
func someOf(rng *rand.Rand, c codes, out []byte) (string, []byte) {
	symbols, distances := coded(c.symbols), coded(c.distances)
	var bits strings.Builder
	for range rng.Intn(60) {
		symbol := symbols[rng.Intn(len(symbols))]
		if rng.Intn(3) == 0 {
			symbol = symbols[len(symbols)-1]
		}
		if symbol < 256 {
			bits.WriteString(c.symbols[symbol])
			out = append(out, byte(symbol))
			continue
		}
		if symbol == 256 || symbol > 285 || len(distances) == 0 {
			continue
		}
		of := distances[rng.Intn(len(distances))]
		if of > 29 || distanceBounds()[of].last() > len(out) {
			continue
		}
		length, distance := lengthBounds()[symbol-257], distanceBounds()[of]
		more, farther := rng.Intn(1<<length.bits), rng.Intn(1<<distance.bits)
		bits.WriteString(c.symbols[symbol] + number(more, length.bits))
		bits.WriteString(c.distances[of] + number(farther, distance.bits))
		from := len(out) - distance.base - farther
		for i := range length.base + more {
			out = append(out, out[from+i])
		}
	}
	return bits.String() + c.end(), out
}

// someStream is the bits of some blocks, and what they are made.
func someStream(rng *rand.Rand) (string, []byte) {
	bits, out := "", []byte(nil)
	for left := rng.Intn(5); left >= 0; left-- {
		last := "0"
		if left == 0 {
			last = "1"
		}
		switch rng.Intn(5) {
		case 0:
			b := some(rng.Intn(90)*rng.Intn(9), rng.Uint64())
			bits, out = bits+plainBlock(len(bits), last, b), append(out, b...)
		case 1, 2:
			body, more := someOf(rng, fixedCodes(), out)
			bits, out = bits+last+ofFixed+body, more
		default:
			head, c := someTold(rng, last)
			body, more := someOf(rng, c, out)
			bits, out = bits+head+body, more
		}
	}
	return bits, out
}

// 11.1: some blocks of all kinds, one behind the other, are made what they were told as; and what
// is changed of them is answered by the chapter's words.
func TestRandomStreams(t *testing.T) {
	rng := rand.New(rand.NewSource(1))
	told := map[api.Errno]int{}
	for range 1200 {
		bits, out := someStream(rng)
		b := packed(bits)
		wantInflated(t, "some stream", b, len(out), out, len(b))
		wantInflated(t, "some stream", join(b, some(3, 5)), api.MaxBytes, out, len(b))
		for range 3 {
			changed := slices.Clone(b)
			for range 1 + rng.Intn(2) {
				at := rng.Intn(len(changed))
				if rng.Intn(2) == 0 {
					at = rng.Intn(min(len(changed), 20))
				}
				changed[at] ^= 1 << rng.Intn(8)
			}
			changed = changed[:len(changed)-rng.Intn(2)*rng.Intn(len(changed))]
			told[wantByWords(t, changed, max(0, len(out)-rng.Intn(9)*rng.Intn(20)))]++
		}
		if t.Failed() {
			return
		}
	}
	for _, e := range []api.Errno{api.OK, api.ErrShort, api.ErrFlate, api.ErrLong} {
		if told[e] < 80 {
			t.Errorf("error %d told %d times: too few", e, told[e])
		}
	}
}

// 11.1, 11.5: any bytes are answered by the chapter's words.
func TestRandomBytes(t *testing.T) {
	rng := rand.New(rand.NewSource(2))
	for range 20000 {
		b := make([]byte, rng.Intn(40))
		rng.Read(b)
		if len(b) > 0 && rng.Intn(2) == 0 {
			b[0] = b[0]&^6 | byte(1+rng.Intn(2))<<1
		}
		wantByWords(t, b, rng.Intn(80))
		if t.Failed() {
			return
		}
	}
}

// 11.1: all streams of up to two bytes.
func TestAllShortStreams(t *testing.T) {
	wantByWords(t, nil, 0)
	for one := range 256 {
		wantByWords(t, []byte{byte(one)}, 0)
		for other := range 256 {
			wantByWords(t, []byte{byte(one), byte(other)}, one%3)
		}
		if t.Failed() {
			return
		}
	}
}

// kindsOfBytes is bytes of some kinds: without a pattern, of few values, in rows, repeated.
func kindsOfBytes(rng *rand.Rand, n int) []byte {
	b := make([]byte, n)
	few := 1 + rng.Intn(256)
	if rng.Intn(2) == 0 {
		few = 1 + rng.Intn(4)
	}
	for i := range b {
		b[i] = byte(rng.Intn(few))
		if rng.Intn(few) > 0 && i > 0 && rng.Intn(3) > 0 {
			b[i] = b[i-1]
		}
	}
	if n > 0 && rng.Intn(3) == 0 {
		part := b[:1+rng.Intn(n)]
		b = bytes.Repeat(part, n/len(part)+1)[:n]
	}
	return b
}

// 11.1: what others deflated, at each of their levels.
func TestInflateOfOthers(t *testing.T) {
	rng := rand.New(rand.NewSource(3))
	for i := range 72 {
		b := kindsOfBytes(rng, rng.Intn(4000)*(1+i%12/11*30))
		for level := flate.HuffmanOnly; level <= flate.BestCompression; level++ {
			var to bytes.Buffer
			w, _ := flate.NewWriter(&to, level)
			w.Write(b[:len(b)/3])
			if i%2 == 0 {
				w.Flush()
			}
			w.Write(b[len(b)/3:])
			w.Close()
			wantInflated(t, "what others deflated", join(to.Bytes(), []byte{1, 2}), len(b), b, to.Len())
			if len(b) > 0 {
				wantRefused(t, "one byte too many", to.Bytes(), len(b)-1, api.ErrLong)
			}
		}
		if t.Failed() {
			return
		}
	}
}

// ways are the ways to deflate, by their names.
func ways() map[string]func([]byte) []byte {
	return map[string]func([]byte) []byte{"Store": Store, "Fixed": Fixed, "Runs": Runs}
}

// wantBack asks whether what was deflated by each way is made as it was, here and by others.
func wantBack(t *testing.T, b []byte) {
	t.Helper()
	for name, deflate := range ways() {
		made := deflate(b)
		wantInflated(t, name, made, len(b), b, len(made))
		wantInflated(t, name, join(made, some(5, 1)), min(len(b)+9, api.MaxBytes), b, len(made))
		others, e := io.ReadAll(flate.NewReader(bytes.NewReader(made)))
		if e != nil || !bytes.Equal(others, b) {
			t.Errorf("%s: others make %s, %v, want %s", name, short(others), e, short(b))
		}
	}
}

// 11.3: bytes of some kinds and lengths, there and back.
func TestThereAndBack(t *testing.T) {
	rng := rand.New(rand.NewSource(4))
	for range 300 {
		wantBack(t, kindsOfBytes(rng, rng.Intn(900)))
	}
	for _, n := range []int{65534, 65535, 65536, 131070, 131071, 1 << 18} {
		wantBack(t, kindsOfBytes(rng, n))
		wantBack(t, rowOf(200, n))
	}
}

// Whatever comes in, no more comes out than may, and it is what the chapter's words make of it.
func FuzzInflate(f *testing.F) {
	f.Add([]byte{0x4b, 4, 0}, 1)
	f.Add([]byte{1, 0, 0, 255, 255}, 0)
	f.Add([]byte{6}, -1)
	rng := rand.New(rand.NewSource(5))
	for range 20 {
		bits, out := someStream(rng)
		f.Add(packed(bits), len(out))
	}
	f.Fuzz(func(t *testing.T, b []byte, most int) {
		wantByWords(t, b, most)
		got, _, _ := Inflate(b, most&4095)
		if len(got) > most&4095 {
			t.Errorf("%d bytes, at most %d", len(got), most&4095)
		}
	})
}

func FuzzDeflate(f *testing.F) {
	f.Add([]byte{})
	f.Add([]byte("aaaaab"))
	f.Fuzz(func(t *testing.T, b []byte) { wantBack(t, b) })
}
