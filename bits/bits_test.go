package bits

import (
	"bytes"
	"encoding/binary"
	"math"
	"slices"
	"strings"
	"testing"

	"sutler/api"
)

// some is n bytes without a pattern, the same in each run.
func some(n int, seed uint64) []byte {
	b := make([]byte, n)
	for i := range b {
		seed = seed*6364136223846793005 + 1442695040888963407
		b[i] = byte(seed >> 56)
	}
	return b
}

// lists are bytes of many lengths and kinds, short enough to be gone through bit by bit.
func lists() [][]byte {
	all := [][]byte{nil, {}, {0}, {255}, {1}, {128}, {254}, {127}, {12}, {255, 1}, {0, 255}, {255, 0}, {0, 0, 0}, {255, 255, 255}, {0x55, 0xaa, 0x0f}}
	for n := range 8 {
		all = append(all, some(n, uint64(n)))
	}
	return append(all, some(30, 1), make([]byte, 30), bytes.Repeat([]byte{255}, 30))
}

// text is the bits of b as the chapter's words tell them, bit 0 first, each a 0 or a 1.
func text(b []byte) string {
	var s strings.Builder
	for _, x := range b {
		for _, worth := range []byte{1, 2, 4, 8, 16, 32, 64, 128} {
			s.WriteByte("01"[min(x&worth, 1)])
		}
	}
	return s.String()
}

// below is the bits of b below n.
func below(b []byte, n int) string {
	s := text(b)
	if n < 0 {
		return ""
	}
	return s[:min(n, len(s))]
}

// ends are numbers of bits around b's own, and far from them.
func ends(b []byte) []int {
	l := []int{math.MinInt, math.MinInt + 1, -9, -8, -7, -1, math.MaxInt - 1, math.MaxInt, 1 << 32, 1<<32 + 1}
	for n := range 8*len(b) + 11 {
		l = append(l, n)
	}
	return l
}

func wantErr(t *testing.T, what string, got, want api.Errno) {
	t.Helper()
	if got != want {
		t.Errorf("%s: error %d, want %d", what, got, want)
	}
}

func wantInt(t *testing.T, what string, got, want int) {
	t.Helper()
	if got != want {
		t.Errorf("%s: %d, want %d", what, got, want)
	}
}

func wantBytes(t *testing.T, what string, got, want []byte) {
	t.Helper()
	if !bytes.Equal(got, want) {
		t.Errorf("%s: %v, want %v", what, got, want)
	}
}

func wantList(t *testing.T, what string, got, want []int) {
	t.Helper()
	if !slices.Equal(got, want) {
		t.Errorf("%s: %v, want %v", what, got, want)
	}
}

// get is a Get that must not be refused.
func get(t *testing.T, b []byte, at, bytes int) int {
	t.Helper()
	n, e := Get(b, at, bytes)
	if e != api.OK {
		t.Errorf("Get(%v, %d, %d): error %d", b, at, bytes, e)
	}
	return n
}

// put is a Put that must not be refused.
func put(t *testing.T, b []byte, at, bytes, n int) []byte {
	t.Helper()
	c, e := Put(b, at, bytes, n)
	if e != api.OK {
		t.Errorf("Put(%v, %d, %d, %d): error %d", b, at, bytes, n, e)
	}
	return c
}

// has is a Has that must not be refused.
func has(t *testing.T, b []byte, i int) bool {
	t.Helper()
	is, e := Has(b, i)
	if e != api.OK {
		t.Errorf("Has(%v, %d): error %d", b, i, e)
	}
	return is
}

// set is a Set that must not be refused.
func set(t *testing.T, b []byte, i int, on bool) []byte {
	t.Helper()
	c, e := Set(b, i, on)
	if e != api.OK {
		t.Errorf("Set(%v, %d, %t): error %d", b, i, on, e)
	}
	return c
}

// number is the number of b's bytes from that place on, its lowest byte first.
func number(b []byte, at, bytes int) int {
	var four [4]byte
	copy(four[:], b[at:at+bytes])
	return int(binary.LittleEndian.Uint32(four[:]))
}

// noPlaces are places and numbers of bytes that do not lie in so many bytes.
func noPlaces(size int) [][2]int {
	l := [][2]int{{0, -1}, {0, 0}, {0, 5}, {0, 8}, {1, -1}, {size, 0}, {size, -1}, {0, math.MinInt}, {0, math.MaxInt}, {-1, math.MaxInt}, {math.MaxInt, math.MaxInt}, {math.MinInt, math.MinInt}}
	for bytes := 1; bytes <= 4; bytes++ {
		for _, at := range []int{-1, -bytes, -bytes - 1, math.MinInt, size - bytes + 1, size, size + 1, math.MaxInt - bytes, math.MaxInt - bytes + 1, math.MaxInt} {
			l = append(l, [2]int{at, bytes})
		}
	}
	return l
}

// 3.1

func TestGetTellsTheNumber(t *testing.T) {
	b := []byte{0x01, 0x82, 0x03, 0xf4, 0xff, 0x00}
	for _, k := range []struct{ at, bytes, want int }{
		{0, 1, 0x01}, {1, 1, 0x82}, {5, 1, 0},
		{0, 2, 0x8201}, {4, 2, 0xff}, {3, 2, 0xfff4},
		{0, 3, 0x038201}, {3, 3, 0xfff4},
		{0, 4, 0xf4038201}, {1, 4, 0xfff40382}, {2, 4, 0xfff403},
	} {
		wantInt(t, "Get", get(t, b, k.at, k.bytes), k.want)
	}
	wantInt(t, "Get of one byte of one", get(t, []byte{7}, 0, 1), 7)
	wantInt(t, "Get of the greatest", get(t, []byte{255, 255, 255, 255}, 0, 4), math.MaxUint32)
	for _, l := range lists() {
		for bytes := 1; bytes <= 4; bytes++ {
			for at := 0; at+bytes <= len(l); at++ {
				wantInt(t, "Get", get(t, l, at, bytes), number(l, at, bytes))
			}
		}
	}
}

func TestGetRefuses(t *testing.T) {
	for _, b := range [][]byte{nil, {}, {255}, {255, 255}, {255, 255, 255}, {255, 255, 255, 255}, bytes.Repeat([]byte{255}, 9)} {
		for _, k := range noPlaces(len(b)) {
			n, e := Get(b, k[0], k[1])
			if n != 0 || e != api.ErrArg {
				t.Errorf("Get of %d bytes, %d of them at %d: %d, error %d", len(b), k[1], k[0], n, e)
			}
		}
	}
}

func TestPutTellsTheBytes(t *testing.T) {
	wantBytes(t, "Put", put(t, []byte{0, 0, 0}, 1, 2, 258), []byte{0, 2, 1})
	b := []byte{9, 9, 9, 9, 9, 9}
	for _, k := range []struct {
		at, bytes, n int
		want         []byte
	}{
		{0, 1, 0, []byte{0, 9, 9, 9, 9, 9}},
		{5, 1, 255, []byte{9, 9, 9, 9, 9, 255}},
		{4, 2, 0x0102, []byte{9, 9, 9, 9, 2, 1}},
		{2, 2, 7, []byte{9, 9, 7, 0, 9, 9}},
		{3, 3, 0x010203, []byte{9, 9, 9, 3, 2, 1}},
		{2, 4, 0x81020304, []byte{9, 9, 4, 3, 2, 0x81}},
		{0, 4, 0, []byte{0, 0, 0, 0, 9, 9}},
		{1, 4, math.MaxUint32, []byte{9, 255, 255, 255, 255, 9}},
	} {
		wantBytes(t, "Put", put(t, b, k.at, k.bytes, k.n), k.want)
	}
	wantBytes(t, "Put of one byte of one", put(t, []byte{1}, 0, 1, 2), []byte{2})
}

func TestPutTakesWhatGoesIn(t *testing.T) {
	for bytes := 1; bytes <= 4; bytes++ {
		greatest := 1<<(8*bytes) - 1
		for _, n := range []int{0, 1, greatest / 2, greatest/2 + 1, greatest - 1, greatest} {
			wantInt(t, "what is put", get(t, put(t, make([]byte, 9), 3, bytes, n), 3, bytes), n)
		}
		for _, n := range []int{greatest + 1, greatest + 2, 2*greatest + 1, 1 << 32, 1<<32 + 1, 1 << 62, math.MaxInt, -1, -2, -greatest, -greatest - 1, math.MinInt, math.MinInt + 1} {
			c, e := Put(make([]byte, 9), 3, bytes, n)
			if c != nil || e != api.ErrArg {
				t.Errorf("Put of %d into %d bytes: %v, error %d", n, bytes, c, e)
			}
		}
	}
}

func TestPutRefusesPlaces(t *testing.T) {
	for size := range 10 {
		b := bytes.Repeat([]byte{7}, size)
		for _, k := range noPlaces(size) {
			for _, n := range []int{0, 1, -1, math.MaxInt} {
				c, e := Put(b, k[0], k[1], n)
				if c != nil || e != api.ErrArg {
					t.Errorf("Put into %d bytes, %d of them at %d: %v, error %d", size, k[1], k[0], c, e)
				}
			}
		}
		wantBytes(t, "behind what was refused", b, bytes.Repeat([]byte{7}, size))
	}
	if c, e := Put(nil, 0, 1, 0); c != nil || e != api.ErrArg {
		t.Errorf("Put into nil: %v, error %d", c, e)
	}
}

// 3.2

func TestHasTellsTheBit(t *testing.T) {
	b := []byte{1, 128, 0x24}
	for i := range 24 {
		if got, want := has(t, b, i), slices.Contains([]int{0, 15, 18, 21}, i); got != want {
			t.Errorf("Has(%v, %d): %t", b, i, got)
		}
	}
	for _, b := range lists() {
		for i, x := range text(b) {
			if got := has(t, b, i); got != (x == '1') {
				t.Errorf("Has(%v, %d): %t", b, i, got)
			}
		}
	}
}

func TestSetMakesTheBit(t *testing.T) {
	b := []byte{0, 255}
	wantBytes(t, "Set of the first one", set(t, b, 0, true), []byte{1, 255})
	wantBytes(t, "Set of the last one", set(t, b, 15, false), []byte{0, 127})
	wantBytes(t, "Set behind a byte's end", set(t, b, 8, false), []byte{0, 254})
	wantBytes(t, "Set ahead of a byte's end", set(t, b, 7, true), []byte{128, 255})
	wantBytes(t, "Set of what is so", set(t, b, 9, true), b)
	wantBytes(t, "Set of what is not so", set(t, b, 6, false), b)
	for _, b := range lists() {
		for i := range 8 * len(b) {
			s := text(b)
			if got, want := text(set(t, b, i, true)), s[:i]+"1"+s[i+1:]; got != want {
				t.Errorf("Set(%v, %d, true): %s, want %s", b, i, got, want)
			}
			if got, want := text(set(t, b, i, false)), s[:i]+"0"+s[i+1:]; got != want {
				t.Errorf("Set(%v, %d, false): %s, want %s", b, i, got, want)
			}
		}
	}
}

func TestHasAndSetRefuse(t *testing.T) {
	for _, b := range [][]byte{nil, {}, {255}, {0}, {255, 255, 255}} {
		kept := bytes.Clone(b)
		for _, i := range []int{-1, -7, -8, -9, 8 * len(b), 8*len(b) + 1, 8*len(b) + 8, 1 << 32, math.MaxInt, math.MinInt, math.MinInt + 1} {
			is, e := Has(b, i)
			if is || e != api.ErrArg {
				t.Errorf("Has(%v, %d): %t, error %d", b, i, is, e)
			}
			for _, on := range []bool{false, true} {
				c, e := Set(b, i, on)
				if c != nil || e != api.ErrArg {
					t.Errorf("Set(%v, %d, %t): %v, error %d", b, i, on, c, e)
				}
			}
		}
		wantBytes(t, "behind what was refused", b, kept)
	}
}

// 3.3

// firstOf is the first 0 of a text of bits, from that one on.
func firstOf(s string, from int) int {
	from = max(from, 0)
	if from > len(s) {
		return -1
	}
	i := strings.IndexByte(s[from:], '0')
	if i < 0 {
		return -1
	}
	return from + i
}

// runsOf is the lengths of runs of a text of bits, cut off one by one.
func runsOf(s string) []int {
	var l []int
	for kind := "0"; s != ""; kind = string("10"[kind[0]-'0']) {
		rest := strings.TrimLeft(s, kind)
		l = append(l, len(s)-len(rest))
		s = rest
	}
	return l
}

func TestFirstTellsTheFirst(t *testing.T) {
	for _, k := range []struct {
		b             []byte
		from, n, want int
	}{
		{[]byte{255, 1}, 0, 16, 9},
		{[]byte{255, 1}, -1, 16, 9},
		{[]byte{255, 1}, 9, 16, 9},   // the one that is asked for is told, too
		{[]byte{255, 1}, 10, 16, 10}, // and not one ahead of it
		{[]byte{255, 1}, 15, 16, 15},
		{[]byte{255, 1}, 0, 10, 9},
		{[]byte{255, 1}, 0, 9, -1}, // not the one at n
		{[]byte{255, 1}, 9, 9, -1},
		{[]byte{255, 1}, 10, 9, -1},
		{[]byte{255, 1}, 16, 16, -1},
		{[]byte{255, 1}, 16, 17, -1}, // nor one behind the bytes
		{[]byte{255, 1}, 16, math.MaxInt, -1},
		{[]byte{255, 1}, math.MaxInt, math.MaxInt, -1},
		{[]byte{255, 1}, math.MinInt, math.MaxInt, 9},
		{[]byte{255, 1}, math.MinInt, math.MinInt, -1},
		{[]byte{255, 1}, math.MaxInt, math.MinInt, -1},
		{[]byte{255, 255}, 0, 17, -1},
		{[]byte{0}, 0, 0, -1},
		{[]byte{0}, 0, -1, -1},
		{[]byte{0}, -5, -1, -1},
		{[]byte{0}, 0, 1, 0},
		{[]byte{0}, -5, 1, 0},
		{nil, 0, 16, -1},
		{[]byte{}, -1, 16, -1},
	} {
		if got := First(k.b, k.from, k.n); got != k.want {
			t.Errorf("First(%v, %d, %d): %d, want %d", k.b, k.from, k.n, got, k.want)
		}
	}
}

func TestFirstIsAsTheWordsTell(t *testing.T) {
	for _, b := range lists() {
		for _, n := range ends(b) {
			for _, from := range ends(b) {
				if got, want := First(b, from, n), firstOf(below(b, n), from); got != want {
					t.Fatalf("First(%v, %d, %d): %d, want %d", b, from, n, got, want)
				}
			}
		}
	}
}

func TestCountTellsTheOnes(t *testing.T) {
	b := []byte{0x0c, 0xff, 0x80}
	for _, k := range []struct{ n, want int }{
		{math.MinInt, 0}, {-1, 0}, {0, 0}, {1, 0}, {2, 0}, {3, 1}, {4, 2}, {8, 2}, {9, 3}, {16, 10}, {23, 10}, {24, 11}, {25, 11}, {32, 11}, {math.MaxInt, 11},
	} {
		wantInt(t, "Count", Count(b, k.n), k.want)
	}
	wantInt(t, "Count of nil", Count(nil, 8), 0)
	for _, b := range lists() {
		for _, n := range ends(b) {
			wantInt(t, "Count", Count(b, n), strings.Count(below(b, n), "1"))
		}
	}
}

func TestRunsTellTheLengths(t *testing.T) {
	for _, k := range []struct {
		b    []byte
		n    int
		want []int
	}{
		{[]byte{12}, 8, []int{2, 2, 4}},
		{[]byte{12}, 1, []int{1}},
		{[]byte{12}, 2, []int{2}},
		{[]byte{12}, 3, []int{2, 1}},
		{[]byte{12}, 4, []int{2, 2}},
		{[]byte{12}, 5, []int{2, 2, 1}},
		{[]byte{12}, 9, []int{2, 2, 4}},
		{[]byte{12}, math.MaxInt, []int{2, 2, 4}},
		{[]byte{12}, 0, nil},
		{[]byte{12}, -1, nil},
		{[]byte{12}, math.MinInt, nil},
		{[]byte{1}, 0, nil},
		{[]byte{1}, 1, []int{0, 1}},
		{[]byte{1}, 8, []int{0, 1, 7}},
		{[]byte{255}, 8, []int{0, 8}},
		{[]byte{255, 255, 1}, 24, []int{0, 17, 7}},
		{[]byte{0x55}, 8, []int{0, 1, 1, 1, 1, 1, 1, 1, 1}},
		{[]byte{0xaa}, 8, []int{1, 1, 1, 1, 1, 1, 1, 1}},
		{[]byte{0, 0}, 16, []int{16}},
		{nil, 8, nil},
		{[]byte{}, 8, nil},
	} {
		wantList(t, "Runs", Runs(k.b, k.n), k.want)
	}
	for _, b := range lists() {
		for _, n := range ends(b) {
			wantList(t, "Runs", Runs(b, n), runsOf(below(b, n)))
		}
	}
}

// 3.4

func TestWhatIsPutIsGotAndOthersStay(t *testing.T) {
	for _, b := range lists() {
		for bytes := 1; bytes <= 4; bytes++ {
			for at := 0; at+bytes <= len(b); at++ {
				for _, n := range []int{0, 1, 0x81, 1<<(8*bytes) - 1, 0x8493a5b6 % (1 << (8 * bytes))} {
					c := put(t, b, at, bytes, n)
					wantInt(t, "what is put", get(t, c, at, bytes), n)
					wantBytes(t, "the bytes ahead", c[:at], b[:at])
					wantBytes(t, "the bytes behind", c[at+bytes:], b[at+bytes:])
				}
			}
		}
	}
}

func TestWhatIsGotIsPut(t *testing.T) {
	for _, b := range lists() {
		for bytes := 1; bytes <= 4; bytes++ {
			for at := 0; at+bytes <= len(b); at++ {
				wantBytes(t, "Put of what stands there", put(t, b, at, bytes, get(t, b, at, bytes)), b)
			}
		}
	}
}

// 3.5

func TestSetChangesJustOneBit(t *testing.T) {
	for _, b := range lists() {
		for i := range 8 * len(b) {
			for _, on := range []bool{false, true} {
				c := set(t, b, i, on)
				if has(t, c, i) != on {
					t.Errorf("Set(%v, %d, %t): it is not so", b, i, on)
				}
				wantInt(t, "bits that Set changes", changed(t, b, c), one(has(t, b, i) != on))
				wantInt(t, "Count", Count(c, 8*len(c)), Count(b, 8*len(b))-one(has(t, b, i))+one(on))
			}
		}
	}
}

// one is 1 of what is so.
func one(is bool) int {
	if is {
		return 1
	}
	return 0
}

// changed is how many bits differ.
func changed(t *testing.T, b, c []byte) int {
	t.Helper()
	wantInt(t, "bytes", len(c), len(b))
	n := 0
	for i := range 8 * len(b) {
		n += one(has(t, b, i) != has(t, c, i))
	}
	return n
}

// 3.6

func TestAllAheadOfTheFirstAreOnes(t *testing.T) {
	for _, b := range lists() {
		for from := range 8*len(b) + 1 {
			for n := range 8*len(b) + 1 {
				i := First(b, from, n)
				end := i
				if i < 0 {
					end = n
				} else if i < from || i >= n || has(t, b, i) {
					t.Fatalf("First(%v, %d, %d): %d", b, from, n, i)
				}
				for j := from; j < end; j++ {
					if !has(t, b, j) {
						t.Fatalf("First(%v, %d, %d): %d, and %d is 0", b, from, n, i, j)
					}
				}
			}
		}
	}
}

func TestFirstGoesThroughAMap(t *testing.T) {
	b := make([]byte, 20)
	for i := range 160 {
		wantInt(t, "First", First(b, 0, 160), i)
		b = set(t, b, i, true)
	}
	wantInt(t, "First of all that is taken", First(b, 0, 160), -1)
	b = set(t, b, 77, false)
	wantInt(t, "First behind what is freed", First(b, 0, 160), 77)
}

// 3.7

func TestRunsSumUp(t *testing.T) {
	for _, b := range lists() {
		for n := range 8*len(b) + 9 {
			var kinds [2]int
			for i, length := range Runs(b, n) {
				if length < 0 || length == 0 && i > 0 {
					t.Errorf("Runs(%v, %d): a run of length %d", b, n, length)
				}
				kinds[i%2] += length
			}
			wantInt(t, "all runs", kinds[0]+kinds[1], min(n, 8*len(b)))
			wantInt(t, "those at odd places", kinds[1], Count(b, n))
		}
	}
}

// The rules that hold everywhere

func TestBytesThatAreHandedInStay(t *testing.T) {
	b := some(12, 3)
	kept := bytes.Clone(b)
	get(t, b, 3, 4)
	put(t, b, 3, 4, 0x01020304)
	has(t, b, 5)
	for i := range 96 {
		set(t, b, i, true)
		set(t, b, i, false)
	}
	First(b, 0, 96)
	Count(b, 96)
	Runs(b, 96)
	wantBytes(t, "what was handed in", b, kept)
}

func TestWhatIsHandedOutIsTheCallersOwn(t *testing.T) {
	room := append(some(4, 4), 9, 9, 9, 9) // what lies behind the bytes, in their memory, stays, too
	kept := bytes.Clone(room)
	b := room[:4]
	n := get(t, b, 0, 4)
	for _, c := range [][]byte{put(t, b, 0, 4, n), put(t, b, 3, 1, 7), set(t, b, 1, has(t, b, 1)), set(t, b, 31, true)} {
		wantInt(t, "bytes", len(c), 4)
		c = append(c, 1, 2, 3, 4)
		for i := range c {
			c[i] ^= 255
		}
	}
	wantBytes(t, "what was handed in", room, kept)
	first := Runs(b, 32)
	again := slices.Clone(first)
	for i := range first {
		first[i] = -1
	}
	wantList(t, "Runs once more", Runs(b, 32), again)
}

func TestArgumentsAreRefusedTogether(t *testing.T) {
	_, e := Get(nil, -1, 0)
	wantErr(t, "Get", e, api.ErrArg)
	_, e = Put(nil, -1, 5, -1)
	wantErr(t, "Put", e, api.ErrArg)
	_, e = Has(nil, -1)
	wantErr(t, "Has", e, api.ErrArg)
	_, e = Set(nil, -1, true)
	wantErr(t, "Set", e, api.ErrArg)
}
