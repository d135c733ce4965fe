package flate

import (
	"fmt"
	"slices"
	"strings"
	"testing"

	"sutler/api"
)

// storedAs is the plain blocks that bytes become.
func storedAs(b []byte) []byte {
	var all []byte
	for len(b) > 65535 {
		all = append(all, packed(plainBlockOfNoughts("0", b[:65535]))...)
		b = b[65535:]
	}
	return append(all, packed(plainBlockOfNoughts("1", b))...)
}

// plainBlockOfNoughts is a plain block at a byte's beginning, which is filled up with noughts.
func plainBlockOfNoughts(last string, b []byte) string {
	return last + ofPlain + "00000" + plainBlock(0, last, b)[8:]
}

// 11.2: plain blocks, byte by byte.
func TestStore(t *testing.T) {
	wantBytes(t, "Store of nothing", Store(nil), []byte{1, 0, 0, 255, 255})
	wantBytes(t, "Store of nothing", Store([]byte{}), []byte{1, 0, 0, 255, 255})
	wantBytes(t, "Store of a byte", Store([]byte{77}), []byte{1, 1, 0, 254, 255, 77})
	wantBytes(t, "Store of three bytes", Store([]byte("abc")), []byte{1, 3, 0, 252, 255, 'a', 'b', 'c'})
	b := some(131072, 6)
	full, one := []byte{0, 255, 255, 0, 0}, []byte{1, 1, 0, 254, 255}
	last := []byte{1, 255, 255, 0, 0}
	wantBytes(t, "Store of 65534 bytes", Store(b[:65534]), join([]byte{1, 254, 255, 1, 0}, b[:65534]))
	wantBytes(t, "Store of 65535 bytes", Store(b[:65535]), join(last, b[:65535]))
	wantBytes(t, "Store of 65536 bytes", Store(b[:65536]), join(full, b[:65535], one, b[65535:65536]))
	wantBytes(t, "Store of 131070 bytes", Store(b[:131070]), join(full, b[:65535], last, b[65535:131070]))
	wantBytes(t, "Store of 131071 bytes", Store(b[:131071]), join(full, b[:65535], full, b[65535:131070], one, b[131070:131071]))
	for _, n := range []int{2, 255, 256, 257, 511, 512, 32768, 65535 + 256, 131071, 131072, 3 * 65535, 3*65535 + 1, api.MaxBytes, api.MaxBytes + 1} {
		b := some(n, uint64(n))
		wantBytes(t, fmt.Sprint("Store of bytes: ", n), Store(b), storedAs(b))
	}
}

// wantFixed asks for a fixed block of these symbols alone.
func wantFixed(t *testing.T, what string, got []byte, symbols string) {
	t.Helper()
	wantBytes(t, what, got, packed(fixedBlock("1", symbols)))
}

// 11.2: one fixed block of bytes alone.
func TestFixed(t *testing.T) {
	f := fixedCodes()
	wantBytes(t, "Fixed of nothing", Fixed(nil), []byte{3, 0})
	wantBytes(t, "Fixed of nothing", Fixed([]byte{}), []byte{3, 0})
	wantBytes(t, "Fixed of a", Fixed([]byte("a")), []byte{0x4b, 4, 0})
	all := make([]byte, 256)
	for i := range all {
		all[i] = byte(i)
		wantFixed(t, fmt.Sprint("Fixed of ", i), Fixed([]byte{byte(i)}), f.bytes(byte(i)))
	}
	wantFixed(t, "Fixed of each byte", Fixed(all), f.bytes(all...))
	for _, n := range []int{2, 3, 4, 5, 9, 258, 259, 260, 300, 1000, 65535, 65536, 131071} {
		wantFixed(t, fmt.Sprint("Fixed of like bytes: ", n), Fixed(rowOf('a', n)), strings.Repeat(f.bytes('a'), n))
		b := some(n, uint64(n))
		wantFixed(t, fmt.Sprint("Fixed of bytes: ", n), Fixed(b), f.bytes(b...))
	}
}

// copied is a byte and copies of it of these lengths, and so many bytes behind them.
func copied(b byte, copies []int, more int) string {
	f := fixedCodes()
	bits := f.bytes(b)
	for _, n := range copies {
		bits += f.copy(n, 1)
	}
	return bits + strings.Repeat(f.bytes(b), more)
}

// 11.2: rows of like bytes at the edges, alone, with others ahead and behind, and side by side.
func TestRunsOfRows(t *testing.T) {
	rows := []struct {
		n      int
		copies []int
		more   int
	}{
		{1, nil, 0}, {2, nil, 1}, {3, nil, 2}, {4, []int{3}, 0}, {5, []int{4}, 0}, {6, []int{5}, 0}, {257, []int{256}, 0},
		{258, []int{257}, 0}, {259, []int{258}, 0}, {260, []int{258}, 1}, {261, []int{258}, 2},
		{262, []int{258, 3}, 0}, {263, []int{258, 4}, 0}, {516, []int{258, 257}, 0}, {517, []int{258, 258}, 0},
		{518, []int{258, 258}, 1}, {519, []int{258, 258}, 2}, {520, []int{258, 258, 3}, 0},
	}
	f := fixedCodes()
	for _, r := range rows {
		for _, b := range []byte{0, 'a', 143, 144, 255} {
			row, bits := rowOf(b, r.n), copied(b, r.copies, r.more)
			what := fmt.Sprintf("Runs of %d times %d", r.n, b)
			wantFixed(t, what, Runs(row), bits)
			for _, ahead := range [][]byte{{}, {'x'}, []byte("xy"), []byte("xxy"), []byte("xxx")} {
				for _, behind := range [][]byte{{}, {'y'}, []byte("yx"), []byte("yyy"), {'y', b}} {
					want := f.bytes(ahead...) + bits + f.bytes(behind...)
					wantFixed(t, what+" with others", Runs(join(ahead, row, behind)), want)
				}
			}
			for _, other := range rows {
				want := bits + copied('z', other.copies, other.more) + bits
				wantFixed(t, what+" and others", Runs(join(row, rowOf('z', other.n), row)), want)
			}
		}
	}
}

// runsAs is the symbols that bytes become, by the chapter's words: byte by byte, looking ahead.
func runsAs(b []byte) string {
	f := fixedCodes()
	var bits strings.Builder
	for at := 0; at < len(b); {
		n := likeBytes(b[at:])
		bits.WriteString(f.bytes(b[at]))
		left := n - 1
		for n >= 4 && left >= 3 {
			bits.WriteString(f.copy(min(left, 258), 1))
			left -= min(left, 258)
		}
		for range left {
			bits.WriteString(f.bytes(b[at]))
		}
		at += n
	}
	return bits.String()
}

// likeBytes is how many like bytes a list begins with.
func likeBytes(b []byte) int {
	for n := range b {
		if b[n] != b[0] {
			return n
		}
	}
	return len(b)
}

// 11.2: Runs of any bytes, and of rows of each length.
func TestRuns(t *testing.T) {
	wantBytes(t, "Runs of nothing", Runs(nil), []byte{3, 0})
	wantBytes(t, "Runs of nothing", Runs([]byte{}), []byte{3, 0})
	wantBytes(t, "Runs of a", Runs([]byte("a")), []byte{0x4b, 4, 0})
	for n := range 800 {
		b := rowOf(byte(n), n)
		wantFixed(t, fmt.Sprint("Runs of like bytes: ", n), Runs(b), runsAs(b))
	}
	for seed := range uint64(200) {
		few := some(int(seed)*9, seed)
		for i := range few {
			few[i] &= byte(seed % 4)
		}
		wantFixed(t, "Runs of few bytes", Runs(few), runsAs(few))
	}
	for _, n := range []int{65535, 65536, 131071} {
		wantFixed(t, "Runs of many like bytes", Runs(rowOf(9, n)), runsAs(rowOf(9, n)))
		b := some(n, 9)
		wantFixed(t, "Runs of many bytes", Runs(b), runsAs(b))
	}
}

// 11.6: n like bytes become at most 8 bytes and n by 100.
func TestRunsOfLikeBytesAreShort(t *testing.T) {
	ns := []int{65534, 65535, 65536, 131070, 131071, 131072, 1<<18 - 1, 1 << 18, 1 << 20}
	for n := range 3000 {
		ns = append(ns, n)
	}
	for _, n := range ns {
		for _, b := range []byte{0, 144, 255} {
			if got := len(Runs(rowOf(b, n))); got > 8+n/100 {
				t.Errorf("Runs of %d times %d: %d bytes, at most %d", n, b, got, 8+n/100)
			}
		}
	}
}

// 11.3: what was deflated is made as it was, with each other's bytes behind.
func TestThereAndBackWithBytesBehind(t *testing.T) {
	for n := range 300 {
		wantBack(t, some(n, 2))
		wantBack(t, rowOf('r', n))
	}
	b := []byte("one thing, and anotherrrrrrrrrrrrrrrr")
	for name, deflate := range ways() {
		made := deflate(b)
		for other, behind := range ways() {
			all := join(made, behind(b))
			wantInflated(t, name+" ahead of "+other, all, len(b), b, len(made))
			wantInflated(t, other+" behind "+name, all[len(made):], len(b), b, len(all)-len(made))
		}
		wantRefused(t, name+", one byte too many", made, len(b)-1, api.ErrLong)
	}
}

// Rule 4: what is handed in is neither changed nor kept, and what is handed out is the caller's own.
func TestDeflateKeepsNothing(t *testing.T) {
	for name, deflate := range ways() {
		for _, was := range [][]byte{{}, []byte("a"), []byte("aaaaaaaaab"), some(70000, 1)} {
			in := append(slices.Clone(was), 9, 9, 9)[:len(was)]
			one := deflate(in)
			wantBytes(t, name+", handed in", in[:len(in)+3], append(slices.Clone(was), 9, 9, 9))
			clear(in)
			wantInflated(t, name, one, api.MaxBytes, was, len(one))
			other := deflate(was)
			clear(one[:cap(one)])
			wantInflated(t, name+" again", other, api.MaxBytes, was, len(other))
		}
	}
}
