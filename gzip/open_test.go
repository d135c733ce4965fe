package gzip

import (
	"bytes"
	"compress/flate"
	"compress/gzip"
	"fmt"
	"math"
	"testing"
	"time"

	"sutler/api"
	ours "sutler/flate"
)

// 12.1: a most that may not be is told ahead of all that is wrong with the bytes.
func TestMost(t *testing.T) {
	wrong := full()
	wrong.sum = four(1)
	all := [][]byte{nil, {}, {0}, {0x1f}, full().bytes(), wrong.bytes(), append(full().bytes(), 0)}
	for _, most := range []int{-1, -2, -api.MaxBytes, math.MinInt32, math.MinInt + 1, math.MinInt,
		api.MaxBytes + 1, api.MaxBytes + 2, 2 * api.MaxBytes, 1 << 32, math.MaxInt32, math.MaxInt - 1, math.MaxInt} {
		for _, b := range all {
			wantRefused(t, fmt.Sprint("at most ", most), b, most, api.ErrArg)
		}
	}
	for _, most := range []int{5, 6, api.MaxBytes - 1, api.MaxBytes} {
		wantOpened(t, fmt.Sprint("at most ", most), full().bytes(), most, []byte("hello"))
	}
	for _, most := range []int{0, 1, api.MaxBytes - 1, api.MaxBytes} {
		wantOpened(t, fmt.Sprint("nothing, at most ", most), around([]byte{3, 0}, nil).bytes(), most, nil)
	}
	for most := range 5 {
		wantRefused(t, fmt.Sprint("at most ", most), full().bytes(), most, api.ErrLong)
	}
}

// 12.1: as many bytes as there may be, and one more, by each way to deflate.
func TestMaxBytes(t *testing.T) {
	for _, b := range [][]byte{some(api.MaxBytes, 3), make([]byte, api.MaxBytes), rowOf('a', api.MaxBytes)} {
		more := append(bytes.Clone(b), 7)
		for _, deflate := range []func([]byte) []byte{ours.Store, ours.Fixed, ours.Runs} {
			made := around(deflate(b), b).bytes()
			wantOpened(t, "MaxBytes", made, api.MaxBytes, b)
			wantRefused(t, "MaxBytes, at most one fewer", made, api.MaxBytes-1, api.ErrLong)
			wantRefused(t, "one more", around(deflate(more), more).bytes(), api.MaxBytes, api.ErrLong)
		}
	}
}

// 12.1: no byte at all is short.
func TestNoByte(t *testing.T) {
	wantBadHeader(t, "nil", nil, api.ErrShort)
	wantBadHeader(t, "no byte", []byte{}, api.ErrShort)
}

// 12.1: the first three bytes are looked at one by one, with nothing behind them and with all.
func TestFirstBytes(t *testing.T) {
	whole := full().bytes()
	for at := range 3 {
		wantBadHeader(t, "first bytes", whole[:at], api.ErrShort)
		for x := 1; x < 256; x++ {
			b := turned(whole, at, byte(x))
			wantBadHeader(t, "another one", b, api.ErrGzip)
			for _, size := range []int{at + 1, at + 2, at + 3, 9, 10, 11} {
				wantBadHeader(t, "another one, and short", b[:size], api.ErrGzip)
			}
		}
	}
	wantBadHeader(t, "first bytes", whole[:3], api.ErrShort)
	for _, b := range [][]byte{{0x1f, 0x8b, 0}, {0x8b, 0x1f, 8}, {0x1f, 8, 0x8b}, {8, 0x8b, 0x1f}, {0x1f, 0x1f}, {0x8b}, {8}, {0}, {0x1f, 0x8b, 0x88}, {0x1f, 0x0b}} {
		wantBadHeader(t, "others", b, api.ErrGzip)
	}
}

// 12.1: the flags 32, 64 and 128 are found as soon as they are read, whatever stands behind.
func TestFlagsThatAreNone(t *testing.T) {
	for flags := range 256 {
		f := full()
		f.flags = byte(flags)
		if flags < 32 {
			wantBadHeader(t, fmt.Sprint("flags alone ", flags), f.bytes()[:4], api.ErrShort)
			continue
		}
		what := fmt.Sprint("flags ", flags)
		wantBadHeader(t, what, f.bytes(), api.ErrGzip)
		wantBadHeader(t, what, f.checkedAgain().bytes(), api.ErrGzip)
		wantBadHeader(t, what, f.bytes()[:4], api.ErrGzip)
		wantBadHeader(t, what, f.bytes()[:7], api.ErrGzip)
	}
	for _, flag := range []byte{32, 64, 128} {
		b := around([]byte{3, 0}, nil)
		b.flags = flag
		wantBadHeader(t, fmt.Sprint("the flag alone ", flag), b.bytes(), api.ErrGzip)
	}
}

// 12.1: each flag alone, all of them together and each choice of them, and where the header ends.
func TestFlags(t *testing.T) {
	for _, b := range [][]byte{nil, []byte("a"), []byte("hello, hello"), rowOf(7, 300)} {
		for _, f := range withFlags(b) {
			what := fmt.Sprint("flags ", f.flags)
			wantOpened(t, what, f.bytes(), len(b), b)
			wantOpened(t, what, f.bytes(), api.MaxBytes, b)
			wantHeader(t, what, f.bytes(), f.ends(), api.OK)
			wantHeader(t, what+", alone", f.bytes()[:f.ends()], f.ends(), api.OK)
			if len(b) > 0 {
				wantRefused(t, what, f.bytes(), len(b)-1, api.ErrLong)
			}
		}
	}
	for flags, want := range map[byte]int{0: 10, 1: 10, 2: 12, 4: 15, 8: 12, 16: 13, 31: 22} {
		f := around([]byte{3, 0}, nil).dressedBy(flags, "n", "no", []byte{1, 2, 3})
		wantHeader(t, fmt.Sprint("flags ", flags), f.bytes(), want, api.OK)
	}
}

// 12.1: the flag 1 tells nothing: with it, all is as without it.
func TestFlagOne(t *testing.T) {
	for _, flags := range mayBe() {
		f := hello()
		with := f.dressedBy(flags|1, "n", "o", []byte{1})
		without := f.dressedBy(flags&^1, "n", "o", []byte{1})
		if with.ends() != without.ends() {
			t.Errorf("flags %d: a part of its own", flags)
		}
		for _, f := range []frameOf{with, without} {
			wantOpened(t, fmt.Sprint("flags ", f.flags), f.bytes(), 5, []byte("hello"))
			wantHeader(t, fmt.Sprint("flags ", f.flags), f.bytes(), without.ends(), api.OK)
		}
	}
}

// 12.1: the six bytes tell nothing, whatever they are, but all of them stand there.
func TestSixBytes(t *testing.T) {
	for at := range 6 {
		for x := range 256 {
			f := hello()
			f.six = turned(f.six, at, byte(x))
			wantOpened(t, "six bytes", f.bytes(), 5, []byte("hello"))
			wantHeader(t, "six bytes", f.bytes(), 10, api.OK)
		}
	}
	f := hello()
	f.six = rowOf(255, 6)
	for size := 4; size < 10; size++ {
		wantBadHeader(t, "fewer than six", f.bytes()[:size], api.ErrShort)
	}
	wantOpened(t, "six bytes of 255", f.bytes(), 5, []byte("hello"))
}

// 12.1: extra parts of some sizes, and ones of which not all bytes are there.
func TestExtra(t *testing.T) {
	for _, n := range []int{0, 1, 2, 255, 256, 257, 4660, 65534, 65535} {
		for _, flags := range []byte{4, 4 | 2, 4 | 8 | 16, 31} {
			f := hello().dressedBy(flags, "n", "o", some(n, 4))
			wantOpened(t, fmt.Sprint("extra of ", n), f.bytes(), 5, []byte("hello"))
			wantHeader(t, fmt.Sprint("extra of ", n), f.bytes(), f.ends(), api.OK)
			for _, there := range []int{0, n / 2, n - 1} {
				if there >= 0 && there < n {
					wantBadHeader(t, fmt.Sprint("some of an extra of ", n), f.bytes()[:12+there], api.ErrShort)
				}
			}
			wantBadHeader(t, "no number of an extra", f.bytes()[:10], api.ErrShort)
			wantBadHeader(t, "half a number of an extra", f.bytes()[:11], api.ErrShort)
		}
	}
	f := hello().dressedBy(4, "", "", []byte{9, 9})
	for n := 3; n <= 65535; n += 131 {
		f.count = two(n)
		if 12+n > len(f.bytes()) {
			wantBadHeader(t, fmt.Sprint("an extra that should have ", n), f.bytes(), api.ErrShort)
		}
	}
}

// 12.1: names and notes of no byte and of some, and ones whose 0 is missing.
func TestNameAndNote(t *testing.T) {
	for _, n := range []int{0, 1, 2, 255, 256, 65535, 65536, 100000} {
		for _, flags := range []byte{8, 16, 8 | 16, 8 | 2, 16 | 2, 31} {
			text := string(bytes.ReplaceAll(some(n, 5), []byte{0}, []byte{200}))
			f := around([]byte{3, 0}, nil).dressedBy(flags, text, "x"+text, nil)
			wantOpened(t, fmt.Sprint("texts of ", n), f.bytes(), 0, nil)
			wantHeader(t, fmt.Sprint("texts of ", n), f.bytes(), f.ends(), api.OK)
			last := len(f.header())
			wantBadHeader(t, "the last 0 is missing", f.bytes()[:last-1], api.ErrShort)
		}
	}
	for _, flags := range []byte{8, 16, 24} {
		f := around([]byte{3, 0}, nil)
		f.flags = flags
		wantBadHeader(t, "no text", f.header(), api.ErrShort)
		wantBadHeader(t, "no 0", append(f.header(), "text"...), api.ErrShort)
	}
	f := around([]byte{3, 0}, nil)
	f.flags = 24
	wantBadHeader(t, "one 0 of two", append(f.header(), "text\x00more"...), api.ErrShort)
	wantBadHeader(t, "one 0 of two, nothing behind", append(f.header(), "text\x00"...), api.ErrShort)
	wantHeader(t, "two of them", append(f.header(), 0, 0), 12, api.OK)
	wantHeader(t, "the first two of three", append(f.header(), 0, 0, 0), 12, api.OK)
}

// 12.1: a header's checksum, of each choice of other parts, right and wrong in each byte.
func TestHeaderChecksum(t *testing.T) {
	for _, f := range withFlags([]byte("hi")) {
		if f.flags&2 == 0 {
			continue
		}
		right, head := f.bytes(), len(f.header())
		for at := range 2 {
			wantBadHeader(t, "not all of a checksum", right[:head+at], api.ErrShort)
			for x := 1; x < 256; x++ {
				wrong := turned(right, head+at, byte(x))
				wantBadHeader(t, "a wrong checksum", wrong, api.ErrSum)
				wantBadHeader(t, "a wrong checksum alone", wrong[:head+2], api.ErrSum)
			}
		}
		wantBadHeader(t, "half a checksum, and wrong", turned(right, head, 1)[:head+1], api.ErrShort)
		f.check = two(int(crcOf(f.header()) >> 16))
		if !bytes.Equal(f.check, f.checkedAgain().check) {
			wantBadHeader(t, "the first bits of a checksum", f.bytes(), api.ErrSum)
		}
	}
}

// 12.1: a header's checksum is of all bytes ahead of it.
func TestHeaderChecksumOfAll(t *testing.T) {
	f := full()
	name := 12 + len(f.extra)
	note := name + len(f.name)
	for at := 4; at < len(f.header()); at++ {
		if at == 10 || at == 11 || at == note-1 || at == len(f.header())-1 {
			continue // where a part ends
		}
		for x := 1; x < 256; x++ {
			b := turned(f.bytes(), at, byte(x))
			if at < name || b[at] != 0 {
				wantBadHeader(t, fmt.Sprint("another byte at ", at), b, api.ErrSum)
			}
		}
	}
	wantBadHeader(t, "the flag 1 that was not summed up", turned(f.bytes(), 3, 1), api.ErrSum)
}

// 12.4: each byte of the checksum and of the length, turned in whatever way.
func TestTurnedIsFound(t *testing.T) {
	for _, b := range [][]byte{nil, []byte("a"), []byte("hello"), some(700, 1)} {
		for _, f := range []frameOf{around(ours.Runs(b), b), full()} {
			f.stream, f.sum, f.length = ours.Runs(b), around(nil, b).sum, around(nil, b).length
			right := f.bytes()
			for at := len(right) - 8; at < len(right); at++ {
				for x := 1; x < 256; x++ {
					wrong := turned(right, at, byte(x))
					wantRefused(t, "turned", wrong, len(b), api.ErrSum)
					wantRefused(t, "turned, and more behind", append(wrong, 0), len(b), api.ErrSum)
				}
			}
			for x := range 255 {
				both := f
				both.sum, both.length = turned(f.sum, x%4, byte(255-x)), turned(f.length, x%3, byte(x+1))
				wantRefused(t, "both turned", both.bytes(), len(b), api.ErrSum)
			}
			wantOpened(t, "not turned", right, len(b), b)
		}
	}
}

// 12.1: the checksum is asked ahead of the length's bytes, both ahead of what stands behind.
func TestChecksumAndLength(t *testing.T) {
	f := full()
	sum, length := f.sum, f.length
	f.sum, f.length = turned(sum, 3, 128), turned(length, 0, 1)
	wantRefused(t, "both wrong", f.bytes(), 5, api.ErrSum)
	for n := range 4 {
		f.sum, f.length = turned(sum, 1, 9), length[:n]
		wantRefused(t, "a wrong checksum, some of a length", f.bytes(), 5, api.ErrSum)
		f.sum = sum
		wantRefused(t, "a checksum, some of a length", f.bytes(), 5, api.ErrShort)
		f.length = turned(length, 0, 255)[:n]
		wantRefused(t, "a checksum, some of a wrong length", f.bytes(), 5, api.ErrShort)
		f.sum, f.length = turned(sum, 0, 9)[:n], nil
		wantRefused(t, "some of a wrong checksum", f.bytes(), 5, api.ErrShort)
		f.sum, f.length = sum[:n], nil
		wantRefused(t, "some of a checksum", f.bytes(), 5, api.ErrShort)
	}
	for _, n := range []uint32{0, 4, 6, 5 << 8, 5 << 24, math.MaxUint32, 1<<31 + 5, api.MaxBytes + 5} {
		f.sum, f.length = sum, four(n)
		wantRefused(t, "another length", f.bytes(), 5, api.ErrSum)
	}
	f.sum, f.length = length, sum
	wantRefused(t, "changed with one another", f.bytes(), 5, api.ErrSum)
	f.sum, f.length = []byte{sum[3], sum[2], sum[1], sum[0]}, length
	wantRefused(t, "highest byte first", f.bytes(), 5, api.ErrSum)
	f.sum, f.length = sum, []byte{0, 0, 0, 5}
	wantRefused(t, "highest byte first", f.bytes(), 5, api.ErrSum)
}

// 12.1: of the stream the errors are chapter 11's, behind those of the header and ahead of all
// that stands behind.
func TestStream(t *testing.T) {
	kindThree, noNumbers := []byte{7}, []byte{1, 0, 0, 0, 0}
	for _, f := range []frameOf{around(nil, nil), full()} {
		f.sum, f.length = four(1), four(2)
		for _, behind := range [][]byte{nil, {0}, some(20, 9)} {
			f.behind = behind
			f.stream = kindThree
			wantRefused(t, "the kind 3", f.bytes(), 9, api.ErrFlate)
			f.stream = noNumbers
			wantRefused(t, "numbers of a plain block", f.bytes(), 9, api.ErrFlate)
			f.stream = ours.Store(some(10, 2))
			wantRefused(t, "a plain block that is too long", f.bytes(), 9, api.ErrLong)
			f.stream = ours.Fixed(some(10, 2))
			wantRefused(t, "a fixed block that is too long", f.bytes(), 9, api.ErrLong)
			wantHeader(t, "a stream that is none", f.bytes(), f.ends(), api.OK)
		}
	}
	for _, b := range [][]byte{[]byte("hello"), rowOf(9, 300), some(50, 3)} {
		f := full()
		for _, stream := range [][]byte{ours.Store(b), ours.Fixed(b), ours.Runs(b)} {
			f.sum, f.length = nil, nil
			for n := range len(stream) {
				f.stream = stream[:n]
				wantRefused(t, "a stream that ends early", f.bytes(), len(b), api.ErrShort)
				wantHeader(t, "a stream that ends early", f.bytes(), f.ends(), api.OK)
			}
			f.stream, f.sum, f.length = stream, around(nil, b).sum, around(nil, b).length
			wantOpened(t, "a stream", f.bytes(), len(b), b)
		}
	}
}

// 12.1: streams that others made, of told blocks, too.
func TestStreamsOfOthers(t *testing.T) {
	text := bytes.Repeat([]byte("what was deflated by others, "), 90)
	for _, b := range [][]byte{nil, []byte("a"), text, some(3000, 8), join(text, some(500, 1), rowOf(0, 999))} {
		for level := flate.HuffmanOnly; level <= flate.BestCompression; level++ {
			var out bytes.Buffer
			w, _ := flate.NewWriter(&out, level)
			w.Write(b)
			w.Close()
			f := around(out.Bytes(), b)
			wantOpened(t, fmt.Sprint("level ", level), f.bytes(), len(b), b)
			wantOpened(t, fmt.Sprint("level ", level), f.dressedBy(31, "n", "", nil).bytes(), len(b), b)
		}
	}
}

// 12.1: frames that others made.
func TestFramesOfOthers(t *testing.T) {
	for _, name := range []string{"", "name"} {
		for _, note := range []string{"", "a note"} {
			for _, extra := range [][]byte{nil, {1}, some(65535, 2)} {
				var out bytes.Buffer
				w := gzip.NewWriter(&out)
				w.Name, w.Comment, w.Extra = name, note, extra
				w.ModTime, w.OS = time.Unix(1234567890, 0), 3
				w.Write([]byte("others"))
				w.Close()
				wantOpened(t, "another one's frame", out.Bytes(), 6, []byte("others"))
			}
		}
	}
}

// 12.5: a beginning is short.
func TestBeginnings(t *testing.T) {
	for _, b := range [][]byte{nil, []byte("hello"), rowOf(1, 40)} {
		for _, f := range withFlags(b) {
			whole := f.bytes()
			for n := range len(whole) {
				what := fmt.Sprintf("flags %d, the first %d bytes", f.flags, n)
				wantRefused(t, what, whole[:n:n], len(b), api.ErrShort)
				wantRefused(t, what, whole[:n], api.MaxBytes, api.ErrShort)
				if n < f.ends() {
					wantHeader(t, what, whole[:n], 0, api.ErrShort)
				} else {
					wantHeader(t, what, whole[:n], f.ends(), api.OK)
				}
			}
		}
	}
}

// 12.5: bytes behind are refused, whatever they are.
func TestBytesBehind(t *testing.T) {
	for _, b := range [][]byte{nil, []byte("hello")} {
		for _, f := range withFlags(b) {
			whole := f.bytes()
			for x := range 256 {
				wantRefused(t, "one byte behind", append(whole, byte(x)), len(b), api.ErrGzip)
			}
			for _, behind := range [][]byte{{0, 0}, make([]byte, 512), whole, some(70000, 1)} {
				wantRefused(t, "bytes behind", join(whole, behind), len(b), api.ErrGzip)
				wantHeader(t, "bytes behind", join(whole, behind), f.ends(), api.OK)
			}
		}
	}
}

// fault is something wrong with a frame, in the order in which reading on finds it: a change of its
// parts, or where its bytes end.
type fault struct {
	what   string
	change func(f *frameOf)
	end    func(f frameOf) int
	want   api.Errno
}

// change is a fault of a part.
func change(what string, do func(f *frameOf), want api.Errno) fault {
	return fault{what: what, change: do, want: want}
}

// cut is a fault of bytes that end.
func cut(what string, end func(f frameOf) int) fault {
	return fault{what: what, end: end, want: api.ErrShort}
}

// faults are those that a frame with all parts may have.
func faults() []fault {
	return []fault{
		cut("no byte", func(frameOf) int { return 0 }),
		change("the first byte", func(f *frameOf) { f.first[0] = 0 }, api.ErrGzip),
		cut("one byte", func(frameOf) int { return 1 }),
		change("the second byte", func(f *frameOf) { f.first[1] = 0 }, api.ErrGzip),
		cut("two bytes", func(frameOf) int { return 2 }),
		change("the third byte", func(f *frameOf) { f.first[2] = 0 }, api.ErrGzip),
		cut("no flags", func(frameOf) int { return 3 }),
		change("flags", func(f *frameOf) { f.flags |= 64 }, api.ErrGzip),
		cut("no six bytes", func(frameOf) int { return 4 }),
		cut("five of six bytes", func(frameOf) int { return 9 }),
		cut("one byte of the extra's number", func(frameOf) int { return 11 }),
		cut("no extra", func(frameOf) int { return 12 }),
		cut("some of the extra", func(f frameOf) int { return 12 + len(f.extra) - 1 }),
		cut("no name", func(f frameOf) int { return 12 + len(f.extra) }),
		cut("some of the name", func(f frameOf) int { return 12 + len(f.extra) + len(f.name) - 1 }),
		cut("no note", func(f frameOf) int { return 12 + len(f.extra) + len(f.name) }),
		cut("some of the note", func(f frameOf) int { return len(f.header()) - 1 }),
		cut("no checksum of the header", func(f frameOf) int { return len(f.header()) }),
		cut("some of the header's checksum", func(f frameOf) int { return len(f.header()) + 1 }),
		change("the header's checksum", func(f *frameOf) { f.check = turned(f.check, 0, 7) }, api.ErrSum),
		cut("no stream", func(f frameOf) int { return f.ends() }),
		cut("some of the stream", func(f frameOf) int { return f.ends() + 1 }),
		cut("one block of the stream", func(f frameOf) int { return f.ends() + 5 }),
		change("the stream", func(f *frameOf) { f.stream[5] = 7 }, api.ErrFlate),
		cut("no checksum", func(f frameOf) int { return f.ends() + len(f.stream) }),
		cut("some of the checksum", func(f frameOf) int { return f.ends() + len(f.stream) + 3 }),
		change("the checksum", func(f *frameOf) { f.sum = turned(f.sum, 2, 1) }, api.ErrSum),
		cut("no length", func(f frameOf) int { return f.ends() + len(f.stream) + 4 }),
		cut("some of the length", func(f frameOf) int { return f.ends() + len(f.stream) + 7 }),
		change("the length", func(f *frameOf) { f.length = turned(f.length, 1, 1) }, api.ErrSum),
		change("behind", func(f *frameOf) { f.behind = []byte{0x1f} }, api.ErrGzip),
	}
}

// faulty is a frame with these faults. Its stream is a plain block of no byte, not the last one, and
// then one of "hello".
func faulty(all ...fault) []byte {
	f := full()
	f.stream = join([]byte{0, 0, 0, 255, 255}, ours.Runs([]byte("hello")))
	f.first = bytes.Clone(f.first)
	for _, k := range all {
		if k.change != nil {
			k.change(&f)
		}
	}
	b := f.bytes()
	for _, k := range all {
		if k.end != nil {
			b = b[:min(len(b), k.end(f))]
		}
	}
	return b
}

// 12.1: of several errors the one that is found first, reading on.
func TestSeveralErrors(t *testing.T) {
	wantOpened(t, "without a fault", faulty(), 5, []byte("hello"))
	all := faults()
	for i, one := range all {
		wantRefused(t, one.what, faulty(one), 5, one.want)
		wantRefused(t, one.what+", and the most", faulty(one), -1, api.ErrArg)
		for j, two := range all[i+1:] {
			what := one.what + ", " + two.what
			wantRefused(t, what, faulty(one, two), 5, one.want)
			for _, three := range all[i+1+j+1:] {
				wantRefused(t, what+", "+three.what, faulty(one, two, three), 5, one.want)
			}
		}
		wantRefused(t, one.what+", and all behind", faulty(all[i:]...), 5, one.want)
	}
}

// 12.1: of several errors of a header, likewise; those behind it are none of its own.
func TestSeveralErrorsOfHeaders(t *testing.T) {
	all := faults()
	header := true
	for i, one := range all {
		header = header && one.what != "no stream"
		if !header {
			_, e := Header(faulty(one))
			if e != api.OK {
				t.Errorf("Header, %s: error %d", one.what, e)
			}
			continue
		}
		wantHeader(t, one.what, faulty(one), 0, one.want)
		for _, two := range all[i+1:] {
			wantHeader(t, one.what+", "+two.what, faulty(one, two), 0, one.want)
		}
	}
}
