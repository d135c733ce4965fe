package gzip

import (
	"bytes"
	"compress/gzip"
	"fmt"
	"hash/crc32"
	"io"
	"strings"
	"testing"

	"sutler/api"
	"sutler/flate"
)

func crcOf(b []byte) uint32 { return crc32.ChecksumIEEE(b) }

// contents is what frames are made of.
func contents() [][]byte {
	return [][]byte{nil, {}, {0}, []byte("a"), []byte("hello"), rowOf('a', 3), rowOf('a', 4), rowOf(0, 259), rowOf(0, 3000),
		some(1, 1), some(300, 2), some(65535, 3), some(65536, 4), join(some(9, 1), rowOf(3, 600), some(9, 2)), some(api.MaxBytes, 5), rowOf(255, api.MaxBytes)}
}

// wantDressed asks for a frame, byte by byte.
func wantDressed(t *testing.T, b []byte, name, note string, extra []byte, sum bool) []byte {
	t.Helper()
	flags := byte(0)
	if len(extra) > 0 {
		flags |= 4
	}
	if name != "" {
		flags |= 8
	}
	if note != "" {
		flags |= 16
	}
	if sum {
		flags |= 2
	}
	f := around(flate.Runs(b), b).dressedBy(flags, name, note, extra)
	what := fmt.Sprintf("Dress of %s, %d, %d, %d, %t", short(b), len(name), len(note), len(extra), sum)
	got, e := Dress(b, name, note, extra, sum)
	if e != api.OK {
		t.Errorf("%s: error %d", what, e)
	}
	wantBytes(t, what, got, f.bytes())
	wantHeader(t, what, got, f.ends(), api.OK)
	return got
}

func TestExamples(t *testing.T) {
	want := []byte{0x1f, 0x8b, 8, 0, 0, 0, 0, 0, 0, 0, 0x4b, 4, 0, 0x43, 0xbe, 0xb7, 0xe8, 1, 0, 0, 0}
	wantBytes(t, "Wrap of a", Wrap([]byte("a")), want)
	wantOpened(t, "the example", want, 1, []byte("a"))
	wantHeader(t, "the example", want, 10, api.OK)
}

// 12.2: a frame without flags around flate.Runs, byte by byte.
func TestWrap(t *testing.T) {
	nothing := []byte{0x1f, 0x8b, 8, 0, 0, 0, 0, 0, 0, 0, 3, 0, 0, 0, 0, 0, 0, 0, 0, 0}
	wantBytes(t, "Wrap of nothing", Wrap(nil), nothing)
	wantBytes(t, "Wrap of nothing", Wrap([]byte{}), nothing)
	for _, b := range append(contents(), some(api.MaxBytes+1, 1), rowOf(7, 3*api.MaxBytes)) {
		made := Wrap(b)
		wantBytes(t, "Wrap of "+short(b), made, around(flate.Runs(b), b).bytes())
		dressed, e := Dress(b, "", "", nil, false)
		wantBytes(t, "Dress of nothing but "+short(b), dressed, made)
		if e != api.OK {
			t.Errorf("Dress: error %d", e)
		}
	}
	for _, n := range []int{1, 255, 256, 257, 65535, 65536, 65537, 1 << 24} {
		made := Wrap(make([]byte, n))
		wantBytes(t, fmt.Sprint("the length ", n), made[len(made)-4:], four(uint32(n)))
	}
}

// 12.2: a header told by hand.
func TestDressByHand(t *testing.T) {
	got, e := Dress([]byte("a"), "nm", "o", []byte{7, 0, 9}, false)
	want := []byte{0x1f, 0x8b, 8, 28, 0, 0, 0, 0, 0, 0, 3, 0, 7, 0, 9, 'n', 'm', 0, 'o', 0, 0x4b, 4, 0, 0x43, 0xbe, 0xb7, 0xe8, 1, 0, 0, 0}
	wantBytes(t, "Dress", got, want)
	if e != api.OK {
		t.Errorf("Dress: error %d", e)
	}
	got, e = Dress([]byte("a"), "nm", "o", []byte{7, 0, 9}, true)
	want[3] = 30
	check := crcOf(want[:20])
	wantBytes(t, "Dress, with a checksum", got, join(want[:20], []byte{byte(check), byte(check >> 8)}, want[20:]))
	if e != api.OK {
		t.Errorf("Dress: error %d", e)
	}
}

// 12.2: each choice of parts that are empty or not and of sum, byte by byte.
func TestDress(t *testing.T) {
	for _, name := range []string{"", "n", "a name", "\xff\xfe", "0", "ü☺"} {
		for _, note := range []string{"", "o", "a longer note", "\x01\x80"} {
			for _, extra := range [][]byte{nil, {}, {0}, {0, 0}, []byte("extra"), some(300, 3)} {
				for _, sum := range []bool{false, true} {
					for _, b := range [][]byte{nil, []byte("a"), rowOf(5, 50)} {
						wantDressed(t, b, name, note, extra, sum)
					}
				}
			}
		}
	}
	for _, b := range contents() {
		wantDressed(t, b, "name", "note", []byte("extra"), true)
		wantDressed(t, b, "", "", nil, true)
	}
}

// 12.2: parts as long as they may be, and longer.
func TestDressOfLongParts(t *testing.T) {
	long := strings.Repeat("long ", 40000)
	for _, n := range []int{255, 256, 257, 65534, 65535} {
		for _, sum := range []bool{false, true} {
			wantDressed(t, []byte("a"), "", "", some(n, 1), sum)
			wantDressed(t, []byte("a"), long, long[1:], some(n, 2), sum)
		}
	}
	wantDressed(t, []byte("a"), long, "", nil, true)
	wantDressed(t, []byte("a"), "", long, nil, false)
}

// 12.2: a byte 0 in a name or a note, and more than 65535 bytes of extra, whatever else is there.
func TestDressRefuses(t *testing.T) {
	noText := []string{"\x00", "\x00a", "a\x00", "a\x00b", "\x00\x00", strings.Repeat("a", 70000) + "\x00"}
	noExtra := [][]byte{make([]byte, 65536), some(65537, 1), make([]byte, 2*65536), make([]byte, 1<<24+1)}
	refused := func(name, note string, extra []byte) {
		for _, sum := range []bool{false, true} {
			got, e := Dress([]byte("hi"), name, note, extra, sum)
			if got != nil || e != api.ErrArg {
				t.Errorf("Dress of %d, %d, %d, %t: %s, error %d", len(name), len(note), len(extra), sum, short(got), e)
			}
		}
	}
	for _, text := range noText {
		for _, other := range append([]string{"", "x"}, noText...) {
			for _, extra := range append([][]byte{nil, {1}, make([]byte, 65535)}, noExtra...) {
				refused(text, other, extra)
				refused(other, text, extra)
			}
		}
	}
	for _, extra := range noExtra {
		refused("", "", extra)
		refused("x", "", extra)
		refused("", "x", extra)
	}
}

// 12.2: what others read out of a frame.
func TestReadByOthers(t *testing.T) {
	for _, name := range []string{"", "name"} {
		for _, note := range []string{"", "a note"} {
			for _, extra := range [][]byte{nil, {1}, some(65535, 2)} {
				for _, sum := range []bool{false, true} {
					made := wantDressed(t, []byte("others"), name, note, extra, sum)
					r, err := gzip.NewReader(bytes.NewReader(made))
					if err != nil {
						t.Fatal(err)
					}
					b, err := io.ReadAll(r)
					if err != nil || r.Name != name || r.Comment != note {
						t.Errorf("others read %q, %q, %v", r.Name, r.Comment, err)
					}
					wantBytes(t, "what others read", b, []byte("others"))
					wantBytes(t, "the extra that others read", r.Extra, extra)
				}
			}
		}
	}
}

// 12.3: Open of Wrap and of Dress is what they were made of, with a most of just so many bytes; and
// with one fewer it is too long.
func TestOpenOfWhatWasMade(t *testing.T) {
	opened := func(made, b []byte) {
		wantOpened(t, "just so many", made, len(b), b)
		wantOpened(t, "at most MaxBytes", made, api.MaxBytes, b)
		if len(b) > 0 {
			wantRefused(t, "one fewer", made, len(b)-1, api.ErrLong)
			wantRefused(t, "none", made, 0, api.ErrLong)
		}
	}
	for _, b := range contents() {
		opened(Wrap(b), b)
		made, _ := Dress(b, "a name", "a note", []byte("extra"), true)
		opened(made, b)
		made, _ = Dress(b, "", "", nil, true)
		opened(made, b)
	}
	for parts := range 16 {
		name := strings.Repeat("name", parts&1)
		note := strings.Repeat("note", parts>>1&1)
		extra := some(77*(parts>>2&1), 3)
		for _, b := range [][]byte{nil, []byte("a"), some(500, 1)} {
			made, _ := Dress(b, name, note, extra, parts>>3 == 1)
			opened(made, b)
		}
	}
	for n := range 300 {
		opened(Wrap(some(n, uint64(n))), some(n, uint64(n)))
		opened(Wrap(rowOf(byte(n), n)), rowOf(byte(n), n))
	}
}
