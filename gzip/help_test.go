package gzip

import (
	"bytes"
	"encoding/binary"
	"fmt"
	"hash/crc32"
	"testing"

	"sutler/api"
	"sutler/flate"
)

// short is bytes as a text, of which only the first ones are told.
func short(b []byte) string {
	if len(b) > 60 {
		return fmt.Sprintf("%x.. (%d bytes)", b[:60], len(b))
	}
	return fmt.Sprintf("%x", b)
}

func wantBytes(t *testing.T, what string, got, want []byte) {
	t.Helper()
	if !bytes.Equal(got, want) {
		t.Errorf("%s: %s, want %s", what, short(got), short(want))
	}
}

// wantOpened asks for what a frame is opened to.
func wantOpened(t *testing.T, what string, b []byte, most int, want []byte) {
	t.Helper()
	got, e := Open(b, most)
	if e != api.OK {
		t.Errorf("Open, %s, of %s: error %d", what, short(b), e)
	}
	wantBytes(t, "Open, "+what, got, want)
}

// wantRefused asks for an error of Open, and for nothing beside it.
func wantRefused(t *testing.T, what string, b []byte, most int, want api.Errno) {
	t.Helper()
	got, e := Open(b, most)
	if e != want {
		t.Errorf("Open, %s, of %s: error %d, want %d", what, short(b), e, want)
	}
	if got != nil {
		t.Errorf("Open, %s: %s beside an error", what, short(got))
	}
}

// wantHeader asks in how many bytes a header ends, and for an error.
func wantHeader(t *testing.T, what string, b []byte, want int, wantError api.Errno) {
	t.Helper()
	got, e := Header(b)
	if got != want || e != wantError {
		t.Errorf("Header, %s, of %s: %d, error %d, want %d, error %d", what, short(b), got, e, want, wantError)
	}
}

// wantBadHeader asks for an error of both, whatever the most is.
func wantBadHeader(t *testing.T, what string, b []byte, want api.Errno) {
	t.Helper()
	wantHeader(t, what, b, 0, want)
	for _, most := range []int{0, 100, api.MaxBytes} {
		wantRefused(t, what, b, most, want)
	}
}

// some is n bytes without a pattern, the same in each run.
func some(n int, seed uint64) []byte {
	b := make([]byte, n)
	for i := range b {
		seed = seed*6364136223846793005 + 1442695040888963407
		b[i] = byte(seed >> 56)
	}
	return b
}

// rowOf is n like bytes.
func rowOf(b byte, n int) []byte { return bytes.Repeat([]byte{b}, n) }

// join is lists one behind the other.
func join(all ...[]byte) []byte { return bytes.Join(all, nil) }

// two and four are numbers in so many bytes, lowest byte first.
func two(n int) []byte { return binary.LittleEndian.AppendUint16(nil, uint16(n)) }

func four(n uint32) []byte { return binary.LittleEndian.AppendUint32(nil, n) }

// frameOf is a frame's parts, each told by its bytes, as they stand one behind the other. Those
// that no flag tells are nil.
type frameOf struct {
	first       []byte // the first three bytes
	flags       byte
	six         []byte
	count       []byte
	extra       []byte
	name, note  []byte // with the 0
	check       []byte
	stream      []byte
	sum, length []byte
	behind      []byte
}

// header is a frame's header, up to its checksum.
func (f frameOf) header() []byte {
	return join(f.first, []byte{f.flags}, f.six, f.count, f.extra, f.name, f.note)
}

// tail is what stands behind the header.
func (f frameOf) tail() []byte { return join(f.stream, f.sum, f.length, f.behind) }

// bytes is the whole frame.
func (f frameOf) bytes() []byte { return join(f.header(), f.check, f.tail()) }

// ends is in how many bytes the header ends.
func (f frameOf) ends() int { return len(f.header()) + len(f.check) }

// checkedAgain is the frame with its header's checksum made anew, if it has one.
func (f frameOf) checkedAgain() frameOf {
	if f.flags&2 != 0 {
		f.check = two(int(crc32.ChecksumIEEE(f.header())))
	}
	return f
}

// around is a frame without flags around a stream of these bytes.
func around(stream, b []byte) frameOf {
	return frameOf{
		first: []byte{0x1f, 0x8b, 8}, six: make([]byte, 6), stream: stream,
		sum: four(crc32.ChecksumIEEE(b)), length: four(uint32(uint64(len(b)) % (1 << 32))),
	}
}

// dressedBy is a frame with these flags, of which each that tells a part has one, though it may
// have no byte of its own.
func (f frameOf) dressedBy(flags byte, name, note string, extra []byte) frameOf {
	f.flags = flags
	if flags&4 != 0 {
		f.count, f.extra = two(len(extra)), extra
	}
	if flags&8 != 0 {
		f.name = append([]byte(name), 0)
	}
	if flags&16 != 0 {
		f.note = append([]byte(note), 0)
	}
	return f.checkedAgain()
}

// hello is a frame without flags around "hello", full is one with all parts.
func hello() frameOf {
	b := []byte("hello")
	return around(flate.Runs(b), b)
}

func full() frameOf {
	return hello().dressedBy(2|4|8|16, "a name", "a note", []byte{0, 1, 0, 3})
}

// mayBe is all flags that a frame may have.
func mayBe() []byte {
	var all []byte
	for flags := range 32 {
		all = append(all, byte(flags))
	}
	return all
}

// withFlags is frames around these bytes with each choice of flags, with parts of no byte and of
// some.
func withFlags(b []byte) []frameOf {
	var all []frameOf
	for _, flags := range mayBe() {
		f := around(flate.Runs(b), b)
		all = append(all,
			f.dressedBy(flags, "", "", nil),
			f.dressedBy(flags, "n", "o", []byte{0}),
			f.dressedBy(flags, "some name", "\xff\x01 a note", []byte{0, 0, 31, 139, 8, 255, 0}))
	}
	return all
}

// turned is b with that byte xor x.
func turned(b []byte, at int, x byte) []byte {
	c := bytes.Clone(b)
	c[at] ^= x
	return c
}
