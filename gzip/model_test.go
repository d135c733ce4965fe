package gzip

import (
	"bytes"
	"encoding/binary"
	"fmt"
	"slices"
	"testing"

	"sutler/api"
	"sutler/flate"
)

// A frame is told here by the chapter's words, cut piece by piece off its front.

// reading is a frame's bytes that are left, and those that were cut off.
type reading struct {
	left, done []byte
}

// must panics with an error, if something does not hold.
func must(holds bool, e api.Errno) {
	if !holds {
		panic(e)
	}
}

// cut cuts off n bytes.
func (m *reading) cut(n int) []byte {
	must(len(m.left) >= n, api.ErrShort)
	piece := m.left[:n]
	m.left, m.done = m.left[n:], append(m.done, piece...)
	return piece
}

// text cuts off bytes up to and with a 0.
func (m *reading) text() {
	for m.cut(1)[0] != 0 {
	}
}

// header cuts off a header.
func (m *reading) header() {
	for _, first := range []byte{0x1f, 0x8b, 8} {
		must(m.cut(1)[0] == first, api.ErrGzip)
	}
	flags := m.cut(1)[0]
	must(flags < 32, api.ErrGzip)
	m.cut(6)
	if flags/4%2 == 1 {
		m.cut(int(binary.LittleEndian.Uint16(m.cut(2))))
	}
	if flags/8%2 == 1 {
		m.text()
	}
	if flags/16%2 == 1 {
		m.text()
	}
	if flags/2%2 == 1 {
		sum := crcOf(m.done) % 65536
		must(uint32(binary.LittleEndian.Uint16(m.cut(2))) == sum, api.ErrSum)
	}
}

// whole cuts off a frame, and tells what its stream is.
func (m *reading) whole(most int) []byte {
	m.header()
	out, n, e := flate.Inflate(m.left, most)
	must(e == api.OK, e)
	m.cut(n)
	must(binary.LittleEndian.Uint32(m.cut(4)) == crcOf(out), api.ErrSum)
	must(binary.LittleEndian.Uint32(m.cut(4)) == uint32(len(out)), api.ErrSum)
	must(len(m.left) == 0, api.ErrGzip)
	return out
}

// answer is what was done, or the error with which it ended.
func answer(do func()) (e api.Errno) {
	defer func() {
		if found := recover(); found != nil {
			e = found.(api.Errno)
		}
	}()
	do()
	return api.OK
}

// wantAsTold holds Open and Header against the chapter's words.
func wantAsTold(t *testing.T, b []byte, most int) api.Errno {
	t.Helper()
	m, out := &reading{left: b}, []byte(nil)
	e := answer(func() { out = m.whole(most) })
	if e == api.OK {
		wantOpened(t, "by the words", b, most, out)
	} else {
		wantRefused(t, "by the words", b, most, e)
	}
	m = &reading{left: b}
	if of := answer(m.header); of == api.OK {
		wantHeader(t, "by the words", b, len(m.done), of)
	} else {
		wantHeader(t, "by the words", b, 0, of)
	}
	return e
}

// 12.1: all frames of up to two bytes, and all that begin rightly and have up to two more.
func TestShortBytesAsTold(t *testing.T) {
	for _, ahead := range [][]byte{nil, {0x1f}, {0x1f, 0x8b}, {0x1f, 0x8b, 8}} {
		wantAsTold(t, ahead, 9)
		for x := range 256 {
			wantAsTold(t, append(ahead, byte(x)), 9)
			for y := range 256 {
				wantAsTold(t, append(ahead, byte(x), byte(y)), 9)
			}
		}
	}
}

// 12.1: frames of which one byte is another one, or is not there, or stands there twice.
func TestChangedFramesAsTold(t *testing.T) {
	for _, f := range append(withFlags([]byte("hello")), withFlags(rowOf(0, 20))...) {
		b := f.bytes()
		for at := range b {
			for _, x := range []byte{1, 2, 4, 8, 16, 32, 64, 128, 255, b[at], 0x1f} {
				wantAsTold(t, turned(b, at, x), 30)
			}
			wantAsTold(t, slices.Delete(bytes.Clone(b), at, at+1), 30)
			wantAsTold(t, slices.Insert(bytes.Clone(b), at, b[at]), 30)
			wantAsTold(t, slices.Insert(bytes.Clone(b), at, 0), 30)
		}
	}
}

// chance is numbers without a pattern, the same in each run.
type chance uint64

// below is a number from 0 to n - 1.
func (c *chance) below(n int) int {
	*c = *c*6364136223846793005 + 1442695040888963407
	return int(uint64(*c) >> 33 % uint64(n))
}

// bytes is up to n bytes.
func (c *chance) bytes(n int) []byte {
	b := make([]byte, c.below(n+1))
	for i := range b {
		b[i] = byte(c.below(256))
	}
	return b
}

// text is up to n bytes without a 0.
func (c *chance) text(n int) string {
	return string(bytes.ReplaceAll(c.bytes(n), []byte{0}, []byte("z")))
}

// frame is a frame with any parts, and what it is made of.
func (c *chance) frame() (frameOf, []byte) {
	b := c.bytes(40)
	if c.below(2) == 0 {
		b = rowOf(byte(c.below(256)), c.below(600))
	}
	deflate := []func([]byte) []byte{flate.Store, flate.Fixed, flate.Runs}[c.below(3)]
	f := around(deflate(b), b)
	f.six = join(c.bytes(6), make([]byte, 6))[:6]
	return f.dressedBy(byte(c.below(32)), c.text(9), c.text(9), c.bytes(9)), b
}

// 12.1, 12.5: frames by chance, and what becomes of them when they are changed here and there.
func TestFramesByChanceAsTold(t *testing.T) {
	c, answers := chance(1), map[api.Errno]int{}
	for range 5000 {
		f, out := c.frame()
		b := f.bytes()
		most := max(0, len(out)+c.below(5)-1)
		answers[wantAsTold(t, b, most)]++
		for range c.below(3) {
			b[c.below(len(b))] ^= byte(1 << c.below(8))
		}
		answers[wantAsTold(t, b, most)]++
		wantAsTold(t, b[:c.below(len(b)+1)], most)
		wantAsTold(t, join(b, c.bytes(3)), most)
	}
	for _, e := range []api.Errno{api.OK, api.ErrShort, api.ErrGzip, api.ErrSum, api.ErrLong, api.ErrFlate} {
		if answers[e] < 20 {
			t.Errorf("error %d came up %d times", e, answers[e])
		}
	}
}

// 12.1: bytes by chance behind the first three.
func TestBytesByChanceAsTold(t *testing.T) {
	c := chance(2)
	for range 20000 {
		flags := []byte{byte(c.below(32))}
		wantAsTold(t, join([]byte{0x1f, 0x8b, 8}, flags, c.bytes(60)), c.below(100))
		wantAsTold(t, c.bytes(20), c.below(100))
	}
}

// Rule 4: what is handed in stays as it was.
func TestWhatIsHandedInStays(t *testing.T) {
	for _, f := range withFlags([]byte("hello")) {
		room := append(f.bytes(), some(64, 1)...)
		kept := bytes.Clone(room)
		b := room[:len(room)-64]
		for _, most := range []int{-1, 0, 4, 5, api.MaxBytes} {
			Open(b, most)
		}
		Header(b)
		Wrap(b)
		Dress(b, "n", "o", b[:9], true)
		wantBytes(t, "what was handed in", room, kept)
	}
	extra := append([]byte("extra"), 1, 2, 3)
	Dress(extra[:2], "n", "o", extra[:5], true)
	wantBytes(t, "what was handed in", extra, append([]byte("extra"), 1, 2, 3))
}

// Rule 4: what is handed out is the caller's own, and no two answers share anything.
func TestWhatIsHandedOutIsTheCallers(t *testing.T) {
	b, extra := some(100, 1), some(20, 2)
	makers := map[string]func() []byte{
		"Wrap":  func() []byte { return Wrap(b) },
		"Dress": func() []byte { made, _ := Dress(b, "n", "o", extra, true); return made },
		"Open":  func() []byte { out, _ := Open(Wrap(b), 100); return out },
		"Store": func() []byte { out, _ := Open(around(flate.Store(b), b).bytes(), 100); return out },
	}
	for name, do := range makers {
		first := do()
		kept := bytes.Clone(first)
		for range 2 {
			other := do()
			wantBytes(t, name+", once more", other, kept)
			clear(other[:cap(other)])
			wantBytes(t, name+", behind a change of another answer", first, kept)
		}
	}
	wantBytes(t, "what was handed in", b, some(100, 1))
	wantBytes(t, "what was handed in", extra, some(20, 2))
	frame := around(flate.Store(b), b).bytes()
	out, _ := Open(frame, 100)
	clear(frame)
	wantBytes(t, "behind a change of the frame", out, b)
	made, _ := Dress(b, "n", "o", extra, false)
	kept := bytes.Clone(made)
	clear(b)
	clear(extra)
	wantBytes(t, "behind a change of what was handed in", made, kept)
}

// P2: a call that is refused changes nothing for later ones.
func TestRefusedChangesNothing(t *testing.T) {
	for i, k := range faults() {
		Open(faulty(k), 5)
		Header(faulty(k))
		Open(nil, -i)
		Dress(nil, "\x00", "", nil, true)
		wantOpened(t, fmt.Sprint("behind ", k.what), full().bytes(), 5, []byte("hello"))
		wantHeader(t, fmt.Sprint("behind ", k.what), full().bytes(), full().ends(), api.OK)
		wantDressed(t, []byte("hi"), "n", "o", []byte{1}, true)
	}
}

// What many ask at once is answered to each as if it were alone.
func TestManyAtOnce(t *testing.T) {
	done := make(chan bool)
	for i := range 8 {
		go func() {
			defer func() { done <- true }()
			for n := range 50 {
				b := some(n*7, uint64(i))
				wantOpened(t, "many at once", Wrap(b), len(b), b)
				wantDressed(t, b, "n", "o", []byte{byte(i)}, true)
			}
		}()
	}
	for range 8 {
		<-done
	}
}
