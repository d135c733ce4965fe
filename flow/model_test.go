package flow

import (
	"bytes"
	"fmt"
	"math/rand"
	"slices"
	"testing"

	"sutler/api"
)

// reading is a reader as a list of bits, of which some are gone.
type reading struct {
	all []int
	at  int
}

// take is the next n bits as a number, and why there are none.
func (m *reading) take(n int) (int, api.Errno) {
	switch {
	case n < 0 || n > 24:
		return 0, api.ErrArg
	case n > len(m.all)-m.at:
		return 0, api.ErrShort
	}
	m.at += n
	return numberOf(m.all[m.at-n : m.at]), api.OK
}

// peek is the next n bits, with noughts behind the end.
func (m *reading) peek(n int) int {
	got, _ := (&reading{all: append(slices.Clone(m.all), make([]int, 24)...), at: m.at}).take(n)
	return got
}

// bytes is the next n bytes, and why there are none.
func (m *reading) bytes(n int) ([]byte, api.Errno) {
	switch {
	case n < 0 || m.at%8 != 0:
		return nil, api.ErrArg
	case n > (len(m.all)-m.at)/8:
		return nil, api.ErrShort
	}
	m.at += 8 * n
	return bytesOf(m.all[m.at-8*n : m.at]), api.OK
}

// align goes on until it stands at a byte's beginning.
func (m *reading) align() {
	for m.at%8 != 0 {
		m.at++
	}
}

// width is a number of bits, mostly one that may be.
func width(rng *rand.Rand) int {
	switch rng.Intn(8) {
	case 0:
		return rng.Intn(60) - 20
	case 1:
		return 24
	}
	return rng.Intn(12)
}

func TestRandomCallsOfReaders(t *testing.T) {
	rng := rand.New(rand.NewSource(1))
	for range 600 {
		b := make([]byte, rng.Intn(60))
		rng.Read(b)
		r, m := New(b), &reading{all: bitsOf(b)}
		for range 60 {
			readOnce(t, rng, r, m)
			wantInt(t, "At", r.At(), m.at)
			wantInt(t, "Left", r.Left(), len(m.all)-m.at)
		}
		if t.Failed() {
			return
		}
	}
}

// readOnce does one call of a reader and of its model, which must answer the same.
func readOnce(t *testing.T, rng *rand.Rand, r *Reader, m *reading) {
	t.Helper()
	switch n := width(rng); rng.Intn(6) {
	case 0:
		got, e := r.Take(n)
		want, wants := m.take(n)
		wantError(t, fmt.Sprintf("Take(%d)", n), e, wants)
		wantInt(t, fmt.Sprintf("Take(%d)", n), got, want)
	case 1:
		_, want := m.take(n)
		wantError(t, fmt.Sprintf("Skip(%d)", n), r.Skip(n), want)
	case 2:
		wantInt(t, fmt.Sprintf("Peek(%d)", n), r.Peek(n), m.peek(n))
	case 3:
		m.align()
		wantError(t, "Align", r.Align(), api.OK)
	default:
		n = rng.Intn(6) - 1
		got, e := r.Bytes(n)
		want, wants := m.bytes(n)
		wantError(t, fmt.Sprintf("Bytes(%d)", n), e, wants)
		wantBytes(t, fmt.Sprintf("Bytes(%d)", n), got, want)
	}
}

// writing is a writer as a list of bits.
type writing struct {
	all []int
}

// put is n behind, the bits by the order that is told.
func (m *writing) put(n, bits int, order func([]int) []int) api.Errno {
	if bits < 0 || bits > 24 || n < 0 || n >= 1<<bits {
		return api.ErrArg
	}
	m.all = append(m.all, order(bitsUpTo(n, bits))...)
	return api.OK
}

// bytes is b behind.
func (m *writing) bytes(b []byte) api.Errno {
	if len(m.all)%8 != 0 {
		return api.ErrArg
	}
	m.all = append(m.all, bitsOf(b)...)
	return api.OK
}

// align is noughts up to a whole byte.
func (m *writing) align() {
	for len(m.all)%8 != 0 {
		m.all = append(m.all, 0)
	}
}

func TestRandomCallsOfWriters(t *testing.T) {
	rng := rand.New(rand.NewSource(2))
	for range 600 {
		w, m := Write(), &writing{}
		for range 60 {
			writeOnce(t, rng, w, m)
			wantWritten(t, "written", w, m.all)
		}
		if t.Failed() {
			return
		}
	}
}

// writeOnce does one call of a writer and of its model, which must answer the same.
func writeOnce(t *testing.T, rng *rand.Rand, w *Writer, m *writing) {
	t.Helper()
	bits := width(rng)
	n := rng.Intn(1 << max(0, min(bits, 24)))
	if rng.Intn(9) == 0 {
		n += rng.Intn(1<<25) - 1<<24
	}
	switch rng.Intn(6) {
	case 0, 1:
		want := m.put(n, bits, slices.Clone)
		wantError(t, fmt.Sprintf("Put(%d, %d)", n, bits), w.Put(n, bits), want)
	case 2, 3:
		want := m.put(n, bits, reversed)
		wantError(t, fmt.Sprintf("Code(%d, %d)", n, bits), w.Code(n, bits), want)
	case 4:
		m.align()
		wantError(t, "Align", w.Align(), api.OK)
	default:
		b := make([]byte, rng.Intn(5))
		rng.Read(b)
		wantError(t, fmt.Sprintf("Bytes(%v)", b), w.Bytes(b), m.bytes(b))
	}
}

// Each answer is one that the chapter names, whatever the calls are made of.
func FuzzCalls(f *testing.F) {
	f.Add([]byte{5, 1}, []byte{1, 2, 6})
	f.Add([]byte{}, []byte{24, 25, 255, 128})
	f.Fuzz(func(t *testing.T, b, calls []byte) {
		r, w := New(b), Write()
		for i, c := range calls {
			n := int(int8(c))
			_, took := r.Take(n)
			_, read := r.Bytes(n / 4)
			for _, e := range []api.Errno{took, read, w.Put(i, n), w.Code(i, n), w.Bytes(b)} {
				if !isKnown(e) {
					t.Errorf("call %d: error %d", i, e)
				}
			}
			wantInt(t, "bits in all", r.At()+r.Left(), 8*len(b))
			wantInt(t, "bytes in all", len(w.All()), (w.Len()+7)/8)
		}
		again := New(w.All())
		back, e := again.Bytes(len(w.All()))
		wantError(t, "all bytes", e, api.OK)
		if !bytes.Equal(back, w.All()) {
			t.Errorf("all bytes: %v, want %v", back, w.All())
		}
	})
}
