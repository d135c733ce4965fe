package inode

import (
	"math/rand"
	"slices"
	"testing"

	"sutler/api"
	"sutler/store"
)

// A transaction may write any bytes into the table, and over what it has as blocks of numbers. What
// files are then is not told by the document, but for P1: all calls end, and none panics.

// callAll does all calls on an inode, and sees to it that nothing is told beside an error.
func callAll(t *testing.T, x *store.Tx, n, at int) {
	t.Helper()
	i, e := Get(x, n)
	if e != api.OK && i != (api.Inode{}) {
		t.Errorf("Get: %v, error %d", i, e)
	}
	b, e := Read(x, n, at, 5000)
	if e != api.OK && len(b) != 0 {
		t.Errorf("Read: %d bytes, error %d", len(b), e)
	}
	l, e := Blocks(x, n)
	if e != api.OK && len(l) != 0 {
		t.Errorf("Blocks: %v, error %d", l, e)
	}
	Set(x, n, 4095, 1)
	Write(x, n, at, mixed(700, 0))
	Cut(x, n, at)
	if m, e := New(x, api.KFile, 420); e != api.OK && m != 0 {
		t.Errorf("New: %d, error %d", m, e)
	}
	Drop(x, n)
}

// noise is a sector of numbers, most of them of sectors that there are.
func noise(r *rand.Rand) []byte {
	var b []byte
	for len(b) < api.Sector {
		n := []int{0, 0, r.Intn(60), r.Intn(60), 40 + r.Intn(30), 1 << r.Intn(16)}[r.Intn(6)]
		b = append(b, little(n)...)
	}
	return b
}

func TestAnyBytesAsRecordsAndNumbers(t *testing.T) {
	r := rand.New(rand.NewSource(6))
	for range 3000 {
		x := started(t, small())
		for range r.Intn(9) {
			x.NewInode()
		}
		for range r.Intn(43) {
			x.Alloc()
		}
		for at := small().table; at < small().sectors; at++ {
			if r.Intn(4) > 0 {
				x.Write(at, noise(r))
			}
		}
		callAll(t, x, r.Intn(9), r.Intn(api.MaxFile))
	}
}

// numbered is a file of a record that was laid by hand, with that number at the way's first step.
func numbered(t *testing.T, slot, number int) (*store.Tx, int) {
	t.Helper()
	x := started(t, small())
	n := made(t, x, api.KFile, 420)
	l := make([]int, 10)
	l[slot] = number
	b := slices.Concat([]byte{1, 0}, little(420, 1, 0, 4), little(l...))
	wantErr(t, "the transaction's Write", x.Write(14, append(b, make([]byte, api.Sector-len(b))...)), api.OK)
	return x, n
}

func TestNumbersOfSectorsThatThereAreNot(t *testing.T) {
	for slot := range 10 {
		for _, number := range []int{1, 11, 60, 61, 4096, 65535} {
			x, n := numbered(t, slot, number)
			if number >= 60 {
				_, e := Read(x, n, 0, api.MaxFile)
				wantErr(t, "Read", e, api.ErrArg)
			}
			if slot >= 8 && number >= 60 {
				_, e := Blocks(x, n)
				wantErr(t, "Blocks", e, api.ErrArg)
			}
			for _, do := range []func() api.Errno{
				func() api.Errno { return Write(x, n, 0, mixed(200*256, 0)) },
				func() api.Errno { return Cut(x, n, 0) },
				func() api.Errno { return Drop(x, n) },
			} {
				x, n = numbered(t, slot, number)
				if do() == api.OK && number >= 60 {
					t.Errorf("a number %d: it is of use", number)
				}
			}
		}
	}
}
