package store

import (
	"math"
	"slices"
	"testing"

	"sutler/api"
	"sutler/disk"
)

// seen is all sectors as a transaction sees them.
func seen(t *testing.T, x *Tx, sectors int) []byte {
	t.Helper()
	var all []byte
	for at := range sectors {
		b, e := x.Read(at)
		wantErr(t, "Read", e, api.OK)
		all = append(all, b...)
	}
	return all
}

// wantIdle does something and sees to it that it changes nothing for the transaction, nor on its
// disk.
func wantIdle(t *testing.T, what string, x *Tx, d *disk.Disk, do func()) {
	t.Helper()
	was, changed := seen(t, x, d.Sectors()), x.Changed()
	wantUnmoved(t, what, d, do)
	wantBytes(t, what+": what is seen", seen(t, x, d.Sectors()), was)
	wantInt(t, what+": Changed", x.Changed(), changed)
}

// 5.3: Read and Write

func TestReadTellsTheDisksBytes(t *testing.T) {
	for _, p := range places() {
		s, d := fresh(t, p)
		wantBytes(t, "Read", seen(t, begun(t, s), p.sectors), d.Image())
	}
}

func TestWriteIsForTheTransaction(t *testing.T) {
	s, d := fresh(t, small())
	x := begun(t, s)
	wantUnmoved(t, "Write", d, func() {
		for i, at := range []int{5, 6, 7, 8, 12, 19} {
			wantErr(t, "Write", x.Write(at, mixed(byte(at))), api.OK)
			wantInt(t, "Changed", x.Changed(), i+1)
		}
	})
	for at := range 20 {
		want, _ := d.Read(at)
		if slices.Contains([]int{5, 6, 7, 8, 12, 19}, at) {
			want = mixed(byte(at))
		}
		wantSeen(t, x, at, want)
	}
}

func TestTheEdgesOfWhatMayBeWritten(t *testing.T) {
	for _, p := range places() {
		s, d := fresh(t, p)
		x := begun(t, s)
		wantIdle(t, "Write", x, d, func() {
			for _, at := range []int{math.MinInt, -p.sectors, -1, 0, 1, 2, p.blockMap - 1, p.sectors, p.sectors + 1, math.MaxInt} {
				wantErr(t, "Write", x.Write(at, mixed(1)), api.ErrArg)
			}
		})
		for _, at := range []int{p.blockMap, p.sectors - 1} {
			wantErr(t, "Write", x.Write(at, mixed(1)), api.OK)
			wantSeen(t, x, at, mixed(1))
		}
	}
}

func TestBytesThatAreNotASector(t *testing.T) {
	s, d := fresh(t, small())
	x := begun(t, s)
	for _, n := range []int{0, 1, 255, 257, 512} {
		wantIdle(t, "Write", x, d, func() { wantErr(t, "Write", x.Write(9, make([]byte, n)), api.ErrArg) })
	}
	wantIdle(t, "Write", x, d, func() { wantErr(t, "Write", x.Write(9, nil), api.ErrArg) })
	darken(d)
	wantErr(t, "Write without power", x.Write(9, make([]byte, 255)), api.ErrArg)
}

func TestTheEdgesOfWhatMayBeRead(t *testing.T) {
	s, d := fresh(t, small())
	x := begun(t, s)
	for _, power := range []bool{true, false} {
		if !power {
			darken(d)
		}
		for _, at := range []int{math.MinInt, -1, 20, 21, math.MaxInt} {
			b, e := x.Read(at)
			if b != nil || e != api.ErrArg {
				t.Errorf("Read(%d): %v, error %d", at, b, e)
			}
		}
	}
}

func TestASectorWrittenTwiceAndAsItWas(t *testing.T) {
	s, d := fresh(t, small())
	x := begun(t, s)
	was, _ := d.Read(9)
	wantErr(t, "Write", x.Write(9, was), api.OK)
	wantInt(t, "Changed, as it was", x.Changed(), 1)
	wantErr(t, "Write", x.Write(9, mixed(1)), api.OK)
	wantErr(t, "Write", x.Write(9, mixed(2)), api.OK)
	wantInt(t, "Changed, again", x.Changed(), 1)
	wantSeen(t, x, 9, mixed(2))
	wantErr(t, "Write", x.Write(9, was), api.OK)
	wantInt(t, "Changed, back", x.Changed(), 1)
	wantErr(t, "Write", x.Write(10, mixed(3)), api.OK)
	before := d.Ops()
	wantErr(t, "Commit", x.Commit(), api.OK)
	wantInt(t, "operations of the commit", d.Ops()-before, 10)
	wantOn(t, d, 9, was)
	wantOn(t, d, 10, mixed(3))
}

// 5.3: Alloc and Free

func TestAllocTakesTheFirstFreeOne(t *testing.T) {
	for _, p := range places() {
		s, d := fresh(t, p)
		x := begun(t, s)
		wantUnmoved(t, "Alloc", d, func() {
			for at := p.dataAt; at < p.sectors; at++ {
				got, e := x.Alloc()
				wantGot(t, "Alloc", got, e, at, api.OK)
			}
		})
		wantIdle(t, "Alloc", x, d, func() {
			got, e := x.Alloc()
			wantGot(t, "Alloc, of none", got, e, 0, api.ErrFull)
		})
		wantErr(t, "Free", x.Free(p.sectors-1), api.OK)
		got, e := x.Alloc()
		wantGot(t, "Alloc, of the last one", got, e, p.sectors-1, api.OK)
		got, e = x.Alloc()
		wantGot(t, "Alloc, of none", got, e, 0, api.ErrFull)
	}
}

func TestAllocChangesItsBitAndItsSector(t *testing.T) {
	s, d := fresh(t, small())
	x := begun(t, s)
	want := d.Image()
	for i := range 12 {
		at, e := x.Alloc()
		wantGot(t, "Alloc", at, e, 8+i, api.OK)
		clear(want[at*api.Sector:][:api.Sector])
		want[5*api.Sector+at/8] |= 1 << (at % 8)
		wantBytes(t, "what is seen", seen(t, x, 20), want)
		wantInt(t, "Changed", x.Changed(), i+2)
	}
}

func TestTheBitsOfTheSecondSectorOfAMap(t *testing.T) {
	p := place{2060, 100, 1, 102, 104, 105, 106}
	s, d := fresh(t, p)
	lay(t, d, 102, full(255))
	x := begun(t, s)
	wantInt(t, "Blocks", s.Blocks(), 12)
	at, e := x.Alloc()
	wantGot(t, "Alloc", at, e, 2048, api.OK)
	at, e = x.Alloc()
	wantGot(t, "Alloc", at, e, 2049, api.OK)
	wantInt(t, "Changed", x.Changed(), 3)
	wantSeen(t, x, 102, full(255))
	wantSeen(t, x, 103, append([]byte{3}, make([]byte, 255)...))
	wantErr(t, "Free", x.Free(2047), api.OK)
	wantErr(t, "Free", x.Free(2048), api.OK)
	wantInt(t, "Changed", x.Changed(), 4)
	wantSeen(t, x, 102, append(slices.Clone(full(255)[:255]), 127))
	wantSeen(t, x, 103, append([]byte{2}, make([]byte, 255)...))
	for _, want := range []int{2047, 2048, 2050} {
		at, e := x.Alloc()
		wantGot(t, "Alloc", at, e, want, api.OK)
	}
	wantErr(t, "Commit", x.Commit(), api.OK)
	wantInt(t, "Blocks", s.Blocks(), 9)
	wantInt(t, "Blocks, mounted again", mounted(t, d).Blocks(), 9)
}

func TestFreeMakesFree(t *testing.T) {
	s, d := fresh(t, small())
	x := begun(t, s)
	for range 12 {
		x.Alloc()
	}
	wantErr(t, "Write", x.Write(10, mixed(1)), api.OK)
	before := x.Changed()
	for _, at := range []int{19, 8, 10} {
		wantErr(t, "Free", x.Free(at), api.OK)
		wantIdle(t, "Free", x, d, func() { wantErr(t, "Free, again", x.Free(at), api.ErrNone) })
	}
	wantInt(t, "Changed", x.Changed(), before)
	wantSeen(t, x, 5, []byte{5: 0, 0: 255, 1: 0xfa, 2: 0x07, 255: 0})
	for _, want := range []int{8, 10, 19} {
		at, e := x.Alloc()
		wantGot(t, "Alloc", at, e, want, api.OK)
		wantSeen(t, x, at, full(0))
	}
}

func TestFreeOfWhatIsNoTakenDataSector(t *testing.T) {
	for _, p := range places() {
		s, d := fresh(t, p)
		x := begun(t, s)
		wantIdle(t, "Free", x, d, func() {
			for _, at := range []int{math.MinInt, -1, 0, 1, p.blockMap, p.table, p.dataAt - 1, p.dataAt, p.sectors - 1, p.sectors, math.MaxInt} {
				wantErr(t, "Free", x.Free(at), api.ErrNone)
			}
		})
	}
}

func TestBitsOfOtherThingsAreOfNoUse(t *testing.T) {
	s, d := fresh(t, place{2050, 3, 4, 5, 7, 8, 9})
	x := begun(t, s)
	for at := 5; at <= 7; at++ {
		x.Write(at, full(255))
	}
	for _, at := range []int{8, 2050, 2051, 4095, 4096, 5000} {
		wantIdle(t, "Free", x, d, func() { wantErr(t, "Free", x.Free(at), api.ErrNone) })
	}
	for _, n := range []int{-1, 4, 5, 255, 256, 2047, 2048} {
		wantIdle(t, "FreeInode", x, d, func() { wantErr(t, "FreeInode", x.FreeInode(n), api.ErrNone) })
		wantBool(t, "Taken", x.Taken(n), false)
	}
	for _, c := range []byte{0, 255} {
		for at := 5; at <= 7; at++ {
			x.Write(at, full(c))
		}
		x.Free(2049)
		x.Free(9)
		at, e := x.Alloc()
		wantGot(t, "Alloc", at, e, 9, api.OK)
		x.FreeInode(0)
		n, e := x.NewInode()
		wantGot(t, "NewInode", n, e, 0, api.OK)
	}
}

// 5.3: inodes

func TestNewInodeTakesTheFirstFreeOne(t *testing.T) {
	for _, p := range places() {
		s, d := fresh(t, p)
		x := begun(t, s)
		wantUnmoved(t, "NewInode", d, func() {
			for want := range p.inodes {
				wantBool(t, "Taken", x.Taken(want), false)
				n, e := x.NewInode()
				wantGot(t, "NewInode", n, e, want, api.OK)
				wantBool(t, "Taken", x.Taken(want), true)
				wantInt(t, "Changed", x.Changed(), 1)
			}
		})
		wantIdle(t, "NewInode", x, d, func() {
			n, e := x.NewInode()
			wantGot(t, "NewInode, of none", n, e, 0, api.ErrFull)
		})
		wantErr(t, "FreeInode", x.FreeInode(p.inodes-1), api.OK)
		n, e := x.NewInode()
		wantGot(t, "NewInode, of the last one", n, e, p.inodes-1, api.OK)
	}
}

func TestNewInodeChangesItsBitAlone(t *testing.T) {
	s, d := fresh(t, places()[4])
	x := begun(t, s)
	want := d.Image()
	for i := range 20 {
		n, e := x.NewInode()
		wantGot(t, "NewInode", n, e, i, api.OK)
		want[103*api.Sector+n/8] |= 1 << (n % 8)
		wantBytes(t, "what is seen", seen(t, x, 400), want)
	}
	wantErr(t, "FreeInode", x.FreeInode(9), api.OK)
	want[103*api.Sector+1] &^= 2
	wantBytes(t, "what is seen", seen(t, x, 400), want)
}

func TestFreeInodeMakesFree(t *testing.T) {
	s, d := fresh(t, small())
	x := begun(t, s)
	for range 4 {
		x.NewInode()
	}
	for _, n := range []int{3, 0, 2} {
		wantErr(t, "FreeInode", x.FreeInode(n), api.OK)
		wantBool(t, "Taken", x.Taken(n), false)
		wantIdle(t, "FreeInode", x, d, func() { wantErr(t, "FreeInode, again", x.FreeInode(n), api.ErrNone) })
	}
	wantBool(t, "Taken", x.Taken(1), true)
	for _, want := range []int{0, 2, 3} {
		n, e := x.NewInode()
		wantGot(t, "NewInode", n, e, want, api.OK)
	}
}

func TestInodesThatThereAreNot(t *testing.T) {
	for _, p := range places() {
		s, d := fresh(t, p)
		x := begun(t, s)
		wantIdle(t, "FreeInode", x, d, func() {
			for _, n := range []int{math.MinInt, -1, 0, p.inodes - 1, p.inodes, p.inodes + 1, 2047, 2048, math.MaxInt} {
				wantErr(t, "FreeInode", x.FreeInode(n), api.ErrNone)
				wantBool(t, "Taken", x.Taken(n), false)
			}
		})
	}
}

func TestTheTableOfATransaction(t *testing.T) {
	for _, p := range places() {
		s, d := fresh(t, p)
		x := begun(t, s)
		wantInt(t, "Table", x.Table(), p.table)
		darken(d)
		wantInt(t, "Table, without power", x.Table(), p.table)
	}
}

// 5.3: without power

func TestATransactionWithoutPower(t *testing.T) {
	s, d := fresh(t, small())
	x := begun(t, s)
	x.Alloc()
	x.NewInode()
	x.Write(9, mixed(1))
	changed := x.Changed()
	darken(d)
	for _, at := range []int{0, 5, 6, 8, 9, 19} {
		b, e := x.Read(at)
		if b != nil || e != api.ErrPower {
			t.Errorf("Read(%d): %v, error %d", at, b, e)
		}
	}
	at, e := x.Alloc()
	wantGot(t, "Alloc", at, e, 0, api.ErrPower)
	n, e := x.NewInode()
	wantGot(t, "NewInode", n, e, 0, api.ErrPower)
	for _, i := range []int{-1, 0, 8, 9, 20} {
		wantErr(t, "Free", x.Free(i), api.ErrPower)
		wantErr(t, "FreeInode", x.FreeInode(i), api.ErrPower)
		wantBool(t, "Taken", x.Taken(i), false)
	}
	wantInt(t, "Changed", x.Changed(), changed)
	wantErr(t, "Write", x.Write(10, mixed(2)), api.OK)
	wantInt(t, "Changed", x.Changed(), changed+1)
	d.Crash(nil)
	wantBool(t, "Taken, with power", x.Taken(0), true)
	wantSeen(t, x, 8, full(0))
	wantSeen(t, x, 9, mixed(1))
	wantSeen(t, x, 10, mixed(2))
	at, e = x.Alloc()
	wantGot(t, "Alloc, with power", at, e, 9, api.OK)
}

func TestFullWithoutPower(t *testing.T) {
	s, d := fresh(t, small())
	x := begun(t, s)
	for range 12 {
		x.Alloc()
		x.NewInode()
	}
	darken(d)
	_, e := x.Alloc()
	wantErr(t, "Alloc", e, api.ErrPower)
	_, e = x.NewInode()
	wantErr(t, "NewInode", e, api.ErrPower)
}

// 5.4

func TestCommitIsTheLogs(t *testing.T) {
	s, d := fresh(t, small())
	want := d.Clone()
	for turn, l := range [][]api.Block{
		{{At: 5, Data: mixed(1)}},
		{{At: 7, Data: mixed(2)}, {At: 19, Data: mixed(3)}},
		{{At: 6, Data: mixed(4)}, {At: 8, Data: mixed(5)}, {At: 18, Data: mixed(6)}},
	} {
		x := begun(t, s)
		for _, b := range slices.Backward(l) {
			wantErr(t, "Write", x.Write(b.At, b.Data), api.OK)
		}
		wantErr(t, "Commit", x.Commit(), api.OK)
		play(t, want, commitOps(uint32(turn+1), l))
		wantSame(t, "Commit", d, want)
		wantOver(t, x)
	}
}

func TestACommitOfNothing(t *testing.T) {
	s, d := fresh(t, small())
	wantUnmoved(t, "Commit", d, func() {
		x := begun(t, s)
		wantErr(t, "Commit", x.Commit(), api.OK)
		wantOver(t, x)
	})
}

func TestACommitOfAsManyAsTheLogHasAndOneMore(t *testing.T) {
	for _, p := range []place{small(), places()[1], places()[10]} {
		s, d := fresh(t, p)
		x := begun(t, s)
		for i := range p.capacity {
			wantErr(t, "Write", x.Write(p.sectors-1-i, mixed(byte(i))), api.OK)
		}
		before := d.Ops()
		wantErr(t, "Commit", x.Commit(), api.OK)
		wantInt(t, "operations", d.Ops()-before, 2*p.capacity+6)
		x = begun(t, s)
		for i := range p.capacity + 1 {
			wantErr(t, "Write", x.Write(p.sectors-1-i, full(byte(i))), api.OK)
		}
		wantUnmoved(t, "Commit", d, func() { wantErr(t, "Commit of one more", x.Commit(), api.ErrFull) })
		wantOver(t, x)
		x = begun(t, s)
		wantSeen(t, x, p.sectors-1, mixed(0))
		wantErr(t, "Write", x.Write(p.sectors-1, full(7)), api.OK)
		wantErr(t, "Commit", x.Commit(), api.OK)
	}
}

func TestTooMuchIsToldAheadOfNoPower(t *testing.T) {
	s, d := fresh(t, small())
	x := begun(t, s)
	for at := 8; at < 12; at++ {
		x.Write(at, mixed(1))
	}
	darken(d)
	wantErr(t, "Commit", x.Commit(), api.ErrFull)
	wantOver(t, x)
	d.Crash(nil)
	x = begun(t, s)
	x.Write(8, mixed(1))
	wantErr(t, "Commit", x.Commit(), api.OK)
}

func TestACommitThatIsCut(t *testing.T) {
	l := []api.Block{{At: 8, Data: mixed(5)}, {At: 18, Data: mixed(6)}}
	ops := commitOps(1, l)
	for n := range len(ops) {
		s, d := fresh(t, small())
		x := begun(t, s)
		for _, b := range l {
			x.Write(b.At, b.Data)
		}
		want := d.Clone()
		play(t, want, ops[:n])
		d.Limit(n)
		wantErr(t, "Commit", x.Commit(), api.ErrPower)
		wantSame(t, "Commit", d, want)
		wantOver(t, x)
		d.Crash(nil)
		x = begun(t, s)
		x.Write(8, mixed(1))
		wantErr(t, "Commit behind one that was cut", x.Commit(), api.ErrPower)
		wantOver(t, x)
		s = mounted(t, d)
		x = begun(t, s)
		x.Write(8, mixed(1))
		wantErr(t, "Commit, mounted again", x.Commit(), api.OK)
	}
}

// wantOver sees to it that all calls of a transaction tell that it is none that goes on.
func wantOver(t *testing.T, x *Tx) {
	t.Helper()
	for _, at := range []int{-1, 0, 5, 8, 9, 20} {
		b, e := x.Read(at)
		if b != nil || e != api.ErrNil {
			t.Errorf("Read(%d): %v, error %d", at, b, e)
		}
		wantErr(t, "Write", x.Write(at, mixed(1)), api.ErrNil)
		wantErr(t, "Write", x.Write(at, nil), api.ErrNil)
		wantErr(t, "Free", x.Free(at), api.ErrNil)
		wantErr(t, "FreeInode", x.FreeInode(at), api.ErrNil)
		wantBool(t, "Taken", x.Taken(at), false)
	}
	at, e := x.Alloc()
	wantGot(t, "Alloc", at, e, 0, api.ErrNil)
	n, e := x.NewInode()
	wantGot(t, "NewInode", n, e, 0, api.ErrNil)
	wantInt(t, "Table", x.Table(), 0)
	wantInt(t, "Changed", x.Changed(), 0)
	wantErr(t, "Commit", x.Commit(), api.ErrNil)
	wantErr(t, "Abort", x.Abort(), api.ErrNil)
}

func TestATransactionThatNoCallMade(t *testing.T) {
	for _, x := range []*Tx{nil, {}, {Store: &Store{}}} {
		wantOver(t, x)
	}
}

func TestATransactionThatIsOverWhileAnotherGoesOn(t *testing.T) {
	for _, end := range []func(*Tx) api.Errno{(*Tx).Commit, (*Tx).Abort} {
		s, d := fresh(t, small())
		x := begun(t, s)
		x.NewInode()
		wantErr(t, "the end", end(x), api.OK)
		y := begun(t, s)
		y.Write(9, mixed(1))
		y.NewInode()
		wantIdle(t, "one that is over", y, d, func() { wantOver(t, x) })
		_, e := s.Begin()
		wantErr(t, "Begin", e, api.ErrBusy)
		wantErr(t, "Commit", y.Commit(), api.OK)
		wantOver(t, x)
		wantOver(t, y)
		wantOn(t, d, 9, mixed(1))
	}
}

func TestAbortDoesNothing(t *testing.T) {
	s, d := fresh(t, small())
	x := begun(t, s)
	wantUnmoved(t, "Abort", d, func() {
		x.Alloc()
		x.NewInode()
		x.Write(7, mixed(1))
		x.Write(8, mixed(2))
		wantErr(t, "Abort", x.Abort(), api.OK)
	})
	wantOver(t, x)
	darken(d)
	x = begun(t, s)
	wantErr(t, "Abort, without power", x.Abort(), api.OK)
}

// 5.6

func TestNoBlockIsGivenTwiceTillItIsFreed(t *testing.T) {
	p := small()
	s, d := fresh(t, p)
	given := map[int]bool{}
	for i := range 12 {
		x := begun(t, s)
		at, e := x.Alloc()
		wantErr(t, "Alloc", e, api.OK)
		if given[at] || at < p.dataAt || at >= p.sectors {
			t.Errorf("Alloc: %d, which is given, or no data sector", at)
		}
		given[at] = true
		wantErr(t, "Commit", x.Commit(), api.OK)
		if i%3 == 2 {
			s = mounted(t, d)
		}
	}
	x := begun(t, s)
	_, e := x.Alloc()
	wantErr(t, "Alloc", e, api.ErrFull)
	wantErr(t, "Free", x.Free(15), api.OK)
	wantErr(t, "Commit", x.Commit(), api.OK)
	x = begun(t, mounted(t, d))
	at, e := x.Alloc()
	wantGot(t, "Alloc", at, e, 15, api.OK)
}

func TestNoInodeIsGivenTwiceTillItIsFreed(t *testing.T) {
	s, d := fresh(t, small())
	for want := range 4 {
		x := begun(t, s)
		n, e := x.NewInode()
		wantGot(t, "NewInode", n, e, want, api.OK)
		wantErr(t, "Commit", x.Commit(), api.OK)
		s = mounted(t, d)
	}
	x := begun(t, s)
	_, e := x.NewInode()
	wantErr(t, "NewInode", e, api.ErrFull)
	wantErr(t, "FreeInode", x.FreeInode(2), api.OK)
	wantErr(t, "Commit", x.Commit(), api.OK)
	x = begun(t, mounted(t, d))
	wantBool(t, "Taken", x.Taken(1), true)
	wantBool(t, "Taken", x.Taken(2), false)
	n, e := x.NewInode()
	wantGot(t, "NewInode", n, e, 2, api.OK)
}

// 5.7

func TestWhatAnAbortedTransactionDidIsNotSeen(t *testing.T) {
	s, d := fresh(t, small())
	x := begun(t, s)
	x.Alloc()
	x.NewInode()
	wantErr(t, "Commit", x.Commit(), api.OK)
	was := d.Image()
	for _, end := range []func(*Tx){
		func(x *Tx) { wantErr(t, "Abort", x.Abort(), api.OK) },
		func(x *Tx) {
			for at := 15; at < 20; at++ {
				x.Write(at, mixed(9))
			}
			wantErr(t, "Commit of too much", x.Commit(), api.ErrFull)
		},
	} {
		x := begun(t, s)
		x.Alloc()
		x.Alloc()
		x.Free(8)
		x.NewInode()
		x.FreeInode(0)
		x.Write(7, mixed(1))
		end(x)
		wantInt(t, "Blocks", s.Blocks(), 11)
		wantInt(t, "Inodes", s.Inodes(), 3)
		x = begun(t, s)
		wantBytes(t, "what is seen", seen(t, x, 20), was)
		wantInt(t, "Changed", x.Changed(), 0)
		wantBool(t, "Taken", x.Taken(0), true)
		at, e := x.Alloc()
		wantGot(t, "Alloc", at, e, 9, api.OK)
		x.Abort()
	}
}

// 5.8

func TestWhatIsFreeAndWhatIsTakenAreAll(t *testing.T) {
	for _, p := range places() {
		s, _ := fresh(t, p)
		data := p.sectors - p.dataAt
		for taken := range min(data, 5) + 1 {
			wantInt(t, "Blocks", s.Blocks(), data-taken)
			x := begun(t, s)
			_, e := x.Alloc()
			if e != api.OK {
				wantErr(t, "Alloc", e, api.ErrFull)
				wantInt(t, "taken", taken, data)
				break
			}
			if e := x.Commit(); p.capacity == 1 {
				wantErr(t, "Commit of two", e, api.ErrFull)
				break
			}
		}
	}
}

// Rule 4

func TestWhatIsHandedInStays(t *testing.T) {
	s, d := fresh(t, small())
	x := begun(t, s)
	b := mixed(1)
	wantErr(t, "Write", x.Write(9, b), api.OK)
	wantErr(t, "Write", x.Write(10, b), api.OK)
	wantBytes(t, "what was handed in", b, mixed(1))
	clear(b)
	wantSeen(t, x, 9, mixed(1))
	wantErr(t, "Write", x.Write(9, b), api.OK)
	wantSeen(t, x, 10, mixed(1))
	x.Alloc()
	wantBytes(t, "what was handed in", b, full(0))
	wantErr(t, "Free", x.Free(8), api.OK)
	x.Write(8, mixed(2))
	wantErr(t, "Abort", x.Abort(), api.OK)
	x = begun(t, s)
	wantErr(t, "Write", x.Write(9, mixed(3)), api.OK)
	wantErr(t, "Commit", x.Commit(), api.OK)
	wantOn(t, d, 9, mixed(3))
}

func TestWhatIsHandedOutIsTheCallersOwn(t *testing.T) {
	s, d := fresh(t, small())
	x := begun(t, s)
	x.Alloc()
	x.NewInode()
	wantErr(t, "Write", x.Write(10, mixed(1)), api.OK)
	for _, at := range []int{0, 5, 6, 8, 10, 19} {
		b, e := x.Read(at)
		wantErr(t, "Read", e, api.OK)
		was := slices.Clone(b)
		for i := range b {
			b[i] ^= 0xff
		}
		wantSeen(t, x, at, was)
		wantOn(t, d, 0, super(20, 3, 4))
	}
	b, _ := x.Read(10)
	wantErr(t, "Write", x.Write(10, mixed(2)), api.OK)
	wantBytes(t, "what was handed out", b, mixed(1))
}
