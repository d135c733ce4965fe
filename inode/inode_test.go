package inode

import (
	"math"
	"slices"
	"testing"

	"sutler/api"
	"sutler/disk"
	"sutler/store"
)

// 6.1: New

func TestNewMakesAFileOfNoBytes(t *testing.T) {
	x := started(t, small())
	modes := []int{0, 1, 255, 256, 420, 493, 511, 4094, 4095}
	for want, mode := range modes {
		kind := api.KFile + want%3
		n, e := New(x, kind, mode)
		wantErr(t, "New", e, api.OK)
		wantInt(t, "New", n, want)
		wantInode(t, x, n, api.Inode{Kind: kind, Mode: mode, Links: 1})
		wantRead(t, x, n, 0, 10, nil)
		wantBlocks(t, x, n)
	}
	for n, mode := range modes {
		wantInode(t, x, n, api.Inode{Kind: api.KFile + n%3, Mode: mode, Links: 1})
	}
}

func TestNewOfKindsAndModesThatThereAreNot(t *testing.T) {
	x := started(t, small())
	wantIdle(t, "New", x, small(), func() {
		for _, kind := range []int{math.MinInt, -1, 0, 1, 2, 3, 4, 255, 256, 257, math.MaxInt} {
			for _, mode := range []int{math.MinInt, -1, 0, 420, 4095, 4096, 65536, math.MaxInt} {
				if kind >= 1 && kind <= 3 && mode >= 0 && mode <= 4095 {
					continue
				}
				n, e := New(x, kind, mode)
				wantErr(t, "New", e, api.ErrArg)
				wantInt(t, "New", n, 0)
			}
		}
	})
	n, e := New(x, 3, 4095)
	wantErr(t, "New", e, api.OK)
	wantInt(t, "New", n, 0)
}

func TestNewTakesInodesOfTheStore(t *testing.T) {
	s, _ := fresh(t, small())
	x := begun(t, s)
	n, e := x.NewInode()
	wantErr(t, "NewInode", e, api.OK)
	wantInt(t, "NewInode", n, 0)
	wantInt(t, "New", made(t, x, api.KDir, 493), 1)
	if !x.Taken(1) || x.Taken(2) {
		t.Errorf("Taken: %v, %v", x.Taken(1), x.Taken(2))
	}
	wantErr(t, "Commit", x.Commit(), api.OK)
	wantInt(t, "Inodes", s.Inodes(), 7)
	wantInt(t, "Blocks", s.Blocks(), small().data())
}

func TestNewMakesNoughtsOfAllElseInARecord(t *testing.T) {
	x := started(t, small())
	wantErr(t, "Write", x.Write(14, mixed(256, 0)), api.OK)
	for range 2 {
		made(t, x, api.KFile, 420)
	}
	made(t, x, api.KLink, 511)
	record := func(kind byte, mode int) []byte {
		return slices.Concat([]byte{kind, 0}, little(mode, 1), make([]byte, 58))
	}
	wantSector(t, x, 14, slices.Concat(record(1, 420), record(1, 420), record(3, 511), mixed(256, 0)[192:]))
	wantInode(t, x, 1, api.Inode{Kind: 1, Mode: 420, Links: 1})
	wantBlocks(t, x, 2)
}

func TestNewWithoutAFreeInode(t *testing.T) {
	s, d := fresh(t, small())
	x := begun(t, s)
	for range 9 {
		made(t, x, api.KFile, 420)
	}
	wantIdle(t, "New", x, small(), func() {
		_, e := New(x, 4, 420)
		wantErr(t, "New, of no kind", e, api.ErrArg)
		_, e = New(x, 1, 4096)
		wantErr(t, "New, of no mode", e, api.ErrArg)
	})
	was := d.Image()
	n, e := New(x, api.KFile, 420)
	wantErr(t, "New", e, api.ErrFull)
	wantInt(t, "New", n, 0)
	wantOver(t, x)
	wantErr(t, "Commit", x.Commit(), api.ErrNil)
	wantBytes(t, "the disk", d.Image(), was)
	wantInt(t, "Inodes", s.Inodes(), 9)
	wantInt(t, "New, in another transaction", made(t, begun(t, s), api.KFile, 420), 0)
}

// 6.1: the record

func TestRecordsAtEachPlaceOfTheirSector(t *testing.T) {
	x := started(t, small())
	var want []byte
	for n := range 9 {
		kind, mode, links, size := 1+n%3, 4095-n, 65535-256*n, 700+n
		wantInt(t, "New", made(t, x, kind, mode), n)
		wantErr(t, "Set", Set(x, n, mode, links), api.OK)
		wantErr(t, "Write", Write(x, n, 256, mixed(size-256, 0)), api.OK)
		record := slices.Concat([]byte{byte(kind), 0}, little(mode, links, size, 0, 0, 17+2*n, 18+2*n))
		want = slices.Concat(want, record, make([]byte, 64-len(record)))
		for at := range 3 {
			wantSector(t, x, 14+at, want[min(len(want), at*256):min(len(want), at*256+256)])
		}
	}
	wantSector(t, x, 13, []byte{0xff, 1})
}

func TestTheLastInodeOfTheGreatestStore(t *testing.T) {
	x := started(t, great())
	for want := range 256 {
		wantInt(t, "New", made(t, x, api.KFile, want), want)
	}
	for n := range 256 {
		wantInode(t, x, n, api.Inode{Kind: 1, Mode: n, Links: 1})
	}
	b, e := x.Read(168)
	wantErr(t, "Read", e, api.OK)
	wantBytes(t, "the last record", b[192:200], []byte{1, 0, 255, 0, 1, 0, 0, 0})
	wantRefused(t, x, 256, api.ErrNone)
}

func TestTheWholeLayOfAFile(t *testing.T) {
	x := started(t, small())
	made(t, x, api.KDir, 493)
	n := made(t, x, api.KFile, 0o6543)
	for i, block := range []int{0, 7, 8, 135, 136, 263, 264, 1023} {
		wantErr(t, "Write", Write(x, n, 256*block+255, []byte{byte(i + 1)}), api.OK)
		wantSize(t, x, n, 256*block+256)
	}
	zeros := func(n int) []byte { return make([]byte, n) }
	wantSector(t, x, 14, slices.Concat(
		[]byte{2, 0, 0xed, 1, 1, 0}, zeros(58),
		[]byte{1, 0, 0x63, 0x0d, 1, 0, 0, 0, 4, 0}, little(17, 0, 0, 0, 0, 0, 0, 18, 19, 22)))
	wantSector(t, x, 19, slices.Concat(little(20), zeros(252), little(21)))
	wantSector(t, x, 22, slices.Concat(little(23, 26, 0, 0, 0, 0, 28)))
	wantSector(t, x, 23, slices.Concat(little(24), zeros(252), little(25)))
	wantSector(t, x, 26, little(27))
	wantSector(t, x, 28, slices.Concat(zeros(238), little(29)))
	for i, at := range []int{17, 18, 20, 21, 24, 25, 27, 29} {
		wantSector(t, x, at, append(zeros(255), byte(i+1)))
	}
	wantBlocks(t, x, n, 17, 18, 20, 21, 24, 25, 27, 29, 19, 22, 23, 26, 28)
	wantInode(t, x, 0, api.Inode{Kind: 2, Mode: 493, Links: 1})
}

func TestARecordThatWasLaidByHand(t *testing.T) {
	x := started(t, small())
	for range 14 {
		x.Alloc()
	}
	for range 3 {
		x.NewInode()
	}
	zeros := func(n int) []byte { return make([]byte, n) }
	lay := func(at int, b []byte) {
		wantErr(t, "the transaction's Write", x.Write(at, append(b, zeros(api.Sector-len(b))...)), api.OK)
	}
	lay(14, slices.Concat(zeros(128), []byte{3, 0}, little(2049, 513, 133130&0xffff, 133130>>16), little(30, 0, 29, 0, 0, 0, 0, 28, 27, 26)))
	lay(27, slices.Concat(little(0, 25), zeros(250), little(24)))
	lay(26, little(23, 0, 22))
	lay(23, slices.Concat(zeros(252), little(21, 20)))
	lay(22, little(19))
	told := map[int]int{0: 30, 2: 29, 7: 28, 9: 25, 135: 24, 262: 21, 263: 20, 392: 19}
	for _, at := range told {
		lay(at, mixed(256, byte(at)))
	}
	wantIdle(t, "to read", x, small(), func() {
		wantInode(t, x, 2, api.Inode{Kind: 3, Mode: 2049, Links: 513, Size: 133130})
		for block := range 520 {
			want := zeros(256)
			if at, ok := told[block]; ok {
				want = mixed(256, byte(at))
			}
			wantRead(t, x, 2, 256*block, 256, want)
		}
		wantRead(t, x, 2, 520*256, 256, zeros(10))
		wantBlocks(t, x, 2, 30, 29, 28, 25, 24, 21, 20, 19, 27, 26, 23, 22)
	})
	wantErr(t, "Drop", Drop(x, 2), api.OK)
	wantSector(t, x, 14, nil)
	wantSector(t, x, 12, []byte{0xff, 0xff, 0x07}) // 17 and 18 are nobody's
	wantSector(t, x, 13, []byte{0x03})
}

func TestEachFieldOfARecordHasItsBytes(t *testing.T) {
	x := started(t, small())
	x.NewInode()
	record := func(mode, links int) []byte {
		return slices.Concat([]byte{2, 0}, little(mode, links), []byte{0x04, 0x03, 0x02, 0x01})
	}
	b := append(record(0x0dcb, 0xfeba), make([]byte, 246)...)
	wantErr(t, "the transaction's Write", x.Write(14, b), api.OK)
	wantInode(t, x, 0, api.Inode{Kind: 2, Mode: 0x0dcb, Links: 0xfeba, Size: 0x01020304})
	wantErr(t, "Set", Set(x, 0, 0x0123, 0x4567), api.OK)
	wantSector(t, x, 14, record(0x0123, 0x4567))
	wantErr(t, "Cut", Cut(x, 0, 0x20304), api.OK)
	wantSector(t, x, 14, slices.Concat(record(0x0123, 0x4567)[:8], []byte{2}))
}

// 6.1: Get and Set

func TestSetGivesAModeAndLinks(t *testing.T) {
	x := started(t, small())
	n := filled(t, x, 3000)
	other := made(t, x, api.KLink, 511)
	for _, mode := range []int{0, 1, 255, 256, 4095} {
		for _, links := range []int{0, 1, 255, 256, 65535} {
			wantErr(t, "Set", Set(x, n, mode, links), api.OK)
			wantInode(t, x, n, api.Inode{Kind: 1, Mode: mode, Links: links, Size: 3000})
			wantInode(t, x, other, api.Inode{Kind: 3, Mode: 511, Links: 1})
		}
	}
	wantRead(t, x, n, 0, 3000, mixed(3000, 0))
	wantBlocks(t, x, n, 17, 18, 19, 20, 21, 22, 23, 24, 26, 27, 28, 29, 25)
}

func TestSetOfWhatMayNotBe(t *testing.T) {
	x := started(t, small())
	n := made(t, x, api.KFile, 420)
	wantIdle(t, "Set", x, small(), func() {
		for _, mode := range []int{math.MinInt, -1, 0, 4095, 4096, 65536 + 420, math.MaxInt} {
			for _, links := range []int{math.MinInt, -1, 0, 65535, 65536, 65537, math.MaxInt} {
				if mode < 0 || mode > 4095 || links < 0 || links > 65535 {
					wantErr(t, "Set", Set(x, n, mode, links), api.ErrArg)
				}
			}
		}
	})
	wantInode(t, x, n, api.Inode{Kind: 1, Mode: 420, Links: 1})
}

// Errors of an inode, and of a transaction

func TestInodesThatAreNotTaken(t *testing.T) {
	s, _ := fresh(t, small())
	x := begun(t, s)
	x.Write(14, slices.Repeat([]byte{1}, 256))
	for range 3 {
		made(t, x, api.KFile, 420)
	}
	wantErr(t, "Drop", Drop(x, 1), api.OK)
	x.Write(14, slices.Repeat([]byte{1}, 256))
	wantIdle(t, "no inode", x, small(), func() {
		for _, n := range []int{math.MinInt, -64, -1, 1, 3, 8, 9, 10, 255, 256, 2048, 65536, math.MaxInt} {
			wantRefused(t, x, n, api.ErrNone)
		}
	})
}

func TestAnInodeThatWasNeverMade(t *testing.T) {
	x := started(t, small())
	made(t, x, api.KFile, 420)
	n, e := x.NewInode()
	wantErr(t, "NewInode", e, api.OK)
	made(t, x, api.KFile, 420)
	wantIdle(t, "one that was never made", x, small(), func() { wantRefused(t, x, n, api.ErrNone) })
	b, _ := x.Read(14)
	copy(b[64:128], append(make([]byte, 1), slices.Repeat([]byte{1}, 63)...))
	x.Write(14, b)
	wantIdle(t, "one that was never made", x, small(), func() { wantRefused(t, x, n, api.ErrNone) })
}

func TestTransactionsThatNoCallMade(t *testing.T) {
	for _, x := range []*store.Tx{nil, {}, {Store: &store.Store{}}} {
		wantOver(t, x)
	}
}

func TestTransactionsThatAreOver(t *testing.T) {
	for _, end := range []func(*store.Tx) api.Errno{(*store.Tx).Commit, (*store.Tx).Abort} {
		s, d := fresh(t, small())
		x := begun(t, s)
		filled(t, x, 300)
		wantErr(t, "the end", end(x), api.OK)
		was := d.Image()
		wantOver(t, x)
		y := begun(t, s)
		n := filled(t, y, 100)
		wantIdle(t, "one that is over", y, small(), func() { wantOver(t, x) })
		wantRead(t, y, n, 0, 256, mixed(100, 0))
		wantBytes(t, "the disk", d.Image(), was)
	}
}

func TestWithoutPower(t *testing.T) {
	s, d := fresh(t, small())
	x := begun(t, s)
	n := filled(t, x, 3000)
	x.NewInode()
	full := x.Changed()
	darken(d)
	for _, i := range []int{n, 1, 2, -1, 9, math.MaxInt, math.MinInt} {
		wantRefused(t, x, i, api.ErrPower)
	}
	_, e := New(x, api.KFile, 420)
	wantErr(t, "New", e, api.ErrPower)
	_, e = New(x, 0, 420)
	wantErr(t, "New, of no kind", e, api.ErrArg)
	_, e = New(x, 1, -1)
	wantErr(t, "New, of no mode", e, api.ErrArg)
	wantInt(t, "Changed", x.Changed(), full)
	wantErr(t, "Crash", d.Crash(nil), api.OK)
	wantRead(t, x, n, 0, 4000, mixed(3000, 0))
	wantErr(t, "Commit", x.Commit(), api.ErrFull)
}

func TestNoPowerIsToldAheadOfNoRoom(t *testing.T) {
	s, d := fresh(t, small())
	x := begun(t, s)
	n := filled(t, x, 41*256)
	for !x.Taken(8) {
		made(t, x, api.KFile, 420)
	}
	darken(d)
	_, e := New(x, api.KFile, 420)
	wantErr(t, "New", e, api.ErrPower)
	wantErr(t, "Write", Write(x, n, 50*256, mixed(3000, 0)), api.ErrPower)
	wantErr(t, "Crash", d.Crash(nil), api.OK)
	wantRead(t, x, n, 0, 41*256, mixed(41*256, 0))
}

func TestErrorsInTheirOrder(t *testing.T) {
	x := started(t, small())
	n := made(t, x, api.KFile, 420)
	wantIdle(t, "what is refused", x, small(), func() {
		for _, none := range []int{-1, 1, 9} {
			wantErr(t, "Set", Set(x, none, -1, -1), api.ErrNone)
			wantErr(t, "Write", Write(x, none, -1, nil), api.ErrNone)
			wantErr(t, "Cut", Cut(x, none, -1), api.ErrNone)
			_, e := Read(x, none, -1, -1)
			wantErr(t, "Read", e, api.ErrNone)
		}
		wantErr(t, "Write, of too much, at none", Write(x, n, -1, make([]byte, api.MaxFile+2)), api.ErrArg)
		wantErr(t, "Write, of too much", Write(x, n, 0, make([]byte, api.MaxFile+1)), api.ErrLong)
	})
	wantErr(t, "Write, of more than there is room for", Write(x, n, 0, make([]byte, api.MaxFile)), api.ErrFull)
	wantOver(t, x)
}

// 6.5, 6.7: through a commit

func TestWhatIsCommittedIsThere(t *testing.T) {
	s, d := fresh(t, small())
	x := begun(t, s)
	n := made(t, x, api.KDir, 0)
	m := made(t, x, api.KLink, 4095)
	wantErr(t, "Write", Write(x, m, 136*256-3, []byte("abcdef")), api.OK)
	wantErr(t, "Set", Set(x, n, 7, 9), api.OK)
	wantErr(t, "Commit", x.Commit(), api.OK)
	wantErr(t, "Crash", d.Crash([]int{0, 0, 0}), api.OK)
	x = begun(t, mounted(t, d))
	wantInode(t, x, n, api.Inode{Kind: 2, Mode: 7, Links: 9})
	wantInode(t, x, m, api.Inode{Kind: 3, Mode: 4095, Links: 1, Size: 136*256 + 3})
	wantRead(t, x, m, 136*256-5, 10, []byte("\x00\x00abcdef"))
	wantBlocks(t, x, m, 18, 21, 17, 19, 20)
	wantErr(t, "Cut", Cut(x, m, 0), api.OK)
	wantErr(t, "Abort", x.Abort(), api.OK)
	s = mounted(t, d)
	wantInt(t, "Blocks", s.Blocks(), small().data()-5)
	x = begun(t, s)
	wantRead(t, x, m, 136*256-5, 10, []byte("\x00\x00abcdef"))
	wantErr(t, "Drop", Drop(x, m), api.OK)
	wantErr(t, "Commit", x.Commit(), api.OK)
	wantInt(t, "Blocks", s.Blocks(), small().data())
	wantInt(t, "Inodes", s.Inodes(), 8)
}

// cutAt does something in a transaction, and makes the power go behind so many operations of its
// commit; the picks choose what is left.
func cutAt(t *testing.T, d *disk.Disk, n int, picks []int, do func(x *store.Tx)) (*store.Tx, api.Errno) {
	t.Helper()
	x := begun(t, mounted(t, d))
	do(x)
	d.Limit(n)
	e := x.Commit()
	wantErr(t, "Crash", d.Crash(picks), api.OK)
	return begun(t, mounted(t, d)), e
}

func TestAFileIsAsItWasOrAsItIsWanted(t *testing.T) {
	old, wanted := mixed(700, 1), mixed(2200, 2)
	for n := range 30 {
		for _, picks := range [][]int{nil, {1, 1, 1, 1, 1, 1, 1, 1, 1, 1, 1, 1}, {0, 1, 0, 1, 1}, {1, 0, 1, 0}} {
			s, d := fresh(t, place{60, 20, 9, 22, 23, 24, 27})
			x := begun(t, s)
			m := made(t, x, api.KFile, 420)
			wantErr(t, "Write", Write(x, m, 0, old), api.OK)
			wantErr(t, "Commit", x.Commit(), api.OK)
			x, e := cutAt(t, d, n, picks, func(x *store.Tx) { wantErr(t, "Write", Write(x, m, 0, wanted), api.OK) })
			got, _ := Read(x, m, 0, api.MaxFile)
			l, _ := Blocks(x, m)
			if !slices.Equal(got, wanted) && (e == api.OK || !slices.Equal(got, old)) {
				t.Fatalf("cut behind %d, picks %v: error %d, and %d bytes of neither", n, picks, e, len(got))
			}
			wantInt(t, "blocks", len(l), map[int]int{700: 3, 2200: 10}[len(got)])
			wantInt(t, "Blocks", x.Blocks(), 33-len(l))
		}
	}
}
