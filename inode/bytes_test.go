package inode

import (
	"bytes"
	"math"
	"slices"
	"testing"

	"sutler/api"
	"sutler/disk"
	"sutler/store"
)

// blockEdges are the first bytes of blocks that another way leads to than to those ahead of them.
func blockEdges() []int {
	return []int{8 * 256, 136 * 256, (136 + 128) * 256, (136 + 6*128) * 256}
}

// 6.2: Read

func TestReadTellsAsManyAsThereAre(t *testing.T) {
	x := started(t, small())
	n := filled(t, x, 3000)
	all := mixed(3000, 0)
	wantIdle(t, "Read", x, small(), func() {
		for _, at := range []int{0, 1, 255, 256, 257, 2047, 2048, 2049, 2815, 2816, 2998, 2999, 3000, 3001, 3071, 3072, 40000, api.MaxFile, api.MaxFile + 1, math.MaxInt} {
			for _, count := range []int{0, 1, 2, 255, 256, 257, 512, 1000, 2999, 3000, 3001, api.MaxFile, math.MaxInt} {
				from := min(at, 3000)
				to := min(from+min(count, 3000), 3000)
				wantRead(t, x, n, at, count, all[from:to])
			}
		}
	})
}

func TestReadOfWhatMayNotBe(t *testing.T) {
	x := started(t, small())
	n := filled(t, x, 300)
	wantIdle(t, "Read", x, small(), func() {
		for _, at := range []int{math.MinInt, -1, 0, 300, 301, math.MaxInt} {
			for _, count := range []int{math.MinInt, -1, 0, 1, math.MaxInt} {
				b, e := Read(x, n, at, count)
				if at >= 0 && count >= 0 {
					wantErr(t, "Read", e, api.OK)
					continue
				}
				wantErr(t, "Read", e, api.ErrArg)
				wantBytes(t, "Read", b, nil)
			}
		}
	})
}

func TestReadOverHoles(t *testing.T) {
	x := started(t, small())
	n := made(t, x, api.KFile, 420)
	want := make([]byte, 300*256+1)
	for _, at := range []int{5, 3 * 256, 7*256 + 255, 10 * 256, 135*256 + 3, 140*256 + 200, 264 * 256, 300 * 256} {
		want[at] = byte(at%255 + 1)
		wantErr(t, "Write", Write(x, n, at, want[at:at+1]), api.OK)
	}
	wantIdle(t, "Read", x, small(), func() {
		wantRead(t, x, n, 0, api.MaxFile, want)
		for at := 0; at < len(want); at += 97 {
			for _, count := range []int{1, 200, 256, 600, 30000} {
				wantRead(t, x, n, at, count, want[at:min(len(want), at+count)])
			}
		}
	})
}

// 6.2: Write

func TestTheExampleOfTheChapter(t *testing.T) {
	x := started(t, small())
	n := filled(t, x, 3000)
	wantBlocks(t, x, n, 17, 18, 19, 20, 21, 22, 23, 24, 26, 27, 28, 29, 25)
	wantErr(t, "Write", Write(x, n, 5000, []byte{1}), api.OK)
	wantBlocks(t, x, n, 17, 18, 19, 20, 21, 22, 23, 24, 26, 27, 28, 29, 30, 25)
	wantSize(t, x, n, 5001)
}

func TestWriteOfPlacesAndLengths(t *testing.T) {
	for _, size := range []int{0, 1, 256, 700} {
		for _, at := range []int{0, 1, 255, 256, 257, 511, 512, 700, 1000, 2047, 2048} {
			for _, count := range []int{1, 2, 255, 256, 257, 512, 513, 1024} {
				x := started(t, small())
				n := made(t, x, api.KFile, 420)
				wantErr(t, "Write", Write(x, n, 0, mixed(size, 1)), api.OK)
				wantErr(t, "Write", Write(x, n, at, mixed(count, 2)), api.OK)
				want := make([]byte, max(size, at+count))
				copy(want, mixed(size, 1))
				copy(want[at:], mixed(count, 2))
				wantInode(t, x, n, api.Inode{Kind: 1, Mode: 420, Links: 1, Size: len(want)})
				wantRead(t, x, n, 0, api.MaxFile, want)
			}
		}
	}
}

func TestWriteAtTheEdgesOfWays(t *testing.T) {
	for _, edge := range blockEdges() {
		for _, at := range []int{edge - 300, edge - 256, edge - 1, edge, edge + 1, edge + 255} {
			for _, count := range []int{1, 2, 256, 257, 600} {
				x := started(t, small())
				n := made(t, x, api.KFile, 420)
				wantErr(t, "Write", Write(x, n, at, mixed(count, 0)), api.OK)
				wantSize(t, x, n, at+count)
				wantRead(t, x, n, at-600, 600, make([]byte, 600))
				wantRead(t, x, n, at, count+1, mixed(count, 0))
				l, e := Blocks(x, n)
				wantErr(t, "Blocks", e, api.OK)
				wantInt(t, "blocks", len(l), usedBy(at, count))
			}
		}
	}
}

// usedBy is how many sectors a file uses that has no other bytes than count many at a place.
func usedBy(at, count int) int {
	used := map[string]int{}
	for i := at / 256; i <= (at+count-1)/256; i++ {
		used["own"]++
		switch {
		case i < 8:
		case i < 136:
			used["single"] = 1
		default:
			used["double"] = 1
			used["level"+string(rune('a'+(i-136)/128))] = 1
		}
	}
	sum := 0
	for _, n := range used {
		sum += n
	}
	return sum
}

func TestWriteOfNoBytes(t *testing.T) {
	x := started(t, small())
	empty, n := made(t, x, api.KFile, 420), filled(t, x, 300)
	wantIdle(t, "Write", x, small(), func() {
		for _, at := range []int{0, 1, 255, 256, 299, 300, 301, 5000, api.MaxFile - 1, api.MaxFile} {
			for _, b := range [][]byte{nil, {}} {
				wantErr(t, "Write", Write(x, empty, at, b), api.OK)
				wantErr(t, "Write", Write(x, n, at, b), api.OK)
			}
		}
	})
	wantSize(t, x, empty, 0)
	wantSize(t, x, n, 300)
}

func TestWriteOfWhatMayNotBe(t *testing.T) {
	x := started(t, small())
	n := filled(t, x, 300)
	wantIdle(t, "Write", x, small(), func() {
		for _, at := range []int{math.MinInt, -256, -1} {
			for _, count := range []int{0, 1, 300} {
				wantErr(t, "Write", Write(x, n, at, mixed(count, 0)), api.ErrArg)
			}
		}
		for _, at := range []int{0, 1, 256, api.MaxFile - 1, api.MaxFile, api.MaxFile + 1, api.MaxFile + 256, 1 << 32, math.MaxInt} {
			over := max(0, api.MaxFile-at) + 1
			if at > api.MaxFile {
				over = 0
			}
			wantErr(t, "Write, of one too many", Write(x, n, at, mixed(over, 0)), api.ErrLong)
			wantErr(t, "Write, of more", Write(x, n, at, mixed(over+700, 0)), api.ErrLong)
		}
	})
}

func TestWriteUpToMaxFile(t *testing.T) {
	for _, count := range []int{1, 2, 256, 257, 3000} {
		x := started(t, small())
		n := made(t, x, api.KFile, 420)
		at := api.MaxFile - count
		wantErr(t, "Write", Write(x, n, at, mixed(count, 0)), api.OK)
		wantSize(t, x, n, api.MaxFile)
		wantRead(t, x, n, at-1, math.MaxInt, append([]byte{0}, mixed(count, 0)...))
		wantErr(t, "Write, of one too many", Write(x, n, at+1, mixed(count, 0)), api.ErrLong)
	}
}

func TestAFileOfMaxFileBytes(t *testing.T) {
	s, _ := fresh(t, great())
	x := begun(t, s)
	n := filled(t, x, api.MaxFile)
	wantRead(t, x, n, 0, api.MaxFile+1, mixed(api.MaxFile, 0))
	l, e := Blocks(x, n)
	wantErr(t, "Blocks", e, api.OK)
	wantInt(t, "blocks", len(l), 1024+1+1+7)
	var want, tables []int
	next := great().dataAt
	take := func() int { next++; return next - 1 }
	for i := range 1024 {
		if i == 8 || i == 136 {
			tables = append(tables, take())
		}
		if i >= 136 && (i-136)%128 == 0 {
			tables = append(tables, take())
		}
		want = append(want, take())
	}
	wantBlocks(t, x, n, append(want, tables...)...)
	wantErr(t, "Write, over it", Write(x, n, 0, mixed(api.MaxFile, 9)), api.OK)
	wantRead(t, x, n, 0, api.MaxFile, mixed(api.MaxFile, 9))
	wantBlocks(t, x, n, append(want, tables...)...)
	wantErr(t, "Drop", Drop(x, n), api.OK)
	bits, e := x.Read(great().blockMap)
	wantErr(t, "the transaction's Read", e, api.OK)
	wantBytes(t, "the block map", bits[:30], append(bytes.Repeat([]byte{0xff}, 21), 1, 0, 0, 0, 0, 0, 0, 0, 0))
}

func TestWriteTakesBlocksInOrder(t *testing.T) {
	x := started(t, small())
	n := made(t, x, api.KFile, 420)
	wantErr(t, "Write, the last direct one and the first behind it", Write(x, n, 8*256-1, mixed(2, 0)), api.OK)
	wantBlocks(t, x, n, 17, 19, 18)
	wantErr(t, "Write, the last of the single and the first of the double one", Write(x, n, 136*256-1, mixed(2, 0)), api.OK)
	wantBlocks(t, x, n, 17, 19, 20, 23, 18, 21, 22)
	wantErr(t, "Write, of the first two level-one blocks", Write(x, n, 264*256-1, mixed(2, 0)), api.OK)
	wantBlocks(t, x, n, 17, 19, 20, 23, 24, 26, 18, 21, 22, 25)
	wantErr(t, "Write, into a hole", Write(x, n, 256*2+7, mixed(300, 0)), api.OK)
	wantBlocks(t, x, n, 27, 28, 17, 19, 20, 23, 24, 26, 18, 21, 22, 25)
	wantErr(t, "Write, of which some is there", Write(x, n, 256*6, mixed(256*4, 0)), api.OK)
	wantBlocks(t, x, n, 27, 28, 29, 17, 19, 30, 20, 23, 24, 26, 18, 21, 22, 25)
}

func TestWriteIntoAHoleTakesNoughts(t *testing.T) {
	x := started(t, small())
	n := filled(t, x, 256*5)
	wantErr(t, "Drop", Drop(x, n), api.OK) // so that what is taken has bytes of its own
	n = made(t, x, api.KFile, 420)
	want := make([]byte, 256*11+7)
	for _, at := range []int{256*11 + 5, 256*2 + 100, 0, 256*9 + 254} {
		wantErr(t, "Write", Write(x, n, at, mixed(2, 0)), api.OK)
		copy(want[at:], mixed(2, 0))
	}
	wantRead(t, x, n, 0, api.MaxFile, want)
}

// No room

// roomFor is a transaction on a store of which all data sectors but the last so many are taken, and
// a file of no bytes.
func roomFor(t *testing.T, blocks int) (*store.Store, *disk.Disk, *store.Tx, int) {
	t.Helper()
	s, d := fresh(t, small())
	x := begun(t, s)
	n := made(t, x, api.KFile, 420)
	for range small().data() - blocks {
		x.Alloc()
	}
	return s, d, x, n
}

func TestNoFreeBlockOnTheWay(t *testing.T) {
	steps := map[int]int{0: 1, 7: 1, 8: 2, 135: 2, 136: 3, 263: 3, 264: 3, 1023: 3}
	for i, need := range steps {
		for blocks := range need + 1 {
			s, d, x, n := roomFor(t, blocks)
			was := d.Clone()
			e := Write(x, n, i*256+100, []byte{1})
			if blocks == need {
				wantErr(t, "Write", e, api.OK)
				wantRead(t, x, n, i*256+99, 9, []byte{0, 1})
				continue
			}
			wantErr(t, "Write", e, api.ErrFull)
			wantOver(t, x)
			wantErr(t, "Commit", x.Commit(), api.ErrNil)
			wantBytes(t, "the disk", d.Image(), was.Image())
			wantInt(t, "Ops", d.Ops(), was.Ops())
			wantInt(t, "Blocks", s.Blocks(), small().data())
			begun(t, s)
		}
	}
}

func TestNoFreeBlockInTheMidstOfAWrite(t *testing.T) {
	for blocks := range 14 {
		s, _, x, n := roomFor(t, blocks)
		e := Write(x, n, 0, mixed(3000, 0))
		if blocks == 13 {
			wantErr(t, "Write", e, api.OK)
			wantRead(t, x, n, 0, 4000, mixed(3000, 0))
			continue
		}
		wantErr(t, "Write", e, api.ErrFull)
		wantOver(t, x)
		wantInt(t, "Inodes", s.Inodes(), 9)
	}
}

func TestWithoutAFreeBlockWhatIsThereIsOfUse(t *testing.T) {
	_, _, x, n := roomFor(t, 13)
	wantErr(t, "Write", Write(x, n, 0, mixed(3000, 0)), api.OK)
	wantErr(t, "Write, over what is there", Write(x, n, 100, mixed(2900, 3)), api.OK)
	wantErr(t, "Write, in the last block", Write(x, n, 12*256-1, []byte{9}), api.OK)
	wantErr(t, "Write, of no bytes", Write(x, n, 100000, nil), api.OK)
	wantErr(t, "Cut, to more", Cut(x, n, api.MaxFile), api.OK)
	wantErr(t, "Cut, to less", Cut(x, n, 11*256), api.OK)
	wantErr(t, "Write, into what was freed", Write(x, n, 8*256*2, []byte{1}), api.OK)
	wantErr(t, "Write, of one more", Write(x, n, 8*256*3, []byte{1}), api.ErrFull)
	wantOver(t, x)
}

// 6.3

func TestCutToOtherSizes(t *testing.T) {
	sizes := []int{0, 1, 255, 256, 257, 2047, 2048, 2049, 2304, 3000, 136 * 256, 136*256 + 1, 264*256 + 1, api.MaxFile}
	for _, size := range []int{0, 1, 256, 2048, 2049, 3000} {
		for _, cut := range sizes {
			for _, again := range sizes {
				x := started(t, small())
				n := filled(t, x, size)
				want := mixed(size, 0)
				for _, to := range []int{cut, again} {
					wantErr(t, "Cut", Cut(x, n, to), api.OK)
					want = slices.Concat(want, make([]byte, max(0, to-len(want))))[:to]
					wantInode(t, x, n, api.Inode{Kind: 1, Mode: 420, Links: 1, Size: to})
					wantRead(t, x, n, 0, math.MaxInt, want)
				}
			}
		}
	}
}

func TestCutOfWhatMayNotBe(t *testing.T) {
	x := started(t, small())
	n := filled(t, x, 3000)
	wantIdle(t, "Cut", x, small(), func() {
		for _, size := range []int{math.MinInt, -256, -1} {
			wantErr(t, "Cut", Cut(x, n, size), api.ErrArg)
		}
		for _, size := range []int{api.MaxFile + 1, api.MaxFile + 256, 1 << 32, math.MaxInt} {
			wantErr(t, "Cut", Cut(x, n, size), api.ErrLong)
		}
	})
	wantErr(t, "Cut", Cut(x, n, api.MaxFile), api.OK)
	wantSize(t, x, n, api.MaxFile)
}

func TestCutFreesTheBlocksBehind(t *testing.T) {
	for size, want := range map[int][]int{
		3000: {17, 18, 19, 20, 21, 22, 23, 24, 26, 27, 28, 29, 25},
		2999: {17, 18, 19, 20, 21, 22, 23, 24, 26, 27, 28, 29, 25},
		2817: {17, 18, 19, 20, 21, 22, 23, 24, 26, 27, 28, 29, 25},
		2816: {17, 18, 19, 20, 21, 22, 23, 24, 26, 27, 28, 25},
		2305: {17, 18, 19, 20, 21, 22, 23, 24, 26, 27, 25},
		2304: {17, 18, 19, 20, 21, 22, 23, 24, 26, 25},
		2049: {17, 18, 19, 20, 21, 22, 23, 24, 26, 25},
		2048: {17, 18, 19, 20, 21, 22, 23, 24},
		1793: {17, 18, 19, 20, 21, 22, 23, 24},
		1792: {17, 18, 19, 20, 21, 22, 23},
		257:  {17, 18},
		256:  {17},
		1:    {17},
		0:    nil,
	} {
		x := started(t, small())
		n := filled(t, x, 3000)
		wantErr(t, "Cut", Cut(x, n, size), api.OK)
		wantBlocks(t, x, n, want...)
		wantTaken(t, x, small(), want)
		record := slices.Concat([]byte{1, 0}, little(420, 1, size, 0), little(append(want, make([]int, 9)...)[:8]...))
		if size > 2048 {
			record = append(record, 25)
		}
		wantSector(t, x, 14, record)
	}
}

// wantTaken sees to it that just these data sectors are taken.
func wantTaken(t *testing.T, x *store.Tx, p place, l []int) {
	t.Helper()
	want := make([]byte, api.Sector)
	for at := range p.dataAt {
		want[at/8] |= 1 << (at % 8)
	}
	for _, at := range l {
		want[at/8] |= 1 << (at % 8)
	}
	wantSector(t, x, p.blockMap, want)
}

func TestCutFreesBlocksOfNumbersThatHaveNoneLeft(t *testing.T) {
	sparse := []int{0, 8, 9, 135, 136, 263, 264, 1023}
	// taken are: 17; 18 (single), 19; 20; 21; 22 (double), 23 (level one), 24; 25; 26 (level one),
	// 27; 28 (level one), 29
	for size, want := range map[int][]int{
		1023*256 + 1: {17, 19, 20, 21, 24, 25, 27, 29, 18, 22, 23, 26, 28},
		1023 * 256:   {17, 19, 20, 21, 24, 25, 27, 18, 22, 23, 26},
		265 * 256:    {17, 19, 20, 21, 24, 25, 27, 18, 22, 23, 26},
		264*256 + 1:  {17, 19, 20, 21, 24, 25, 27, 18, 22, 23, 26},
		264 * 256:    {17, 19, 20, 21, 24, 25, 18, 22, 23},
		263 * 256:    {17, 19, 20, 21, 24, 18, 22, 23},
		136*256 + 1:  {17, 19, 20, 21, 24, 18, 22, 23},
		136 * 256:    {17, 19, 20, 21, 18},
		135 * 256:    {17, 19, 20, 18},
		10 * 256:     {17, 19, 20, 18},
		9 * 256:      {17, 19, 18},
		8*256 + 1:    {17, 19, 18},
		8 * 256:      {17},
		256:          {17},
		1:            {17},
		0:            nil,
	} {
		x := started(t, small())
		n := made(t, x, api.KFile, 420)
		for _, i := range sparse {
			wantErr(t, "Write", Write(x, n, 256*i, mixed(256, byte(i))), api.OK)
		}
		wantErr(t, "Cut", Cut(x, n, size), api.OK)
		wantSize(t, x, n, size)
		wantBlocks(t, x, n, want...)
		wantTaken(t, x, small(), want)
		wantErr(t, "Cut", Cut(x, n, api.MaxFile), api.OK)
		for _, i := range sparse {
			left := max(0, min(256, size-256*i))
			wantRead(t, x, n, 256*i, 256, append(mixed(256, byte(i))[:left], make([]byte, 256-left)...))
		}
		wantBlocks(t, x, n, want...)
	}
}

func TestCutWithinAHole(t *testing.T) {
	x := started(t, small())
	n := made(t, x, api.KFile, 420)
	wantErr(t, "Write", Write(x, n, 12*256, mixed(256, 0)), api.OK)
	wantErr(t, "Write", Write(x, n, 256, mixed(256, 0)), api.OK)
	wantErr(t, "Cut", Cut(x, n, 10*256+9), api.OK)
	wantBlocks(t, x, n, 19)
	wantErr(t, "Cut", Cut(x, n, 9), api.OK)
	wantBlocks(t, x, n)
	wantRead(t, x, n, 0, 99, make([]byte, 9))
	wantTaken(t, x, small(), nil)
}

func TestCutToMoreThatWasCutToLess(t *testing.T) {
	x := started(t, small())
	n := filled(t, x, 3000)
	wantErr(t, "Cut", Cut(x, n, 2100), api.OK)
	wantErr(t, "Write", Write(x, n, 2900, []byte{7}), api.OK)
	want := append(mixed(3000, 0)[:2100], make([]byte, 801)...)
	want[2900] = 7
	wantRead(t, x, n, 0, 5000, want)
}

func TestCutToTheSizeThatItHas(t *testing.T) {
	x := started(t, small())
	for _, size := range []int{0, 1, 256, 2048, 3000} {
		n := filled(t, x, size)
		was := seen(t, x, small())
		wantErr(t, "Cut", Cut(x, n, size), api.OK)
		wantBytes(t, "what is seen", seen(t, x, small()), was)
	}
}

// 6.4

func TestDropFreesAllThatAFileUsed(t *testing.T) {
	for _, kind := range []int{api.KFile, api.KDir, api.KLink} {
		for _, at := range []int{0, 256 * 7, 256 * 8, 256*136 - 1, 256 * 263, api.MaxFile - 600} {
			x := started(t, small())
			was := seen(t, x, small())[:5*api.Sector]
			n := made(t, x, kind, 420)
			wantErr(t, "Set", Set(x, n, 4095, 65535), api.OK)
			wantErr(t, "Write", Write(x, n, at, mixed(600, 0)), api.OK)
			wantErr(t, "Drop", Drop(x, n), api.OK)
			wantBytes(t, "maps and table", seen(t, x, small())[:5*api.Sector], was)
			wantRefused(t, x, n, api.ErrNone)
			wantInt(t, "New", made(t, x, api.KFile, 1), n)
			wantInode(t, x, n, api.Inode{Kind: 1, Mode: 1, Links: 1})
			wantBlocks(t, x, n)
		}
	}
}

func TestDropOfAFileThatIsAllHoles(t *testing.T) {
	x := started(t, small())
	n := made(t, x, api.KFile, 420)
	wantErr(t, "Cut", Cut(x, n, api.MaxFile), api.OK)
	wantErr(t, "Drop", Drop(x, n), api.OK)
	wantSector(t, x, 13, nil)
	wantSector(t, x, 14, nil)
	wantTaken(t, x, small(), nil)
}

func TestBlocksChangesNothing(t *testing.T) {
	x := started(t, small())
	n := filled(t, x, 3000)
	wantErr(t, "Write", Write(x, n, 200*256, []byte{1}), api.OK)
	wantIdle(t, "Blocks", x, small(), func() {
		want := []int{17, 18, 19, 20, 21, 22, 23, 24, 26, 27, 28, 29, 32, 25, 30, 31}
		wantBlocks(t, x, n, want...)
		wantBlocks(t, x, n, want...)
	})
}

// 6.6

func TestFilesDoNotTouchOneAnother(t *testing.T) {
	x := started(t, small())
	var want [5][]byte
	for n := range want {
		want[n] = mixed(300*n, byte(n))
		made(t, x, 1+n%3, n)
		wantErr(t, "Write", Write(x, n, 0, want[n]), api.OK)
	}
	check := func() {
		t.Helper()
		used := map[int]int{}
		for n, b := range want {
			wantInode(t, x, n, api.Inode{Kind: 1 + n%3, Mode: n, Links: 1, Size: len(b)})
			wantRead(t, x, n, 0, api.MaxFile, b)
			l, _ := Blocks(x, n)
			for _, at := range l {
				if by, is := used[at]; is {
					t.Errorf("the sector %d is of the files %d and %d", at, by, n)
				}
				used[at] = n
			}
		}
	}
	check()
	for n := range want {
		want[n] = mixed(2500-300*n, byte(9-n))
		wantErr(t, "Write", Write(x, n, 0, want[n]), api.OK)
		check()
	}
	for n := range want {
		want[n] = want[n][:700-100*n]
		wantErr(t, "Cut", Cut(x, n, len(want[n])), api.OK)
		check()
	}
}

// Rule 4

func TestWhatIsHandedInStays(t *testing.T) {
	x := started(t, small())
	n := made(t, x, api.KFile, 420)
	b := append(mixed(700, 0), mixed(300, 5)...)
	wantErr(t, "Write", Write(x, n, 10, b[:700]), api.OK)
	wantBytes(t, "what was handed in", b, append(mixed(700, 0), mixed(300, 5)...))
	clear(b)
	wantRead(t, x, n, 10, 700, mixed(700, 0))
	wantErr(t, "Write", Write(x, n, 5, b[:100]), api.OK)
	wantErr(t, "Cut", Cut(x, n, 100), api.OK)
	wantBytes(t, "what was handed in", b, make([]byte, 1000))
}

func TestWhatIsHandedOutIsTheCallersOwn(t *testing.T) {
	x := started(t, small())
	n := filled(t, x, 3000)
	wantErr(t, "Cut", Cut(x, n, 4000), api.OK)
	want := append(mixed(3000, 0), make([]byte, 1000)...)
	for _, at := range []int{0, 256, 300, 2900, 3500} {
		for _, count := range []int{1, 256, 600} {
			b, e := Read(x, n, at, count)
			wantErr(t, "Read", e, api.OK)
			for i := range b {
				b[i] ^= 0xff
			}
			clear(b[len(b):cap(b)])
			wantRead(t, x, n, 0, 4000, want)
		}
	}
	b, _ := Read(x, n, 0, 300)
	l, _ := Blocks(x, n)
	m, _ := Blocks(x, n)
	clear(l)
	wantErr(t, "Write", Write(x, n, 0, mixed(3000, 9)), api.OK)
	wantErr(t, "Drop", Drop(x, n), api.OK)
	wantBytes(t, "what was handed out", b, mixed(300, 0))
	if !slices.Equal(m, []int{17, 18, 19, 20, 21, 22, 23, 24, 26, 27, 28, 29, 25}) {
		t.Errorf("what was handed out: %v", m)
	}
}
