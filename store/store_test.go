package store

import (
	"math"
	"slices"
	"testing"

	"sutler/api"
	"sutler/disk"
)

// 5.1: Format

func TestFormatTakesItsSteps(t *testing.T) {
	for _, p := range places() {
		d := painted(t, p.sectors)
		want := d.Clone()
		play(t, want, formatOps(p))
		wantErr(t, "Format", Format(d, p.capacity, p.inodes), api.OK)
		wantSame(t, "Format", d, want)
	}
}

func TestFormatDoesAsFarAsThePowerGoes(t *testing.T) {
	for _, p := range []place{places()[0], places()[3], places()[7]} {
		ops := formatOps(p)
		for n := range len(ops) {
			d := painted(t, p.sectors)
			want := d.Clone()
			play(t, want, ops[:n])
			d.Limit(n)
			wantErr(t, "Format", Format(d, p.capacity, p.inodes), api.ErrPower)
			wantSame(t, "Format", d, want)
		}
	}
}

func TestFormatThatIsCutIsNoStore(t *testing.T) {
	p := small()
	for n := range len(formatOps(p)) - 1 {
		d := painted(t, p.sectors)
		d.Limit(n)
		wantErr(t, "Format", Format(d, p.capacity, p.inodes), api.ErrPower)
		d.Crash([]int{0, 1, 1, 1})
		s, e := Mount(d)
		if s != nil || e != api.ErrSuper {
			t.Errorf("Mount behind %d operations: %v, error %d", n, s, e)
		}
	}
}

func TestFormatWritesOverAnotherStore(t *testing.T) {
	s, d := fresh(t, place{sectors: 20, capacity: 5, inodes: 1})
	x := begun(t, s)
	x.Alloc()
	x.NewInode()
	wantErr(t, "Commit", x.Commit(), api.OK)
	want := d.Clone()
	play(t, want, formatOps(small()))
	wantErr(t, "Format", Format(d, 3, 4), api.OK)
	wantSame(t, "Format", d, want)
	s = mounted(t, d)
	wantInt(t, "Blocks", s.Blocks(), 12)
	wantInt(t, "Inodes", s.Inodes(), 4)
}

// noStores are numbers of which Format makes no store.
func noStores() [][3]int {
	return [][3]int{
		{20, 0, 4}, {20, -1, 4}, {20, math.MinInt, 4}, {20, 3, 0}, {20, 3, -1}, {20, 3, math.MinInt}, {20, 0, 0},
		{api.MaxSectors, api.MaxLog + 1, 4}, {api.MaxSectors, math.MaxInt, 4}, {api.MaxSectors, 3, api.MaxInodes + 1},
		{api.MaxSectors, 3, math.MaxInt}, {api.MaxSectors, math.MaxInt, math.MaxInt}, {api.MaxSectors, 1 << 16, 1}, {api.MaxSectors, 65537, 65537},
		{api.MaxSectors, 0, 256}, {api.MaxSectors, 100, 0},
		{6, 1, 1}, {7, 1, 5}, {7, 2, 1}, {5, 1, 1}, {1, 1, 1}, {2, 1, 1}, {3, 1, 1}, {105, 100, 1}, {69, 1, 256}, {168, 100, 256},
	}
}

func TestNumbersThatMakeNoStoreAreRefused(t *testing.T) {
	for _, n := range noStores() {
		d := painted(t, n[0])
		dark := d.Clone()
		darken(dark)
		for _, on := range []*disk.Disk{d, dark} {
			wantUnmoved(t, "Format", on, func() {
				wantErr(t, "Format", Format(on, n[1], n[2]), api.ErrArg)
			})
		}
	}
}

func TestTheEdgesOfTheNumbers(t *testing.T) {
	for _, n := range [][3]int{{7, 1, 1}, {8, 1, 5}, {8, 2, 1}, {106, 100, 1}, {70, 1, 256}, {169, 100, 256}, {api.MaxSectors, 100, 256}} {
		d := painted(t, n[0])
		wantErr(t, "Format", Format(d, n[1], n[2]), api.OK)
		s := mounted(t, d)
		wantInt(t, "Capacity", s.Capacity(), n[1])
		wantInt(t, "Inodes", s.Inodes(), n[2])
		if n[0] < api.MaxSectors {
			wantInt(t, "Blocks", s.Blocks(), 1)
		}
	}
}

func TestADiskThatIsNoneIsRefusedAheadOfAll(t *testing.T) {
	for _, d := range []*disk.Disk{nil, {}} {
		for _, n := range append(noStores(), [3]int{20, 3, 4}) {
			wantErr(t, "Format", Format(d, n[1], n[2]), api.ErrNil)
		}
		s, e := Mount(d)
		if s != nil || e != api.ErrNil {
			t.Errorf("Mount: %v, error %d", s, e)
		}
	}
}

// 5.1: Mount

func TestMountOfWhatFormatMade(t *testing.T) {
	for _, p := range places() {
		d := formatted(t, p)
		d.Limit(0)
		wantUnmoved(t, "Mount", d, func() {
			s := mounted(t, d)
			wantInt(t, "Table", s.Table(), p.table)
			wantInt(t, "Data", s.Data(), p.dataAt)
			wantInt(t, "Capacity", s.Capacity(), p.capacity)
			wantInt(t, "Blocks", s.Blocks(), p.sectors-p.dataAt)
			wantInt(t, "Inodes", s.Inodes(), p.inodes)
		})
	}
}

func TestMountOfAStoreLaidByHand(t *testing.T) {
	for _, p := range places() {
		d := painted(t, p.sectors)
		play(t, d, formatOps(p))
		wantInt(t, "Blocks", mounted(t, d).Blocks(), p.sectors-p.dataAt)
	}
}

// wrongs are supers that are not right on a disk of 20 sectors with the chapter's example.
func wrongs() map[string][]byte {
	over := func(at int, with ...byte) []byte {
		b := super(20, 3, 4)
		copy(b[at:], with)
		return b
	}
	sealed := func(at int, with ...byte) []byte { return seal(over(at, with...)) }
	return map[string][]byte{
		"noughts":                          full(0),
		"ones":                             full(255),
		"a log's header":                   logHead(0, nil),
		"another first byte":               sealed(0, 'X'),
		"another second byte":              sealed(1, 'X'),
		"another third byte":               sealed(2, 'X'),
		"another fourth byte":              sealed(3, 'X'),
		"a byte behind":                    sealed(10, 1),
		"a byte in between":                sealed(100, 128),
		"a byte ahead of sum":              sealed(251, 1),
		"another sum":                      over(252, 1, 2, 3, 4),
		"no sum":                           over(252, 0, 0, 0, 0),
		"the sum turned":                   over(252, reversed(super(20, 3, 4)[252:])...),
		"fewer sectors":                    super(19, 3, 4),
		"more sectors":                     super(21, 3, 4),
		"one turn behind":                  super(20+256, 3, 4),
		"no sectors":                       super(0, 3, 4),
		"capacity 0":                       super(20, 0, 4),
		"capacity 101":                     super(20, 101, 4),
		"capacity 65535":                   super(20, 65535, 4),
		"inodes 0":                         super(20, 3, 0),
		"inodes 257":                       super(20, 3, 257),
		"inodes 65535":                     super(20, 3, 65535),
		"a capacity without a data sector": super(20, 15, 4),
		"inodes without a data sector":     super(20, 3, 49),
	}
}

func reversed(b []byte) []byte {
	b = slices.Clone(b)
	slices.Reverse(b)
	return b
}

func wantNoStore(t *testing.T, what string, d *disk.Disk, want api.Errno) {
	t.Helper()
	wantUnmoved(t, what, d, func() {
		s, e := Mount(d)
		if s != nil || e != want {
			t.Errorf("Mount, %s: %v, error %d, want %d", what, s, e, want)
		}
	})
}

func TestASuperThatIsNotRight(t *testing.T) {
	for name, b := range wrongs() {
		d := formatted(t, small())
		lay(t, d, 0, b)
		wantNoStore(t, name, d, api.ErrSuper)
		lay(t, d, 1, full(9))
		wantNoStore(t, name+", without a log", d, api.ErrSuper)
		darken(d)
		wantNoStore(t, name+", without power", d, api.ErrPower)
	}
}

func TestASuperOfWhatFormatWouldNotMake(t *testing.T) {
	for _, n := range noStores() {
		if n[1] < 0 || n[1] > math.MaxUint16 || n[2] < 0 || n[2] > math.MaxUint16 {
			continue
		}
		d := painted(t, n[0])
		lay(t, d, 0, super(n[0], n[1], n[2]))
		if n[0] > 1 {
			lay(t, d, 1, logHead(0, nil))
		}
		wantNoStore(t, "a super", d, api.ErrSuper)
	}
}

func TestEachByteOfASuperThatIsChangedIsFound(t *testing.T) {
	good := formatted(t, small())
	for at := range api.Sector {
		for _, x := range []byte{1, 0x80, 0xff} {
			image := good.Image()
			image[at] ^= x
			d, _ := disk.Load(image)
			if s, e := Mount(d); s != nil || e != api.ErrSuper {
				t.Fatalf("byte %d xor %d: %v, error %d", at, x, s, e)
			}
		}
	}
}

func TestAnImageOnADiskOfAnotherSize(t *testing.T) {
	image := formatted(t, small()).Image()
	for _, more := range []int{-1, 1, 20} {
		other, _ := disk.Load(append(slices.Clone(image), make([]byte, 20*api.Sector)...)[:(20+more)*api.Sector])
		wantNoStore(t, "another size", other, api.ErrSuper)
	}
}

func TestMountWithoutALog(t *testing.T) {
	for _, b := range [][]byte{full(0), logHead(0, []int{4}, mixed(1)), logHead(0, []int{20}, mixed(1)), logHead(0, []int{5, 6, 7, 8}), super(20, 3, 4)} {
		d := formatted(t, small())
		lay(t, d, 1, b)
		lay(t, d, 2, mixed(1))
		wantNoStore(t, "no log", d, api.ErrLog)
		darken(d)
		wantNoStore(t, "no log, without power", d, api.ErrPower)
	}
}

func TestMountWithoutPower(t *testing.T) {
	d := formatted(t, small())
	darken(d)
	wantNoStore(t, "without power", d, api.ErrPower)
	d.Crash(nil)
	mounted(t, d)
}

func TestMountBringsHomeWhatIsLogged(t *testing.T) {
	l := []api.Block{{At: 5, Data: mixed(1)}, {At: 8, Data: mixed(2)}, {At: 19, Data: mixed(3)}}
	ops := commitOps(7, l)
	logged, rest := ops[:len(l)+3], ops[len(l)+3:]
	for n := range len(rest) + 1 {
		d := formatted(t, small())
		play(t, d, logged)
		want := d.Clone()
		play(t, want, rest[:n])
		d.Limit(n)
		s, e := Mount(d)
		if n == len(rest) {
			wantErr(t, "Mount", e, api.OK)
		} else if s != nil || e != api.ErrPower {
			t.Errorf("Mount behind %d operations: %v, error %d", n, s, e)
		}
		wantSame(t, "Mount", d, want)
	}
}

// 5.2

func TestTheChaptersExample(t *testing.T) {
	s, d := fresh(t, small())
	wantInt(t, "Blocks", s.Blocks(), 12)
	wantInt(t, "Inodes", s.Inodes(), 4)
	wantInt(t, "Table", s.Table(), 7)
	wantInt(t, "Data", s.Data(), 8)
	wantInt(t, "Capacity", s.Capacity(), 3)
	wantOn(t, d, 0, super(20, 3, 4))
	wantOn(t, d, 1, logHead(0, nil))
	wantOn(t, d, 5, append([]byte{255}, make([]byte, 255)...))
	wantOn(t, d, 6, full(0))
	wantOn(t, d, 7, full(0))
}

func TestBeginWhileATransactionGoesOn(t *testing.T) {
	s, d := fresh(t, small())
	x := begun(t, s)
	wantErr(t, "Write", x.Write(9, mixed(1)), api.OK)
	for range 2 {
		y, e := s.Begin()
		if y != nil || e != api.ErrBusy {
			t.Errorf("Begin: %v, error %d", y, e)
		}
	}
	darken(d)
	_, e := s.Begin()
	wantErr(t, "Begin without power", e, api.ErrBusy)
	d.Crash(nil)
	wantSeen(t, x, 9, mixed(1))
	wantInt(t, "Changed", x.Changed(), 1)
	wantErr(t, "Commit", x.Commit(), api.OK)
	wantOn(t, d, 9, mixed(1))
	y := begun(t, s)
	wantErr(t, "Abort", y.Abort(), api.OK)
	begun(t, s)
}

func TestBeginNeedsNoPower(t *testing.T) {
	s, d := fresh(t, small())
	darken(d)
	x := begun(t, s)
	wantErr(t, "Commit of nothing", x.Commit(), api.OK)
	begun(t, s)
}

func TestWhatIsFreeIsOfTheStore(t *testing.T) {
	s, d := fresh(t, places()[10])
	blocks, inodes := s.Blocks(), s.Inodes()
	wantInt(t, "Blocks", blocks, 4096-169)
	wantInt(t, "Inodes", inodes, 256)
	x := begun(t, s)
	for range 3 {
		x.Alloc()
	}
	x.NewInode()
	x.NewInode()
	wantInt(t, "Blocks, of a transaction that goes on", s.Blocks(), blocks)
	wantInt(t, "Inodes, of a transaction that goes on", s.Inodes(), inodes)
	wantErr(t, "Commit", x.Commit(), api.OK)
	wantInt(t, "Blocks", s.Blocks(), blocks-3)
	wantInt(t, "Inodes", s.Inodes(), inodes-2)
	x = begun(t, s)
	wantErr(t, "Free", x.Free(170), api.OK)
	wantErr(t, "FreeInode", x.FreeInode(0), api.OK)
	wantInt(t, "Blocks, of a transaction that goes on", s.Blocks(), blocks-3)
	wantErr(t, "Commit", x.Commit(), api.OK)
	wantInt(t, "Blocks", s.Blocks(), blocks-2)
	wantInt(t, "Inodes", s.Inodes(), inodes-1)
	again := mounted(t, d)
	wantInt(t, "Blocks, mounted again", again.Blocks(), blocks-2)
	wantInt(t, "Inodes, mounted again", again.Inodes(), inodes-1)
}

func TestWhatIsFreeIsOfTheDataAndTheInodesAlone(t *testing.T) {
	for _, p := range []place{small(), places()[6], places()[10]} {
		for _, c := range []byte{0, 0xff, 0x55} {
			s, d := fresh(t, p)
			for at := p.blockMap; at <= p.inodeMap; at++ {
				lay(t, d, at, full(c))
			}
			blocks, inodes := 0, 0
			for at := p.dataAt; at < p.sectors; at++ {
				blocks += int(^c >> (at % 8) & 1)
			}
			for n := range p.inodes {
				inodes += int(^c >> (n % 8) & 1)
			}
			wantInt(t, "Blocks", s.Blocks(), blocks)
			wantInt(t, "Inodes", s.Inodes(), inodes)
		}
	}
}

func TestAStoreWithoutPower(t *testing.T) {
	s, d := fresh(t, small())
	darken(d)
	wantInt(t, "Blocks", s.Blocks(), 0)
	wantInt(t, "Inodes", s.Inodes(), 0)
	wantInt(t, "Table", s.Table(), 7)
	wantInt(t, "Data", s.Data(), 8)
	wantInt(t, "Capacity", s.Capacity(), 3)
	d.Crash(nil)
	wantInt(t, "Blocks", s.Blocks(), 12)
	wantInt(t, "Inodes", s.Inodes(), 4)
}

func TestAStoreThatNoCallMade(t *testing.T) {
	for _, s := range []*Store{nil, {}} {
		for range 2 {
			x, e := s.Begin()
			if x != nil || e != api.ErrNil {
				t.Errorf("Begin: %v, error %d", x, e)
			}
		}
		wantInt(t, "Blocks", s.Blocks(), 0)
		wantInt(t, "Inodes", s.Inodes(), 0)
		wantInt(t, "Table", s.Table(), 0)
		wantInt(t, "Data", s.Data(), 0)
		wantInt(t, "Capacity", s.Capacity(), 0)
	}
}

// Rule 6: what two stores on one disk answer is told operation by operation.
func TestTwoStoresOnOneDisk(t *testing.T) {
	one, d := fresh(t, small())
	two := mounted(t, d)
	x, y := begun(t, one), begun(t, two)
	at, e := x.Alloc()
	wantGot(t, "Alloc", at, e, 8, api.OK)
	wantErr(t, "Commit", x.Commit(), api.OK)
	wantInt(t, "Blocks of the other", two.Blocks(), 11)
	at, e = y.Alloc()
	wantGot(t, "Alloc of the other", at, e, 9, api.OK)
	wantErr(t, "Abort", y.Abort(), api.OK)
}
