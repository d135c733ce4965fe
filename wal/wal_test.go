package wal

import (
	"bytes"
	"encoding/binary"
	"hash/crc32"
	"math"
	"reflect"
	"slices"
	"testing"

	"sutler/api"
	"sutler/disk"
)

// full is a sector of one byte.
func full(c byte) []byte { return bytes.Repeat([]byte{c}, api.Sector) }

// mixed is a sector whose bytes differ from one another.
func mixed(c byte) []byte {
	b := make([]byte, api.Sector)
	for i := range b {
		b[i] = byte(i)*7 ^ c
	}
	return b
}

func block(at int, c byte) api.Block { return api.Block{At: at, Data: mixed(c)} }

// painted is a disk each of whose sectors has bytes of its own, for sure.
func painted(t *testing.T, sectors int) *disk.Disk {
	t.Helper()
	var image []byte
	for at := range sectors {
		image = append(image, full(byte(at%200)+1)...)
	}
	d, e := disk.Load(image)
	if e != api.OK {
		t.Fatalf("Load: error %d", e)
	}
	return d
}

// formatted is a painted disk with an empty log.
func formatted(t *testing.T, sectors, at, capacity int) *disk.Disk {
	t.Helper()
	d := painted(t, sectors)
	wantErr(t, "Format", Format(d, at, capacity), api.OK)
	return d
}

func opened(t *testing.T, d *disk.Disk, at, capacity int) *Wal {
	t.Helper()
	w, e := Open(d, at, capacity)
	if e != api.OK || w == nil {
		t.Fatalf("Open(%d, %d): %v, error %d", at, capacity, w, e)
	}
	return w
}

// head is a header as the chapter's words put it, reckoned without the package: the checksum is
// gzip's own.
func head(turn uint32, homes []int, data ...[]byte) []byte {
	b := []byte{0x53, 0x4c, 0x4f, 0x47}
	b = binary.LittleEndian.AppendUint32(b, turn)
	b = binary.LittleEndian.AppendUint16(b, uint16(len(homes)))
	for _, h := range homes {
		b = binary.LittleEndian.AppendUint16(b, uint16(h))
	}
	b = append(b, make([]byte, 252-len(b))...)
	return seal(b, data...)
}

// seal puts the checksum behind the first 252 bytes.
func seal(b []byte, data ...[]byte) []byte {
	b = slices.Clone(b[:252])
	sum := crc32.ChecksumIEEE(append(slices.Clone(b), bytes.Join(data, nil)...))
	return binary.LittleEndian.AppendUint32(b, sum)
}

// lay writes a header and its data by hand, for sure.
func lay(t *testing.T, d *disk.Disk, at int, header []byte, data ...[]byte) {
	t.Helper()
	for i, b := range append([][]byte{header}, data...) {
		wantErr(t, "Write", d.Write(at+i, b), api.OK)
	}
	wantErr(t, "Sync", d.Sync(), api.OK)
}

// op is an operation as the chapter has it; without data it is a sync.
type op struct {
	at   int
	data []byte
}

// opsOf is what a commit does, in order; l is rising.
func opsOf(at int, turn uint32, l []api.Block) []op {
	var ops []op
	var homes []int
	var data [][]byte
	for i, x := range l {
		ops = append(ops, op{at + 1 + i, x.Data})
		homes = append(homes, x.At)
		data = append(data, x.Data)
	}
	ops = append(ops, op{}, op{at, head(turn, homes, data...)}, op{})
	return append(ops, bringOps(at, turn, l)...)
}

// bringOps is what an opening does with sectors that are logged.
func bringOps(at int, turn uint32, l []api.Block) []op {
	var ops []op
	for _, x := range l {
		ops = append(ops, op{x.At, x.Data})
	}
	return append(ops, op{}, op{at, head(turn, nil)}, op{})
}

// play does operations on a disk by hand.
func play(t *testing.T, d *disk.Disk, ops []op) {
	t.Helper()
	for _, o := range ops {
		if o.data == nil {
			wantErr(t, "Sync", d.Sync(), api.OK)
		} else {
			wantErr(t, "Write", d.Write(o.at, o.data), api.OK)
		}
	}
}

func wantErr(t *testing.T, what string, got, want api.Errno) {
	t.Helper()
	if got != want {
		t.Errorf("%s: error %d, want %d", what, got, want)
	}
}

func wantInt(t *testing.T, what string, got, want int) {
	t.Helper()
	if got != want {
		t.Errorf("%s: %d, want %d", what, got, want)
	}
}

func wantInts(t *testing.T, what string, got, want []int) {
	t.Helper()
	if !slices.Equal(got, want) {
		t.Errorf("%s: %v, want %v", what, got, want)
	}
}

// wantSector holds a sector's bytes against others.
func wantSector(t *testing.T, d *disk.Disk, at int, want []byte) {
	t.Helper()
	b, e := d.Read(at)
	if e != api.OK || !bytes.Equal(b, want) {
		t.Errorf("sector %d: %.4x.., error %d, want %.4x..", at, b, e, want)
	}
}

// wantSame holds all that a crash may make of two disks against each other, as far as it is to be
// told from outside.
func wantSame(t *testing.T, what string, got, want *disk.Disk) {
	t.Helper()
	wantInt(t, what+": Ops", got.Ops(), want.Ops())
	wantInt(t, what+": Pending", got.Pending(), want.Pending())
	if !bytes.Equal(got.Image(), want.Image()) {
		t.Errorf("%s: another image", what)
	}
	if !bytes.Equal(got.Sure(), want.Sure()) {
		t.Errorf("%s: other sure bytes", what)
	}
}

// wantUnmoved does something and sees to it that the disk is as it was.
func wantUnmoved(t *testing.T, what string, d *disk.Disk, do func()) {
	t.Helper()
	was := d.Clone()
	do()
	wantSame(t, what, d, was)
}

// 4.1: Format

func TestFormatWritesTheEmptyHeaderOfTurnNought(t *testing.T) {
	for _, x := range []struct{ sectors, at, capacity int }{
		{8, 0, 3}, {8, 2, 3}, {8, 0, 7}, {8, 6, 1}, {2, 0, 1}, {api.MaxSectors, 7, api.MaxLog}, {api.MaxLog + 1, 0, api.MaxLog},
	} {
		d := painted(t, x.sectors)
		want := d.Clone()
		play(t, want, []op{{x.at, head(0, nil)}, {}})
		wantErr(t, "Format", Format(d, x.at, x.capacity), api.OK)
		wantSame(t, "Format", d, want)
	}
}

func TestFormatWritesOverWhatIsThere(t *testing.T) {
	d := formatted(t, 12, 1, 3)
	lay(t, d, 1, head(77, []int{6, 9}, mixed(1), mixed(2)), mixed(1), mixed(2))
	want := d.Clone()
	play(t, want, []op{{1, head(0, nil)}, {}})
	wantErr(t, "Format", Format(d, 1, 3), api.OK)
	wantSame(t, "Format", d, want)
	homes, e := Check(d, 1, 3)
	wantErr(t, "Check", e, api.OK)
	wantInts(t, "Check", homes, nil)
	wantInt(t, "Turn", opened(t, d, 1, 3).Turn(), 0)
}

// noLogs are places and capacities that make no log on a disk of that many sectors.
func noLogs(sectors int) [][2]int {
	return [][2]int{
		{0, 0}, {0, -1}, {0, math.MinInt}, {0, api.MaxLog + 1}, {0, math.MaxInt}, {-1, 1}, {-1, 3}, {math.MinInt, 3},
		{sectors - 1, 1}, {sectors, 1}, {sectors - 3, 3}, {sectors + 5, 1}, {math.MaxInt, 1}, {math.MaxInt - 1, 1},
		{math.MaxInt, math.MaxInt}, {math.MaxInt - 3, 3}, {-1, math.MaxInt}, {math.MinInt, math.MinInt},
	}
}

func TestAPlaceOrACapacityThatMakesNoLogIsRefused(t *testing.T) {
	for _, sectors := range []int{3, 8, 300} {
		d := painted(t, sectors)
		for at := range sectors {
			lay(t, d, at, head(0, nil))
		}
		dark := d.Clone()
		dark.Limit(0)
		dark.Sync()
		for _, x := range noLogs(sectors) {
			for _, on := range []*disk.Disk{d, dark} {
				wantUnmoved(t, "a place", on, func() {
					wantErr(t, "Format", Format(on, x[0], x[1]), api.ErrArg)
					homes, e := Check(on, x[0], x[1])
					if homes != nil || e != api.ErrArg {
						t.Errorf("Check%v of %d: %v, error %d", x, sectors, homes, e)
					}
					w, e := Open(on, x[0], x[1])
					if w != nil || e != api.ErrArg {
						t.Errorf("Open%v of %d: %v, error %d", x, sectors, w, e)
					}
				})
			}
		}
	}
}

func TestADiskThatIsNoneIsRefusedAheadOfAll(t *testing.T) {
	for _, d := range []*disk.Disk{nil, {}} {
		for _, x := range append(noLogs(8), [2]int{0, 3}) {
			wantErr(t, "Format", Format(d, x[0], x[1]), api.ErrNil)
			homes, e := Check(d, x[0], x[1])
			if homes != nil || e != api.ErrNil {
				t.Errorf("Check: %v, error %d", homes, e)
			}
			w, e := Open(d, x[0], x[1])
			if w != nil || e != api.ErrNil {
				t.Errorf("Open: %v, error %d", w, e)
			}
		}
	}
}

func TestFormatWithoutPower(t *testing.T) {
	for n := range 2 {
		d := painted(t, 8)
		want := d.Clone()
		play(t, want, []op{{1, head(0, nil)}}[:n])
		d.Limit(n)
		wantErr(t, "Format", Format(d, 1, 3), api.ErrPower)
		wantSame(t, "Format", d, want)
	}
}

// 4.1: Check and Open of headers that are right

// rights are headers that are right for a log at 2 of capacity 4 on a disk of 20 sectors.
func rights() map[string]struct {
	turn  uint32
	homes []int
} {
	return map[string]struct {
		turn  uint32
		homes []int
	}{
		"empty":         {0, nil},
		"empty, turned": {1 << 20, nil},
		"empty, last":   {math.MaxUint32, nil},
		"one":           {1, []int{7}},
		"the last one":  {1, []int{19}},
		"two":           {258, []int{7, 19}},
		"as many":       {math.MaxUint32, []int{8, 9, 15, 19}},
		"turn 0":        {0, []int{10, 11, 12}},
	}
}

// some is as many sectors as that.
func some(n int) [][]byte {
	var data [][]byte
	for i := range n {
		data = append(data, mixed(byte(40+i)))
	}
	return data
}

func TestCheckTellsTheHomes(t *testing.T) {
	for name, x := range rights() {
		d := painted(t, 20)
		data := some(len(x.homes))
		lay(t, d, 2, head(x.turn, x.homes, data...), data...)
		wantUnmoved(t, name, d, func() {
			homes, e := Check(d, 2, 4)
			wantErr(t, name, e, api.OK)
			wantInts(t, name, homes, x.homes)
			clear(homes)
			homes, _ = Check(d, 2, 4)
			wantInts(t, name+", again", homes, x.homes)
		})
	}
}

func TestOpenBringsHomeWhatIsLogged(t *testing.T) {
	for name, x := range rights() {
		d := painted(t, 20)
		data := some(len(x.homes))
		lay(t, d, 2, head(x.turn, x.homes, data...), data...)
		want := d.Clone()
		if len(x.homes) > 0 {
			var l []api.Block
			for i, at := range x.homes {
				l = append(l, api.Block{At: at, Data: data[i]})
			}
			play(t, want, bringOps(2, x.turn, l))
		}
		w := opened(t, d, 2, 4)
		wantSame(t, name, d, want)
		wantInt(t, name+": Turn", w.Turn(), int(x.turn))
		wantInt(t, name+": Home", w.Home(), 7)
		wantInt(t, name+": Capacity", w.Capacity(), 4)
	}
}

func TestOpenDoesAsFarAsThePowerGoes(t *testing.T) {
	l := []api.Block{block(9, 1), block(12, 2), block(19, 3)}
	ops := bringOps(2, 6, l)
	for n := range len(ops) {
		d := painted(t, 20)
		lay(t, d, 2, head(6, []int{9, 12, 19}, l[0].Data, l[1].Data, l[2].Data), l[0].Data, l[1].Data, l[2].Data)
		want := d.Clone()
		play(t, want, ops[:n])
		d.Limit(n)
		w, e := Open(d, 2, 4)
		if w != nil || e != api.ErrPower {
			t.Errorf("Open behind %d operations: %v, error %d", n, w, e)
		}
		wantSame(t, "Open", d, want)
	}
}

func TestALogWithAHomeOfNoSectors(t *testing.T) {
	d := formatted(t, 8, 3, 4)
	w := opened(t, d, 3, 4)
	wantInt(t, "Home", w.Home(), 8)
	wantErr(t, "Commit of nothing", w.Commit(nil), api.OK)
	for _, at := range []int{-1, 0, 3, 4, 7, 8, 9} {
		wantErr(t, "Commit", w.Commit([]api.Block{block(at, 1)}), api.ErrArg)
	}
	lay(t, d, 3, head(1, []int{8}, mixed(1)), mixed(1))
	_, e := Check(d, 3, 4)
	wantErr(t, "Check", e, api.ErrLog)
}

func TestCheckReadsOnlyTheDataThatAreLogged(t *testing.T) {
	d := painted(t, 20)
	lay(t, d, 2, head(1, []int{7, 8}, mixed(1), mixed(2)), mixed(1), mixed(2), full(9), full(9))
	homes, e := Check(d, 2, 4)
	wantErr(t, "Check", e, api.OK)
	wantInts(t, "Check", homes, []int{7, 8})
}

func TestALogOfAnotherCapacity(t *testing.T) {
	d := formatted(t, 20, 2, 4)
	wantInt(t, "Home", opened(t, d, 2, 9).Home(), 12)
	lay(t, d, 2, head(1, []int{12, 13}, mixed(1), mixed(2)), mixed(1), mixed(2))
	for capacity, want := range map[int]api.Errno{1: api.ErrLog, 2: api.OK, 9: api.OK, 10: api.ErrLog} {
		_, e := Check(d, 2, capacity)
		wantErr(t, "Check", e, want)
	}
}

// 4.1: headers that are not right

// wrongs are headers that are not right for a log at 2 of capacity 4 on a disk of 20 sectors,
// whose data sectors are some(4).
func wrongs() map[string][]byte {
	data := some(4)
	over := func(b []byte, at int, with ...byte) []byte {
		b = slices.Clone(b)
		copy(b[at:], with)
		return b
	}
	sealed := func(homes []int, at int, with ...byte) []byte {
		return seal(over(head(5, homes, data[:min(4, len(homes))]...), at, with...), data[:min(4, len(homes))]...)
	}
	return map[string][]byte{
		"noughts":                            full(0),
		"ones":                               full(255),
		"another first byte":                 sealed(nil, 0, 'X'),
		"another second byte":                sealed(nil, 1, 'X'),
		"another third byte":                 sealed(nil, 2, 'X'),
		"another fourth byte":                sealed([]int{8}, 3, 'X'),
		"too many":                           head(5, []int{8, 9, 10, 11, 12}, some(5)...),
		"far too many":                       sealed(nil, 8, 255, 255),
		"101":                                sealed(nil, 8, 101, 0),
		"256":                                sealed(nil, 8, 0, 1),
		"count 1, home 0":                    seal(over(head(5, nil), 8, 1, 0), data[0]),
		"home ahead of the log":              head(5, []int{1}, data[:1]...),
		"home at the header":                 head(5, []int{2}, data[:1]...),
		"home in the data":                   head(5, []int{6}, data[:1]...),
		"home behind the disk":               head(5, []int{20}, data[:1]...),
		"home far behind":                    head(5, []int{7, 65535}, data[:2]...),
		"homes falling":                      head(5, []int{9, 8}, data[:2]...),
		"homes falling at the end":           head(5, []int{7, 9, 8}, data[:3]...),
		"homes the same":                     head(5, []int{9, 9}, data[:2]...),
		"homes the same at the end":          head(5, []int{8, 9, 10, 10}, data...),
		"a byte behind the count":            sealed(nil, 10, 1),
		"a byte behind the homes":            sealed([]int{8, 9}, 14, 1),
		"a byte ahead of the sum":            sealed([]int{8, 9}, 251, 1),
		"a sum without the data":             head(5, []int{8, 9}),
		"a sum of one of the data":           head(5, []int{8, 9}, data[0]),
		"a sum of too many data":             head(5, []int{8, 9}, data[:3]...),
		"a sum of the data turned":           head(5, []int{8, 9}, data[1], data[0]),
		"a sum of the wrong data":            head(5, []int{8, 9}, data[2], data[3]),
		"a sum of data, though it logs none": head(5, nil, data[0]),
		"a sum of nothing":                   over(head(5, nil), 252, 0, 0, 0, 0),
	}
}

func wantNoLog(t *testing.T, what string, d *disk.Disk) {
	t.Helper()
	wantUnmoved(t, what, d, func() {
		homes, e := Check(d, 2, 4)
		if homes != nil || e != api.ErrLog {
			t.Errorf("Check, %s: %v, error %d", what, homes, e)
		}
		w, e := Open(d, 2, 4)
		if w != nil || e != api.ErrLog {
			t.Errorf("Open, %s: %v, error %d", what, w, e)
		}
	})
}

func TestAHeaderThatIsNotRight(t *testing.T) {
	for name, b := range wrongs() {
		d := painted(t, 20)
		lay(t, d, 2, b, some(4)...)
		wantNoLog(t, name, d)
		d.Limit(0)
		d.Sync()
		_, e := Check(d, 2, 4)
		wantErr(t, name+", without power: Check", e, api.ErrPower)
		_, e = Open(d, 2, 4)
		wantErr(t, name+", without power: Open", e, api.ErrPower)
	}
}

func TestEachByteThatIsChangedIsFound(t *testing.T) {
	good := painted(t, 20)
	data := some(3)
	lay(t, good, 2, head(0x01020304, []int{8, 9, 10}, data...), data...)
	for at := range 4 * api.Sector {
		for _, x := range []byte{1, 0x80, 0xff} {
			image := good.Image()
			image[2*api.Sector+at] ^= x
			d, _ := disk.Load(image)
			if homes, e := Check(d, 2, 4); homes != nil || e != api.ErrLog {
				t.Fatalf("byte %d xor %d: %v, error %d", at, x, homes, e)
			}
		}
	}
}

func TestCheckAndOpenWithoutPower(t *testing.T) {
	d := formatted(t, 20, 2, 4)
	d.Limit(0)
	d.Sync()
	homes, e := Check(d, 2, 4)
	if homes != nil || e != api.ErrPower {
		t.Errorf("Check: %v, error %d", homes, e)
	}
	w, e := Open(d, 2, 4)
	if w != nil || e != api.ErrPower {
		t.Errorf("Open: %v, error %d", w, e)
	}
}

func TestCheckAndOpenOfAnEmptyLogNeedNoOperation(t *testing.T) {
	d := formatted(t, 20, 2, 4)
	d.Limit(0)
	wantUnmoved(t, "an empty log", d, func() {
		_, e := Check(d, 2, 4)
		wantErr(t, "Check", e, api.OK)
		opened(t, d, 2, 4)
	})
}

// 4.2

// commits are lists that may be committed to a log at 2 of capacity 4 on a disk of 20 sectors, as
// they are handed in; each goes on from the one before.
func commits() [][]api.Block {
	return [][]api.Block{
		{block(7, 1)},
		{block(19, 2)},
		{block(12, 3), block(7, 4)},
		{block(9, 5), block(8, 6), block(19, 7)},
		{block(7, 8), block(8, 9), block(9, 10), block(10, 11)},
		{block(19, 12), block(18, 13), block(17, 14), block(16, 15)},
	}
}

func sorted(l []api.Block) []api.Block {
	l = slices.Clone(l)
	slices.SortFunc(l, func(a, b api.Block) int { return a.At - b.At })
	return l
}

func TestCommitTakesTheSteps(t *testing.T) {
	d := formatted(t, 20, 2, 4)
	w := opened(t, d, 2, 4)
	want := d.Clone()
	for i, l := range commits() {
		wantErr(t, "Commit", w.Commit(l), api.OK)
		play(t, want, opsOf(2, uint32(i+1), sorted(l)))
		wantSame(t, "Commit", d, want)
		wantInt(t, "Turn", w.Turn(), i+1)
		for _, x := range l {
			wantSector(t, d, x.At, x.Data)
		}
	}
}

func TestCommitDoesAsFarAsThePowerGoes(t *testing.T) {
	for _, l := range commits() {
		ops := opsOf(2, 42, sorted(l))
		for n := range len(ops) {
			d := painted(t, 20)
			lay(t, d, 2, head(41, nil))
			w := opened(t, d, 2, 4)
			want := d.Clone()
			play(t, want, ops[:n])
			d.Limit(n)
			wantErr(t, "Commit", w.Commit(l), api.ErrPower)
			wantSame(t, "Commit", d, want)
			turn := 41
			if n >= len(l)+3 { // its header is synced
				turn = 42
			}
			wantInt(t, "Turn", w.Turn(), turn)
			wantSpent(t, w, d)
		}
	}
}

// wantSpent sees to it that a log that was cut is of no use, with the power on, too.
func wantSpent(t *testing.T, w *Wal, d *disk.Disk) {
	t.Helper()
	turn := w.Turn()
	for range 2 {
		wantUnmoved(t, "a log that was cut", d, func() {
			wantErr(t, "Commit", w.Commit([]api.Block{block(7, 1)}), api.ErrPower)
			wantErr(t, "Commit of nothing", w.Commit(nil), api.OK)
			wantErr(t, "Commit of nothing", w.Commit([]api.Block{}), api.OK)
			wantErr(t, "Commit outside", w.Commit([]api.Block{block(6, 1)}), api.ErrArg)
			wantErr(t, "Commit of too many", w.Commit(five()), api.ErrFull)
		})
		wantInt(t, "Turn", w.Turn(), turn)
		wantInt(t, "Home", w.Home(), 7)
		wantInt(t, "Capacity", w.Capacity(), 4)
		d.Crash(nil)
	}
	again := opened(t, d, 2, 4)
	wantErr(t, "Commit, opened again", again.Commit([]api.Block{block(7, 1)}), api.OK)
	wantErr(t, "Commit of the one that was cut", w.Commit([]api.Block{block(7, 1)}), api.ErrPower)
}

// five is one sector more than the capacity.
func five() []api.Block {
	return []api.Block{block(7, 1), block(8, 2), block(9, 3), block(10, 4), block(11, 5)}
}

func TestCommitRefuses(t *testing.T) {
	short, long := mixed(1)[:api.Sector-1], append(mixed(1), 0)
	for name, x := range map[string]struct {
		l    []api.Block
		want api.Errno
	}{
		"ahead of the log":          {[]api.Block{block(1, 1)}, api.ErrArg},
		"the header":                {[]api.Block{block(2, 1)}, api.ErrArg},
		"the last of the data":      {[]api.Block{block(8, 1), block(6, 1)}, api.ErrArg},
		"behind the disk":           {[]api.Block{block(8, 1), block(20, 1)}, api.ErrArg},
		"below 0":                   {[]api.Block{block(-1, 1)}, api.ErrArg},
		"far below":                 {[]api.Block{block(math.MinInt, 1)}, api.ErrArg},
		"far behind":                {[]api.Block{block(math.MaxInt, 1)}, api.ErrArg},
		"one turn behind":           {[]api.Block{block(8+65536, 1)}, api.ErrArg},
		"twice the same":            {[]api.Block{block(8, 1), block(8, 1)}, api.ErrArg},
		"twice, others between":     {[]api.Block{block(8, 1), block(9, 1), block(7, 1), block(8, 2)}, api.ErrArg},
		"too short":                 {[]api.Block{{At: 8, Data: short}}, api.ErrArg},
		"too long":                  {[]api.Block{block(9, 1), {At: 8, Data: long}}, api.ErrArg},
		"without bytes":             {[]api.Block{{At: 8}}, api.ErrArg},
		"too many":                  {five(), api.ErrFull},
		"too many, one outside":     {append(five(), block(6, 1)), api.ErrArg},
		"too many, one twice":       {append(five(), block(9, 1)), api.ErrArg},
		"too many, one too short":   {append(five(), api.Block{At: 12, Data: short}), api.ErrArg},
		"too many, the last behind": {append(five(), block(20, 1)), api.ErrArg},
	} {
		d := formatted(t, 20, 2, 4)
		w := opened(t, d, 2, 4)
		dark := formatted(t, 20, 2, 4)
		wd := opened(t, dark, 2, 4)
		dark.Limit(0)
		dark.Sync()
		wantUnmoved(t, name, d, func() { wantErr(t, name, w.Commit(x.l), x.want) })
		wantErr(t, name+", without power", wd.Commit(x.l), x.want)
		wantInt(t, name+": Turn", w.Turn(), 0)
		wantErr(t, name+", then another", w.Commit([]api.Block{block(8, 1)}), api.OK)
	}
}

func TestACommitOfNothingDoesNothing(t *testing.T) {
	d := formatted(t, 20, 2, 4)
	w := opened(t, d, 2, 4)
	for _, l := range [][]api.Block{nil, {}} {
		wantUnmoved(t, "nothing", d, func() { wantErr(t, "Commit", w.Commit(l), api.OK) })
	}
	d.Limit(0)
	wantErr(t, "Commit at the limit", w.Commit(nil), api.OK)
	d.Sync()
	wantErr(t, "Commit without power", w.Commit(nil), api.OK)
	wantInt(t, "Turn", w.Turn(), 0)
	d.Crash(nil)
	wantErr(t, "Commit of one", w.Commit([]api.Block{block(8, 1)}), api.OK)
}

func TestTheTurnsGoRound(t *testing.T) {
	d := painted(t, 20)
	lay(t, d, 2, head(math.MaxUint32, nil))
	w := opened(t, d, 2, 4)
	wantInt(t, "Turn", w.Turn(), math.MaxUint32)
	l := []api.Block{block(8, 1), block(9, 2)}
	want := d.Clone()
	play(t, want, opsOf(2, 0, l))
	wantErr(t, "Commit", w.Commit(l), api.OK)
	wantSame(t, "Commit", d, want)
	wantInt(t, "Turn", w.Turn(), 0)
	wantErr(t, "Commit", w.Commit(l), api.OK)
	wantInt(t, "Turn", w.Turn(), 1)
	wantInt(t, "Turn, opened again", opened(t, d, 2, 4).Turn(), 1)
	for _, turn := range []uint32{255, 65535, math.MaxInt32, math.MaxUint32 - 1} {
		lay(t, d, 2, head(turn, nil))
		w := opened(t, d, 2, 4)
		wantErr(t, "Commit", w.Commit(l), api.OK)
		wantInt(t, "Turn", w.Turn(), int(turn)+1)
		wantSector(t, d, 2, head(turn+1, nil))
	}
}

func TestHomeAndCapacity(t *testing.T) {
	for _, x := range []struct{ sectors, at, capacity, home int }{
		{8, 0, 3, 4}, {8, 0, 1, 2}, {8, 4, 3, 8}, {api.MaxSectors, 0, api.MaxLog, 101}, {api.MaxSectors, 3995, api.MaxLog, 4096},
	} {
		w := opened(t, formatted(t, x.sectors, x.at, x.capacity), x.at, x.capacity)
		wantInt(t, "Home", w.Home(), x.home)
		wantInt(t, "Capacity", w.Capacity(), x.capacity)
		wantInt(t, "Turn", w.Turn(), 0)
	}
}

func TestTheLongestLog(t *testing.T) {
	d := formatted(t, api.MaxSectors, 0, api.MaxLog)
	w := opened(t, d, 0, api.MaxLog)
	var l []api.Block
	for i := range api.MaxLog {
		l = append(l, block(api.MaxSectors-1-i, byte(i)))
	}
	want := d.Clone()
	play(t, want, opsOf(0, 1, sorted(l)))
	wantErr(t, "Commit", w.Commit(l), api.OK)
	wantSame(t, "Commit", d, want)
	wantErr(t, "Commit of one more", w.Commit(append(l, block(2000, 1))), api.ErrFull)
	cut := formatted(t, api.MaxSectors, 0, api.MaxLog)
	w = opened(t, cut, 0, api.MaxLog)
	cut.Limit(api.MaxLog + 3)
	wantErr(t, "Commit", w.Commit(l), api.ErrPower)
	wantErr(t, "Crash", cut.Crash(nil), api.OK)
	homes, e := Check(cut, 0, api.MaxLog)
	wantErr(t, "Check", e, api.OK)
	wantInt(t, "Check", len(homes), api.MaxLog)
	opened(t, cut, 0, api.MaxLog)
	if !bytes.Equal(cut.Image(), want.Image()) {
		t.Errorf("opened again: another image")
	}
}

// 4.3

// choices are several ways to pick what a crash leaves.
func choices() [][]int {
	var all [][]int
	for bits := range 16 {
		all = append(all, []int{bits & 1, bits >> 1 & 1, bits >> 2 & 1, bits >> 3 & 1, 1})
	}
	return append(all, nil, []int{2, 1, 2}, []int{-1, -1, -1, -1, -1})
}

// home is the bytes behind a log at 2 of capacity 4.
func home(d *disk.Disk) []byte { return d.Image()[7*api.Sector:] }

// reopen opens again and again, each time with the power going at the next one of these operations,
// till an Open answers OK; it tells whether the home is as the commit wants it.
func reopen(t *testing.T, d *disk.Disk, cuts []int, picks []int, old, wanted []byte) bool {
	t.Helper()
	for _, n := range cuts {
		d.Limit(n)
		if _, e := Open(d, 2, 4); e == api.OK {
			break
		} else {
			wantErr(t, "Open", e, api.ErrPower)
		}
		wantErr(t, "Crash", d.Crash(picks), api.OK)
	}
	d.Limit(-1)
	opened(t, d, 2, 4)
	is := bytes.Equal(home(d), wanted)
	if !is && !bytes.Equal(home(d), old) {
		t.Errorf("the home is neither as it was nor as it is wanted")
	}
	return is
}

func TestAllOrNone(t *testing.T) {
	first := []api.Block{block(7, 91), block(9, 92), block(11, 93)}
	second := []api.Block{block(11, 94), block(9, 95), block(10, 96)}
	for n := range 2*len(second) + 7 {
		for _, picks := range choices() {
			for _, cuts := range [][]int{nil, {0}, {1}, {2}, {3}, {4}, {5}, {6}, {3, 1}, {4, 4, 4}, {5, 2, 0, 5}} {
				d := formatted(t, 20, 2, 4)
				w := opened(t, d, 2, 4)
				wantErr(t, "Commit", w.Commit(first), api.OK)
				old := home(d)
				d.Limit(n)
				e := w.Commit(second)
				wanted := slices.Clone(old)
				for _, x := range second {
					copy(wanted[(x.At-7)*api.Sector:], x.Data)
				}
				wantErr(t, "Crash", d.Crash(picks), api.OK)
				is := reopen(t, d, cuts, picks, old, wanted)
				if e == api.OK && !is {
					t.Fatalf("cut behind %d, picks %v: committed, and gone", n, picks)
				}
				if n < len(second)+2 && is {
					t.Fatalf("cut behind %d, picks %v: there without a header", n, picks)
				}
				if n >= len(second)+3 && !is {
					t.Fatalf("cut behind %d, picks %v: its header was synced, and it is gone", n, picks)
				}
			}
		}
	}
}

func TestACutCommitIsFollowedByOthers(t *testing.T) {
	for n := range 10 {
		for _, picks := range choices() {
			d := formatted(t, 20, 2, 4)
			w := opened(t, d, 2, 4)
			d.Limit(n)
			wantErr(t, "Commit", w.Commit([]api.Block{block(8, 1), block(9, 2)}), api.ErrPower)
			d.Crash(picks)
			w = opened(t, d, 2, 4)
			turn := w.Turn()
			wantErr(t, "Commit", w.Commit([]api.Block{block(9, 3), block(10, 4)}), api.OK)
			wantInt(t, "Turn", w.Turn(), turn+1)
			d.Crash(picks)
			opened(t, d, 2, 4)
			wantSector(t, d, 9, mixed(3))
			wantSector(t, d, 10, mixed(4))
		}
	}
}

// 4.4

func TestOnceIsEnough(t *testing.T) {
	for n := range 12 {
		for _, picks := range choices() {
			d := formatted(t, 20, 2, 4)
			d.Limit(n + 1)
			if w, e := Open(d, 2, 4); e == api.OK {
				w.Commit([]api.Block{block(8, 1), block(9, 2), block(19, 3)})
			}
			d.Crash(picks)
			one := opened(t, d, 2, 4)
			wantUnmoved(t, "opened twice", d, func() {
				two := opened(t, d, 2, 4)
				wantInt(t, "Turn", two.Turn(), one.Turn())
				homes, e := Check(d, 2, 4)
				wantErr(t, "Check", e, api.OK)
				wantInts(t, "Check", homes, nil)
			})
		}
	}
}

// 4.5

func TestACommitTakesTwiceAsManyOperationsAndSix(t *testing.T) {
	d := formatted(t, 8, 0, 3)
	w := opened(t, d, 0, 3)
	wantInt(t, "Home", w.Home(), 4)
	before := d.Ops()
	wantErr(t, "Commit", w.Commit([]api.Block{block(7, 1), block(4, 2)}), api.OK)
	wantInt(t, "the chapter's example", d.Ops()-before, 10)
	big := formatted(t, api.MaxSectors, 5, api.MaxLog)
	w = opened(t, big, 5, api.MaxLog)
	var l []api.Block
	for n := 1; n <= api.MaxLog; n++ {
		l = append(l, block(200+3*n, byte(n)))
		before := big.Ops()
		wantErr(t, "Commit", w.Commit(l), api.OK)
		wantInt(t, "operations", big.Ops()-before, 2*n+6)
	}
}

// 4.6

func TestOtherSectorsAreNeverWritten(t *testing.T) {
	l := []api.Block{block(15, 1), block(9, 2)}
	for n := range 12 {
		for _, picks := range choices() {
			d := formatted(t, 20, 2, 4)
			was := d.Image()
			w := opened(t, d, 2, 4)
			d.Limit(n)
			w.Commit(l)
			d.Crash(picks)
			opened(t, d, 2, 4)
			now := d.Image()
			for at := range 20 {
				mine := at >= 2 && at <= 4 || at == 9 || at == 15
				if !mine && !bytes.Equal(was[at*api.Sector:][:api.Sector], now[at*api.Sector:][:api.Sector]) {
					t.Fatalf("cut behind %d: sector %d is written", n, at)
				}
			}
		}
	}
}

// Rules

func TestALogThatNoCallMade(t *testing.T) {
	for _, w := range []*Wal{nil, {}} {
		for _, l := range [][]api.Block{nil, {}, {block(8, 1)}, {block(-1, 1)}, five(), {{}, {}}} {
			wantErr(t, "Commit", w.Commit(l), api.ErrNil)
		}
		wantInt(t, "Turn", w.Turn(), 0)
		wantInt(t, "Home", w.Home(), 0)
		wantInt(t, "Capacity", w.Capacity(), 0)
	}
}

func TestWhatIsHandedInStays(t *testing.T) {
	for _, l := range append(commits(), five(), []api.Block{block(9, 1), block(8, 2), block(9, 3)}) {
		d := formatted(t, 20, 2, 4)
		w := opened(t, d, 2, 4)
		var was []api.Block
		for _, x := range l {
			was = append(was, api.Block{At: x.At, Data: slices.Clone(x.Data)})
		}
		w.Commit(l)
		if !reflect.DeepEqual(l, was) {
			t.Errorf("Commit changed its list: %v", l)
		}
	}
}

func TestNothingHandedInIsKept(t *testing.T) {
	d := formatted(t, 20, 2, 4)
	w := opened(t, d, 2, 4)
	l := []api.Block{block(9, 1), block(8, 2)}
	wantErr(t, "Commit", w.Commit(l), api.OK)
	clear(l[0].Data)
	clear(l[1].Data)
	l[0].At, l[1].At = 3, 4
	wantSector(t, d, 9, mixed(1))
	wantSector(t, d, 8, mixed(2))
	wantErr(t, "Commit", w.Commit([]api.Block{block(10, 3)}), api.OK)
	wantSector(t, d, 9, mixed(1))
}

func TestTwoSectorsOfOneSlice(t *testing.T) {
	d := formatted(t, 20, 2, 4)
	w := opened(t, d, 2, 4)
	b := mixed(1)
	wantErr(t, "Commit", w.Commit([]api.Block{{At: 9, Data: b}, {At: 8, Data: b}}), api.OK)
	wantSector(t, d, 9, mixed(1))
	wantSector(t, d, 8, mixed(1))
}
