package disk

import (
	"bytes"
	"math"
	"testing"

	"sutler/api"
)

// full is a sector of one byte.
func full(c byte) []byte { return bytes.Repeat([]byte{c}, api.Sector) }

// mixed is a sector whose bytes differ from one another.
func mixed(c byte) []byte {
	b := make([]byte, api.Sector)
	for i := range b {
		b[i] = byte(i) ^ c
	}
	return b
}

// fresh is a disk of so many sectors.
func fresh(t *testing.T, sectors int) *Disk {
	t.Helper()
	d, e := New(sectors)
	if e != api.OK || d == nil {
		t.Fatalf("New(%d): %v, %d", sectors, d, e)
	}
	return d
}

// write gives a sector these values, one behind the other.
func write(t *testing.T, d *Disk, at int, values ...byte) {
	t.Helper()
	for _, c := range values {
		wantErr(t, "Write", d.Write(at, full(c)), api.OK)
	}
}

func wantErr(t *testing.T, what string, got, want api.Errno) {
	t.Helper()
	if got != want {
		t.Errorf("%s: error %d, want %d", what, got, want)
	}
}

func wantInt(t *testing.T, what string, got, want int) {
	t.Helper()
	if got != want {
		t.Errorf("%s: %d, want %d", what, got, want)
	}
}

// wantImage holds a disk's bytes against sectors of one byte each.
func wantImage(t *testing.T, what string, got []byte, want string) {
	t.Helper()
	var all []byte
	for i := range len(want) {
		all = append(all, full(want[i])...)
	}
	if !bytes.Equal(got, all) {
		t.Errorf("%s: %q, want %q", what, firsts(got), want)
	}
}

// firsts is the first byte of each sector, to tell a disk by.
func firsts(image []byte) string {
	var s []byte
	for at := 0; at < len(image); at += api.Sector {
		s = append(s, image[at])
	}
	return string(s)
}

// wantRead holds what a sector reads as against a sector of one byte.
func wantRead(t *testing.T, d *Disk, at int, want byte) {
	t.Helper()
	b, e := d.Read(at)
	if e != api.OK || !bytes.Equal(b, full(want)) {
		t.Errorf("Read(%d): %.4q.., error %d, want %q", at, b, e, want)
	}
}

// wantSame holds all that two disks tell against each other.
func wantSame(t *testing.T, what string, got, want *Disk) {
	t.Helper()
	wantInt(t, what+": Sectors", got.Sectors(), want.Sectors())
	wantInt(t, what+": Ops", got.Ops(), want.Ops())
	wantInt(t, what+": Pending", got.Pending(), want.Pending())
	if !bytes.Equal(got.Image(), want.Image()) {
		t.Errorf("%s: Image %q, want %q", what, firsts(got.Image()), firsts(want.Image()))
	}
	if !bytes.Equal(got.Sure(), want.Sure()) {
		t.Errorf("%s: Sure %q, want %q", what, firsts(got.Sure()), firsts(want.Sure()))
	}
}

// 1.1

func TestNewTakesFromOneToMaxSectors(t *testing.T) {
	for _, n := range []int{1, 2, api.MaxSectors} {
		d := fresh(t, n)
		wantInt(t, "Sectors", d.Sectors(), n)
		if want := make([]byte, n*api.Sector); !bytes.Equal(d.Image(), want) || !bytes.Equal(d.Sure(), want) {
			t.Errorf("New(%d): not all 0", n)
		}
		b, e := d.Read(n - 1)
		if e != api.OK || !bytes.Equal(b, full(0)) {
			t.Errorf("New(%d): the last sector is %v, error %d", n, b, e)
		}
	}
	for _, n := range []int{0, -1, api.MaxSectors + 1, math.MaxInt, math.MinInt} {
		d, e := New(n)
		if d != nil || e != api.ErrArg {
			t.Errorf("New(%d): %v, error %d", n, d, e)
		}
	}
}

func TestNewHasNoLimit(t *testing.T) {
	loaded, _ := Load(full('x'))
	for _, d := range []*Disk{fresh(t, 1), loaded} {
		for range 5000 {
			wantErr(t, "Sync", d.Sync(), api.OK)
		}
		wantInt(t, "Ops", d.Ops(), 5000)
	}
}

func TestLoadIsSureOfTheImage(t *testing.T) {
	image := append(mixed(1), mixed(2)...)
	kept := bytes.Clone(image)
	d, e := Load(image)
	wantErr(t, "Load", e, api.OK)
	clear(image)
	if !bytes.Equal(d.Image(), kept) || !bytes.Equal(d.Sure(), kept) {
		t.Error("Load: other bytes than the image's")
	}
	wantInt(t, "Sectors", d.Sectors(), 2)
	wantInt(t, "Ops", d.Ops(), 0)
	wantInt(t, "Pending", d.Pending(), 0)
	wantErr(t, "Crash", d.Crash([]int{7, 7}), api.OK)
	if b, _ := d.Read(1); !bytes.Equal(b, mixed(2)) {
		t.Error("Load: a crash took a sector")
	}
}

func TestLoadRefusesOtherSizes(t *testing.T) {
	for _, n := range []int{0, 1, api.Sector - 1, api.Sector + 1, api.Sector * (api.MaxSectors + 1), api.Sector*api.MaxSectors - 1} {
		d, e := Load(make([]byte, n))
		if d != nil || e != api.ErrArg {
			t.Errorf("Load of %d bytes: %v, error %d", n, d, e)
		}
	}
	if d, e := Load(nil); d != nil || e != api.ErrArg {
		t.Errorf("Load(nil): %v, error %d", d, e)
	}
	d, e := Load(make([]byte, api.Sector*api.MaxSectors))
	if e != api.OK || d.Sectors() != api.MaxSectors {
		t.Errorf("Load of the most: error %d", e)
	}
}

func TestReadTellsTheLatest(t *testing.T) {
	d := fresh(t, 3)
	wantErr(t, "Write", d.Write(1, mixed(9)), api.OK)
	if b, e := d.Read(1); e != api.OK || !bytes.Equal(b, mixed(9)) {
		t.Errorf("Read: %v, error %d", b, e)
	}
	write(t, d, 1, 'a', 'b')
	wantRead(t, d, 1, 'b')
	wantErr(t, "Sync", d.Sync(), api.OK)
	wantRead(t, d, 1, 'b')
	write(t, d, 1, 'c')
	wantRead(t, d, 1, 'c')
}

func TestNoSuchSectorAndNoSuchBytes(t *testing.T) {
	d := fresh(t, 2)
	write(t, d, 0, 'a')
	before := d.Clone()
	for _, at := range []int{-1, 2, math.MaxInt, math.MinInt} {
		b, e := d.Read(at)
		if b != nil || e != api.ErrArg {
			t.Errorf("Read(%d): %v, error %d", at, b, e)
		}
		wantErr(t, "Write beside the disk", d.Write(at, full('x')), api.ErrArg)
	}
	for _, b := range [][]byte{nil, {}, full('x')[1:], append(full('x'), 'x')} {
		wantErr(t, "Write of other bytes", d.Write(0, b), api.ErrArg)
	}
	wantSame(t, "behind what was refused", d, before)
}

func TestWrittenBytesAreNotShared(t *testing.T) {
	d := fresh(t, 1)
	b := full('a')
	wantErr(t, "Write", d.Write(0, b), api.OK)
	b[0] = 'x'
	wantRead(t, d, 0, 'a')
	r, _ := d.Read(0)
	r[0] = 'x'
	wantRead(t, d, 0, 'a')
	d.Image()[0] = 'x'
	d.Sure()[0] = 'x'
	wantRead(t, d, 0, 'a')
	wantImage(t, "Sure", d.Sure(), "\x00")
	b = full('a')
	picks := []int{1, 2}
	wantErr(t, "Write", d.Write(0, b), api.OK)
	wantErr(t, "Crash", d.Crash(picks), api.OK)
	if !bytes.Equal(b, full('a')) || picks[0] != 1 || picks[1] != 2 {
		t.Error("what was handed in is changed")
	}
}

func TestSyncMakesSure(t *testing.T) {
	d := fresh(t, 3)
	write(t, d, 0, 'a', 'b')
	write(t, d, 2, 'c')
	wantImage(t, "Sure", d.Sure(), "\x00\x00\x00")
	wantErr(t, "Sync", d.Sync(), api.OK)
	wantImage(t, "Sure", d.Sure(), "b\x00c")
	wantInt(t, "Pending", d.Pending(), 0)
}

func TestValuesThatAreOverAreForgotten(t *testing.T) {
	d := fresh(t, 2)
	for range 3 {
		write(t, d, 0, 'a', 'b', 'c')
		wantErr(t, "Sync", d.Sync(), api.OK)
		write(t, d, 1, 'd', 'e')
		wantErr(t, "Crash", d.Crash([]int{1}), api.OK)
		wantInt(t, "values that are kept", len(d.values), 2)
	}
}

// 1.2

func TestLimitMakesThePowerGo(t *testing.T) {
	d := fresh(t, 2)
	d.Limit(2)
	write(t, d, 0, 'a')
	wantErr(t, "the last one", d.Sync(), api.OK)
	wantRead(t, d, 0, 'a') // the limit is come to, but the power is on till one more is asked for
	wantErr(t, "one more", d.Write(0, full('b')), api.ErrPower)
	if b, e := d.Read(0); b != nil || e != api.ErrPower {
		t.Errorf("Read: %v, error %d", b, e)
	}
	wantErr(t, "Write", d.Write(1, full('b')), api.ErrPower)
	wantErr(t, "Sync", d.Sync(), api.ErrPower)
	wantInt(t, "Ops", d.Ops(), 2)
	wantImage(t, "Image", d.Image(), "a\x00")
	wantErr(t, "Crash", d.Crash(nil), api.OK)
	write(t, d, 0, 'c', 'd', 'e')
	wantRead(t, d, 0, 'e')
	wantInt(t, "Ops", d.Ops(), 5)
}

func TestLimitCountsFromWhereItIsSet(t *testing.T) {
	d := fresh(t, 1)
	write(t, d, 0, 'a', 'b', 'c')
	d.Limit(9)
	d.Limit(1)
	write(t, d, 0, 'd')
	d.Limit(2)
	write(t, d, 0, 'e', 'f')
	for _, n := range []int{-1, -7, math.MinInt} {
		d.Limit(0)
		d.Limit(n)
		write(t, d, 0, 'g', 'h', 'i')
	}
	d.Limit(math.MaxInt)
	write(t, d, 0, 'j')
	d.Limit(0)
	wantRead(t, d, 0, 'j')
	wantErr(t, "Sync", d.Sync(), api.ErrPower)
}

func TestLimitDoesNotBringThePowerBack(t *testing.T) {
	d := fresh(t, 1)
	d.Limit(0)
	wantErr(t, "Sync", d.Sync(), api.ErrPower)
	for _, n := range []int{5, -1} {
		d.Limit(n)
		wantErr(t, "Sync", d.Sync(), api.ErrPower)
		_, e := d.Read(0)
		wantErr(t, "Read", e, api.ErrPower)
	}
}

func TestCrashTakesTheLimit(t *testing.T) {
	d := fresh(t, 1)
	d.Limit(1)
	wantErr(t, "Crash", d.Crash(nil), api.OK)
	write(t, d, 0, 'a', 'b', 'c')
}

func TestArgumentsAheadOfThePower(t *testing.T) {
	d := fresh(t, 1)
	d.Limit(0)
	wantErr(t, "Write", d.Write(1, full('a')), api.ErrArg)
	wantErr(t, "Write", d.Write(0, nil), api.ErrArg)
	wantRead(t, d, 0, 0) // what is refused as an argument does not make the power go
	wantErr(t, "Sync", d.Sync(), api.ErrPower)
	wantErr(t, "Write", d.Write(1, full('a')), api.ErrArg)
	wantErr(t, "Write", d.Write(0, full('a')[1:]), api.ErrArg)
	_, e := d.Read(-1)
	wantErr(t, "Read", e, api.ErrArg)
}

func TestCrashPicksOneOfTheValues(t *testing.T) {
	for _, x := range []struct {
		picks []int
		want  byte
	}{
		{nil, 'a'}, {[]int{}, 'a'}, {[]int{0}, 'a'}, {[]int{1}, 'b'}, {[]int{2}, 'c'}, {[]int{3}, 'a'}, {[]int{5}, 'c'},
		{[]int{1, 2, 3}, 'b'},
		{[]int{math.MaxInt64}, 'b'}, // 2^63 - 1 is 1 modulo 3
		{[]int{-1}, 'a'},            // 2^64 - 1 is 0 modulo 3
		{[]int{-2}, 'c'},            // 2^64 - 2 is 2 modulo 3
		{[]int{math.MinInt64}, 'c'}, // 2^63 is 2 modulo 3
	} {
		d := fresh(t, 1)
		write(t, d, 0, 'a')
		wantErr(t, "Sync", d.Sync(), api.OK)
		write(t, d, 0, 'b', 'c')
		wantErr(t, "Crash", d.Crash(x.picks), api.OK)
		wantRead(t, d, 0, x.want)
		wantImage(t, "Sure", d.Sure(), string(x.want))
		wantInt(t, "Pending", d.Pending(), 0)
		wantInt(t, "Ops", d.Ops(), 4)
	}
}

func TestCrashCountsWhatWasWrittenAsItWas(t *testing.T) {
	d := fresh(t, 1)
	write(t, d, 0, 'a')
	wantErr(t, "Sync", d.Sync(), api.OK)
	write(t, d, 0, 'a', 'b', 'b')
	wantInt(t, "Pending", d.Pending(), 1)
	for pick, want := range []byte("aabba") {
		c := d.Clone()
		wantErr(t, "Crash", c.Crash([]int{pick}), api.OK)
		wantRead(t, c, 0, want)
	}
}

func TestCrashGoesByRisingSectors(t *testing.T) {
	d := fresh(t, 6)
	write(t, d, 5, 'a')
	write(t, d, 1, 's')
	wantErr(t, "Sync", d.Sync(), api.OK)
	write(t, d, 4, 'b', 'c')
	write(t, d, 0, 'd')
	write(t, d, 2, 'e', 'f', 'g')
	for _, x := range []struct {
		picks []int
		want  string
	}{
		{nil, "\x00s\x00\x00\x00a"},
		{[]int{1}, "ds\x00\x00\x00a"},
		{[]int{0, 2}, "\x00sf\x00\x00a"},
		{[]int{1, 3, 1}, "dsg\x00ba"},
		{[]int{2, 4, 5, 1}, "\x00s\x00\x00ca"},
	} {
		c := d.Clone()
		wantErr(t, "Crash", c.Crash(x.picks), api.OK)
		wantImage(t, "Image", c.Image(), x.want)
		wantImage(t, "Sure", c.Sure(), x.want)
	}
}

func TestCrashBehindACrash(t *testing.T) {
	d := fresh(t, 2)
	write(t, d, 0, 'a', 'b')
	wantErr(t, "Crash", d.Crash([]int{1}), api.OK)
	write(t, d, 1, 'c')
	wantErr(t, "Crash", d.Crash([]int{1}), api.OK)
	wantImage(t, "Image", d.Image(), "ac")
	write(t, d, 0, 'x')
	wantErr(t, "Crash", d.Crash([]int{2}), api.OK)
	wantImage(t, "Image", d.Image(), "ac")
}

// 1.3

func TestCounts(t *testing.T) {
	d := fresh(t, 4)
	wantInt(t, "Sectors", d.Sectors(), 4)
	write(t, d, 3, 'a', 'b')
	write(t, d, 0, 'c')
	wantInt(t, "Ops", d.Ops(), 3)
	wantInt(t, "Pending", d.Pending(), 2)
	wantErr(t, "Sync", d.Sync(), api.OK)
	wantErr(t, "Sync", d.Sync(), api.OK)
	wantInt(t, "Ops", d.Ops(), 5)
	wantInt(t, "Pending", d.Pending(), 0)
	d.Read(0)
	d.Limit(9)
	d.Crash(nil)
	wantInt(t, "Ops", d.Ops(), 5)
}

func TestImageAndSureWithThePowerGone(t *testing.T) {
	d := fresh(t, 2)
	write(t, d, 0, 'a')
	wantErr(t, "Sync", d.Sync(), api.OK)
	write(t, d, 0, 'b')
	d.Limit(0)
	wantErr(t, "Write", d.Write(1, full('c')), api.ErrPower)
	wantImage(t, "Image", d.Image(), "b\x00")
	wantImage(t, "Sure", d.Sure(), "a\x00")
	wantInt(t, "Sectors", d.Sectors(), 2)
	wantInt(t, "Ops", d.Ops(), 3)
	wantInt(t, "Pending", d.Pending(), 1)
}

func TestCloneIsADiskOfItsOwn(t *testing.T) {
	d := fresh(t, 2)
	write(t, d, 0, 'a', 'b')
	c := d.Clone()
	wantSame(t, "the clone", c, d)
	write(t, c, 0, 'c')
	write(t, c, 1, 'd')
	wantImage(t, "the disk", d.Image(), "b\x00")
	wantInt(t, "Pending", d.Pending(), 1)
	wantErr(t, "Sync", d.Sync(), api.OK)
	wantImage(t, "the clone's Sure", c.Sure(), "\x00\x00")
	wantErr(t, "Crash", c.Crash([]int{2, 1}), api.OK)
	wantImage(t, "the clone", c.Image(), "bd")
	wantImage(t, "the disk", d.Image(), "b\x00")
}

func TestCloneHasTheLimitAndThePower(t *testing.T) {
	d := fresh(t, 1)
	d.Limit(1)
	c := d.Clone()
	wantErr(t, "Sync", c.Sync(), api.OK)
	wantErr(t, "Sync", c.Sync(), api.ErrPower)
	wantErr(t, "Sync of the clone of a dark disk", c.Clone().Sync(), api.ErrPower)
	_, e := c.Clone().Read(0)
	wantErr(t, "Read of the clone of a dark disk", e, api.ErrPower)
	wantErr(t, "Crash", c.Clone().Crash(nil), api.OK)
	wantErr(t, "Sync of the clone", c.Sync(), api.ErrPower)
	wantErr(t, "Sync of the disk", d.Sync(), api.OK)
}

// 1.4

func TestSyncedIsKept(t *testing.T) {
	for _, picks := range [][]int{nil, {1}, {0, 1, 2, 3}, {-1, -2, -3}, {math.MaxInt, math.MinInt, 1}} {
		d := fresh(t, 3)
		write(t, d, 0, 'a', 'b')
		write(t, d, 2, 'c')
		wantErr(t, "Sync", d.Sync(), api.OK)
		before := d.Clone()
		wantErr(t, "Crash", d.Crash(picks), api.OK)
		wantSame(t, "behind a crash", d, before)
		wantImage(t, "behind a crash", d.Image(), "b\x00c")
	}
}

// 1.5

func TestAnyChoiceComesOfSomePicks(t *testing.T) {
	d := fresh(t, 4)
	write(t, d, 1, 'a')
	write(t, d, 3, 'p')
	wantErr(t, "Sync", d.Sync(), api.OK)
	write(t, d, 3, 'q')
	write(t, d, 1, 'b')
	write(t, d, 3, 'r', 's')
	write(t, d, 1, 'c')
	seen := map[string]bool{}
	for i := range 3 {
		for j := range 4 {
			c := d.Clone()
			wantErr(t, "Crash", c.Crash([]int{i, j}), api.OK)
			want := "\x00" + "abc"[i:i+1] + "\x00" + "pqrs"[j:j+1]
			wantImage(t, "Image", c.Image(), want)
			seen[firsts(c.Image())] = true
		}
	}
	wantInt(t, "choices", len(seen), 12)
}

// 1.6

func TestALimitOfNDoesTheFirstN(t *testing.T) {
	steps := []func(*Disk) api.Errno{
		func(d *Disk) api.Errno { return d.Write(0, full('a')) },
		func(d *Disk) api.Errno { return d.Write(2, full('b')) },
		(*Disk).Sync,
		func(d *Disk) api.Errno { return d.Write(2, full('c')) },
		func(d *Disk) api.Errno { return d.Write(2, full('d')) },
		func(d *Disk) api.Errno { return d.Write(1, full('e')) },
		(*Disk).Sync,
		(*Disk).Sync,
		func(d *Disk) api.Errno { return d.Write(0, full('f')) },
	}
	for n := range len(steps) + 1 {
		cut, free := fresh(t, 3), fresh(t, 3)
		cut.Limit(n)
		for i, step := range steps {
			want := api.OK
			if i < n {
				wantErr(t, "without a limit", step(free), api.OK)
			} else {
				want = api.ErrPower
			}
			wantErr(t, "with a limit", step(cut), want)
		}
		wantInt(t, "Ops", cut.Ops(), n)
		wantSame(t, "cut", cut, free)
		cut.Crash([]int{1, 2, 3})
		free.Crash([]int{1, 2, 3})
		wantSame(t, "crashed", cut, free)
	}
}

// 1.7

func TestSectorsDoNotTouchOneAnother(t *testing.T) {
	const n = 5
	for at := range n {
		d := fresh(t, n)
		for i := range n {
			wantErr(t, "Write", d.Write(i, mixed(byte(i))), api.OK)
		}
		wantErr(t, "Sync", d.Sync(), api.OK)
		wantErr(t, "Write", d.Write(at, full('x')), api.OK)
		for _, pick := range []int{1, 0} {
			c := d.Clone()
			wantErr(t, "Crash", c.Crash([]int{pick, 1, 1, 1, 1}), api.OK)
			for i := range n {
				want := mixed(byte(i))
				if i == at && pick == 1 {
					want = full('x')
				}
				if b, e := c.Read(i); e != api.OK || !bytes.Equal(b, want) {
					t.Errorf("sector %d behind a write of %d, pick %d: %.4v.., error %d", i, at, pick, b, e)
				}
			}
		}
	}
}

// P1, P2 and the rules that hold everywhere

func TestDisksThatNoCallMade(t *testing.T) {
	for _, d := range []*Disk{nil, {}} {
		for _, at := range []int{0, -1, 9} {
			b, e := d.Read(at)
			if b != nil || e != api.ErrNil {
				t.Errorf("Read(%d): %v, error %d", at, b, e)
			}
			wantErr(t, "Write", d.Write(at, full('a')), api.ErrNil)
			wantErr(t, "Write", d.Write(at, nil), api.ErrNil)
		}
		d.Limit(0)
		wantErr(t, "Sync", d.Sync(), api.ErrNil)
		wantErr(t, "Crash", d.Crash([]int{1}), api.ErrNil)
		wantErr(t, "Crash", d.Crash(nil), api.ErrNil)
		wantInt(t, "Sectors", d.Sectors(), 0)
		wantInt(t, "Ops", d.Ops(), 0)
		wantInt(t, "Pending", d.Pending(), 0)
		if d.Image() != nil || d.Sure() != nil || d.Clone() != nil {
			t.Error("something of a disk that no call made")
		}
	}
}

func TestRefusedOperationsChangeNothing(t *testing.T) {
	d := fresh(t, 2)
	write(t, d, 0, 'a', 'b')
	before := d.Clone()
	d.Limit(0)
	for range 3 {
		wantErr(t, "Write", d.Write(0, full('x')), api.ErrPower)
		wantErr(t, "Write", d.Write(1, full('x')), api.ErrPower)
		wantErr(t, "Sync", d.Sync(), api.ErrPower)
	}
	wantSame(t, "behind what was refused", d, before)
	wantErr(t, "Crash", d.Crash([]int{1, 1}), api.OK)
	wantImage(t, "Image", d.Image(), "a\x00")
}

// plain is a disk told by lists: of each sector its values since the last sync.
type plain struct {
	values [][][]byte
	ops    int
	limit  int
	dark   bool
}

func plainOf(sectors int) *plain {
	p := &plain{limit: -1}
	for range sectors {
		p.values = append(p.values, [][]byte{full(0)})
	}
	return p
}

func (p *plain) take() api.Errno {
	if p.dark || p.limit == 0 {
		p.dark = true
		return api.ErrPower
	}
	p.limit--
	p.ops++
	return api.OK
}

func (p *plain) write(at int, b []byte) api.Errno {
	if at < 0 || at >= len(p.values) || len(b) != api.Sector {
		return api.ErrArg
	}
	e := p.take()
	if e == api.OK {
		p.values[at] = append(p.values[at], b)
	}
	return e
}

func (p *plain) sync() api.Errno {
	e := p.take()
	if e == api.OK {
		for at, l := range p.values {
			p.values[at] = l[len(l)-1:]
		}
	}
	return e
}

func (p *plain) crash(picks []int) {
	j := 0
	for at, l := range p.values {
		if len(l) == 1 {
			continue
		}
		pick := 0
		if j < len(picks) {
			pick = int(uint64(picks[j]) % uint64(len(l)))
		}
		p.values[at] = l[pick : pick+1]
		j++
	}
	p.limit, p.dark = -1, false
}

func (p *plain) images() (latest, sure []byte, pending int) {
	for _, l := range p.values {
		latest = append(latest, l[len(l)-1]...)
		sure = append(sure, l[0]...)
		if len(l) > 1 {
			pending++
		}
	}
	return latest, sure, pending
}

func (p *plain) hold(t *testing.T, d *Disk) {
	t.Helper()
	latest, sure, pending := p.images()
	if !bytes.Equal(d.Image(), latest) || !bytes.Equal(d.Sure(), sure) || d.Pending() != pending || d.Ops() != p.ops {
		t.Fatalf("the disk: %q, %q, %d, %d; want %q, %q, %d, %d", firsts(d.Image()), firsts(d.Sure()), d.Pending(), d.Ops(), firsts(latest), firsts(sure), pending, p.ops)
	}
	for at, l := range p.values {
		b, e := d.Read(at)
		if p.dark && (e != api.ErrPower || b != nil) || !p.dark && (e != api.OK || !bytes.Equal(b, l[len(l)-1])) {
			t.Fatalf("Read(%d): %.4v.., error %d", at, b, e)
		}
	}
}

func TestAgainstAPlainDisk(t *testing.T) {
	seed := uint64(1)
	next := func(n int) int { // numbers that are the same in each run
		seed = seed*6364136223846793005 + 1442695040888963407
		return int(seed>>33) % n
	}
	const sectors = 5
	d, p := fresh(t, sectors), plainOf(sectors)
	for range 20000 {
		switch k := next(20); {
		case k < 12:
			at, b := next(sectors+2)-1, mixed(byte(next(256)))
			wantErr(t, "Write", d.Write(at, b), p.write(at, b))
		case k < 15:
			wantErr(t, "Sync", d.Sync(), p.sync())
		case k < 17:
			n := next(12) - 2
			d.Limit(n)
			p.limit = n
		case k < 19:
			var picks []int
			for range next(sectors + 2) {
				picks = append(picks, next(12)-4)
			}
			wantErr(t, "Crash", d.Crash(picks), api.OK)
			p.crash(picks)
		default:
			d = d.Clone()
		}
		p.hold(t, d)
	}
}
