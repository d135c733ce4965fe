package inode

import (
	"encoding/binary"
	"maps"
	"math/rand"
	"slices"
	"testing"

	"sutler/api"
	"sutler/store"
)

// model is a store's files as lists of bytes, with the sectors that each of them has.
type model struct {
	place
	taken map[int]bool // data sectors
	files map[int]*modelFile
}

// modelFile is a file of the model: its blocks by their numbers, and its blocks of numbers: 0 and 1
// for the single and the double one, from 2 on those of level one.
type modelFile struct {
	api.Inode
	bytes          []byte
	blocks, tables map[int]int
}

func (m *model) clone() *model {
	c := &model{m.place, maps.Clone(m.taken), map[int]*modelFile{}}
	for n, f := range m.files {
		c.files[n] = &modelFile{f.Inode, slices.Clone(f.bytes), maps.Clone(f.blocks), maps.Clone(f.tables)}
	}
	return c
}

// alloc tells the first free sector, 0 if there is none.
func (m *model) alloc() int {
	for at := m.dataAt; at < m.sectors; at++ {
		if !m.taken[at] {
			m.taken[at] = true
			return at
		}
	}
	return 0
}

// need sees to it that there is an entry; it tells whether there is room for it.
func (m *model) need(in map[int]int, key int) bool {
	if in[key] == 0 {
		in[key] = m.alloc()
	}
	return in[key] != 0
}

// tablesOf are those on the way to block i.
func tablesOf(i int) []int {
	switch {
	case i < 8:
		return nil
	case i < 136:
		return []int{0}
	}
	return []int{1, 2 + (i-136)/128}
}

func (m *model) create(kind, mode int) (int, api.Errno) {
	for n := range m.inodes {
		if m.files[n] == nil {
			m.files[n] = &modelFile{api.Inode{Kind: kind, Mode: mode, Links: 1}, nil, map[int]int{}, map[int]int{}}
			return n, api.OK
		}
	}
	return 0, api.ErrFull
}

func (m *model) write(f *modelFile, at int, b []byte) api.Errno {
	if at+len(b) > api.MaxFile {
		return api.ErrLong
	}
	if len(b) == 0 {
		return api.OK
	}
	for i := at / 256; i <= (at+len(b)-1)/256; i++ {
		for _, k := range tablesOf(i) {
			if !m.need(f.tables, k) {
				return api.ErrFull
			}
		}
		if !m.need(f.blocks, i) {
			return api.ErrFull
		}
	}
	f.grow(max(f.Size, at+len(b)))
	copy(f.bytes[at:], b)
	return api.OK
}

func (f *modelFile) grow(size int) {
	f.Size = size
	f.bytes = append(f.bytes, make([]byte, size-len(f.bytes))...)
}

func (m *model) cut(f *modelFile, size int) {
	if size >= f.Size {
		f.grow(size)
		return
	}
	f.Size, f.bytes = size, f.bytes[:size]
	needed := map[int]bool{}
	for i, at := range f.blocks {
		if i*256 >= size {
			delete(m.taken, at)
			delete(f.blocks, i)
			continue
		}
		for _, k := range tablesOf(i) {
			needed[k] = true
		}
	}
	for k, at := range f.tables {
		if !needed[k] {
			delete(m.taken, at)
			delete(f.tables, k)
		}
	}
}

// used is what Blocks tells.
func (f *modelFile) used() []int {
	var l []int
	for _, i := range slices.Sorted(maps.Keys(f.blocks)) {
		l = append(l, f.blocks[i])
	}
	for _, k := range slices.Sorted(maps.Keys(f.tables)) {
		l = append(l, f.tables[k])
	}
	return l
}

// image is all sectors from the block map on that are taken; others are not in it.
func (m *model) image() map[int][]byte {
	all := map[int][]byte{}
	for at := m.blockMap; at < m.dataAt; at++ {
		all[at] = make([]byte, api.Sector)
	}
	put := func(at, place, n int) { binary.LittleEndian.PutUint16(all[at][place:], uint16(n)) }
	set := func(at, i int) { all[at+i/2048][i%2048/8] |= 1 << (i % 8) }
	for at := range m.sectors {
		if at < m.dataAt || m.taken[at] {
			set(m.blockMap, at)
		}
	}
	for n, f := range m.files {
		set(m.inodeMap, n)
		sector, at := m.table+n/4, n%4*64
		all[sector][at] = byte(f.Kind)
		put(sector, at+2, f.Mode)
		put(sector, at+4, f.Links)
		put(sector, at+6, f.Size)
		put(sector, at+8, f.Size>>16)
		for k, to := range f.tables {
			all[to] = make([]byte, api.Sector)
			if k < 2 {
				put(sector, at+26+2*k, to)
			}
		}
		for k, to := range f.tables {
			if k >= 2 {
				put(f.tables[1], 2*(k-2), to)
			}
		}
		for i, to := range f.blocks {
			all[to] = make([]byte, api.Sector)
			copy(all[to], f.bytes[256*i:])
			switch {
			case i < 8:
				put(sector, at+10+2*i, to)
			case i < 136:
				put(f.tables[0], 2*(i-8), to)
			default:
				put(f.tables[2+(i-136)/128], 2*((i-136)%128), to)
			}
		}
	}
	return all
}

// check holds all that a transaction sees against the model.
func (m *model) check(t *testing.T, x *store.Tx) {
	t.Helper()
	for at, want := range m.image() {
		b, e := x.Read(at)
		wantErr(t, "the transaction's Read", e, api.OK)
		if !slices.Equal(b, want) {
			t.Fatalf("the sector %d: %x, want %x", at, b, want)
		}
	}
	for n := range m.inodes {
		f := m.files[n]
		if f == nil {
			wantRefused(t, x, n, api.ErrNone)
			continue
		}
		wantInode(t, x, n, f.Inode)
		wantRead(t, x, n, 0, api.MaxFile, f.bytes)
		wantBlocks(t, x, n, f.used()...)
	}
}

// somewhere is a place or a size, mostly near to where another way begins.
func somewhere(r *rand.Rand) int {
	edges := []int{0, 256, 512, 2048, 2304, 136 * 256, 264 * 256, 300 * 256, 904 * 256, api.MaxFile}
	if r.Intn(4) == 0 {
		return r.Intn(api.MaxFile + 300)
	}
	return max(0, edges[r.Intn(len(edges))]+[]int{0, 0, -1, 1, -256, r.Intn(600) - 300}[r.Intn(6)])
}

// step does one thing to a transaction and to the model; it tells whether the transaction goes on.
func (m *model) step(t *testing.T, x *store.Tx, r *rand.Rand) bool {
	t.Helper()
	n := r.Intn(m.inodes)
	f, at := m.files[n], somewhere(r)
	var e, want api.Errno
	switch k := r.Intn(12); {
	case k < 2 || f == nil:
		var got, no int
		got, e = New(x, 1+at%3, at%4096)
		no, want = m.create(1+at%3, at%4096)
		wantInt(t, "New", got, no)
	case k < 7:
		b := mixed(r.Intn(900), byte(r.Intn(100)))
		if r.Intn(3) == 0 {
			b = b[:min(len(b), 2)]
		}
		e, want = Write(x, n, at, b), m.write(f, at, b)
	case k < 9 && at <= api.MaxFile:
		e = Cut(x, n, at)
		m.cut(f, at)
	case k < 10:
		e = Set(x, n, at%4096, at%65536)
		f.Mode, f.Links = at%4096, at%65536
	case k < 11:
		e = Drop(x, n)
		m.cut(f, 0)
		delete(m.files, n)
	default:
		count := r.Intn(2000)
		from := min(at, f.Size)
		wantRead(t, x, n, at, count, f.bytes[from:min(f.Size, from+count)])
	}
	wantErr(t, "a step", e, want)
	if e == api.ErrFull {
		wantOver(t, x)
	}
	return e != api.ErrFull
}

// steps does some things in a transaction; it tells whether that goes on.
func (m *model) steps(t *testing.T, x *store.Tx, r *rand.Rand) bool {
	for range r.Intn(12) {
		if !m.step(t, x, r) {
			return false
		}
		m.check(t, x)
	}
	return true
}

func TestFilesAnswerAsListsOfBytesWould(t *testing.T) {
	for seed, p := range []place{small(), {40, 9, 3, 11, 12, 13, 14}, {2100, 100, 20, 102, 104, 105, 110}, {130, 60, 7, 62, 63, 64, 66}} {
		r := rand.New(rand.NewSource(int64(seed)))
		s, d := fresh(t, p)
		m := &model{p, map[int]bool{}, map[int]*modelFile{}}
		for range 30 {
			x := begun(t, s)
			own := m.clone()
			if own.steps(t, x, r) && r.Intn(4) > 0 {
				if e := x.Commit(); e == api.OK {
					m = own
				} else {
					wantErr(t, "Commit", e, api.ErrFull)
				}
			}
			x.Abort()
			if r.Intn(5) == 0 {
				wantErr(t, "Crash", d.Crash([]int{r.Int(), r.Int()}), api.OK)
				s = mounted(t, d)
			}
			wantInt(t, "Blocks", s.Blocks(), p.data()-len(m.taken))
			wantInt(t, "Inodes", s.Inodes(), p.inodes-len(m.files))
			x = begun(t, s)
			m.check(t, x)
			wantErr(t, "Abort", x.Abort(), api.OK)
		}
	}
}
