package store

import (
	"math/rand"
	"testing"

	"sutler/api"
)

// model is a store as plain bytes, and a transaction as other bytes.
type model struct {
	place
	store   []byte
	own     []byte
	touched map[int]bool
}

func (m *model) begin() {
	m.own = append([]byte(nil), m.store...)
	m.touched = map[int]bool{}
}

// bit is a bit of what the transaction sees, counted from the beginning of a sector.
func (m *model) bit(at, i int) (*byte, byte) { return &m.own[at*api.Sector+i/8], 1 << (i % 8) }

func (m *model) has(at, i int) bool {
	b, worth := m.bit(at, i)
	return *b&worth != 0
}

func (m *model) put(at, i int, on bool) {
	b, worth := m.bit(at, i)
	*b &^= worth
	if on {
		*b |= worth
	}
	m.touched[at+i/2048] = true
}

func (m *model) write(at int, b []byte) api.Errno {
	if at < m.blockMap || at >= m.sectors || len(b) != api.Sector {
		return api.ErrArg
	}
	copy(m.own[at*api.Sector:], b)
	m.touched[at] = true
	return api.OK
}

// take and give are of the bits of a map at a sector, from first on, below end.
func (m *model) take(at, first, end int) (int, api.Errno) {
	for i := first; i < end; i++ {
		if !m.has(at, i) {
			m.put(at, i, true)
			return i, api.OK
		}
	}
	return 0, api.ErrFull
}

func (m *model) give(at, first, end, i int) api.Errno {
	if i < first || i >= end || !m.has(at, i) {
		return api.ErrNone
	}
	m.put(at, i, false)
	return api.OK
}

func (m *model) commit() api.Errno {
	if len(m.touched) > m.capacity {
		return api.ErrFull
	}
	copy(m.store[m.blockMap*api.Sector:], m.own[m.blockMap*api.Sector:])
	return api.OK
}

// free is how many are free in the store.
func (m *model) free(at, first, end int) int {
	n := 0
	for i := first; i < end; i++ {
		if m.store[at*api.Sector+i/8]>>(i%8)&1 == 0 {
			n++
		}
	}
	return n
}

// step does one thing to a transaction and to the model.
func (m *model) step(t *testing.T, x *Tx, r *rand.Rand) {
	t.Helper()
	at, b := r.Intn(m.sectors+2)-1, mixed(byte(r.Intn(256)))
	switch r.Intn(9) {
	case 0, 1:
		got, e := x.Alloc()
		want, wantE := m.take(m.blockMap, m.dataAt, m.sectors)
		if wantE == api.OK {
			m.write(want, full(0))
		}
		wantGot(t, "Alloc", got, e, want, wantE)
	case 2, 3:
		wantErr(t, "Free", x.Free(at), m.give(m.blockMap, m.dataAt, m.sectors, at))
	case 4:
		got, e := x.NewInode()
		want, wantE := m.take(m.inodeMap, 0, m.inodes)
		wantGot(t, "NewInode", got, e, want, wantE)
	case 5:
		n := r.Intn(m.inodes+2) - 1
		wantBool(t, "Taken", x.Taken(n), n >= 0 && n < m.inodes && m.has(m.inodeMap, n))
		wantErr(t, "FreeInode", x.FreeInode(n), m.give(m.inodeMap, 0, m.inodes, n))
	case 6:
		wantErr(t, "Write", x.Write(at, b), m.write(at, b))
	case 7:
		wantErr(t, "Write", x.Write(at, b[:r.Intn(256)]), api.ErrArg)
	case 8:
		got, e := x.Read(at)
		if at < 0 || at >= m.sectors {
			wantErr(t, "Read", e, api.ErrArg)
			return
		}
		wantErr(t, "Read", e, api.OK)
		if at < 1 || at >= m.blockMap { // the log is another layer's
			wantBytes(t, "Read", got, m.own[at*api.Sector:][:api.Sector])
		}
	}
	wantInt(t, "Changed", x.Changed(), len(m.touched))
}

func TestAStoreAnswersAsPlainBytesWould(t *testing.T) {
	for seed, p := range []place{small(), crashed(), places()[3], {106, 60, 9, 62, 63, 64, 67}, {2056, 7, 3, 9, 11, 12, 13}} {
		r := rand.New(rand.NewSource(int64(seed)))
		s, d := fresh(t, p)
		if p.sectors > 2048 { // so that both sectors of the map are of use
			lay(t, d, p.blockMap, append(full(255)[:255], 0x3f))
		}
		m := &model{place: p, store: d.Image()}
		for range 150 {
			x := begun(t, s)
			m.begin()
			for range r.Intn(p.capacity + 3) {
				m.step(t, x, r)
			}
			if r.Intn(4) == 0 {
				wantErr(t, "Abort", x.Abort(), api.OK)
			} else {
				wantErr(t, "Commit", x.Commit(), m.commit())
			}
			wantInt(t, "Blocks", s.Blocks(), m.free(p.blockMap, p.dataAt, p.sectors))
			wantInt(t, "Inodes", s.Inodes(), m.free(p.inodeMap, 0, p.inodes))
			wantBytes(t, "the disk", d.Image()[p.blockMap*api.Sector:], m.store[p.blockMap*api.Sector:])
			if r.Intn(5) == 0 {
				d.Crash([]int{r.Int(), r.Int(), r.Int()})
				s = mounted(t, d)
			}
		}
	}
}
