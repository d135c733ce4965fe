package store

import (
	"maps"
	"slices"

	"sutler/api"
)

// Tx is a transaction on its store.
type Tx struct {
	*Store
	changes map[int]sector // by their places, what the sectors are for the transaction alone
}

// goesOn tells whether a call made the transaction, and it is not over.
func (t *Tx) goesOn() bool { return t != nil && t.Store.made() && t.now == t }

// see tells a sector's bytes, as the transaction sees them. The disk is asked for those that it has
// changed, too: without power nothing is read.
func (t *Tx) see(at int) ([]byte, api.Errno) {
	b, e := t.disk.Read(at)
	if e != api.OK {
		return nil, e
	}
	if own, changed := t.changes[at]; changed {
		return own[:], api.OK
	}
	return b, api.OK
}

// take takes the first free one of these.
func (t *Tx) take(k stock) (int, api.Errno) {
	b, e := k.read(t.see)
	if e != api.OK {
		return 0, e
	}
	i, e := k.next(b)
	if e != api.OK {
		return 0, e
	}
	t.turn(k, b, i)
	return i, api.OK
}

// release makes that one of these free.
func (t *Tx) release(k stock, i int) api.Errno {
	b, e := k.read(t.see)
	if e != api.OK {
		return e
	}
	if !k.taken(b, i) {
		return api.ErrNone
	}
	t.turn(k, b, i)
	return api.OK
}

// turn makes of what is free what is taken, or the other way round, in a map whose bytes are b.
func (t *Tx) turn(k stock, b []byte, i int) {
	at, s := k.turned(b, i)
	t.changes[at] = s
}

// end makes room for another transaction, and keeps nothing of this one.
func (t *Tx) end() { t.now, t.changes = nil, nil }

// Read tells a sector's bytes, as the transaction sees them.
func (t *Tx) Read(at int) ([]byte, api.Errno) {
	if !t.goesOn() {
		return nil, api.ErrNil
	}
	return t.see(at)
}

// Write gives a sector other bytes, for the transaction.
func (t *Tx) Write(at int, b []byte) api.Errno {
	if !t.goesOn() {
		return api.ErrNil
	}
	if at < t.blockMap() || at >= t.sectors || len(b) != api.Sector {
		return api.ErrArg
	}
	t.changes[at] = sectorOf(b)
	return api.OK
}

// Alloc takes the first free data sector, and makes its bytes noughts.
func (t *Tx) Alloc() (int, api.Errno) {
	if !t.goesOn() {
		return 0, api.ErrNil
	}
	at, e := t.take(t.blocks())
	if e != api.OK {
		return 0, e
	}
	t.changes[at] = sector{}
	return at, api.OK
}

// Free makes a data sector free.
func (t *Tx) Free(at int) api.Errno {
	if !t.goesOn() {
		return api.ErrNil
	}
	return t.release(t.blocks(), at)
}

// NewInode takes the first free inode.
func (t *Tx) NewInode() (int, api.Errno) {
	if !t.goesOn() {
		return 0, api.ErrNil
	}
	return t.take(t.nodes())
}

// FreeInode makes an inode free.
func (t *Tx) FreeInode(n int) api.Errno {
	if !t.goesOn() {
		return api.ErrNil
	}
	return t.release(t.nodes(), n)
}

// Taken tells whether an inode is taken.
func (t *Tx) Taken(n int) bool {
	if !t.goesOn() {
		return false
	}
	b, e := t.nodes().read(t.see)
	return e == api.OK && t.nodes().taken(b, n)
}

// Table tells where the store's table begins.
func (t *Tx) Table() int {
	if !t.goesOn() {
		return 0
	}
	return t.table()
}

// Changed tells how many sectors are changed.
func (t *Tx) Changed() int {
	if !t.goesOn() {
		return 0
	}
	return len(t.changes)
}

// Commit brings all changes into the store, or none.
func (t *Tx) Commit() api.Errno {
	if !t.goesOn() {
		return api.ErrNil
	}
	l := t.changed()
	t.end()
	return t.wal.Commit(l)
}

// changed is what is to be written, rising by place.
func (t *Tx) changed() []api.Block {
	l := make([]api.Block, 0, len(t.changes))
	for _, at := range slices.Sorted(maps.Keys(t.changes)) {
		s := t.changes[at]
		l = append(l, api.Block{At: at, Data: s[:]})
	}
	return l
}

// Abort leaves the store as it is.
func (t *Tx) Abort() api.Errno {
	if !t.goesOn() {
		return api.ErrNil
	}
	t.end()
	return api.OK
}
