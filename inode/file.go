package inode

import (
	"sutler/api"
	"sutler/bits"
	"sutler/store"
)

// recordBytes is how many bytes a record has, and numbersAt where its numbers begin in it.
const (
	recordBytes = 64
	numbersAt   = 10
)

// recordsOfSector is how many records one sector of the table has.
const recordsOfSector = api.Sector / recordBytes

// file is a file as a transaction sees it. Its numbers are in its record alone.
type file struct {
	api.Inode
	tx *store.Tx
	spot
}

// spot is a place in a sector; a file's is that of its record.
type spot struct{ sector, at int }

// field is where a number of an inode stands in its record, and how many bytes it has.
type field struct {
	at, bytes int
	of        *int
}

// fields are all of an inode that is kept.
func (f *file) fields() [4]field {
	return [4]field{{0, 1, &f.Kind}, {2, 2, &f.Mode}, {4, 2, &f.Links}, {6, 4, &f.Size}}
}

// fileAt is the file of an inode of which nothing is known.
func fileAt(t *store.Tx, n int) *file {
	return &file{tx: t, spot: spot{t.Table() + n/recordsOfSector, recordBytes * (n % recordsOfSector)}}
}

// open is the file of an inode that was made. The table's first sector is read for no other reason
// than to ask for the transaction and the power, which are told of ahead of an inode that there is
// not.
func open(t *store.Tx, n int) (*file, api.Errno) {
	if _, e := t.Read(t.Table()); e != api.OK {
		return nil, e
	}
	if !t.Taken(n) {
		return nil, api.ErrNone
	}
	f := fileAt(t, n)
	if e := f.load(); e != api.OK {
		return nil, e
	}
	if f.Kind == 0 {
		return nil, api.ErrNone
	}
	return f, api.OK
}

// load takes the inode out of its record.
func (f *file) load() api.Errno {
	b, e := f.tx.Read(f.sector)
	if e != api.OK {
		return e
	}
	for _, x := range f.fields() {
		*x.of, _ = bits.Get(b, f.at+x.at, x.bytes)
	}
	return api.OK
}

// change gives a sector other bytes, made of those that it has.
func (f *file) change(sector int, to func(b []byte) []byte) api.Errno {
	b, e := f.tx.Read(sector)
	if e != api.OK {
		return e
	}
	return f.tx.Write(sector, to(b))
}

// save puts the inode into its record.
func (f *file) save() api.Errno {
	return f.change(f.sector, func(b []byte) []byte {
		for _, x := range f.fields() {
			b, _ = bits.Put(b, f.at+x.at, x.bytes, *x.of)
		}
		return b
	})
}

// wipe makes noughts of the record.
func (f *file) wipe() api.Errno {
	return f.change(f.sector, func(b []byte) []byte {
		clear(b[f.at : f.at+recordBytes])
		return b
	})
}

// block tells the bytes of block i; where there is none they are noughts.
func (f *file) block(i int) ([]byte, api.Errno) {
	l, e := f.find(wayTo(i))
	if e != api.OK {
		return nil, e
	}
	if l.to == 0 {
		return make([]byte, api.Sector), api.OK
	}
	return f.tx.Read(l.to)
}

// read tells count bytes from a place on; below 0 there are none.
func (f *file) read(at, count int) ([]byte, api.Errno) {
	var all []byte
	for len(all) < count {
		b, e := f.block(at / api.Sector)
		if e != api.OK {
			return nil, e
		}
		b = b[at%api.Sector:]
		b = b[:min(len(b), count-len(all))]
		all, at = append(all, b...), at+len(b)
	}
	return all, api.OK
}

// write gives the file these bytes from a place on; its size stays.
func (f *file) write(at int, b []byte) api.Errno {
	for len(b) > 0 {
		from := at % api.Sector
		n := min(len(b), api.Sector-from)
		l, e := f.get(wayTo(at / api.Sector))
		if e != api.OK {
			return e
		}
		e = f.change(l.to, func(was []byte) []byte {
			copy(was[from:], b[:n])
			return was
		})
		if e != api.OK {
			return e
		}
		at, b = at+n, b[n:]
	}
	return api.OK
}

// cut gives the file that size, and frees what it does not need any more.
func (f *file) cut(size int) api.Errno {
	if size < f.Size {
		if e := f.freeFrom((size + api.Sector - 1) / api.Sector); e != api.OK {
			return e
		}
		if e := f.blank(size); e != api.OK {
			return e
		}
	}
	f.Size = size
	return f.save()
}

// freeFrom frees the blocks from i on, and the blocks of numbers that have none left.
func (f *file) freeFrom(i int) api.Errno {
	own, _, e := f.behind(f.record())
	if e != api.OK {
		return e
	}
	for _, l := range own {
		if l.leadsTo() < i {
			continue
		}
		if e := f.free(l); e != api.OK {
			return e
		}
	}
	if e := f.freeEmpty(wayToDouble()); e != api.OK {
		return e
	}
	return f.freeEmpty(wayToSingle())
}

// freeEmpty frees the block of numbers that a way leads to, if there is one and it has no number
// left, and ahead of it those that it tells of.
func (f *file) freeEmpty(w way) api.Errno {
	l, e := f.find(w)
	if e != api.OK || l.to == 0 {
		return e
	}
	told, e := f.next(l)
	if e != api.OK {
		return e
	}
	for _, x := range told {
		if x.whole() {
			continue
		}
		if e := f.freeEmpty(x.way); e != api.OK {
			return e
		}
	}
	left, e := f.next(l)
	if e != api.OK || len(left) > 0 {
		return e
	}
	return f.free(l)
}

// blank makes noughts of all bytes from a place on in the block that it lies in.
func (f *file) blank(at int) api.Errno {
	l, e := f.find(wayTo(at / api.Sector))
	if e != api.OK || l.to == 0 {
		return e
	}
	return f.change(l.to, func(b []byte) []byte {
		clear(b[at%api.Sector:])
		return b
	})
}
