package wal

import (
	"sutler/api"
	"sutler/disk"
)

// room is where a log lies.
type room struct {
	disk     *disk.Disk
	at       int // of the header; the data lie behind it
	capacity int
}

// roomOn is the room of such a log. The place is held against what is left, as the sum of the two
// may go round.
func roomOn(d *disk.Disk, at, capacity int) (room, api.Errno) {
	sectors := d.Sectors()
	if sectors == 0 {
		return room{}, api.ErrNil
	}
	if capacity < 1 || capacity > api.MaxLog || at < 0 || at > sectors-1-capacity {
		return room{}, api.ErrArg
	}
	return room{d, at, capacity}, api.OK
}

// data is the first sector of the data.
func (r room) data() int { return r.at + 1 }

// home is the first sector behind the log.
func (r room) home() int { return r.data() + r.capacity }

// isHome tells whether a sector is in the home.
func (r room) isHome(at int) bool { return at >= r.home() && at < r.disk.Sectors() }

// write is the step that writes these sectors, in order.
func (r room) write(l ...api.Block) step {
	return func() api.Errno {
		for _, x := range l {
			if e := r.disk.Write(x.At, x.Data); e != api.OK {
				return e
			}
		}
		return r.disk.Sync()
	}
}

// ahead is l as it stands in the log's data.
func (r room) ahead(l []api.Block) []api.Block {
	ahead := make([]api.Block, 0, len(l))
	for i, x := range l {
		ahead = append(ahead, api.Block{At: r.data() + i, Data: x.Data})
	}
	return ahead
}

// header is the sector that logs l.
func (r room) header(turn int, l []api.Block) api.Block {
	h := headerOf(turn, l)
	return api.Block{At: r.at, Data: h[:]}
}

// read tells the header's turn and what it logs, each with its home.
func (r room) read() (int, []api.Block, api.Errno) {
	b, e := r.disk.Read(r.at)
	if e != api.OK {
		return 0, nil, e
	}
	h := headerFrom(b)
	l, e := r.logged(h)
	if e != api.OK {
		return 0, nil, e
	}
	if headerOf(h.turn(), l) != h {
		return 0, nil, api.ErrLog
	}
	return h.turn(), l, api.OK
}

// logged is what a header logs, if it is no more than the log holds and its homes are right.
func (r room) logged(h header) ([]api.Block, api.Errno) {
	if h.count() > r.capacity {
		return nil, api.ErrLog
	}
	var l []api.Block
	for i := range h.count() {
		at := h.homeOf(i)
		if !r.isHome(at) || i > 0 && at <= l[i-1].At {
			return nil, api.ErrLog
		}
		b, e := r.disk.Read(r.data() + i)
		if e != api.OK {
			return nil, e
		}
		l = append(l, api.Block{At: at, Data: b})
	}
	return l, api.OK
}
