package tree

import (
	"slices"

	"sutler/api"
	"sutler/dirs"
	"sutler/inode"
)

// thingOf is what an inode is.
func (t *Tx) thingOf(n int) (thing, api.Errno) {
	i, e := inode.Get(t.Tx, n)
	if e != api.OK {
		return thing{}, e
	}
	return thing{n, i.Kind}, api.OK
}

// bytes tells all bytes of an inode.
func (t *Tx) bytes(n int) ([]byte, api.Errno) { return inode.Read(t.Tx, n, 0, api.MaxFile) }

// list tells the names that a directory has, with their inodes.
func (t *Tx) list(n int) ([]api.Name, api.Errno) {
	b, e := t.bytes(n)
	if e != api.OK {
		return nil, e
	}
	return dirs.Parse(b)
}

// look tells what has that name, which is one, in a directory.
func (t *Tx) look(in dir, name string) (thing, api.Errno) {
	l, e := t.list(in.inode)
	if e != api.OK {
		return thing{}, e
	}
	n, e := dirs.Look(l, name)
	if e != api.OK {
		return thing{}, api.OK
	}
	return t.thingOf(n)
}

// entry is the entry of that path which an inode is.
func (t *Tx) entry(path string, n int) (api.Entry, api.Errno) {
	i, e := inode.Get(t.Tx, n)
	if e != api.OK {
		return api.Entry{}, e
	}
	x := api.Entry{Path: path, Kind: i.Kind, Mode: i.Mode}
	if i.Kind == api.KDir {
		return x, api.OK
	}
	b, e := t.bytes(n)
	if e != api.OK {
		return api.Entry{}, e
	}
	x.Data = string(b)
	return x, api.OK
}

// lay gives an inode these bytes, and no others. What it has already is not written: a log has room
// for few sectors.
func (t *Tx) lay(n int, b []byte) api.Errno {
	was, e := t.bytes(n)
	if e != api.OK {
		return e
	}
	if e := inode.Cut(t.Tx, n, len(b)); e != api.OK {
		return e
	}
	for at := 0; at < len(b); at += api.Sector {
		end := min(at+api.Sector, len(b))
		if end <= len(was) && slices.Equal(was[at:end], b[at:end]) {
			continue
		}
		if e := inode.Write(t.Tx, n, at, b[at:end]); e != api.OK {
			return e
		}
	}
	return api.OK
}

// layList gives a directory these names.
func (t *Tx) layList(n int, l []api.Name) api.Errno {
	b, e := dirs.Print(l)
	if e != api.OK {
		return e
	}
	return t.lay(n, b)
}

// enter gives an inode a name in a directory that has these. Where they are as many as there may
// be, the transaction is over, as for want of any other room.
func (t *Tx) enter(p place, l []api.Name, n int) api.Errno {
	l, e := dirs.Add(l, p.name, n)
	if e == api.ErrFull {
		t.Abort()
	}
	if e != api.OK {
		return e
	}
	return t.layList(p.in.inode, l)
}

// create makes what is to be at a place where nothing is.
func (t *Tx) create(p place, kind, mode int, data string) api.Errno {
	n, e := inode.New(t.Tx, kind, mode)
	if e != api.OK {
		return e
	}
	if e := t.lay(n, []byte(data)); e != api.OK {
		return e
	}
	l, e := t.list(p.in.inode)
	if e != api.OK {
		return e
	}
	return t.enter(p, l, n)
}

// replace gives the file that is there another mode and other bytes.
func (t *Tx) replace(p place, mode int, data string) api.Errno {
	if e := t.lay(p.inode, []byte(data)); e != api.OK {
		return e
	}
	i, e := inode.Get(t.Tx, p.inode)
	if e != api.OK {
		return e
	}
	return inode.Set(t.Tx, p.inode, mode, i.Links)
}

// without tells the names of a place's directory but its own.
func (t *Tx) without(p place) ([]api.Name, api.Errno) {
	l, e := t.list(p.in.inode)
	if e != api.OK {
		return nil, e
	}
	return dirs.Remove(l, p.name)
}

// drop makes what is there be gone, and its name.
func (t *Tx) drop(p place) api.Errno {
	l, e := t.without(p)
	if e != api.OK {
		return e
	}
	if e := inode.Drop(t.Tx, p.inode); e != api.OK {
		return e
	}
	return t.layList(p.in.inode, l)
}

// move gives what is at a place another one. Where the directory stays, it is written once.
func (t *Tx) move(from, to place) api.Errno {
	l, e := t.without(from)
	if e != api.OK {
		return e
	}
	if from.in.inode != to.in.inode {
		if e := t.layList(from.in.inode, l); e != api.OK {
			return e
		}
		l, e = t.list(to.in.inode)
	}
	if e != api.OK {
		return e
	}
	return t.enter(to, l, from.inode)
}
