package tree

import (
	"cmp"
	"slices"

	"sutler/api"
	"sutler/store"
)

// What the root is, and the modes of entries.
const (
	rootInode = 0
	rootMode  = 0o755
	linkMode  = 0o777
	maxMode   = 0o7777
)

// isMode tells whether an entry may have that mode.
func isMode(mode int) bool { return mode >= 0 && mode <= maxMode }

// Tx is a transaction on its tree: one on the tree's store, which alone knows what was changed.
type Tx struct{ *store.Tx }

// goesOn tells whether a call made the transaction, and it is not over: no table is at sector 0.
func (t *Tx) goesOn() bool { return t != nil && t.Table() > 0 }

// Mkdir makes a directory.
func (t *Tx) Mkdir(path string, mode int) api.Errno {
	p, e := t.vacant(path)
	if e != api.OK {
		return e
	}
	if !isMode(mode) {
		return api.ErrArg
	}
	return t.create(p, api.KDir, mode, "")
}

// Put makes a file, or gives one that is there other bytes and another mode.
func (t *Tx) Put(path, data string, mode int) api.Errno {
	p, e := t.where(path)
	switch {
	case e != api.OK:
		return e
	case p.kind != 0 && p.kind != api.KFile:
		return api.ErrKind
	case !isMode(mode):
		return api.ErrArg
	case len(data) > api.MaxFile:
		return api.ErrLong
	case p.kind == 0:
		return t.create(p, api.KFile, mode, data)
	}
	return t.replace(p, mode, data)
}

// Link makes a link.
func (t *Tx) Link(path, target string) api.Errno {
	p, e := t.vacant(path)
	if e != api.OK {
		return e
	}
	if _, _, e := splitTarget(target); e != api.OK {
		return e
	}
	return t.create(p, api.KLink, linkMode, target)
}

// Remove makes what is there be gone.
func (t *Tx) Remove(path string) api.Errno {
	if t.goesOn() && path == "" {
		return api.ErrArg
	}
	p, e := t.taken(path)
	if e != api.OK {
		return e
	}
	if e := t.mayGo(p); e != api.OK {
		return e
	}
	return t.drop(p)
}

// mayGo tells what forbids that what is there be gone.
func (t *Tx) mayGo(p place) api.Errno {
	if p.kind != api.KDir {
		return api.OK
	}
	l, e := t.list(p.inode)
	if e == api.OK && len(l) > 0 {
		return api.ErrEmpty
	}
	return e
}

// Rename gives what is there another place.
func (t *Tx) Rename(from, to string) api.Errno {
	if t.goesOn() && (from == "" || to == "") {
		return api.ErrArg
	}
	p, e := t.taken(from)
	if e != api.OK {
		return e
	}
	q, e := t.vacant(to)
	if e != api.OK {
		return e
	}
	if q.within(p) {
		return api.ErrArg
	}
	return t.move(p, q)
}

// Get tells the entry that is there.
func (t *Tx) Get(path string) (api.Entry, api.Errno) {
	p, e := t.taken(path)
	if e != api.OK {
		return api.Entry{}, e
	}
	return t.entry(p.path(), p.inode)
}

// List tells the names that a directory has, rising.
func (t *Tx) List(path string) ([]string, api.Errno) {
	p, e := t.taken(path)
	if e != api.OK {
		return nil, e
	}
	if p.kind != api.KDir {
		return nil, api.ErrKind
	}
	l, e := t.list(p.inode)
	if e != api.OK {
		return nil, e
	}
	var names []string
	for _, n := range l {
		names = append(names, n.Name)
	}
	return names, api.OK
}

// Walk tells all entries but the root, rising by path. Where there are more directories than
// inodes, one has two paths: a store that has such a one, made by hand, may have a directory within
// itself.
func (t *Tx) Walk() ([]api.Entry, api.Errno) {
	if !t.goesOn() {
		return nil, api.ErrNil
	}
	var all []api.Entry
	met := []dir{root()}
	for i := 0; i < len(met); i++ {
		if len(met) > api.MaxInodes {
			return nil, api.ErrDir
		}
		l, e := t.entries(met[i], func(sub dir) { met = append(met, sub) })
		if e != api.OK {
			return nil, e
		}
		all = append(all, l...)
	}
	slices.SortFunc(all, func(a, b api.Entry) int { return cmp.Compare(a.Path, b.Path) })
	return all, api.OK
}

// entries tells the entries that a directory has, and meets the directories among them.
func (t *Tx) entries(in dir, meet func(sub dir)) ([]api.Entry, api.Errno) {
	l, e := t.list(in.inode)
	if e != api.OK {
		return nil, e
	}
	var all []api.Entry
	for _, n := range l {
		sub := in.into(n.Name, n.Inode)
		x, e := t.entry(sub.path, sub.inode)
		if e != api.OK {
			return nil, e
		}
		all = append(all, x)
		if x.Kind == api.KDir {
			meet(sub)
		}
	}
	return all, api.OK
}

// Commit brings all changes into the tree, or none.
func (t *Tx) Commit() api.Errno {
	if !t.goesOn() {
		return api.ErrNil
	}
	return t.Tx.Commit()
}

// Abort leaves the tree as it is.
func (t *Tx) Abort() api.Errno {
	if !t.goesOn() {
		return api.ErrNil
	}
	return t.Tx.Abort()
}
