package tree

import (
	"strings"

	"sutler/api"
	"sutler/dirs"
)

// between stands between the names of a path, and ahead of a target that is gone from the root.
const between = "/"

// split tells a path's names; the root has none.
func split(path string) ([]string, api.Errno) {
	if len(path) > api.MaxPath {
		return nil, api.ErrLong
	}
	if path == "" {
		return nil, api.OK
	}
	names := strings.Split(path, between)
	for _, name := range names {
		if e := dirs.Check(name); e != api.OK {
			return nil, e
		}
	}
	return names, api.OK
}

// splitTarget tells a target's names, and whether they are gone from the root.
func splitTarget(target string) (names []string, fromRoot bool, e api.Errno) {
	path, fromRoot := strings.CutPrefix(target, between)
	if path == "" {
		return nil, false, api.ErrName
	}
	names, e = split(path)
	return names, fromRoot, e
}

// join is the path of a name in a directory.
func join(dir, name string) string {
	if dir == "" {
		return name
	}
	return dir + between + name
}

// thing is what has a name; where there is nothing, its kind is 0.
type thing struct{ inode, kind int }

// dir is a directory that was come to, with its path without any links.
type dir struct {
	inode int
	path  string
}

// root is where each way begins.
func root() dir { return dir{rootInode, ""} }

// into is the directory of that name in this one.
func (d dir) into(name string, inode int) dir { return dir{inode, join(d.path, name)} }

// place is where a path leads: to what is there, and the name that it has in its directory. The
// root's place has no name.
type place struct {
	thing
	in   dir
	name string
}

// path is the place's path without any links.
func (p place) path() string { return join(p.in.path, p.name) }

// within tells whether a place is in what is at another one, or anywhere below it.
func (p place) within(other place) bool {
	return strings.HasPrefix(p.in.path+between, other.path()+between)
}

// along goes along names, and tells the directory that they lead to. At a link the way is begun
// anew, with the link's names in its place.
func (t *Tx) along(names []string) (dir, api.Errno) {
	at := root()
way:
	for hops := 0; ; hops++ {
		for i, name := range names {
			x, e := t.look(at, name)
			if e != api.OK {
				return dir{}, e
			}
			switch x.kind {
			case 0:
				return dir{}, api.ErrNone
			case api.KDir:
				at = at.into(name, x.inode)
			case api.KLink:
				if hops == api.MaxHops {
					return dir{}, api.ErrLoop
				}
				at, names, e = t.follow(at, x, names[i+1:])
				if e != api.OK {
					return dir{}, e
				}
				continue way
			default:
				return dir{}, api.ErrKind
			}
		}
		return at, api.OK
	}
}

// follow tells from where a link in that directory is gone, and which names, with those that are
// left behind it.
func (t *Tx) follow(at dir, link thing, left []string) (dir, []string, api.Errno) {
	b, e := t.bytes(link.inode)
	if e != api.OK {
		return dir{}, nil, e
	}
	names, fromRoot, e := splitTarget(string(b))
	if e != api.OK {
		return dir{}, nil, e
	}
	if fromRoot {
		at = root()
	}
	return at, append(names, left...), api.OK
}

// where tells where a path leads.
func (t *Tx) where(path string) (place, api.Errno) {
	if !t.goesOn() {
		return place{}, api.ErrNil
	}
	names, e := split(path)
	if e != api.OK {
		return place{}, e
	}
	if len(names) == 0 {
		return place{thing: thing{rootInode, api.KDir}, in: root()}, api.OK
	}
	last := len(names) - 1
	in, e := t.along(names[:last])
	if e != api.OK {
		return place{}, e
	}
	x, e := t.look(in, names[last])
	if e != api.OK {
		return place{}, e
	}
	return place{x, in, names[last]}, api.OK
}

// taken tells where a path leads, where something has to be.
func (t *Tx) taken(path string) (place, api.Errno) {
	p, e := t.where(path)
	if e == api.OK && p.kind == 0 {
		return place{}, api.ErrNone
	}
	return p, e
}

// vacant tells where a path leads, where nothing may be.
func (t *Tx) vacant(path string) (place, api.Errno) {
	p, e := t.where(path)
	if e == api.OK && p.kind != 0 {
		return place{}, api.ErrSame
	}
	return p, e
}
