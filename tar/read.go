package tar

import (
	"sutler/api"
	"sutler/head"
	"sutler/path"
)

// reader reads members one by one.
type reader struct {
	next
	left    []byte
	entries []api.Entry
}

// Read tells the entries of an archive.
func Read(b []byte) ([]api.Entry, api.Errno) {
	r := &reader{left: b}
	if e := r.members(); e != api.OK {
		return nil, e
	}
	return r.entries, api.OK
}

// members reads all members, and the empty block behind them.
func (r *reader) members() api.Errno {
	for {
		block, ok := r.take(blockBytes)
		switch {
		case !ok:
			return api.ErrShort
		case head.Empty(block) && r.waiting:
			return api.ErrTar
		case head.Empty(block):
			return api.OK
		}
		if e := r.member(block); e != api.OK {
			return e
		}
	}
}

// take takes so many of the bytes that are left, if there are enough.
func (r *reader) take(size int) ([]byte, bool) {
	if size > len(r.left) {
		return nil, false
	}
	b := r.left[:size]
	r.left = r.left[size:]
	return b, true
}

// member reads the member of a header.
func (r *reader) member(block []byte) api.Errno {
	h, e := head.Parse(block)
	if e != api.OK {
		return e
	}
	if h.Kind != moreWords && h.Kind != noWords {
		h = r.hold(h)
	}
	blocks, ok := r.take(filled(h.Size))
	if !ok {
		return api.ErrShort
	}
	data := blocks[:h.Size]
	switch h.Kind {
	case linkMember:
		h.Mode = linkMode
		fallthrough
	case dirMember:
		if h.Size > 0 {
			return api.ErrTar
		}
		fallthrough
	case fileMember:
		return r.enter(h, data)
	case moreWords:
		return r.tell(data)
	case noWords:
		// Words that tell nothing are records all the same.
		_, e := Records(data)
		return e
	}
	return api.ErrTar
}

// enter makes an entry of a member. Only the root makes none.
func (r *reader) enter(h api.Head, data []byte) api.Errno {
	if len(r.entries) >= api.MaxItems {
		return api.ErrTar
	}
	p, e := path.Clean(h.Name)
	switch {
	case e != api.OK:
		return e
	case p == "" && h.Kind == dirMember:
		return api.OK
	case p == "":
		return api.ErrPath
	}
	entry := api.Entry{Path: p, Kind: kindOf(h.Kind), Mode: h.Mode, Data: string(data)}
	if e := r.mayStand(entry); e != api.OK {
		return e
	}
	if h.Kind == linkMember {
		to, e := path.Target(p, h.Link)
		if e != api.OK {
			return e
		}
		entry.Data = "/" + to
	}
	r.entries = append(r.entries, entry)
	return api.OK
}

// mayStand tells whether an entry may stand beside those ahead of it.
func (r *reader) mayStand(entry api.Entry) api.Errno {
	same := false
	for _, other := range r.entries {
		switch {
		case other.Path == entry.Path:
			// One that is under the entry may yet come, and is told first.
			same = true
		case keepsOut(other, entry) || keepsOut(entry, other):
			return api.ErrPath
		}
	}
	if same {
		return api.ErrSame
	}
	return api.OK
}

// keepsOut tells whether an entry has another one under it and may not, as it is no directory.
func keepsOut(entry, under api.Entry) bool {
	return entry.Kind != api.KDir && path.Under(under.Path, entry.Path)
}
