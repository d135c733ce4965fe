package tar

import (
	"slices"

	"sutler/api"
	"sutler/head"
)

// wordsName and wordsMode are what the header of more words tells.
const (
	wordsName = "pax"
	wordsMode = 0o644
)

// mostCut is how many bytes are left of a name or a link that words tell whole.
const mostCut = 100

// Write makes an archive of entries.
func Write(l []api.Entry) ([]byte, api.Errno) {
	if len(l) > api.MaxItems {
		return nil, api.ErrArg
	}
	var b []byte
	for _, entry := range l {
		all, e := members(entry)
		if e != api.OK {
			return nil, api.ErrArg
		}
		b = append(b, all...)
	}
	b = append(b, make([]byte, endBlocks*blockBytes)...)
	// Whatever may not be in an archive isn't read, or is read as something else.
	if read, e := Read(b); e != api.OK || !slices.Equal(read, l) {
		return nil, api.ErrArg
	}
	return b, api.OK
}

// members is an entry's member, with more words ahead of it where its header can't tell all.
func members(entry api.Entry) ([]byte, api.Errno) {
	h := api.Head{Name: entry.Path, Mode: entry.Mode, Kind: memberOf(entry.Kind)}
	data := entry.Data
	switch entry.Kind {
	case api.KDir:
		h.Name += "/"
	case api.KLink:
		h.Link, data = entry.Data, ""
	}
	words := ""
	if !fits(api.Head{Name: h.Name, Kind: h.Kind}) {
		words += Record(pathKey, h.Name)
		h.Name = cut(h.Name)
	}
	if !fits(api.Head{Name: wordsName, Link: h.Link, Kind: h.Kind}) {
		words += Record(linkKey, h.Link)
		h.Link = cut(h.Link)
	}
	if words == "" {
		return member(h, data)
	}
	ahead, e := member(api.Head{Name: wordsName, Mode: wordsMode, Kind: moreWords}, words)
	if e != api.OK {
		return nil, e
	}
	b, e := member(h, data)
	return append(ahead, b...), e
}

// member is a header and the bytes behind it, filled up to a whole block.
func member(h api.Head, data string) ([]byte, api.Errno) {
	h.Size = len(data)
	b, e := head.Print(h)
	if e != api.OK {
		return nil, e
	}
	b = append(b, data...)
	return append(b, make([]byte, filled(len(data))-len(data))...), api.OK
}

// fits tells whether a header can tell this.
func fits(h api.Head) bool {
	_, e := head.Print(h)
	return e == api.OK
}

func cut(s string) string { return s[:min(len(s), mostCut)] }
