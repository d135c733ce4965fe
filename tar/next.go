package tar

import "sutler/api"

// next is what holds for the next member that makes an entry, or is of no kind.
type next struct {
	words   []string // keys and values, one behind the other
	waiting bool     // whether there were more words, and no member yet that they hold for
}

// tell takes more words, instead of those that went before, unless they are none.
func (n *next) tell(b []byte) api.Errno {
	words, e := Records(b)
	if e != api.OK {
		return e
	}
	for i := 0; i < len(words); i += 2 {
		if _, ok := sizeOf(words[i+1]); words[i] == sizeKey && !ok {
			return api.ErrTar
		}
	}
	n.words, n.waiting = words, true
	return api.OK
}

// hold makes a header as it is by the words, which are used up by that.
func (n *next) hold(h api.Head) api.Head {
	for i := 0; i < len(n.words); i += 2 {
		// The last one of a key counts: it comes last.
		switch value := n.words[i+1]; n.words[i] {
		case pathKey:
			h.Name = value
		case linkKey:
			h.Link = value
		case sizeKey:
			h.Size, _ = sizeOf(value)
		}
	}
	*n = next{}
	return h
}

// sizeOf is the size that a value tells, if it is one.
func sizeOf(value string) (int, bool) {
	size, ok := number(value, sizeDigits)
	return size, ok && size <= api.MaxBytes
}
