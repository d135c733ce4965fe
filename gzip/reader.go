package gzip

import (
	"bytes"

	"sutler/api"
	"sutler/bits"
)

// reader reads a frame, and stands at one of its bytes.
type reader struct {
	b  []byte
	at int
}

// rest is what is not read yet.
func (r *reader) rest() []byte { return r.b[r.at:] }

// skip goes behind n bytes.
func (r *reader) skip(n int) api.Errno {
	if n > len(r.rest()) {
		return api.ErrShort
	}
	r.at += n
	return api.OK
}

// number reads a number of so many bytes. Where it does not stand, the bytes end.
func (r *reader) number(size int) (int, api.Errno) {
	n, e := bits.Get(r.b, r.at, size)
	if e != api.OK {
		return 0, api.ErrShort
	}
	r.at += size
	return n, api.OK
}

// expect reads a number of so many bytes, and answers wrong, if it is another one.
func (r *reader) expect(want, size int, wrong api.Errno) api.Errno {
	n, e := r.number(size)
	switch {
	case e != api.OK:
		return e
	case n != want:
		return wrong
	}
	return api.OK
}

// header reads a header.
func (r *reader) header() api.Errno {
	for i := range len(begins) {
		if e := r.expect(int(begins[i]), 1, api.ErrGzip); e != api.OK {
			return e
		}
	}
	flags, e := r.number(1)
	switch {
	case e != api.OK:
		return e
	case flags&ofNone != 0:
		return api.ErrGzip
	}
	if e := r.skip(untold); e != api.OK {
		return e
	}
	return r.parts(flags)
}

// parts reads the parts that the flags tell.
func (r *reader) parts(flags int) api.Errno {
	read := r.methods()
	for _, p := range parts {
		if flags&p.flag == 0 {
			continue
		}
		if e := read[p.kind](); e != api.OK {
			return e
		}
	}
	return api.OK
}

// methods are how parts are read, by their kinds.
func (r *reader) methods() [kinds]func() api.Errno {
	return [kinds]func() api.Errno{
		counted: func() api.Errno {
			n, e := r.number(headBytes)
			if e != api.OK {
				return e
			}
			return r.skip(n)
		},
		ended: func() api.Errno {
			n := bytes.IndexByte(r.rest(), 0)
			if n < 0 {
				return api.ErrShort
			}
			return r.skip(n + 1)
		},
		checked: func() api.Errno {
			return r.expect(sumOfHead(r.b[:r.at]), headBytes, api.ErrSum)
		},
	}
}

// tail reads what stands behind the stream of these bytes.
func (r *reader) tail(out []byte) api.Errno {
	if e := r.expect(sumOf(out), tailBytes, api.ErrSum); e != api.OK {
		return e
	}
	if e := r.expect(sizeOf(out), tailBytes, api.ErrSum); e != api.OK {
		return e
	}
	if len(r.rest()) > 0 {
		return api.ErrGzip
	}
	return api.OK
}
