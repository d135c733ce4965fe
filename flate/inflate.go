package flate

import (
	"sutler/api"
	"sutler/code"
	"sutler/flow"
)

// lastAgain is the first one of the symbols of the code for lengths that are repetitions: of the
// last length, and two of noughts. Those below it are lengths.
const lastAgain = 16

// repeats are how often they repeat.
var repeats = [...]span{{3, 2}, {3, 3}, {11, 7}}

// sizes are how many lengths a told block has: of symbols, of distances, and of the code for these
// lengths.
var sizes = [...]span{{257, 5}, {1, 5}, {4, 4}}

// mostSymbols and mostDistances are how many lengths of each may be told: there are no more symbols
// that stand for something.
const (
	mostSymbols   = 286
	mostDistances = 30
)

// order is the order in which the code for lengths is told.
var order = [...]int{16, 17, 18, 0, 8, 7, 9, 6, 10, 5, 11, 4, 12, 3, 13, 2, 14, 1, 15}

// stream is a stream that is being read: what came out of it so far, and how much may. The codes of
// fixed blocks are made once, as there may be many blocks.
type stream struct {
	in    *flow.Reader
	fixed pair
	most  int
	out   []byte
}

// Inflate makes what was deflated as it was, at most most bytes, and tells in how many bytes of b
// the stream ends.
func Inflate(b []byte, most int) ([]byte, int, api.Errno) {
	if most < 0 || most > api.MaxBytes {
		return nil, 0, api.ErrArg
	}
	s := &stream{in: flow.New(b), fixed: fixedPair(), most: most}
	if e := s.blocks(); e != api.OK {
		return nil, 0, e
	}
	return s.out, (s.in.At() + 7) / 8, api.OK
}

// blocks reads blocks up to the last one.
func (s *stream) blocks() api.Errno {
	for {
		last, e := s.in.Take(1)
		if e == api.OK {
			e = s.block()
		}
		if e != api.OK || last == 1 {
			return e
		}
	}
}

// block reads a block from its kind on. A told one tells its codes and then goes on as a fixed one.
func (s *stream) block() api.Errno {
	kind, e := s.in.Take(2)
	if e != api.OK {
		return e
	}
	codes := s.fixed
	switch kind {
	case plain:
		return s.plain()
	case told:
		if codes, e = s.told(); e != api.OK {
			return e
		}
		fallthrough
	case fixed:
		return s.symbols(codes)
	}
	return api.ErrFlate
}

// number reads a number of a span.
func (s *stream) number(of span) (int, api.Errno) {
	extra, e := s.in.Take(of.bits)
	return of.base + extra, e
}

// room is how many bytes more may come out.
func (s *stream) room() int { return s.most - len(s.out) }

// plain reads a plain block.
func (s *stream) plain() api.Errno {
	n, e := s.size()
	switch {
	case e != api.OK:
		return e
	case n > s.room():
		return api.ErrLong
	}
	b, e := s.in.Bytes(n)
	s.out = append(s.out, b...)
	return e
}

// size reads how many bytes a plain block has. It stands there twice, once with all bits changed.
func (s *stream) size() (int, api.Errno) {
	s.in.Align()
	n, e := s.in.Take(16)
	if e != api.OK {
		return 0, e
	}
	changed, e := s.in.Take(16)
	switch {
	case e != api.OK:
		return 0, e
	case n^changed != longestPlain:
		return 0, api.ErrFlate
	}
	return n, api.OK
}

// told reads the codes of a told block.
func (s *stream) told() (pair, api.Errno) {
	var many [len(sizes)]int
	for i, size := range sizes {
		n, e := s.number(size)
		if e != api.OK {
			return pair{}, e
		}
		many[i] = n
	}
	symbols, others := many[0], many[1]
	if symbols > mostSymbols || others > mostDistances {
		return pair{}, api.ErrFlate
	}
	c, e := s.codeForLengths(many[2])
	if e != api.OK {
		return pair{}, e
	}
	all, e := s.lengths(c, symbols+others)
	switch {
	case e != api.OK:
		return pair{}, e
	case all[end] == 0:
		return pair{}, api.ErrFlate
	}
	return pairOf(all[:symbols], all[symbols:])
}

// codeForLengths reads the code for lengths, whose own lengths are told as far as many goes.
func (s *stream) codeForLengths(many int) (*code.Code, api.Errno) {
	var all [len(order)]int
	for i := range many {
		n, e := s.in.Take(3)
		if e != api.OK {
			return nil, e
		}
		all[order[i]] = n
	}
	return codeOf(all[:])
}

// lengths reads so many lengths by a code for them.
func (s *stream) lengths(c *code.Code, many int) ([]int, api.Errno) {
	var all []int
	for len(all) < many {
		length, times, e := s.row(c, all)
		switch {
		case e != api.OK:
			return nil, e
		case times > many-len(all):
			return nil, api.ErrFlate
		}
		for range times {
			all = append(all, length)
		}
	}
	return all, api.OK
}

// row reads a length and how often it stands there, behind those that are read.
func (s *stream) row(c *code.Code, read []int) (int, int, api.Errno) {
	symbol, e := c.Read(s.in)
	length := 0
	switch {
	case e != api.OK:
		return 0, 0, e
	case symbol < lastAgain:
		return symbol, 1, api.OK
	case symbol == lastAgain && len(read) == 0:
		return 0, 0, api.ErrFlate
	case symbol == lastAgain:
		length = read[len(read)-1]
	}
	times, e := s.number(repeats[symbol-lastAgain])
	return length, times, e
}

// symbols reads symbols up to the block's end.
func (s *stream) symbols(codes pair) api.Errno {
	for {
		symbol, e := codes.symbols.Read(s.in)
		switch {
		case e != api.OK || symbol == end:
			return e
		case symbol < end:
			e = s.single(byte(symbol))
		default:
			e = s.copies(symbol-end-1, codes.distances)
		}
		if e != api.OK {
			return e
		}
	}
}

// single makes one byte come out.
func (s *stream) single(b byte) api.Errno {
	if s.room() == 0 {
		return api.ErrLong
	}
	s.out = append(s.out, b)
	return api.OK
}

// copies reads a copy of that length's symbol. It goes byte by byte, as a copy may reach into
// itself.
func (s *stream) copies(symbol int, others *code.Code) api.Errno {
	if symbol >= len(lengths) {
		return api.ErrFlate
	}
	n, e := s.number(lengths[symbol])
	if e != api.OK {
		return e
	}
	back, e := s.distance(others)
	switch {
	case e != api.OK:
		return e
	case n > s.room():
		return api.ErrLong
	}
	for range n {
		s.out = append(s.out, s.out[len(s.out)-back])
	}
	return api.OK
}

// distance reads from how far back a copy's bytes are.
func (s *stream) distance(others *code.Code) (int, api.Errno) {
	symbol, e := others.Read(s.in)
	switch {
	case e != api.OK:
		return 0, e
	case symbol >= len(distances):
		return 0, api.ErrFlate
	}
	back, e := s.number(distances[symbol])
	switch {
	case e != api.OK:
		return 0, e
	case back > len(s.out):
		return 0, api.ErrFlate
	}
	return back, api.OK
}
