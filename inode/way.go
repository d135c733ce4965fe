package inode

import (
	"sutler/api"
	"sutler/bits"
)

// numberBytes is how many bytes the number of a block has, and numbersOfBlock how many of them a
// block has.
const (
	numberBytes    = 2
	numbersOfBlock = api.Sector / numberBytes
)

// Which of a record's numbers is what: direct ones, the single one and the double one.
const (
	directs         = 8
	single          = directs
	double          = single + 1
	numbersOfRecord = double + 1
)

// way is the steps to a block: which of the record's numbers is taken, and then which one of each
// block of numbers that is come to. A way of no steps ends at the record.
type way struct {
	steps [3]int
	count int
}

// then is the way with a step more.
func (w way) then(step int) way {
	w.steps[w.count] = step
	w.count++
	return w
}

// wayTo is the way to block i of a file.
func wayTo(i int) way {
	if i < directs {
		return way{}.then(i)
	}
	if i < directs+numbersOfBlock {
		return wayToSingle().then(i - directs)
	}
	j := i - directs - numbersOfBlock
	return wayToDouble().then(j / numbersOfBlock).then(j % numbersOfBlock)
}

// wayToSingle and wayToDouble are the ways to the blocks of numbers that a record tells.
func wayToSingle() way { return way{}.then(single) }

func wayToDouble() way { return way{}.then(double) }

// whole tells whether the way leads to a block of a file's bytes.
func (w way) whole() bool {
	switch w.steps[0] {
	case single:
		return w.count == 2
	case double:
		return w.count == 3
	}
	return w.count == 1
}

// leadsTo tells which block of the file the way leads to, which is whole.
func (w way) leadsTo() int {
	switch w.steps[0] {
	case single:
		return directs + w.steps[1]
	case double:
		return directs + numbersOfBlock + w.steps[1]*numbersOfBlock + w.steps[2]
	}
	return w.steps[0]
}

// link is a number of a file: the way that ends with it, where it stands, and which block it tells
// (0: there is none).
type link struct {
	way
	spot
	to int
}

// record is the link that all ways begin at: what stands behind it are the record's numbers.
func (f *file) record() link { return link{spot: f.spot} }

// step is the link one step behind another one; what it tells is not known yet.
func (f *file) step(l link, step int) link {
	from := spot{l.to, 0}
	if l.count == 0 {
		from = spot{f.sector, f.at + numbersAt}
	}
	return link{way: l.then(step), spot: spot{from.sector, from.at + numberBytes*step}}
}

// along goes a way, and asks missing for a link's block where there is none. Where there is none
// for all that, the way ends.
func (f *file) along(w way, missing func(l link) (int, api.Errno)) (link, api.Errno) {
	l := f.record()
	for _, step := range w.steps[:w.count] {
		next := f.step(l, step)
		b, e := f.tx.Read(next.sector)
		if e != api.OK {
			return link{}, e
		}
		next.to, e = bits.Get(b, next.at, numberBytes)
		if e == api.OK && next.to == 0 {
			next.to, e = missing(next)
		}
		if e != api.OK || next.to == 0 {
			return link{}, e
		}
		l = next
	}
	return l, api.OK
}

// find tells the link at the end of a way.
func (f *file) find(w way) (link, api.Errno) {
	return f.along(w, func(link) (int, api.Errno) { return 0, api.OK })
}

// get tells the link at the end of a way, on which each block that there is not is taken.
func (f *file) get(w way) (link, api.Errno) {
	return f.along(w, func(l link) (int, api.Errno) {
		to, e := f.tx.Alloc()
		if e != api.OK {
			return 0, e
		}
		return to, f.put(l.spot, to)
	})
}

// put writes the number of a block.
func (f *file) put(at spot, n int) api.Errno {
	return f.change(at.sector, func(b []byte) []byte {
		b, _ = bits.Put(b, at.at, numberBytes, n)
		return b
	})
}

// free frees the block that a link tells.
func (f *file) free(l link) api.Errno {
	if e := f.tx.Free(l.to); e != api.OK {
		return e
	}
	return f.put(l.spot, 0)
}

// next tells the links one step behind another one, of those blocks that there are, rising.
func (f *file) next(l link) ([]link, api.Errno) {
	first, count := f.step(l, 0), numbersOfBlock
	if l.count == 0 {
		count = numbersOfRecord
	}
	b, e := f.tx.Read(first.sector)
	if e != api.OK {
		return nil, e
	}
	var all []link
	for i := range count {
		x := f.step(l, i)
		if x.to, _ = bits.Get(b, x.at, numberBytes); x.to != 0 {
			all = append(all, x)
		}
	}
	return all, api.OK
}

// behind tells all links behind another one: those of the file's own blocks, rising, and those of
// the blocks of numbers, each ahead of what it tells.
func (f *file) behind(l link) (own, tables []link, e api.Errno) {
	steps, e := f.next(l)
	if e != api.OK {
		return nil, nil, e
	}
	for _, x := range steps {
		if x.whole() {
			own = append(own, x)
			continue
		}
		o, t, e := f.behind(x)
		if e != api.OK {
			return nil, nil, e
		}
		own = append(own, o...)
		tables = append(append(tables, x), t...)
	}
	return own, tables, api.OK
}
