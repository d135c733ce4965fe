package tar

import (
	"fmt"
	"regexp"
	"slices"
	"strconv"
	"strings"
	"testing"

	"sutler/api"
	"sutler/head"
	"sutler/path"
)

// What the chapter's words say is told here once more: faults one behind the other, in the order in
// which they are named, on texts that are cut from the front.

var isSize = regexp.MustCompile(`^(0|[1-9][0-9]{0,8})$`)

// archive is what is told of an archive so far.
type archive struct {
	left    string
	begins  []int    // how much was left where members begin
	path    []string // what more words tell: none, or one
	link    []string
	size    []string
	wait    bool
	entries []api.Entry
}

// fault is an error, and whether it is there.
type fault struct {
	is bool
	e  api.Errno
}

// firstOf is the first error that is there.
func firstOf(faults ...fault) api.Errno {
	for _, f := range faults {
		if f.is {
			return f.e
		}
	}
	return api.OK
}

// toldOf is an archive's entries by the words, or their error.
func toldOf(b string) ([]api.Entry, api.Errno) {
	a := &archive{left: b}
	e := a.members()
	if e != api.OK {
		return nil, e
	}
	return a.entries, e
}

// members tells all members.
func (a *archive) members() api.Errno {
	for {
		a.begins = append(a.begins, len(a.left))
		if len(a.left) < 512 {
			return api.ErrShort
		}
		if strings.Trim(a.left[:512], "\x00") == "" {
			return firstOf(fault{a.wait, api.ErrTar})
		}
		if e := a.member(); e != api.OK {
			return e
		}
	}
}

// member tells one member.
func (a *archive) member() api.Errno {
	h, e := head.Parse([]byte(a.left[:512]))
	if e != api.OK {
		return e
	}
	makes := h.Kind == 48 || h.Kind == 50 || h.Kind == 53
	if h.Kind != 120 && h.Kind != 103 {
		for _, v := range a.size {
			h.Size, _ = strconv.Atoi(v)
		}
		h.Name = append([]string{h.Name}, a.path...)[len(a.path)]
		h.Link = append([]string{h.Link}, a.link...)[len(a.link)]
		a.path, a.link, a.size, a.wait = nil, nil, nil, false
	}
	blocks := 1
	for (blocks-1)*512 < h.Size {
		blocks++
	}
	if len(a.left) < blocks*512 {
		return api.ErrShort
	}
	data := a.left[512 : 512+h.Size]
	a.left = a.left[blocks*512:]
	e = firstOf(
		fault{!makes && h.Kind != 120 && h.Kind != 103, api.ErrTar},
		fault{h.Kind == 50 && h.Size != 0 || h.Kind == 53 && h.Size != 0, api.ErrTar},
		fault{h.Kind == 120 && !a.more(data), api.ErrTar},
		fault{h.Kind == 103 && !areRecords(data), api.ErrTar},
		fault{makes && len(a.entries) == 256, api.ErrTar},
	)
	if e != api.OK || !makes {
		return e
	}
	return a.entry(h, data)
}

// areRecords tells whether words are records.
func areRecords(data string) bool {
	_, ok := recordsOf(data)
	return ok
}

// more takes more words, if they are.
func (a *archive) more(data string) bool {
	told, ok := recordsOf(data)
	if !ok {
		return false
	}
	last := map[string][]string{}
	for pair := range slices.Chunk(told, 2) {
		if n, err := strconv.Atoi(pair[1]); pair[0] == "size" && (!isSize.MatchString(pair[1]) || err != nil || n > 1<<18) {
			return false
		}
		last[pair[0]] = pair[1:]
	}
	a.path, a.link, a.size, a.wait = last["path"], last["linkpath"], last["size"], true
	return true
}

// isUnder tells whether a path is under another one, and is another one.
func isUnder(p, dir string) bool { return p != dir && strings.HasPrefix(p, dir+"/") }

// entry tells the entry of a member.
func (a *archive) entry(h api.Head, data string) api.Errno {
	p, none := path.Clean(h.Name)
	if none == api.OK && p == "" && h.Kind == 53 {
		return api.OK
	}
	entry := api.Entry{Path: p, Kind: map[byte]int{48: 1, 53: 2, 50: 3}[h.Kind], Mode: h.Mode, Data: data}
	underFile := slices.ContainsFunc(a.entries, func(o api.Entry) bool { return o.Kind != 2 && isUnder(p, o.Path) })
	overOne := slices.ContainsFunc(a.entries, func(o api.Entry) bool { return h.Kind != 53 && isUnder(o.Path, p) })
	there := slices.ContainsFunc(a.entries, func(o api.Entry) bool { return o.Path == p })
	to, noTarget := "", api.OK
	if h.Kind == 50 {
		to, noTarget = path.Target(p, h.Link)
		entry.Mode, entry.Data = 0o777, "/"+to
	}
	e := firstOf(
		fault{none != api.OK, none},
		fault{p == "", api.ErrPath},
		fault{underFile, api.ErrPath},
		fault{overOne, api.ErrPath},
		fault{there, api.ErrSame},
		fault{noTarget != api.OK, noTarget},
	)
	if e == api.OK {
		a.entries = append(a.entries, entry)
	}
	return e
}

// wantAsTold holds Read against the words, and what is read against what follows.
func wantAsTold(t *testing.T, b string) api.Errno {
	t.Helper()
	want, e := toldOf(b)
	if e != api.OK {
		wantNotRead(t, "as told", b, e)
		return e
	}
	wantRead(t, "as told", b, want...)
	got, _ := Read([]byte(b))
	wantWithin(t, got)
	again, e := Write(got)
	if e != api.OK {
		t.Errorf("Write of what was read, %s: error %d", shown(got), e)
	}
	wantRead(t, "what was read, and written", string(again), got...)
	return api.OK
}

// wantWithin asks for 15.4.
func wantWithin(t *testing.T, l []api.Entry) {
	t.Helper()
	for i, entry := range l {
		to, isLink := strings.CutPrefix(entry.Data, "/")
		if entry.Path == "" || path.Check(entry.Path) != api.OK || entry.Kind == 3 && (!isLink || path.Check(to) != api.OK) {
			t.Errorf("within: %s", shown(l[i:i+1]))
		}
		for j, other := range l {
			if i != j && (entry.Path == other.Path || other.Kind != 2 && isUnder(entry.Path, other.Path)) {
				t.Errorf("within: %s and %s", shown(l[i:i+1]), shown(l[j:j+1]))
			}
		}
	}
}

// member is a member by chance.
func (c *chance) member() string {
	kind := []byte{48, 48, 48, 50, 50, 53, 53, 53, 103, 120, 120, 120, 49, 0}[c.below(14)]
	if kind == 49 && c.below(4) > 0 {
		kind = 48
	}
	switch {
	case kind == 120 && c.below(8) > 0:
		return words(c.records()...)
	case kind == 103 && c.below(8) > 0:
		return nothing(c.records()...)
	}
	data := ""
	if kind != 53 && kind != 50 || c.below(10) == 0 {
		data = some([]int{0, 0, 1, 5, 511, 512, 513, 1024}[c.below(8)], uint64(*c))
	}
	m := ustar(c.one("", "", "", "", "p", "."), c.name(), c.target(), 0o640, len(data), kind) + whole(data)
	if c.below(60) == 0 {
		m = turned(m, c.below(512), byte(c.below(256)))
	}
	return m
}

// name is what a member is called by chance.
func (c *chance) name() string {
	if c.below(40) == 0 {
		return c.one("..", "/a", "a//b", "a/../b", "./", ".", " ")
	}
	s := c.one("", "", "./") + c.one("a", "b", "c", "d", "e", "f", "g", "h")
	for range c.below(3) {
		s += "/" + c.one("a", "b", "c")
	}
	return s + c.one("", "", "/")
}

// target is where a link leads by chance.
func (c *chance) target() string {
	return c.one("", "/", "/", "../", "", "./") + c.one("a", "a/b", "..", ".", "c/../d", "b", "b/c/", "/x")
}

// records are records by chance.
func (c *chance) records() []string {
	var all []string
	for range c.below(4) {
		switch c.below(6) {
		case 0, 1:
			all = append(all, record("path", c.name()))
		case 2:
			all = append(all, record("linkpath", c.target()))
		case 3:
			all = append(all, record("size", c.one("0", "1", "5", "512", "513", "0", "0", "1024", "00", "", "x", "262144")))
		case 4:
			all = append(all, record(c.one("", "Path", "mtime", "linkpath "), c.one("", "1", "=")))
		case 5:
			all = append(all, c.one("4 =\n", "4 =\n", "4 =\n", "4 =\n", "5 =\n", "x"))
		}
	}
	return all
}

// 15.1, 15.3, 15.4: archives by chance, whole, cut, and with bytes turned.
func TestArchivesByChance(t *testing.T) {
	c := chance(15)
	count := map[api.Errno]int{}
	for range 20000 {
		all := ""
		for range 1 + c.below(1+c.below(12)) {
			all += c.member()
		}
		if c.below(12) > 0 {
			all += block
		}
		all += c.one("", "", block, "behind")
		if c.below(20) == 0 {
			all = all[:c.below(len(all)+1)]
		}
		if c.below(20) == 0 && all != "" {
			all = turned(all, c.below(len(all)), byte(c.below(256)))
		}
		count[wantAsTold(t, all)]++
	}
	for _, e := range []api.Errno{api.OK, api.ErrShort, api.ErrHead, api.ErrTar, api.ErrPath, api.ErrSame} {
		if count[e] < 200 {
			t.Errorf("error %d was told %d times only", e, count[e])
		}
	}
}

// 15.1: all rows of up to four of some members.
func TestShortRows(t *testing.T) {
	rows := every(4,
		file("a", "x"), dir("a"), link("a", ".."), link("a", "b"), file("a/b", ""), dir("a/b"), dir("."), words("9 path=b\n"), words("9 size=1\n"), nothing("9 path=d\n"), nothing("x"), block)
	count := map[api.Errno]int{}
	for _, row := range rows {
		count[wantAsTold(t, row+block)]++
	}
	for _, e := range []api.Errno{api.OK, api.ErrTar, api.ErrPath, api.ErrSame} {
		if count[e] < 100 {
			t.Errorf("error %d was told %d times only", e, count[e])
		}
	}
}

// entryOf is an entry by chance that an archive may have, or not.
func (c *chance) entryOf() api.Entry {
	p, _ := path.Clean(c.name())
	switch c.below(3) {
	case 0:
		return api.Entry{Path: p, Kind: api.KDir, Mode: c.below(4096)}
	case 1:
		return aLink(p, c.one("/a", "/", "/b/c", "/"+long(c.below(6)*33+10), "/a", "b", "/.."))
	}
	return api.Entry{Path: p, Kind: api.KFile, Mode: c.below(4096), Data: some(c.below(1200), uint64(*c))}
}

// mayBe tells by the words whether an archive has these entries.
func mayBe(l []api.Entry) bool {
	for i, entry := range l {
		to, isLink := strings.CutPrefix(entry.Data, "/")
		if entry.Path == "" || entry.Kind == 3 && (!isLink || path.Check(to) != api.OK) {
			return false
		}
		for j, other := range l {
			if i != j && (entry.Path == other.Path || other.Kind != 2 && isUnder(entry.Path, other.Path)) {
				return false
			}
		}
	}
	return true
}

// 15.2, 15.3: Read of Write is what was written.
func TestEntriesByChance(t *testing.T) {
	c := chance(16)
	well, not := 0, 0
	for range 10000 {
		var l []api.Entry
		for range c.below(8) {
			l = append(l, c.entryOf())
		}
		if !mayBe(l) {
			not++
			wantNotWritten(t, "by chance", l...)
			continue
		}
		well++
		b, e := Write(l)
		if e != api.OK {
			t.Errorf("Write of %s: error %d", shown(l), e)
		}
		wantRead(t, "what was written", string(b), l...)
		if at := c.below(len(b)); at < len(b)-512 {
			wantNotRead(t, fmt.Sprint("what was written, cut at ", at), string(b[:at]), api.ErrShort)
		}
		wantRead(t, "what was written, with one empty block", string(b[:len(b)-512]), l...)
	}
	if well < 1000 || not < 1000 {
		t.Errorf("%d lists may be, %d may not", well, not)
	}
}

// 15.6: members that tell nothing change nothing, whatever stands there.
func TestWhatTellsNothingByChance(t *testing.T) {
	c := chance(17)
	for range 5000 {
		all := ""
		for range 1 + c.below(8) {
			all += c.member()
		}
		all += block
		a := &archive{left: all}
		a.members()
		want, e := Read([]byte(all))
		at := len(all) - a.begins[c.below(len(a.begins))]
		all = all[:at] + nothing(comment(c.below(600), uint64(c))) + all[at:]
		if e != api.OK {
			wantNotRead(t, "with nothing put in", all, e)
		} else {
			wantRead(t, "with nothing put in", all, want...)
		}
	}
}

// P1: any bytes end in entries or an error.
func TestAnyBytes(t *testing.T) {
	c := chance(18)
	for n := range 3000 {
		wantAsTold(t, some(n, uint64(n)))
		m := c.member() + c.member()
		at := c.below(len(m))
		wantAsTold(t, m[at:]+block)
		wantAsTold(t, m[:at]+block)
		wantAsTold(t, m[:at]+m[at/2:]+block)
	}
}

// P2: a call that is refused changes nothing for later ones.
func TestRefusedChangesNothing(t *testing.T) {
	good := dir("d") + words("12 path=d/b\n", "9 size=1\n") + file("a", "xyz") + block
	for _, bad := range []string{"", words("9 path=b\n") + block, file("..", "") + block, file("d", "") + file("d", "") + block, words("x")} {
		if _, e := Read([]byte(bad)); e == api.OK {
			t.Errorf("%s: no error", short(bad))
		}
		wantNoRecords(t, "9 path=a\nx")
		wantNotWritten(t, "refused", aFile("a", "x"), aFile("a", "y"))
		wantRead(t, "behind one that was refused", good, aDir("d"), aFile("d/b", "x"))
		wantRecords(t, "9 path=a\n", "path", "a")
		wantWritten(t, "behind one that was refused", []api.Entry{aFile("a", "")}, ustar("", "a", "", 0o640, 0, 48)+block+block)
	}
}

// What many ask at once is answered to each as if it were alone.
func TestManyAtOnce(t *testing.T) {
	done := make(chan bool)
	for i := range 8 {
		go func() {
			defer func() { done <- true }()
			for n := range 100 {
				name := fmt.Sprint("f", i, "-", n)
				wantRead(t, "at once", words(record("path", name))+file("a", name)+block, aFile(name, name))
				wantWritten(t, "at once", []api.Entry{aDir(name)}, ustar("", name+"/", "", 0o640, 0, 53)+block+block)
				wantRecords(t, record("a", name), "a", name)
				wantRecord(t, "a", name, record("a", name))
			}
		}()
	}
	for range 8 {
		<-done
	}
}
