package tree

import (
	"maps"
	"math/rand"
	"slices"
	"strings"
	"testing"

	"sutler/api"
	"sutler/disk"
)

// model is a tree as entries by their paths, and the room that its store has.
type model struct {
	size
	entries map[string]api.Entry
}

func empty(z size) *model { return &model{z, map[string]api.Entry{}} }

func (m *model) clone() *model { return &model{m.size, maps.Clone(m.entries)} }

// isName tells by the chapter's words whether a text is a name.
func isName(s string) bool {
	return s != "" && s != "." && s != ".." && len(s) <= 32 && !strings.ContainsFunc(s, func(c rune) bool { return c < 33 || c > 126 || c == '/' })
}

// isPath tells what forbids that a text be a path.
func isPath(s string) api.Errno {
	if len(s) > 200 {
		return api.ErrLong
	}
	if s != "" && !all(strings.Split(s, "/"), isName) {
		return api.ErrName
	}
	return api.OK
}

func all(l []string, is func(s string) bool) bool {
	return !slices.ContainsFunc(l, func(s string) bool { return !is(s) })
}

// isTarget tells what forbids that a text be a target.
func isTarget(s string) api.Errno {
	s = strings.TrimPrefix(s, "/")
	if s == "" {
		return api.ErrName
	}
	return isPath(s)
}

func under(dir, name string) string { return strings.TrimPrefix(dir+"/"+name, "/") }

// goes goes along names from a directory, whose path it tells in the end.
func (m *model) goes(at string, names []string, hops *int) (string, api.Errno) {
	for _, name := range names {
		x := m.entries[under(at, name)]
		switch x.Kind {
		case 0:
			return "", api.ErrNone
		case api.KFile:
			return "", api.ErrKind
		case api.KDir:
			at = x.Path
			continue
		}
		if *hops++; *hops > 8 {
			return "", api.ErrLoop
		}
		from := at
		if x.Data[0] == '/' {
			from = ""
		}
		to, e := m.goes(from, strings.Split(strings.TrimPrefix(x.Data, "/"), "/"), hops)
		if e != api.OK {
			return "", e
		}
		at = to
	}
	return at, api.OK
}

// leads tells where a path leads, without any links, and what is there.
func (m *model) leads(path string) (api.Entry, api.Errno) {
	if e := isPath(path); e != api.OK {
		return api.Entry{}, e
	}
	if path == "" {
		return api.Entry{Kind: api.KDir, Mode: 0o755}, api.OK
	}
	names := strings.Split(path, "/")
	in, e := m.goes("", names[:len(names)-1], new(int))
	if e != api.OK {
		return api.Entry{}, e
	}
	to := under(in, names[len(names)-1])
	x := m.entries[to]
	x.Path = to
	return x, api.OK
}

// names are those that a directory has.
func (m *model) names(dir string) []string {
	var l []string
	for path := range m.entries {
		if in, name := parted(path); in == dir {
			l = append(l, name)
		}
	}
	slices.Sort(l)
	return l
}

// parted is the path of the directory that a path is in, and its last name.
func parted(path string) (dir, name string) {
	at := strings.LastIndex(path, "/")
	return path[:max(at, 0)], path[at+1:]
}

// blocks are how many sectors so many bytes take, with those of numbers.
func blocks(count int) int {
	n := (count + 255) / 256
	if n > 136 {
		return n + 2 + (n-136+127)/128
	}
	if n > 8 {
		return n + 1
	}
	return n
}

// used is how many data sectors, and how many inodes, the tree takes.
func (m *model) used() (int, int) {
	dirs := map[string]int{}
	n := 0
	for path, x := range m.entries {
		in, name := parted(path)
		dirs[in] += 3 + len(name)
		n += blocks(len(x.Data))
	}
	for _, count := range dirs {
		n += blocks(count)
	}
	return n, 1 + len(m.entries)
}

// full tells whether there is no room for what the tree is to be.
func (m *model) full() bool {
	sectors, inodes := m.used()
	return sectors > m.room() || inodes > m.inodes
}

// put makes an entry be, or answers ErrFull.
func (m *model) put(x api.Entry) api.Errno {
	m.entries[x.Path] = x
	if m.full() {
		return api.ErrFull
	}
	return api.OK
}

func (m *model) mkdir(path string, mode int) api.Errno {
	x, e := m.leads(path)
	switch {
	case e != api.OK:
		return e
	case x.Kind != 0:
		return api.ErrSame
	case mode < 0 || mode > 4095:
		return api.ErrArg
	}
	return m.put(api.Entry{Path: x.Path, Kind: api.KDir, Mode: mode})
}

func (m *model) write(path, data string, mode int) api.Errno {
	x, e := m.leads(path)
	switch {
	case e != api.OK:
		return e
	case x.Kind == api.KDir || x.Kind == api.KLink:
		return api.ErrKind
	case mode < 0 || mode > 4095:
		return api.ErrArg
	case len(data) > 1<<18:
		return api.ErrLong
	}
	return m.put(api.Entry{Path: x.Path, Kind: api.KFile, Mode: mode, Data: data})
}

func (m *model) link(path, target string) api.Errno {
	x, e := m.leads(path)
	if e == api.OK && x.Kind != 0 {
		e = api.ErrSame
	}
	if e == api.OK {
		e = isTarget(target)
	}
	if e != api.OK {
		return e
	}
	return m.put(api.Entry{Path: x.Path, Kind: api.KLink, Mode: 511, Data: target})
}

func (m *model) remove(path string) api.Errno {
	if path == "" {
		return api.ErrArg
	}
	x, e := m.get(path)
	if e == api.OK && len(m.names(x.Path)) > 0 {
		e = api.ErrEmpty
	}
	if e == api.OK {
		delete(m.entries, x.Path)
	}
	return e
}

func (m *model) rename(from, to string) api.Errno {
	if from == "" || to == "" {
		return api.ErrArg
	}
	x, e := m.get(from)
	if e != api.OK {
		return e
	}
	y, e := m.leads(to)
	switch {
	case e != api.OK:
		return e
	case y.Kind != 0:
		return api.ErrSame
	case strings.HasPrefix(y.Path, x.Path+"/"):
		return api.ErrArg
	}
	moved := map[string]api.Entry{}
	for path, z := range m.entries {
		if path == x.Path || strings.HasPrefix(path, x.Path+"/") {
			z.Path = y.Path + path[len(x.Path):]
		}
		moved[z.Path] = z
	}
	m.entries = moved
	if m.full() {
		return api.ErrFull
	}
	return api.OK
}

func (m *model) get(path string) (api.Entry, api.Errno) {
	x, e := m.leads(path)
	if e == api.OK && x.Kind == 0 {
		e = api.ErrNone
	}
	if e != api.OK {
		return api.Entry{}, e
	}
	return x, api.OK
}

func (m *model) list(path string) ([]string, api.Errno) {
	x, e := m.get(path)
	if e == api.OK && x.Kind != api.KDir {
		e = api.ErrKind
	}
	if e != api.OK {
		return nil, e
	}
	return m.names(x.Path), api.OK
}

// walk is all entries, rising by path.
func (m *model) walk() []api.Entry {
	var l []api.Entry
	for _, path := range slices.Sorted(maps.Keys(m.entries)) {
		l = append(l, m.entries[path])
	}
	return l
}

// chances are what random calls are called with.
type chances struct{ *rand.Rand }

func (r chances) of(l ...string) string { return l[r.Intn(len(l))] }

// path is mostly one of few, so that often something is there.
func (r chances) path() string {
	s := r.of("a", "b", "c", "d", "l", "m", "aa", "a!", "A")
	for r.Intn(5) < 2 {
		s += "/" + r.of("a", "b", "c", "l", "m", "a-")
	}
	switch r.Intn(60) {
	case 0:
		return ""
	case 1:
		return r.of("/", "a/", "/a", "a//b", ".", "..", "a/..", "a/./b", "a b", "\xff", "a/\x7f", s+"/", "/"+s, s+"//"+s)
	case 2:
		return s + "/" + strings.Repeat("n", 31+r.Intn(3))
	case 3:
		return long(199 + r.Intn(3))
	}
	return s
}

func (r chances) target() string {
	switch r.Intn(12) {
	case 0:
		return r.of("", "/", "//", "//a", "a/", "/..", "/"+long(200), "/"+long(201), long(200), long(201))
	case 1, 2, 3:
		return "/" + r.path()
	}
	return r.path()
}

func (r chances) mode() int {
	if r.Intn(20) == 0 {
		return []int{-1, 0, 4095, 4096}[r.Intn(4)]
	}
	return r.Intn(4096)
}

func (r chances) data() string {
	if r.Intn(200) == 0 {
		return r.of(most, tooMuch)
	}
	return mixed([]int{0, 1, r.Intn(300), 256 * r.Intn(4), r.Intn(4000)}[r.Intn(5)], byte(r.Intn(3)))
}

// change changes a transaction and the model by one call, and holds their answers against each
// other. Where it answers another error than ErrFull, both are as they were.
func (m *model) change(t *testing.T, x *Tx, r chances) api.Errno {
	t.Helper()
	path, to, data, mode := r.path(), r.path(), r.data(), r.mode()
	var got, want api.Errno
	was := ""
	if r.Intn(16) == 0 {
		was = seen(t, x)
	}
	switch r.Intn(9) {
	case 0, 1:
		got, want = x.Mkdir(path, mode), m.mkdir(path, mode)
	case 2, 3:
		got, want = x.Put(path, data, mode), m.write(path, data, mode)
	case 4, 5:
		target := r.target()
		got, want = x.Link(path, target), m.link(path, target)
	case 6:
		got, want = x.Remove(path), m.remove(path)
	default:
		got, want = x.Rename(path, to), m.rename(path, to)
	}
	if got != want {
		t.Fatalf("a call of %q (%q, %d bytes, %d): error %d, want %d, in\n%.100q", path, to, len(data), mode, got, want, lines(m.walk()))
	}
	if was != "" && got != api.OK && got != api.ErrFull && seen(t, x) != was {
		t.Errorf("error %d: the transaction is another one", got)
	}
	return got
}

// ask holds what a transaction answers of a path against the model.
func (m *model) ask(t *testing.T, x *Tx, path string) {
	t.Helper()
	got, e := x.Get(path)
	want, wantE := m.get(path)
	if got != want || e != wantE {
		t.Fatalf("Get(%q): %.100v, error %d, want %.100v, error %d", path, got, e, want, wantE)
	}
	l, e := x.List(path)
	wantL, wantE := m.list(path)
	if !slices.Equal(l, wantL) || e != wantE {
		t.Fatalf("List(%q): %q, error %d, want %q, error %d", path, l, e, wantL, wantE)
	}
}

// check holds all that is told of a tree's entries against the model, and against 8.8.
func (m *model) check(t *testing.T, l []api.Entry, e api.Errno) {
	t.Helper()
	wantErr(t, "Walk", e, api.OK)
	if !slices.Equal(l, m.walk()) {
		t.Fatalf("Walk:\n%.100q, want\n%.100q", lines(l), lines(m.walk()))
	}
	kinds := map[string]int{"": api.KDir}
	for _, x := range l {
		kinds[x.Path] = x.Kind
		if in, _ := parted(x.Path); kinds[in] != api.KDir {
			t.Errorf("%q: its parent is no directory", x.Path)
		}
	}
}

// checkTree holds a tree, and what room it has, against the model.
func (m *model) checkTree(t *testing.T, x *Tree) {
	t.Helper()
	l, e := x.Walk()
	m.check(t, l, e)
	sectors, inodes := m.used()
	wantInt(t, "Blocks", x.Blocks(), m.room()-sectors)
	wantInt(t, "Inodes", x.Inodes(), m.inodes-inodes)
}

// checkTx holds a transaction against the model.
func (m *model) checkTx(t *testing.T, x *Tx, r chances) {
	t.Helper()
	l, e := x.Walk()
	m.check(t, l, e)
	for _, y := range l {
		if len(y.Path) > api.MaxPath {
			wantNoGet(t, x, y.Path, api.ErrLong)
			continue
		}
		got, e := x.Get(y.Path)
		if got != y || e != api.OK {
			t.Errorf("Get(%q): %v, error %d, want %v", y.Path, got, e, y)
		}
	}
	for range 6 {
		m.ask(t, x, r.path())
	}
}

// run does some calls in a transaction, and tells the model of behind it.
func (m *model) run(t *testing.T, tree *Tree, r chances) *model {
	t.Helper()
	x, own := begun(t, tree), m.clone()
	for range r.Intn(12) {
		if own.change(t, x, r) == api.ErrFull {
			wantOver(t, x)
			return m
		}
		if r.Intn(4) == 0 {
			own.checkTx(t, x, r)
		}
	}
	if r.Intn(5) == 0 {
		wantErr(t, "Abort", x.Abort(), api.OK)
		return m
	}
	want := api.OK
	if x.Changed() > m.capacity {
		want = api.ErrFull
	}
	wantErr(t, "Commit", x.Commit(), want)
	wantOver(t, x)
	if want == api.OK {
		return own
	}
	return m
}

func runs(t *testing.T, z size, seed int64, rounds int) {
	t.Helper()
	r := chances{rand.New(rand.NewSource(seed))}
	x, d := fresh(t, z)
	m := empty(z)
	for range rounds {
		m = m.run(t, x, r)
		if r.Intn(6) == 0 {
			x = again(t, d, r)
		}
		m.checkTree(t, x)
	}
}

// again is the tree behind a crash, which takes nothing of what was committed.
func again(t *testing.T, d *disk.Disk, r chances) *Tree {
	t.Helper()
	wantErr(t, "Crash", d.Crash([]int{r.Int(), r.Int()}), api.OK)
	return mounted(t, d)
}

func TestATreeAnswersAsASortedListWould(t *testing.T) {
	for seed, z := range []size{small(), {60, 20, 40}, {30, 12, 9}, {300, 100, 30}, {400, 25, 256}, {2100, 100, 100}} {
		for k := range 4 {
			runs(t, z, int64(10*seed+k), 120)
		}
	}
}
