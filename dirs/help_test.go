package dirs

import (
	"bytes"
	"slices"
	"strings"
	"testing"

	"sutler/api"
)

// letters are all bytes that a name may have.
const letters = "!\"#$%&'()*+,-.0123456789:;<=>?@ABCDEFGHIJKLMNOPQRSTUVWXYZ[\\]^_`abcdefghijklmnopqrstuvwxyz{|}~"

// isName tells by the chapter's words whether a text is a name.
func isName(s string) bool {
	for _, c := range []byte(s) {
		if strings.IndexByte(letters, c) < 0 {
			return false
		}
	}
	return s != "" && s != "." && s != ".." && len(s) <= 32
}

// isDir tells by the chapter's words whether entries are a directory.
func isDir(l []api.Name) bool {
	for i, n := range l {
		if !isName(n.Name) || n.Inode < 0 || n.Inode > 65535 {
			return false
		}
		if i > 0 && bytes.Compare([]byte(l[i-1].Name), []byte(n.Name)) >= 0 {
			return false
		}
	}
	return len(l) <= 256
}

// entry is the bytes of an entry, whatever it is: its length is told by one byte.
func entry(name string, inode int) string {
	return string([]byte{byte(len(name))}) + name + string([]byte{byte(inode), byte(inode >> 8)})
}

// laid is the bytes of entries, whatever they are.
func laid(l []api.Name) string {
	var s strings.Builder
	for _, n := range l {
		s.WriteString(entry(n.Name, n.Inode))
	}
	return s.String()
}

// unlaid is the entries that bytes are cut into, one by one; false if the last one is not whole.
func unlaid(s string) ([]api.Name, bool) {
	if s == "" {
		return nil, true
	}
	size := int(s[0])
	if len(s) < 1+size+2 {
		return nil, false
	}
	inode := int(s[1+size]) + 256*int(s[2+size])
	l, whole := unlaid(s[3+size:])
	return append([]api.Name{{Name: s[1 : 1+size], Inode: inode}}, l...), whole
}

// numbered is so many entries with names of four bytes, rising; their inodes are their places.
func numbered(count int) []api.Name {
	var l []api.Name
	for i := range count {
		name := []byte{'n', '0' + byte(i/100), '0' + byte(i/10%10), '0' + byte(i%10)}
		l = append(l, api.Name{Name: string(name), Inode: i})
	}
	return l
}

// entries is entries of these names, whose inodes are their places from 1 on.
func entries(names ...string) []api.Name {
	var l []api.Name
	for i, name := range names {
		l = append(l, api.Name{Name: name, Inode: i + 1})
	}
	return l
}

// goodDirs are directories of many kinds.
func goodDirs() [][]api.Name {
	long := strings.Repeat("x", 32)
	return [][]api.Name{
		nil, {}, {{Name: "a", Inode: 258}}, {{Name: "a"}}, {{Name: "a", Inode: 65535}},
		entries("!"), entries("~"), entries("..."), entries(".a"), entries(long), entries(long[1:]),
		entries("a", "b"), entries("a", "aa", "aaa", "ab", "b"), entries("A", "Z", "a", "z"), entries("-", ".a", "0", "a"),
		entries(long[1:], long), entries("1", "10", "2"), entries("...", "....", "..a"), entries("a!", "a-", "aA", "a~"),
		{{Name: "a", Inode: 7}, {Name: "b", Inode: 7}, {Name: "c", Inode: 0}},
		{{Name: "a", Inode: 255}, {Name: "b", Inode: 256}, {Name: "c", Inode: 65280}},
		numbered(2), numbered(255), numbered(256),
	}
}

// noNames are texts of many kinds that are no names.
func noNames() []string {
	return []string{
		"", ".", "..", "/", "a/", "/a", "a/b", "//", " ", "a ", " a", "a b", ".. ", "\x7f", "a\x7f", "\x00", "a\x00", "\n",
		"\x80", "a\xff", "\xc3\xa9", "日本", strings.Repeat("x", 33), strings.Repeat("x", 64), strings.Repeat("x", 255),
		strings.Repeat("x", 256), strings.Repeat("x", 257), strings.Repeat("x", 1<<16+1), strings.Repeat(".", 33),
	}
}

// noInodes are numbers that no entry has.
func noInodes() []int {
	return []int{-1, -2, -65535, -65536, -1 << 63, 65536, 65537, 131071, 1 << 32, 1<<32 + 1, 1 << 62, 1<<63 - 1}
}

// lists calls do for each list of up to so many of these entries. The list is one and the same
// memory.
func lists(from []api.Name, most int, do func(l []api.Name)) {
	var grow func(l []api.Name)
	grow = func(l []api.Name) {
		do(l)
		if len(l) == most {
			return
		}
		for _, n := range from {
			grow(append(l, n))
		}
	}
	grow(make([]api.Name, 0, most))
}

func wantErr(t *testing.T, what string, got, want api.Errno) {
	t.Helper()
	if got != want {
		t.Errorf("%s: error %d, want %d", what, got, want)
	}
}

func wantList(t *testing.T, what string, got, want []api.Name) {
	t.Helper()
	if !slices.Equal(got, want) {
		t.Errorf("%s: %v, want %v", what, got, want)
	}
}

func wantParse(t *testing.T, b string, want []api.Name) {
	t.Helper()
	l, e := Parse([]byte(b))
	if e != api.OK || !slices.Equal(l, want) {
		t.Errorf("Parse(%q): %v, error %d, want %v", b, l, e, want)
	}
}

func wantNoParse(t *testing.T, b string) {
	t.Helper()
	l, e := Parse([]byte(b))
	if e != api.ErrDir || len(l) != 0 {
		t.Errorf("Parse(%q): %v, error %d", b, l, e)
	}
}

func wantPrint(t *testing.T, l []api.Name, want string) {
	t.Helper()
	b, e := Print(l)
	if e != api.OK || string(b) != want {
		t.Errorf("Print(%v): %q, error %d, want %q", l, b, e, want)
	}
}

func wantNoPrint(t *testing.T, l []api.Name) {
	t.Helper()
	b, e := Print(l)
	if e != api.ErrDir || len(b) != 0 {
		t.Errorf("Print(%v): %q, error %d", l, b, e)
	}
}

// wantLook holds a Look against an inode, or an error.
func wantLook(t *testing.T, l []api.Name, name string, inode int, want api.Errno) {
	t.Helper()
	n, e := Look(l, name)
	if n != inode || e != want {
		t.Errorf("Look(%v, %q): %d, error %d, want %d, error %d", l, name, n, e, inode, want)
	}
}

// wantAdd holds an Add against entries, or an error.
func wantAdd(t *testing.T, l []api.Name, name string, inode int, to []api.Name, want api.Errno) {
	t.Helper()
	got, e := Add(l, name, inode)
	if e != want || !slices.Equal(got, to) {
		t.Errorf("Add(%v, %q, %d): %v, error %d, want %v, error %d", l, name, inode, got, e, to, want)
	}
}

// wantRemove holds a Remove against entries, or an error.
func wantRemove(t *testing.T, l []api.Name, name string, to []api.Name, want api.Errno) {
	t.Helper()
	got, e := Remove(l, name)
	if e != want || !slices.Equal(got, to) {
		t.Errorf("Remove(%v, %q): %v, error %d, want %v, error %d", l, name, got, e, to, want)
	}
}

// add is an Add that must not be refused.
func add(t *testing.T, l []api.Name, name string, inode int) []api.Name {
	t.Helper()
	to, e := Add(l, name, inode)
	if e != api.OK {
		t.Fatalf("Add(%v, %q, %d): error %d", l, name, inode, e)
	}
	return to
}

// remove is a Remove that must not be refused.
func remove(t *testing.T, l []api.Name, name string) []api.Name {
	t.Helper()
	to, e := Remove(l, name)
	if e != api.OK {
		t.Fatalf("Remove(%v, %q): error %d", l, name, e)
	}
	return to
}
