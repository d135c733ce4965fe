package path

import (
	"strings"
	"testing"

	"sutler/api"
)

// 14.3: of clean paths and of any other texts, what is ahead of the last / and what is behind it.
func TestParentAndBase(t *testing.T) {
	for _, c := range [][3]string{
		{"", "", ""}, {"a", "", "a"}, {"a/b", "a", "b"}, {"usr/bin/x", "usr/bin", "x"}, {"/", "", ""}, {"/a", "", "a"}, {"a/", "a", ""},
		{"/a/", "/a", ""}, {"//", "/", ""}, {"//a", "/", "a"}, {"a//", "a/", ""}, {"a//b", "a/", "b"}, {"..", "", ".."}, {"../a", "..", "a"},
		{"a/..", "a", ".."}, {".", "", "."}, {"./", ".", ""}, {"./a", ".", "a"}, {"\x00/\xff", "\x00", "\xff"}, {"a b/c d", "a b", "c d"},
		{long(201), long(197), name(3)}, {name(500), "", name(500)}, {strings.Repeat("/", 500), strings.Repeat("/", 499), ""},
	} {
		wantText(t, "Parent of "+short(c[0]), Parent(c[0]), c[1])
		wantText(t, "Base of "+short(c[0]), Base(c[0]), c[2])
	}
}

// 14.3: two texts, one behind the other.
func TestJoin(t *testing.T) {
	for _, c := range [][3]string{
		{"", "", ""}, {"a", "", "a"}, {"", "b", "b"}, {"a", "b", "a/b"}, {"usr/bin", "x", "usr/bin/x"}, {"usr", "bin/x", "usr/bin/x"},
		{"/", "", "/"}, {"", "/", "/"}, {"/", "/", "///"}, {"a/", "b", "a//b"}, {"a", "/b", "a//b"}, {"a/", "/b", "a///b"}, {"/a", "b/", "/a/b/"},
		{"..", ".", "../."}, {"\x00", "\xff", "\x00/\xff"}, {name(200), name(200), name(200) + "/" + name(200)},
	} {
		wantText(t, "Join of "+short(c[0])+" and "+short(c[1]), Join(c[0], c[1]), c[2])
	}
}

// 14.3: a directory is empty, or the path, or what the path begins with up to a /.
func TestUnder(t *testing.T) {
	for _, c := range [][2]string{
		{"", ""}, {"a", ""}, {"/", ""}, {"a", "a"}, {"a/b", "a"}, {"a/b", "a/b"}, {"usr/bin/x", "usr"}, {"usr/bin/x", "usr/bin"},
		{"a/", "a"}, {"a//", "a"}, {"a//", "a/"}, {"a//b", "a/"}, {"/", "/"}, {"//", "/"}, {"//a", "/"}, {"/a", "/a"}, {"/a/b", "/a"},
		{"../a", ".."}, {"a/../b", "a"}, {"\x00/\xff", "\x00"}, {long(300), long(200)[:197]}, {name(300), name(300)},
	} {
		wantUnder(t, c[0], c[1], true)
	}
	for _, c := range [][2]string{
		{"", "a"}, {"", "/"}, {"a", "b"}, {"a", "a/"}, {"a/b", "a/"}, {"ab", "a"}, {"a", "ab"}, {"a/b", "b"}, {"a/b", "a/bc"}, {"a/bc", "a/b"},
		{"usr/bin", "usr/bin/x"}, {"usr/binary", "usr/bin"}, {"/a", "/"}, {"/a", "a"}, {"/", "a"}, {"a", "/"}, {"a/", "a//"}, {"b/a", "a"},
		{"a", "."}, {"./a", "a"}, {"A/b", "a"}, {name(300), name(299)}, {"a", "/a"}, {"/a/b", "a"},
	} {
		wantUnder(t, c[0], c[1], false)
	}
}

// 14.3: what is ahead of each /, and the path.
func TestAll(t *testing.T) {
	wantAll(t, "")
	wantAll(t, "a", "a")
	wantAll(t, "a/b", "a", "a/b")
	wantAll(t, "usr/bin/x", "usr", "usr/bin", "usr/bin/x")
	wantAll(t, "/", "", "/")
	wantAll(t, "/a", "", "/a")
	wantAll(t, "a/", "a", "a/")
	wantAll(t, "//", "", "/", "//")
	wantAll(t, "a//b", "a", "a/", "a//b")
	wantAll(t, "/a/b/", "", "/a", "/a/b", "/a/b/")
	wantAll(t, "../.", "..", "../.")
	wantAll(t, "\x00/\xff", "\x00", "\x00/\xff")
	wantAll(t, name(1000), name(1000))
	if l := All(strings.Repeat("/", 1000)); len(l) != 1001 || l[0] != "" || l[7] != "///////" || len(l[1000]) != 1000 {
		t.Errorf("All of 1000 /: %d", len(l))
	}
	if l := All(long(200)); len(l) != 7 || l[0] != name(32) || l[5] != long(197) || l[6] != long(200) {
		t.Errorf("All of %s: %q", long(200), l)
	}
}

// 14.5: Join of Parent and Base is the path, and it is the last of All.
func TestPathsAreParentAndBase(t *testing.T) {
	met := 0
	for _, p := range append(every(7, "a", ".", "/", name(16)), long(200), long(199)) {
		if p == "" || Check(p) != api.OK {
			continue
		}
		met++
		wantText(t, "Join of Parent and Base of "+short(p), Join(Parent(p), Base(p)), p)
		l := All(p)
		if len(l) == 0 || l[len(l)-1] != p {
			t.Errorf("All of %s: %q", short(p), l)
		}
		for i, dir := range l {
			wantChecked(t, dir, true)
			wantUnder(t, p, dir, true)
			if i > 0 {
				wantText(t, "Parent of "+short(dir), Parent(dir), l[i-1])
			}
		}
	}
	if met < 1000 {
		t.Errorf("only %d paths", met)
	}
}

// 14.7: what is under a path that is under another one is under that one.
func TestUnderIsKeptAlong(t *testing.T) {
	all := every(5, "a", "/", "b/")
	kept := 0
	for _, p := range all {
		for _, q := range all {
			if !Under(p, q) {
				continue
			}
			for _, r := range all {
				if Under(q, r) {
					wantUnder(t, p, r, true)
					kept++
				}
			}
		}
	}
	if kept < 1000 {
		t.Errorf("only %d times", kept)
	}
}
