package path

import (
	"strings"
	"testing"

	"sutler/api"
)

// 14.1: what is a clean path, and is one already.
func TestCleanPaths(t *testing.T) {
	for _, p := range []string{
		"a", "a/b", "usr/bin/x", "etc", "...", "..a", "a..", ".a", "a.", ".../....", "-", "~", "!", "!/~", "\\", "a\\b", "A:b",
		"a/.b/..c", name(api.MaxName), name(api.MaxName) + "/" + name(api.MaxName), "a/" + name(api.MaxName),
		long(api.MaxPath - 1), long(api.MaxPath), strings.Repeat("a/", 99) + "a", strings.Repeat("a/", 99) + "bb",
	} {
		wantChecked(t, p, true)
		wantCleaned(t, p, p)
	}
}

// 14.1: the root is a clean path, the empty one, but an archive tells it by . or ./ alone: the empty
// text has no name in it, and is none of what an archive calls a file.
func TestTheRootAndTheEmptyText(t *testing.T) {
	wantChecked(t, "", true)
	wantUncleaned(t, "")
	for _, root := range []string{".", "./"} {
		wantChecked(t, root, false)
		wantCleaned(t, root, "")
	}
	for _, nameless := range []string{"/", "//", ".//", "././", "./.", "/.", "/./"} {
		wantChecked(t, nameless, false)
		wantUncleaned(t, nameless)
	}
}

// 14.1: what an archive may call a file besides, and what is meant.
func TestWhatAnArchiveCallsAFile(t *testing.T) {
	for s, want := range map[string]string{
		".": "", "./": "", "./a": "a", "a/": "a", "./a/": "a", "./usr/bin/": "usr/bin", "./usr/bin": "usr/bin", "usr/bin/": "usr/bin",
		"./...": "...", ".../": "...", "./.a": ".a", "./..a/": "..a", "./" + name(32): name(32), name(32) + "/": name(32),
		"./" + long(200): long(200), long(200) + "/": long(200), "./" + long(200) + "/": long(200), "./" + long(199) + "/": long(199),
	} {
		wantChecked(t, s, false)
		wantCleaned(t, s, want)
	}
}

// 14.1: what is none of these.
func TestNeitherCleanNorToBeCleaned(t *testing.T) {
	for _, s := range []string{
		"/", "//", "///", "/.", "/..", "/a", "//a", "/a/", "/etc", "a//", "a//b", "a///b", "./a//", ".//", ".//a", "././", "././a", "./././",
		"..", "../", "../a", "a/..", "a/../b", "./..", "./../", "./../a", "a/../", "../..", "./.", "a/.", "a/./", "a/./b", "a/b/..", "a/b/.",
		name(api.MaxName + 1), "a/" + name(api.MaxName+1), name(api.MaxName+1) + "/a", "./" + name(api.MaxName+1), name(api.MaxName+1) + "/",
		long(api.MaxPath + 1), "./" + long(api.MaxPath+1), long(api.MaxPath+1) + "/", "./" + long(api.MaxPath+1) + "/",
		strings.Repeat("a/", 100) + "a", name(1 << 16), strings.Repeat("a/", 1<<16), strings.Repeat("/", 1<<16),
	} {
		wantChecked(t, s, false)
		wantUncleaned(t, s)
	}
}

// 14.1: each byte there is, alone and in a name, ahead, in the middle and behind.
func TestBytesOfNames(t *testing.T) {
	for x := range 256 {
		b := string([]byte{byte(x)})
		inName := x >= 33 && x <= 126 && x != '/'
		wantChecked(t, b, inName && x != '.')
		for _, s := range []string{b + "a", "a" + b, "a" + b + "a", "a/" + b + "c/d", "." + b + ".", b + b + b} {
			ok := inName || x == '/' && s == "a/a"
			wantChecked(t, s, ok)
			switch {
			case ok:
				wantCleaned(t, s, s)
				wantCleaned(t, "./"+s+"/", s)
			case x != '/':
				wantUncleaned(t, s)
				wantUncleaned(t, "./"+s+"/")
			}
		}
	}
	wantChecked(t, "\u00e4", false)
	wantUncleaned(t, "usr/\u00e4")
	wantUncleaned(t, "usr\x00")
	wantUncleaned(t, "\x00")
	wantUncleaned(t, " ")
}

// 14.1: a name of each length, at each place of a path.
func TestLengthsOfNames(t *testing.T) {
	for n := 1; n <= 70; n++ {
		for _, p := range []string{name(n), name(n) + "/b", "a/" + name(n), "a/" + name(n) + "/b"} {
			wantChecked(t, p, n <= 32)
		}
	}
}

// 14.1: several faults in one text, each of which is told by the same error.
func TestSeveralFaultsOfAName(t *testing.T) {
	faults := []string{"/", "..", "\x00", name(33), long(201), ".", " "}
	for _, a := range faults {
		for _, b := range faults {
			for _, between := range []string{"/", "//", "/a/"} {
				wantChecked(t, a+between+b, false)
				wantUncleaned(t, a+between+b)
				wantUncleaned(t, "./"+a+between+b)
			}
		}
	}
}

// 14.4: what Clean makes is clean, and Clean leaves it; but not the root, as the empty text is none of
// what an archive calls a file (14.1).
func TestCleanMakesCleanPathsAndLeavesThem(t *testing.T) {
	made, roots := 0, 0
	for _, s := range append(every(7, "a", ".", "/", name(16)), long(200), "./"+long(200)+"/") {
		p, e := Clean(s)
		if e != api.OK {
			continue
		}
		wantChecked(t, p, true)
		if p == "" {
			roots++
			wantUncleaned(t, p)
			continue
		}
		made++
		wantCleaned(t, p, p)
	}
	if made < 1000 || roots != 2 {
		t.Errorf("%d were made, and %d times the root", made, roots)
	}
}

// The chapter's examples.
func TestExamples(t *testing.T) {
	wantCleaned(t, "./usr/bin/", "usr/bin")
	wantUncleaned(t, "/etc")
	wantUncleaned(t, "a/../b")
	wantLed(t, "usr/bin/x", "../lib/y", "usr/lib/y")
}
