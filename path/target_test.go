package path

import (
	"strings"
	"testing"
	"time"

	"sutler/api"
)

// 14.2: from the root, where the target begins with a /.
func TestTargetsFromTheRoot(t *testing.T) {
	for to, want := range map[string]string{
		"/": "", "//": "", "/.": "", "/./": "", "/./.": "", "/a": "a", "/a/": "a", "//a": "a", "/a//b": "a/b", "/a/./b": "a/b", "/a/..": "",
		"/a/../": "", "/a/../b": "b", "/a/b/..": "a", "/a/b/../..": "", "/a/b/../../c/d": "c/d", "/./a/../b/.//c/..": "b", "/.../..": "",
		"/...": "...", "/..a": "..a", "/" + long(200): long(200), "/" + name(32): name(32),
	} {
		for _, at := range []string{"x", "usr/x", "usr/bin/x", long(200)} {
			wantLed(t, at, to, want)
		}
	}
	for _, to := range []string{"/..", "/../", "/../a", "/a/../..", "/a/../../b", "/./..", "//..", "/a/b/../../..", "/" + long(201), "/" + name(33), "/ ", "/a/\x7f"} {
		for _, at := range []string{"x", "usr/x", "usr/bin/x", long(200)} {
			wantNowhere(t, at, to)
		}
	}
}

// 14.2: from the parent, where the target does not.
func TestTargetsFromTheParent(t *testing.T) {
	for to, want := range map[string]string{
		".": "usr/bin", "./": "usr/bin", ".//.": "usr/bin", "..": "usr", "../": "usr", "../..": "", "../../": "", ".././..//": "", "x": "usr/bin/x",
		"y": "usr/bin/y", "./y": "usr/bin/y", "y/": "usr/bin/y", "../lib/y": "usr/lib/y", "../../etc": "etc", "../bin/x": "usr/bin/x",
		"y/z": "usr/bin/y/z", "y/..": "usr/bin", "y/../..": "usr", "y/../../..": "", "y//z": "usr/bin/y/z", "..//../a/./b/..": "a",
	} {
		wantLed(t, "usr/bin/x", to, want)
	}
	for _, to := range []string{"../../..", "../../../", "../../../a", "y/../../../..", ".././../..", "../../../usr/bin/x", name(33), " ", "y/ ", "\x00", "../\x1f", "\x7f/..", name(33) + "/.."} {
		wantNowhere(t, "usr/bin/x", to)
	}
}

// 14.2: from a path just below the root: its parent is the root.
func TestTargetsJustBelowTheRoot(t *testing.T) {
	for to, want := range map[string]string{".": "", "./": "", "a": "a", "./a": "a", "x": "x", "a/b": "a/b", "a/..": "", "a/../b": "b", "...": "..."} {
		wantLed(t, "x", to, want)
	}
	for _, to := range []string{"..", "../", "../a", "../x", "./..", "a/../..", "./../a", "..//.."} {
		wantNowhere(t, "x", to)
	}
}

// 14.2: what may be no place of a link: the root, and what is no clean path.
func TestPlacesOfNoLink(t *testing.T) {
	for _, at := range []string{
		"", "/", ".", "..", "./", "./a", "a/", "/a", "a//b", "a/../b", "a/./b", " ", "a\x00", name(33), long(201), "x/" + name(33), "\xff",
	} {
		for _, to := range []string{"a", "/a", "/", ".", "..", "", name(33), "/.."} {
			wantNowhere(t, at, to)
		}
	}
}

// 14.2: an empty target leads nowhere, wherever it is.
func TestEmptyTargets(t *testing.T) {
	for _, at := range []string{"x", "usr/x", "usr/bin/x", long(200)} {
		wantNowhere(t, at, "")
	}
}

// 14.2: each byte there is, as a part and in one.
func TestBytesOfTargets(t *testing.T) {
	for x := range 256 {
		b := string([]byte{byte(x)})
		switch inName := x >= 33 && x <= 126 && x != '/'; {
		case inName:
			wantLed(t, "d/x", "a"+b+"c", "d/a"+b+"c")
			wantLed(t, "d/x", "/a/"+b+"c", "a/"+b+"c")
		case x == '/':
			wantLed(t, "d/x", "a"+b+"c", "d/a/c")
			wantLed(t, "d/x", "/a/"+b+"c", "a/c")
		default:
			wantNowhere(t, "d/x", "a"+b+"c")
			wantNowhere(t, "d/x", "/a/"+b+"c")
			wantNowhere(t, "d/x", b)
			wantNowhere(t, "d/x", b+"/..")
		}
	}
}

// 14.2: a name of each length, also of one that is left again.
func TestLengthsOfTargets(t *testing.T) {
	for n := 1; n <= 70; n++ {
		if n > 32 {
			wantNowhere(t, "d/x", name(n))
			wantNowhere(t, "d/x", name(n)+"/..")
			wantNowhere(t, "d/x", "/"+name(n)+"/../a")
			continue
		}
		wantLed(t, "d/x", name(n), "d/"+name(n))
		wantLed(t, "d/x", name(n)+"/..", "d")
		wantLed(t, "d/x", "/"+name(n)+"/../a", "a")
	}
}

// 14.2: only where a path ends its length is asked for.
func TestTooLongOnTheWayAndAtTheEnd(t *testing.T) {
	deep := long(164)
	full := deep + "/" + name(32) // 197 bytes
	wantLed(t, deep+"/x", name(32)+"/zz", full+"/zz")
	wantNowhere(t, deep+"/x", name(32)+"/zzz")
	wantLed(t, deep+"/x", name(32)+"/zzz/..", full)
	wantLed(t, deep+"/x", name(32)+"/zzz/../z", full+"/z")
	wantLed(t, deep+"/x", name(32)+"/"+name(32)+"/../../y", deep+"/y")
	wantLed(t, full+"/x", "zz", full+"/zz")
	wantNowhere(t, full+"/x", "zzz")
	wantLed(t, full+"/x", "../"+name(32), full)
	wantLed(t, full+"/x", "../"+name(32)+"/zz", full+"/zz")
	wantNowhere(t, full+"/x", "../"+name(32)+"/zzz")
	for _, steps := range []int{100, 101, 1000, 100000} {
		there, back := strings.Repeat("a/", steps), strings.Repeat("../", steps)
		wantLed(t, "d/x", there+back, "d")
		wantLed(t, "d/x", there+back+"b", "d/b")
		wantLed(t, "d/x", there+back+"../b", "b")
		wantLed(t, "d/x", "/"+there+back, "")
		wantNowhere(t, "d/x", there+back+"../..")
		wantNowhere(t, "d/x", "/"+there+back+"..")
		wantNowhere(t, "d/x", there)
		wantNowhere(t, "d/x", "/"+there+"b")
	}
	hundred := strings.TrimSuffix(strings.Repeat("a/", 100), "/") // 199 bytes
	wantLed(t, "x", hundred, hundred)
	wantLed(t, "x", hundred+"b", hundred+"b")
	wantNowhere(t, "x", hundred+"bc")
	wantNowhere(t, "x", hundred+"/b")
	wantLed(t, "x", hundred+"/b/..", hundred)
}

// 14.2: empty parts and . stay where they are, however many there are.
func TestPartsThatStay(t *testing.T) {
	wantLed(t, "d/x", strings.Repeat("/", 1<<16)+"a", "a")
	wantLed(t, "d/x", strings.Repeat("./", 1<<16)+"a", "d/a")
	wantLed(t, "d/x", "a"+strings.Repeat("/", 1<<16), "d/a")
	wantLed(t, "d/x", "a"+strings.Repeat("/.", 1<<16), "d/a")
	wantNowhere(t, "d/x", strings.Repeat("/", 1<<16)+"..")
}

// 14.2: several faults at once are one error.
func TestSeveralFaultsOfATarget(t *testing.T) {
	places := []string{"d/x", "x", "", "/", "a//b", name(33), long(201)}
	faults := []string{"../../..", " ", name(33), long(1000), "a/\x00"}
	for _, at := range places {
		for _, a := range faults {
			for _, b := range faults {
				wantNowhere(t, at, a+"/"+b)
				wantNowhere(t, at, "/"+a+"/"+b)
			}
		}
	}
}

// 14.6: where a target leads is a clean path, whatever it is.
func TestWhereTargetsLeadIsClean(t *testing.T) {
	led := 0
	for _, at := range []string{"x", "a/x", "a/b/c", long(200), long(164) + "/x", "", "/", "..", "a/.."} {
		for _, to := range every(6, "a", ".", "..", "/", name(31), "\x00") {
			p, e := Target(at, to)
			wantChecked(t, p, true)
			if e == api.OK {
				led++
			}
		}
	}
	if led < 10000 {
		t.Errorf("only %d led to a path", led)
	}
}

// P1: a call ends soon, also where a long way is gone up and down at its end.
func TestLongWaysUpAndDown(t *testing.T) {
	to := strings.Repeat("a/", 1<<18) + strings.Repeat("../a/", 1<<18) + strings.Repeat("../", 1<<18)
	began := time.Now()
	wantLed(t, "d/x", to+"b", "d/b")
	if took := time.Since(began); took > 10*time.Second {
		t.Errorf("it took %v", took)
	}
}
