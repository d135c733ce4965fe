package path

import (
	"regexp"
	"slices"
	"strings"
	"testing"

	"sutler/api"
)

// What the chapter's words say is told here by patterns and by texts that are cut, without a list of names.

var (
	nameBytes = regexp.MustCompile(`^[!-.0-~]{1,32}$`)
	pathBytes = regexp.MustCompile(`^[!-.0-~]{1,32}(/[!-.0-~]{1,32})*$`)
	dots      = regexp.MustCompile(`(^|/)\.\.?(/|$)`)
)

// latin is each byte as a rune of its own, so that none is taken together with others.
func latin(s string) string {
	var runes []rune
	for _, b := range []byte(s) {
		runes = append(runes, rune(b))
	}
	return string(runes)
}

// isPath tells by the words whether a text is a clean path.
func isPath(p string) bool {
	return p == "" || len(p) <= 200 && pathBytes.MatchString(latin(p)) && !dots.MatchString(p)
}

// meant is the clean path that is meant by the words, if there is one.
func meant(s string) (string, bool) {
	if s == "." || s == "./" {
		return "", true
	}
	for _, ahead := range []string{"", "./"} {
		for _, behind := range []string{"", "/"} {
			if len(s) <= len(ahead+behind) || !strings.HasPrefix(s, ahead) || !strings.HasSuffix(s, behind) {
				continue
			}
			// What is left of the text has at least one byte, and so it has a name, if it is a path.
			if p := s[len(ahead) : len(s)-len(behind)]; isPath(p) {
				return p, true
			}
		}
	}
	return "", false
}

// led is where a target leads from a place by the words. A place has a / ahead of each name.
func led(place, to string) (string, bool) {
	part, behind, more := strings.Cut(to, "/")
	last := strings.LastIndex(place, "/")
	switch {
	case part == ".." && place == "":
		return "", false
	case part == "..":
		place = place[:last]
	case part != "" && part != "." && !nameBytes.MatchString(latin(part)):
		return "", false
	case part != "" && part != ".":
		place += "/" + part
	}
	if more {
		return led(place, behind)
	}
	place = strings.TrimPrefix(place, "/")
	return place, len(place) <= 200
}

// targetOf is the answer of Target by the words, if it is no error.
func targetOf(at, to string) (string, bool) {
	if at == "" || to == "" || !isPath(at) {
		return "", false
	}
	place := "/" + at
	place = place[:strings.LastIndex(place, "/")]
	if to[0] == '/' {
		place = ""
	}
	return led(place, to)
}

// wantAsTold holds Check and Clean against the words.
func wantAsTold(t *testing.T, s string) bool {
	t.Helper()
	wantChecked(t, s, isPath(s))
	p, ok := meant(s)
	if ok {
		wantCleaned(t, s, p)
	} else {
		wantUncleaned(t, s)
	}
	return ok
}

// wantLedAsTold holds Target against the words.
func wantLedAsTold(t *testing.T, at, to string) bool {
	t.Helper()
	p, ok := targetOf(at, to)
	if ok {
		wantLed(t, at, to, p)
		wantChecked(t, p, true)
	} else {
		wantNowhere(t, at, to)
	}
	return ok
}

// wantPartsAsTold holds Parent, Base, All and Join against texts that are parted at each /.
func wantPartsAsTold(t *testing.T, p string) {
	t.Helper()
	parts := strings.Split(p, "/")
	last := len(parts) - 1
	wantText(t, "Parent of "+short(p), Parent(p), strings.Join(parts[:last], "/"))
	wantText(t, "Base of "+short(p), Base(p), parts[last])
	var all []string
	for i := range parts {
		if p != "" {
			all = append(all, strings.Join(parts[:i+1], "/"))
		}
	}
	wantAll(t, p, all...)
}

// joined is two texts as one by the words.
func joined(a, b string) string {
	switch "" {
	case a:
		return b
	case b:
		return a
	}
	return strings.Join([]string{a, b}, "/")
}

// isUnder tells by the words whether a text is under another one.
func isUnder(p, dir string) bool {
	if dir == "" || dir == p {
		return true
	}
	return len(p) > len(dir) && p[:len(dir)] == dir && p[len(dir)] == '/'
}

// 14.1, 14.3: all short texts out of some pieces.
func TestShortTextsAsTold(t *testing.T) {
	clean, others := 0, 0
	for _, s := range append(every(9, "a", ".", "/"), every(6, "a", ".", "/", "\x7f", name(31), "..")...) {
		if wantAsTold(t, s) {
			clean++
		} else {
			others++
		}
		wantPartsAsTold(t, s)
	}
	if clean < 1000 || others < 1000 {
		t.Errorf("%d of the texts mean a path, %d do not", clean, others)
	}
}

// 14.2, 14.6: all short targets out of some pieces, from all short places.
func TestShortTargetsAsTold(t *testing.T) {
	well, nowhere := 0, 0
	places := append(every(3, "a", "/", "."), "a/b/c", "a/b/c/d", long(200), long(164)+"/x", long(201))
	targets := append(every(7, "b", ".", "/"), every(5, "b", "..", "/", " ", name(32))...)
	for _, at := range places {
		for _, to := range targets {
			if wantLedAsTold(t, at, to) {
				well++
			} else {
				nowhere++
			}
		}
	}
	if well < 10000 || nowhere < 10000 {
		t.Errorf("%d of the targets lead to a path, %d do not", well, nowhere)
	}
}

// 14.3, 14.7: all pairs of short texts.
func TestPairsAsTold(t *testing.T) {
	all := append(every(4, "a", "/", "b"), "a/b/c", "aa/b", "\x00", "\xff/a")
	for _, a := range all {
		for _, b := range all {
			wantText(t, "Join of "+short(a)+" and "+short(b), Join(a, b), joined(a, b))
			wantUnder(t, a, b, isUnder(a, b))
			if a != "" && b != "" {
				wantUnder(t, Join(a, b), a, true)
			}
		}
	}
}

// text is a text by chance, of names, dots, / and a few other bytes.
func (c *chance) text(parts int) string {
	s := c.one("", "", "", "./", "/")
	for range c.below(parts + 1) {
		switch c.below(20) {
		case 0:
			s += c.one("", ".", "..", "../..", "...")
		case 1:
			s += c.one(name(32), name(33), name(31), "\x00", " ", "\x80")
		case 2, 3, 4, 5:
			s += name(1 + c.below(32))
		default:
			s += c.one("a", "bc", "usr", "lib.so", "x-y", "~", "!")
		}
		s += c.one("/", "/", "/", "/", "/", "/", "/", "/", "/", "//", "/./", "")
	}
	return strings.TrimSuffix(s, c.one("", "/", "/", "/"))
}

// 14.1, 14.3: longer texts by chance.
func TestTextsByChanceAsTold(t *testing.T) {
	c, clean := chance(1), 0
	for range 50000 {
		s := c.text(1 + c.below(24))
		if wantAsTold(t, s) {
			clean++
		}
		wantPartsAsTold(t, s)
		other := c.text(3)
		wantUnder(t, s, other, isUnder(s, other))
		wantText(t, "Join of "+short(s)+" and "+short(other), Join(s, other), joined(s, other))
	}
	if clean < 10000 || clean > 40000 {
		t.Errorf("%d of 50000 mean a path", clean)
	}
}

// target is a target by chance, that goes up and down.
func (c *chance) target() string {
	s := c.one("", "", "/")
	for range 1 + c.below(1+c.below(40)) {
		s += c.one("..", "..", "..", ".", "", "a", "bc", name(32), name(20), "usr", "lib.so") + "/"
		if c.below(200) == 0 {
			s += c.one("\x00", name(33), "\xff", "a b")
		}
	}
	return strings.TrimSuffix(s, c.one("", "/"))
}

// 14.2, 14.6: longer targets by chance, from clean paths and others.
func TestTargetsByChanceAsTold(t *testing.T) {
	c, well := chance(2), 0
	for range 100000 {
		at := c.text(12)
		if p, e := Clean(at); e == api.OK && c.below(4) > 0 {
			at = p
		}
		if wantLedAsTold(t, at, c.target()) {
			well++
		}
	}
	if well < 5000 || well > 90000 {
		t.Errorf("%d of 100000 led to a path", well)
	}
}

// Rule 4: what is handed out is the caller's own, and no two answers share anything.
func TestWhatIsHandedOutIsTheCallers(t *testing.T) {
	const p = "usr/bin/x/y"
	want := []string{"usr", "usr/bin", "usr/bin/x", p}
	first := All(p)
	for range 3 {
		other := All(p)
		other = other[:cap(other)]
		clear(other)
		other = append(All(p)[:2], "other", "others", "another")
		other[0] = "changed"
		if !slices.Equal(first, want) {
			t.Errorf("behind a change of another answer: %q", first)
		}
		wantAll(t, p, want...)
	}
	wantLed(t, p, "../z", "usr/bin/z")
}

// P2: a call that is refused changes nothing for later ones.
func TestRefusedChangesNothing(t *testing.T) {
	for _, bad := range []string{"..", "/a/../..", name(33), long(201), "\x00", "a/../../../../b"} {
		wantUncleaned(t, bad)
		wantChecked(t, bad, false)
		wantNowhere(t, bad, "a")
		wantNowhere(t, "x", bad)
		wantCleaned(t, "./usr/", "usr")
		wantLed(t, "usr/x", "../y", "y")
		wantAll(t, "a/b", "a", "a/b")
	}
}

// What many ask at once is answered to each as if it were alone.
func TestManyAtOnce(t *testing.T) {
	done := make(chan bool)
	for i := range 8 {
		go func() {
			defer func() { done <- true }()
			for n := range 200 {
				p := name(1+i) + "/" + name(1+n%32)
				wantCleaned(t, "./"+p+"/", p)
				wantLed(t, p+"/x", "../y/.", name(1+i)+"/y")
				wantAll(t, p, name(1+i), p)
			}
		}()
	}
	for range 8 {
		<-done
	}
}
