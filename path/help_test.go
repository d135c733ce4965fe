package path

import (
	"fmt"
	"slices"
	"strings"
	"testing"

	"sutler/api"
)

// short is a text of which only the first bytes are told.
func short(s string) string {
	if len(s) > 300 {
		return fmt.Sprintf("%q.. (%d bytes)", s[:300], len(s))
	}
	return fmt.Sprintf("%q", s)
}

// wantChecked asks whether a text is a clean path.
func wantChecked(t *testing.T, p string, clean bool) {
	t.Helper()
	want := api.OK
	if !clean {
		want = api.ErrPath
	}
	if got := Check(p); got != want {
		t.Errorf("Check of %s: error %d, want %d", short(p), got, want)
	}
}

// wantCleaned asks for the clean path that a text means.
func wantCleaned(t *testing.T, s, want string) {
	t.Helper()
	if got, e := Clean(s); got != want || e != api.OK {
		t.Errorf("Clean of %s: %s, error %d, want %s", short(s), short(got), e, short(want))
	}
}

// wantUncleaned asks for an error of Clean, and for nothing beside it.
func wantUncleaned(t *testing.T, s string) {
	t.Helper()
	if got, e := Clean(s); got != "" || e != api.ErrPath {
		t.Errorf("Clean of %s: %s, error %d, want error %d", short(s), short(got), e, api.ErrPath)
	}
}

// wantLed asks where a link leads to.
func wantLed(t *testing.T, at, to, want string) {
	t.Helper()
	if got, e := Target(at, to); got != want || e != api.OK {
		t.Errorf("Target at %s to %s: %s, error %d, want %s", short(at), short(to), short(got), e, short(want))
	}
}

// wantNowhere asks for an error of Target, and for nothing beside it.
func wantNowhere(t *testing.T, at, to string) {
	t.Helper()
	if got, e := Target(at, to); got != "" || e != api.ErrPath {
		t.Errorf("Target at %s to %s: %s, error %d, want error %d", short(at), short(to), short(got), e, api.ErrPath)
	}
}

func wantText(t *testing.T, what, got, want string) {
	t.Helper()
	if got != want {
		t.Errorf("%s: %s, want %s", what, short(got), short(want))
	}
}

// wantAll asks for a path's parents and the path itself.
func wantAll(t *testing.T, p string, want ...string) {
	t.Helper()
	if got := All(p); !slices.Equal(got, want) {
		t.Errorf("All of %s: %q, want %q", short(p), got, want)
	}
}

func wantUnder(t *testing.T, p, dir string, want bool) {
	t.Helper()
	if got := Under(p, dir); got != want {
		t.Errorf("Under of %s and %s: %t, want %t", short(p), short(dir), got, want)
	}
}

// name is a name of n bytes.
func name(n int) string {
	return strings.Repeat("n", n)
}

// long is a clean path of n bytes, or what would be one if it weren't too long. n is no multiple of
// 33, or else it would end by a /.
func long(n int) string {
	p := strings.Repeat(name(api.MaxName)+"/", n/33+1)[:n]
	if strings.HasSuffix(p, "/") {
		panic("ends by a /")
	}
	return p
}

// chance is numbers without a pattern, the same in each run.
type chance uint64

// below is a number from 0 to n - 1.
func (c *chance) below(n int) int {
	*c = *c*6364136223846793005 + 1442695040888963407
	return int(uint64(*c) >> 33 % uint64(n))
}

// one is one of some texts.
func (c *chance) one(out ...string) string {
	return out[c.below(len(out))]
}

// every is all texts of up to n of these pieces.
func every(n int, pieces ...string) []string {
	all, from := []string{""}, 0
	for range n {
		to := len(all)
		for _, s := range all[from:to] {
			for _, piece := range pieces {
				all = append(all, s+piece)
			}
		}
		from = to
	}
	return all
}
