package tar

import (
	"bytes"
	"fmt"
	"slices"
	"strings"
	"testing"

	"sutler/api"
)

// short is a text of which only the first bytes are told.
func short(s string) string {
	if len(s) > 300 {
		return fmt.Sprintf("%q.. (%d bytes)", s[:300], len(s))
	}
	return fmt.Sprintf("%q", s)
}

// shown is entries as a text, of their data only the first bytes.
func shown(l []api.Entry) string {
	all := fmt.Sprintf("%d entries", len(l))
	for i, e := range l {
		if i == 10 {
			return all + " .."
		}
		all += fmt.Sprintf("; %s kind %d mode %o %s", short(e.Path), e.Kind, e.Mode, short(e.Data))
	}
	return all
}

// wantRead asks for an archive's entries.
func wantRead(t *testing.T, what, b string, want ...api.Entry) {
	t.Helper()
	if got, e := Read([]byte(b)); e != api.OK || !slices.Equal(got, want) {
		t.Errorf("Read, %s: error %d, %s, want %s", what, e, shown(got), shown(want))
	}
}

// wantNotRead asks for an error of Read, and for nothing beside it.
func wantNotRead(t *testing.T, what, b string, want api.Errno) {
	t.Helper()
	if got, e := Read([]byte(b)); e != want || got != nil {
		t.Errorf("Read, %s: error %d, %s, want error %d", what, e, shown(got), want)
	}
}

// wantWritten asks for an archive, byte by byte, and for the entries that are read back out of it.
func wantWritten(t *testing.T, what string, l []api.Entry, want string) {
	t.Helper()
	got, e := Write(l)
	if e != api.OK || string(got) != want {
		t.Errorf("Write, %s, of %s: error %d, %s, want %s", what, shown(l), e, short(string(got)), short(want))
	}
	wantRead(t, what, want, l...)
}

// wantNotWritten asks for an error of Write, and for nothing beside it.
func wantNotWritten(t *testing.T, what string, l ...api.Entry) {
	t.Helper()
	if got, e := Write(l); e != api.ErrArg || got != nil {
		t.Errorf("Write, %s, of %s: error %d, %s, want error %d", what, shown(l), e, short(string(got)), api.ErrArg)
	}
}

// wantRecords asks for the keys and values of records.
func wantRecords(t *testing.T, b string, want ...string) {
	t.Helper()
	if got, e := Records([]byte(b)); e != api.OK || !slices.Equal(got, want) {
		t.Errorf("Records of %s: %q, error %d, want %q", short(b), got, e, want)
	}
}

// wantNoRecords asks for an error of Records, and for nothing beside it.
func wantNoRecords(t *testing.T, b string) {
	t.Helper()
	if got, e := Records([]byte(b)); e != api.ErrTar || got != nil {
		t.Errorf("Records of %s: %q, error %d, want error %d", short(b), got, e, api.ErrTar)
	}
}

// wantRecord asks for the record of a key and a value, and for these out of it.
func wantRecord(t *testing.T, key, value, want string) {
	t.Helper()
	if got := Record(key, value); got != want {
		t.Errorf("Record of %s and %s: %s, want %s", short(key), short(value), short(got), short(want))
	}
}

// filledBy is a text with bytes behind, n bytes in all.
func filledBy(s string, n int, fill string) string {
	if len(s) > n {
		panic("too long")
	}
	return s + strings.Repeat(fill, n-len(s))
}

// ustar is a header by the words of the chapter on headers.
func ustar(prefix, name, link string, mode, size int, kind byte) string {
	ahead := filledBy(name, 100, "\x00") + fmt.Sprintf("%07o\x000000000\x000000000\x00%011o\x0000000000000\x00", mode, size)
	behind := string([]byte{kind}) + filledBy(link, 100, "\x00") + "ustar\x0000" + filledBy("", 80, "\x00") +
		filledBy(prefix, 155, "\x00") + filledBy("", 12, "\x00")
	sum := 8 * int(' ')
	for _, b := range []byte(ahead + behind) {
		sum += int(b)
	}
	return ahead + fmt.Sprintf("%06o\x00 ", sum) + behind
}

// whole is bytes filled up with any bytes to a whole block.
func whole(b string) string {
	return filledBy(b, (len(b)+511)/512*512, "\xfe")
}

// noughts is bytes filled up with noughts to a whole block.
func noughts(b string) string {
	return filledBy(b, (len(b)+511)/512*512, "\x00")
}

// block is an empty block.
var block = filledBy("", 512, "\x00")

// ofKind is a member of a kind, whose header tells its size.
func ofKind(kind byte, name, link, data string) string {
	return ustar("", name, link, 0o640, len(data), kind) + whole(data)
}

func file(name, data string) string { return ofKind(48, name, "", data) }

func dir(name string) string { return ofKind(53, name, "", "") }

func link(name, to string) string { return ofKind(50, name, to, "") }

// nothing is words that tell nothing, of these records.
func nothing(records ...string) string {
	return ofKind(103, "nothing/..", "..", strings.Join(records, ""))
}

// comment is a record of n bytes or so that tells nothing.
func comment(n int, seed uint64) string { return record("comment", some(n, seed)) }

// words is more words, of these records.
func words(records ...string) string {
	return ofKind(120, "../more words", "", strings.Join(records, ""))
}

// record is the record of a key and a value by the words, which has fewer than 10000 bytes.
func record(key, value string) string {
	for n := range 10000 {
		if digits := fmt.Sprint(n); len(digits)+len(key)+len(value)+3 == n {
			return digits + " " + key + "=" + value + "\n"
		}
	}
	panic("too long")
}

// The entries of the members above.
func aFile(path, data string) api.Entry {
	return api.Entry{Path: path, Kind: api.KFile, Mode: 0o640, Data: data}
}

func aDir(path string) api.Entry {
	return api.Entry{Path: path, Kind: api.KDir, Mode: 0o640}
}

func aLink(path, to string) api.Entry {
	return api.Entry{Path: path, Kind: api.KLink, Mode: 0o777, Data: to}
}

// some is n bytes without a pattern, the same in each run.
func some(n int, seed uint64) string {
	b := make([]byte, n)
	for i := range b {
		seed = seed*6364136223846793005 + 1442695040888963407
		b[i] = byte(seed >> 56)
	}
	return string(b)
}

// long is a clean path of n bytes, or what would be one if it weren't too long. n is no multiple of
// 33, or else it would end by a /.
func long(n int) string {
	p := strings.Repeat(strings.Repeat("n", api.MaxName)+"/", n/33+1)[:n]
	if strings.HasSuffix(p, "/") {
		panic("ends by a /")
	}
	return p
}

// turned is a text with that byte another one.
func turned(s string, at int, to byte) string {
	b := bytes.Clone([]byte(s))
	b[at] = to
	return string(b)
}

// chance is numbers without a pattern, the same in each run.
type chance uint64

// below is a number from 0 to n - 1.
func (c *chance) below(n int) int {
	*c = *c*6364136223846793005 + 1442695040888963407
	return int(uint64(*c) >> 33 % uint64(n))
}

// one is one of some texts.
func (c *chance) one(out ...string) string {
	return out[c.below(len(out))]
}

// every is all texts of up to n of these pieces.
func every(n int, pieces ...string) []string {
	all, from := []string{""}, 0
	for range n {
		to := len(all)
		for _, s := range all[from:to] {
			for _, piece := range pieces {
				all = append(all, s+piece)
			}
		}
		from = to
	}
	return all
}
