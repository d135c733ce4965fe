package dirs

import (
	"bytes"
	"math/rand"
	"slices"
	"strings"
	"testing"

	"sutler/api"
)

// 7.4

func TestWhatWasAddedIsFoundAndOthersStay(t *testing.T) {
	for _, l := range goodDirs() {
		for _, name := range []string{"!", "-", "Aa", "aaaa", "n1000", "n2", "x1", "~~", strings.Repeat("y", 32)} {
			_, e := Look(l, name)
			if e != api.ErrNone || len(l) == 256 {
				continue
			}
			to := add(t, l, name, 4711)
			wantLook(t, to, name, 4711, api.OK)
			for _, n := range l {
				wantLook(t, to, n.Name, n.Inode, api.OK)
			}
			wantList(t, "removed again", remove(t, to, name), l)
			wantList(t, "added and removed once more", remove(t, add(t, remove(t, to, name), name, 1), name), l)
		}
		for _, n := range l {
			to := remove(t, l, n.Name)
			wantLook(t, to, n.Name, 0, api.ErrNone)
			for _, m := range l {
				if m != n {
					wantLook(t, to, m.Name, m.Inode, api.OK)
				}
			}
			wantList(t, "added again", add(t, to, n.Name, n.Inode), l)
		}
	}
}

func TestRemovedAgainEntriesThatAreNoDirectoryAreAsTheyWere(t *testing.T) {
	from := []api.Name{{Name: "a", Inode: 1}, {Name: "c", Inode: 2}, {Name: "d", Inode: 3}, {Name: "", Inode: -4}}
	lists(from, 5, func(l []api.Name) {
		wantList(t, "removed again", remove(t, add(t, l, "b", 9), "b"), l)
	})
}

// 7.5

// wantDir sees to it that entries are a directory, and that its bytes lead back to it.
func wantDir(t *testing.T, what string, l []api.Name) {
	t.Helper()
	if !isDir(l) {
		t.Fatalf("%s: no directory: %v", what, l)
	}
	wantPrint(t, l, laid(l))
	wantParse(t, laid(l), l)
}

func TestAddAndRemoveMakeDirectories(t *testing.T) {
	for _, l := range goodDirs() {
		for _, c := range letters {
			to, e := Add(l, string(c)+"a", 65535)
			if e == api.OK {
				wantDir(t, "Add", to)
			}
		}
		for _, n := range l {
			wantDir(t, "Remove", remove(t, l, n.Name))
		}
	}
}

// sorted is a model's entries, rising.
func sorted(model map[string]int) []api.Name {
	var l []api.Name
	for name, inode := range model {
		l = append(l, api.Name{Name: name, Inode: inode})
	}
	slices.SortFunc(l, func(a, b api.Name) int { return bytes.Compare([]byte(a.Name), []byte(b.Name)) })
	return l
}

// TestADirectoryIsAsAMapOfNames holds entries that are added and removed by chance against a map:
// first more are added, up to MaxItems and beyond, then more are removed.
func TestADirectoryIsAsAMapOfNames(t *testing.T) {
	r := rand.New(rand.NewSource(77))
	var l []api.Name
	model := map[string]int{}
	full := 0
	for step := range 12000 {
		name := make([]byte, 1+r.Intn(2))
		for i := range name {
			name[i] = letters[r.Intn(40)]
		}
		_, there := model[string(name)]
		if !isName(string(name)) {
			continue
		}
		if r.Intn(10) < 7-step/2000 {
			want := api.OK
			switch {
			case there:
				want = api.ErrSame
			case len(model) == 256:
				want, full = api.ErrFull, full+1
			default:
				model[string(name)] = step
			}
			to, e := Add(l, string(name), step)
			wantErr(t, "Add", e, want)
			if e == api.OK {
				l = to
			}
		} else {
			to, e := Remove(l, string(name))
			if there != (e == api.OK) {
				t.Fatalf("Remove(%q): error %d", name, e)
			}
			if there {
				l = to
				delete(model, string(name))
			}
		}
		if step%50 == 0 {
			wantDir(t, "a directory", l)
		}
		if !slices.Equal(l, sorted(model)) {
			t.Fatalf("step %d: %v, want %v", step, l, sorted(model))
		}
	}
	if full == 0 {
		t.Errorf("the directory was never full")
	}
}

func TestADirectoryIsFilledInAnyOrder(t *testing.T) {
	r := rand.New(rand.NewSource(78))
	all := numbered(256)
	for range 5 {
		var l []api.Name
		for _, i := range r.Perm(256) {
			l = add(t, l, all[i].Name, all[i].Inode)
		}
		wantList(t, "a full directory", l, all)
		wantAdd(t, l, "n256", 0, nil, api.ErrFull)
		for k, i := range r.Perm(256) {
			l = remove(t, l, all[i].Name)
			if len(l) != 255-k {
				t.Fatalf("%d entries, want %d", len(l), 255-k)
			}
			if k%10 == 0 {
				wantDir(t, "a directory", l)
			}
		}
	}
}

// The rules that hold everywhere

// backed is a directory, behind which its memory has other entries.
func backed(count int) (l, memory []api.Name) {
	memory = append(numbered(count), entries("behind", "it", "all")...)
	return memory[:count], memory
}

func TestWhatIsHandedInStays(t *testing.T) {
	for _, count := range []int{0, 1, 2, 5, 255, 256} {
		l, memory := backed(count)
		kept := slices.Clone(memory)
		Print(l)
		for _, name := range []string{"a", "n000", "n001", "n0010", "n254", "n255", "o", "..", "a/b", ""} {
			Check(name)
			Look(l, name)
			Remove(l, name)
			for _, inode := range []int{-1, 0, 9, 65535, 65536} {
				Add(l, name, inode)
			}
		}
		wantList(t, "what was handed in", memory, kept)
	}
	for _, b := range []string{"", "\x01a\x02\x01", "\x01a\x02\x01\x01a\x02\x01", "\x05a\x02", laid(numbered(256)), laid(numbered(257))} {
		in := []byte(b)
		Parse(in)
		if string(in) != b {
			t.Errorf("Parse changes its bytes: %q, want %q", in, b)
		}
	}
}

// spoil changes all that an answer's memory has.
func spoil(l []api.Name) {
	l = l[:cap(l)]
	for i := range l {
		l[i] = api.Name{Name: "spoilt", Inode: -1}
	}
}

func TestEntriesThatAreHandedOutAreTheCallersOwn(t *testing.T) {
	for _, count := range []int{1, 2, 5, 255} {
		l, memory := backed(count)
		kept := slices.Clone(memory)
		for _, name := range []string{"a", "n0005", "o"} {
			one, two := add(t, l, name, 1), add(t, l, name, 1)
			want := slices.Clone(two)
			spoil(one)
			wantList(t, "the other answer of Add", two, want)
		}
		for _, at := range []int{0, count / 2, count - 1} {
			one, two := remove(t, l, l[at].Name), remove(t, l, l[at].Name)
			want := slices.Clone(two)
			spoil(one)
			wantList(t, "the other answer of Remove", two, want)
		}
		wantList(t, "what was handed in", memory, kept)
	}
	l, memory := backed(0)
	spoil(add(t, l, "a", 1))
	wantList(t, "what was handed in", memory, entries("behind", "it", "all"))
}

func TestWhatParseAndPrintHandOutIsTheCallersOwn(t *testing.T) {
	b := []byte(laid(numbered(9)))
	l, e := Parse(b)
	wantErr(t, "Parse", e, api.OK)
	clear(b)
	wantList(t, "Parse, whose bytes were changed behind it", l, numbered(9))
	spoil(l)
	wantParse(t, laid(numbered(9)), numbered(9))
	one, e := Print(numbered(9))
	wantErr(t, "Print", e, api.OK)
	clear(one[:cap(one)])
	wantPrint(t, numbered(9), laid(numbered(9)))
}
