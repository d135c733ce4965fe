package dirs

import (
	"slices"
	"strings"
	"testing"

	"sutler/api"
)

// 7.2: Look

func TestLookTellsTheInode(t *testing.T) {
	l := []api.Name{{Name: "a", Inode: 258}, {Name: "ab", Inode: 0}, {Name: "b", Inode: 65535}, {Name: "c", Inode: 1}}
	for _, n := range l {
		wantLook(t, l, n.Name, n.Inode, api.OK)
	}
	for _, name := range []string{"A", "aa", "abc", "ac", "b0", "!", "~", "d", "...", strings.Repeat("a", 32)} {
		wantLook(t, l, name, 0, api.ErrNone)
	}
	for _, l := range goodDirs() {
		for _, n := range l {
			wantLook(t, l, n.Name, n.Inode, api.OK)
		}
		wantLook(t, l, "there-is-none", 0, api.ErrNone)
	}
}

func TestLookOfNoEntries(t *testing.T) {
	wantLook(t, nil, "a", 0, api.ErrNone)
	wantLook(t, []api.Name{}, "a", 0, api.ErrNone)
	wantLook(t, nil, "", 0, api.ErrName)
}

func TestTextsThatAreNoNames(t *testing.T) {
	for _, name := range noNames() {
		for _, l := range [][]api.Name{nil, {}, entries("a", "b"), entries(name), entries("a", name), numbered(256), numbered(300)} {
			wantLook(t, l, name, 0, api.ErrName)
			wantAdd(t, l, name, 5, nil, api.ErrName)
			wantRemove(t, l, name, nil, api.ErrName)
		}
	}
}

// 7.2: Add

func TestAddStandsAheadOfTheFirstGreaterOne(t *testing.T) {
	l := add(t, nil, "b", 1)
	wantList(t, "Add to nothing", l, []api.Name{{Name: "b", Inode: 1}})
	l = add(t, l, "a", 2)
	wantList(t, "Add ahead", l, []api.Name{{Name: "a", Inode: 2}, {Name: "b", Inode: 1}})
	l = add(t, l, "c", 65535)
	wantList(t, "Add behind", l, []api.Name{{Name: "a", Inode: 2}, {Name: "b", Inode: 1}, {Name: "c", Inode: 65535}})
	l = add(t, l, "ab", 0)
	wantList(t, "Add between", l, []api.Name{{Name: "a", Inode: 2}, {Name: "ab", Inode: 0}, {Name: "b", Inode: 1}, {Name: "c", Inode: 65535}})
	wantList(t, "Add to a list that is empty", add(t, []api.Name{}, "x", 9), []api.Name{{Name: "x", Inode: 9}})
}

func TestAddOfInodes(t *testing.T) {
	for _, n := range []int{0, 1, 255, 256, 65534, 65535} {
		wantAdd(t, nil, "a", n, []api.Name{{Name: "a", Inode: n}}, api.OK)
		wantAdd(t, entries("b"), "a", n, []api.Name{{Name: "a", Inode: n}, {Name: "b", Inode: 1}}, api.OK)
	}
	for _, n := range noInodes() {
		wantAdd(t, nil, "a", n, nil, api.ErrArg)
		wantAdd(t, entries("b"), "a", n, nil, api.ErrArg)
	}
	wantAdd(t, entries("b"), "a", 1, []api.Name{{Name: "a", Inode: 1}, {Name: "b", Inode: 1}}, api.OK) // an inode may be there twice
}

func TestAddOfANameThatIsThere(t *testing.T) {
	l := entries("a", "ab", "b", "c")
	for _, n := range l {
		wantAdd(t, l, n.Name, n.Inode, nil, api.ErrSame)
		wantAdd(t, l, n.Name, 9, nil, api.ErrSame)
	}
	for i, n := range numbered(256) {
		wantAdd(t, numbered(256)[:i+1], n.Name, 9, nil, api.ErrSame)
	}
}

func TestAddUpToMaxItems(t *testing.T) {
	for _, count := range []int{254, 255} {
		wantAdd(t, numbered(count), "a", 1, append([]api.Name{{Name: "a", Inode: 1}}, numbered(count)...), api.OK)
		wantAdd(t, numbered(count), "o", 1, append(numbered(count), api.Name{Name: "o", Inode: 1}), api.OK)
	}
	for _, count := range []int{256, 257, 300, 1 << 17} {
		l := make([]api.Name, count)
		copy(l, numbered(min(count, 300)))
		for _, name := range []string{"a", "n000a", "o"} {
			wantAdd(t, l, name, 1, nil, api.ErrFull)
		}
	}
}

// TestAddOfAllThatIsWrongAtOnce goes through all sets of Add's errors: the first one is told.
func TestAddOfAllThatIsWrongAtOnce(t *testing.T) {
	const noName, noInode, isThere, isFull = 1, 2, 4, 8
	for set := range 16 {
		name, inode, l, want := "x", 7, numbered(250), api.OK
		if set&isFull != 0 {
			l, want = numbered(256), api.ErrFull
		}
		if set&isThere != 0 {
			l[100].Name, want = name, api.ErrSame
		}
		if set&noInode != 0 {
			inode, want = 65536, api.ErrArg
		}
		if set&noName != 0 {
			name, want = "x/", api.ErrName
			l[99].Name = name
		}
		got, e := Add(l, name, inode)
		wantErr(t, "Add", e, want)
		if want != api.OK && len(got) != 0 {
			t.Errorf("Add, of the errors %04b: %d entries", set, len(got))
		}
	}
}

// 7.2: Remove

func TestRemoveTellsTheOthers(t *testing.T) {
	l := entries("a", "ab", "b", "c")
	wantRemove(t, l, "a", l[1:], api.OK)
	wantRemove(t, l, "ab", []api.Name{l[0], l[2], l[3]}, api.OK)
	wantRemove(t, l, "b", []api.Name{l[0], l[1], l[3]}, api.OK)
	wantRemove(t, l, "c", l[:3], api.OK)
	wantRemove(t, l[:1], "a", nil, api.OK)
	for _, name := range []string{"A", "aa", "abc", "ac", "!", "~", "d", "..."} {
		wantRemove(t, l, name, nil, api.ErrNone)
	}
	wantRemove(t, nil, "a", nil, api.ErrNone)
	wantRemove(t, []api.Name{}, "a", nil, api.ErrNone)
	wantRemove(t, nil, "..", nil, api.ErrName)
}

func TestRemoveOutOfManyEntries(t *testing.T) {
	for _, count := range []int{255, 256, 257, 300} {
		for _, at := range []int{0, 1, 100, count - 2, count - 1} {
			l := numbered(count)
			wantRemove(t, l, l[at].Name, slices.Concat(l[:at], l[at+1:]), api.OK)
		}
	}
}

// 7.2: entries that are no directory

func TestEntriesWithANameTwice(t *testing.T) {
	l := []api.Name{{Name: "a", Inode: 1}, {Name: "b", Inode: 2}, {Name: "b", Inode: 3}, {Name: "a", Inode: 4}, {Name: "c", Inode: 5}}
	wantLook(t, l, "a", 1, api.OK)
	wantLook(t, l, "b", 2, api.OK)
	wantRemove(t, l, "a", []api.Name{l[1], l[2], l[3], l[4]}, api.OK)
	wantRemove(t, l, "b", []api.Name{l[0], l[2], l[3], l[4]}, api.OK)
	wantAdd(t, l, "b", 6, nil, api.ErrSame)
	wantAdd(t, l, "bb", 6, []api.Name{l[0], l[1], l[2], l[3], {Name: "bb", Inode: 6}, l[4]}, api.OK)
	wantLook(t, l[2:], "b", 3, api.OK)
	wantLook(t, l[2:], "a", 4, api.OK)
}

func TestEntriesThatAreOutOfOrder(t *testing.T) {
	l := []api.Name{{Name: "m", Inode: 1}, {Name: "z", Inode: 2}, {Name: "b", Inode: 3}, {Name: "y", Inode: 4}, {Name: "a", Inode: 5}}
	for i, n := range l {
		wantLook(t, l, n.Name, n.Inode, api.OK)
		wantRemove(t, l, n.Name, slices.Concat(l[:i], l[i+1:]), api.OK)
		wantAdd(t, l, n.Name, 9, nil, api.ErrSame)
	}
	for name, at := range map[string]int{"!": 0, "c": 0, "n": 1, "yy": 1, "zz": 5} {
		to := slices.Insert(slices.Clone(l), at, api.Name{Name: name, Inode: 9})
		wantAdd(t, l, name, 9, to, api.OK)
	}
}

func TestEntriesThatMayNotBe(t *testing.T) {
	l := []api.Name{{Name: "", Inode: -1}, {Name: "a/b", Inode: 70000}, {Name: "a", Inode: -5}, {Name: "..", Inode: 3}, {Name: "b", Inode: 65536}, {Name: "\xff", Inode: 1 << 40}}
	wantLook(t, l, "a", -5, api.OK)
	wantLook(t, l, "b", 65536, api.OK)
	wantLook(t, l, "c", 0, api.ErrNone)
	wantRemove(t, l, "a", slices.Concat(l[:2], l[3:]), api.OK)
	wantAdd(t, l, "a", 1, nil, api.ErrSame)
	wantAdd(t, l, "!", 1, slices.Insert(slices.Clone(l), 1, api.Name{Name: "!", Inode: 1}), api.OK)
	wantAdd(t, l, "aa", 1, slices.Insert(slices.Clone(l), 4, api.Name{Name: "aa", Inode: 1}), api.OK)
	wantAdd(t, l, "c", 1, slices.Insert(slices.Clone(l), 5, api.Name{Name: "c", Inode: 1}), api.OK)
}

func TestManyEntries(t *testing.T) {
	l := make([]api.Name, 1<<18)
	for i := range l {
		l[i] = api.Name{Name: "x", Inode: i}
	}
	l[len(l)-1].Name = "w"
	wantLook(t, l, "w", len(l)-1, api.OK)
	wantLook(t, l, "x", 0, api.OK)
	wantLook(t, l, "v", 0, api.ErrNone)
	to, e := Remove(l, "w")
	wantErr(t, "Remove", e, api.OK)
	if !slices.Equal(to, l[:len(l)-1]) {
		t.Errorf("Remove of the last one of many: others than those ahead of it")
	}
	_, e = Add(l, "w", 1)
	wantErr(t, "Add", e, api.ErrSame)
	_, e = Add(l, "v", 1)
	wantErr(t, "Add", e, api.ErrFull)
	_, e = Print(l)
	wantErr(t, "Print", e, api.ErrDir)
}

// 7.2, by other words

// others is entries but the first one of a name.
func others(l []api.Name, name string) (to []api.Name, inode int, there bool) {
	for _, n := range l {
		if n.Name == name && !there {
			inode, there = n.Inode, true
			continue
		}
		to = append(to, n)
	}
	return to, inode, there
}

// with is entries with one more, ahead of the first one of a greater name.
func with(l []api.Name, n api.Name) []api.Name {
	for i, x := range l {
		if strings.Compare(x.Name, n.Name) > 0 {
			return append(append(append([]api.Name{}, l[:i]...), n), l[i:]...)
		}
	}
	return append(append([]api.Name{}, l...), n)
}

func TestAllShortLists(t *testing.T) {
	from := []api.Name{{Name: "a", Inode: 1}, {Name: "a", Inode: 2}, {Name: "aa", Inode: 3}, {Name: "b", Inode: 4}, {Name: "c", Inode: 5}, {Name: "", Inode: -6}, {Name: "b/", Inode: 70000}}
	lists(from, 4, func(l []api.Name) {
		for _, name := range []string{"!", "a", "aa", "ab", "b", "c", "d"} {
			to, inode, there := others(l, name)
			if !there {
				wantLook(t, l, name, 0, api.ErrNone)
				wantRemove(t, l, name, nil, api.ErrNone)
				wantAdd(t, l, name, 9, with(l, api.Name{Name: name, Inode: 9}), api.OK)
				continue
			}
			wantLook(t, l, name, inode, api.OK)
			wantRemove(t, l, name, to, api.OK)
			wantAdd(t, l, name, 9, nil, api.ErrSame)
		}
	})
}
