package delta_test

import (
	"fmt"
	"hash/crc32"
	"slices"
	"strings"
	"testing"

	"lumberroom/api"
	"lumberroom/delta"
)

func TestApply(t *testing.T) {
	small := []api.Item{dir("/a"), file("/a/b", "b"), file("/a!", "c"), link("/d", "a")}
	for i, c := range []struct {
		a    []api.Item
		l    []api.Edit
		want []api.Item
	}{
		{nil, nil, nil},
		{small, nil, small},
		{small, []api.Edit{}, small},
		{nil, []api.Edit{there(dir("/a")), there(file("/a/b", "b")), there(file("/a!", "c")), there(link("/d", "a"))}, small},
		{small, []api.Edit{gone("/a"), gone("/a/b"), gone("/a!"), gone("/d")}, nil},
		{small, []api.Edit{gone("/a/b")}, []api.Item{small[0], small[2], small[3]}},
		{small, []api.Edit{there(link("/a/b", "b"))}, []api.Item{small[0], link("/a/b", "b"), small[2], small[3]}},
		{small, []api.Edit{gone("/a"), gone("/a/b")}, small[2:]},
		{small, []api.Edit{there(file("/a", "")), gone("/a/b")}, []api.Item{file("/a", ""), small[2], small[3]}},
		{small, []api.Edit{there(dir("/d")), there(file("/d/e", "e"))}, []api.Item{small[0], small[1], small[2], dir("/d"), file("/d/e", "e")}},
		// What is there already may be said to be there.
		{small, []api.Edit{there(small[0]), there(small[3])}, small},
		{small, thereAll(small), small},
		// What is gone and was not there makes no difference; nor does the root,
		// which is no item.
		{small, []api.Edit{gone("/"), gone("/a/a"), gone("/a/b/c"), gone("/b"), gone("/e")}, small},
		{nil, []api.Edit{gone("/"), gone("/a"), gone("/a/b/c/d")}, nil},
		// What comes stands where its path asks for it.
		{
			small,
			[]api.Edit{there(file("/ ", "")), there(file("/a/a", "")), there(dir("/a/c")), there(file("/a/c/d", "")), there(file("/a ", "")), there(file("/a0", "")), there(file("/e", ""))},
			[]api.Item{file("/ ", ""), dir("/a"), file("/a/a", ""), file("/a/b", "b"), dir("/a/c"), file("/a/c/d", ""), file("/a ", ""), file("/a!", "c"), file("/a0", ""), link("/d", "a"), file("/e", "")},
		},
		{
			[]api.Item{file("/a!", "")},
			[]api.Edit{there(dir("/a")), there(file("/a/~", "")), gone("/b")},
			[]api.Item{dir("/a"), file("/a/~", ""), file("/a!", "")},
		},
	} {
		if w, err := delta.Apply(c.a, c.l); !slices.Equal(w, c.want) || err != api.OK {
			t.Errorf("case %d: %v, %v, want %v", i, w, err, c.want)
		}
		checkApply(t, c.a, c.l)
	}
}

func checkApplyRefuses(t *testing.T, a []api.Item, l []api.Edit, want api.Errno) {
	t.Helper()
	if w, err := delta.Apply(a, l); w != nil || err != want {
		t.Fatalf("Apply to %s (%d) of %s (%d): %d items, %v, want %v alone", few(a), len(a), few(l), len(l), len(w), err, want)
	}
}

// wrongEdits are right ones for Check, but make no world of two items.
func wrongEdits() []struct {
	x    api.Edit
	want api.Errno
} {
	return []struct {
		x    api.Edit
		want api.Errno
	}{
		{there(file("/", "")), api.ErrName},
		{there(dir("/")), api.ErrName},
		{there(api.Item{Path: "/b"}), api.ErrKind},
		{there(api.Item{Path: "/b", Kind: 4}), api.ErrKind},
		{there(api.Item{Path: "/b", Kind: -1, Mode: -1}), api.ErrKind},
		{there(api.Item{Path: "/b", Kind: 1, Mode: -1}), api.ErrArg},
		{there(api.Item{Path: "/b", Kind: 1, Mode: 512, Bytes: odd(1, 5000)}), api.ErrArg},
		{there(file("/b", odd(1, 4097))), api.ErrLarge},
		{there(api.Item{Path: "/b", Kind: 2, Bytes: "a"}), api.ErrLarge},
		{there(link("/b", odd(1, 1025))), api.ErrLarge},
		{there(link("/b", "")), api.ErrForm},
		{there(link("/b/c", "")), api.ErrForm},
		{there(file("/b/c", "")), api.ErrNone},
		{there(file("/a/b/c", "")), api.ErrNone},
		{there(dir("/a!/b")), api.ErrNone},
		{there(file("/a", "")), api.ErrNone},
		{there(link("/a", "/")), api.ErrNone},
		{gone("/a"), api.ErrNone},
	}
}

func TestApplyRefusesWhatIsNoWorld(t *testing.T) {
	a := []api.Item{dir("/a"), file("/a/b", "b")}
	for _, c := range wrongEdits() {
		checkApplyRefuses(t, a, []api.Edit{c.x}, c.want)
		checkApply(t, a, []api.Edit{c.x})
	}
	// The first item's fault is told.
	checkApplyRefuses(t, a, []api.Edit{gone("/a"), there(api.Item{Path: "/b"})}, api.ErrNone)
	checkApplyRefuses(t, a, []api.Edit{there(api.Item{Path: "/a"}), there(file("/b/c", ""))}, api.ErrKind)
	checkApplyRefuses(t, a, []api.Edit{there(file("/", "")), there(api.Item{Path: "/a"})}, api.ErrName)
	// A thing is not gone with its directory.
	checkApplyRefuses(t, []api.Item{dir("/a"), dir("/a/b"), file("/a/b/c", "")}, []api.Edit{gone("/a"), gone("/a/b")}, api.ErrNone)
	checkApplyRefuses(t, []api.Item{dir("/a"), dir("/a/b"), file("/a/b/c", "")}, []api.Edit{gone("/a/b")}, api.ErrNone)
	// Nor does a directory come with what it has.
	checkApplyRefuses(t, nil, []api.Edit{there(file("/a/b", ""))}, api.ErrNone)
	checkApplyRefuses(t, a, []api.Edit{gone("/a/b"), there(file("/a/b/c", ""))}, api.ErrNone)
}

// What comes out of it may have 100 items, whatever there is in between.
func TestApplyCountsWhatIsLeft(t *testing.T) {
	full := numbered(0, 100)
	for _, c := range []struct {
		a    []api.Item
		l    []api.Edit
		want int // 0: they are too many
	}{
		{full, nil, 100},
		{nil, thereAll(full), 100},
		{full, thereAll(full), 100},
		{full, goneAll(numbered(100, 200)), 100},
		{full, append(goneAll(full), thereAll(numbered(100, 100))...), 100},
		{numbered(100, 100), append(thereAll(full), goneAll(numbered(100, 100))...), 100},
		{full, append(goneAll(full[:1]), thereAll(numbered(100, 1))...), 100},
		{full[1:], thereAll(full[:1]), 100},
		{full[:99], thereAll(full[99:]), 100},
		{full, thereAll(numbered(100, 1)), 0},
		{full[1:], thereAll(numbered(100, 2)), 0},
		{numbered(1, 100), thereAll(full[:1]), 0},
		{full, thereAll(numbered(1, 100)), 0},
		{full, thereAll(numbered(100, 200)), 0},
		{nil, thereAll(numbered(0, 101)), 0},
		{nil, thereAll(numbered(0, 200)), 0},
		{full, append([]api.Edit{there(api.Item{Path: "/"})}, thereAll(full)...), 0},
	} {
		wrong := api.OK
		if c.want == 0 {
			wrong = api.ErrLarge
		}
		if w, err := delta.Apply(c.a, c.l); len(w) != c.want || err != wrong {
			t.Errorf("Apply to %d items of %d edits: %d, %v, want %d, %v", len(c.a), len(c.l), len(w), err, c.want, wrong)
		}
		checkApply(t, c.a, c.l)
	}
}

// wrongList is what Check tells by that error.
type wrongList struct {
	l    []api.Edit
	want api.Errno
}

func wrongLists() []wrongList {
	return []wrongList{
		{goneAll(numbered(0, 201)), api.ErrLarge},
		{make([]api.Edit, 201), api.ErrLarge},
		{make([]api.Edit, 200), api.ErrName},
		{[]api.Edit{gone("a")}, api.ErrName},
		{[]api.Edit{gone("/" + strings.Repeat("a", 25))}, api.ErrLarge},
		{[]api.Edit{gone(strings.Repeat("/a", 9))}, api.ErrDeep},
		{[]api.Edit{{Path: "/a"}}, api.ErrForm},
		{[]api.Edit{{Path: "/a", Gone: true, Item: file("/a", "")}}, api.ErrForm},
		{[]api.Edit{gone("/b"), gone("/a")}, api.ErrForm},
		// These would make no world, too.
		{[]api.Edit{there(api.Item{Path: "/a"}), there(api.Item{Path: "/a"})}, api.ErrForm},
		{[]api.Edit{there(file("/", "")), gone("")}, api.ErrName},
		{[]api.Edit{there(file("/a/b", "")), gone(strings.Repeat("/b", 9))}, api.ErrDeep},
		{append(thereAll(numbered(0, 199)), gone("/a/")), api.ErrName},
	}
}

func TestApplyTellsTheFirstError(t *testing.T) {
	for _, a := range wrongWorlds() {
		for _, l := range someLists() {
			checkApplyRefuses(t, a.w, l, a.want)
		}
		for _, l := range wrongLists() {
			checkApplyRefuses(t, a.w, l.l, a.want)
		}
		// Be it that the edits would mend it.
		for n := range a.w {
			checkApplyRefuses(t, a.w, []api.Edit{gone(fmt.Sprintf("/%06d", n)), gone("/a"), gone("/a/b"), gone("/b")}, a.want)
		}
	}
	for _, l := range wrongLists() {
		for _, a := range someWorlds() {
			checkApplyRefuses(t, a, l.l, l.want)
		}
	}
}

func TestApplyWordByWord(t *testing.T) {
	for _, a := range someWorlds() {
		for _, l := range someLists() {
			checkApply(t, a, l)
		}
	}
	made := 0
	for seed := range 3000 {
		a, l := oddWorld(seed%60), oddEdits(seed)
		l = slices.Delete(l, min(len(l), seed%5), len(l))
		checkApply(t, a, l)
		if _, err := delta.Apply(a, l); err == api.OK {
			made++
		}
	}
	if made < 500 {
		t.Errorf("only %d worlds were made", made)
	}
}

// eachSmallList tells all lists of at most one edit of each of three paths, in
// their order: nothing, gone, a file, a directory, or a link.
func eachSmallList(tell func([]api.Edit)) {
	for n := range 125 {
		var l []api.Edit
		for i, path := range []string{"/a", "/a/b", "/a!"} {
			switch []int{n % 5, n / 5 % 5, n / 25}[i] {
			case 1:
				l = append(l, gone(path))
			case 2:
				l = append(l, there(file(path, "x")))
			case 3:
				l = append(l, there(dir(path)))
			case 4:
				l = append(l, there(link(path, "")))
			}
		}
		tell(l)
	}
}

// These were worked out by another program.
func TestApplyOfAllSmallLists(t *testing.T) {
	var answers []byte
	count := 0
	eachSmallWorld(func(a []api.Item) {
		eachSmallList(func(l []api.Edit) {
			checkApply(t, a, l)
			w, err := delta.Apply(a, l)
			answers = fmt.Appendf(answers, "%d %d\n", err, len(w))
			for _, x := range w {
				answers = append(answers, lineOfItem(x)...)
			}
			count++
		})
	})
	if sum := crc32.ChecksumIEEE(answers); count != 15625 || sum != 0xba8dde5f {
		t.Errorf("%d answers, checksum %x", count, sum)
	}
}
