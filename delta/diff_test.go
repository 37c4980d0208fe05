package delta_test

import (
	"fmt"
	"hash/crc32"
	"math"
	"slices"
	"strings"
	"testing"

	"lumberroom/api"
	"lumberroom/delta"
)

func TestDiff(t *testing.T) {
	for i, c := range []struct {
		a, b []api.Item
		want []api.Edit
	}{
		{nil, nil, nil},
		{nil, []api.Item{}, nil},
		{nil, []api.Item{file("/a", "a")}, []api.Edit{there(file("/a", "a"))}},
		{[]api.Item{file("/a", "a")}, nil, []api.Edit{gone("/a")}},
		{[]api.Item{file("/a", "a")}, []api.Item{file("/a", "a")}, nil},
		{[]api.Item{file("/a", "a")}, []api.Item{file("/a", "b")}, []api.Edit{there(file("/a", "b"))}},
		{[]api.Item{file("/a", "a")}, []api.Item{link("/a", "a")}, []api.Edit{there(link("/a", "a"))}},
		{[]api.Item{file("/a", "")}, []api.Item{dir("/a")}, []api.Edit{there(dir("/a"))}},
		// The same thing with another name.
		{[]api.Item{file("/a", "a")}, []api.Item{file("/b", "a")}, []api.Edit{gone("/a"), there(file("/b", "a"))}},
		{[]api.Item{file("/b", "a")}, []api.Item{file("/a", "a")}, []api.Edit{there(file("/a", "a")), gone("/b")}},
		// Of a directory that is gone all is told that was in it.
		{
			[]api.Item{dir("/a"), dir("/a/b"), file("/a/b/c", "c"), file("/a!", "")},
			[]api.Item{file("/a!", "")},
			[]api.Edit{gone("/a"), gone("/a/b"), gone("/a/b/c")},
		},
		{
			[]api.Item{file("/b", "")},
			[]api.Item{dir("/a"), file("/a/a", "c"), file("/b", "")},
			[]api.Edit{there(dir("/a")), there(file("/a/a", "c"))},
		},
		{
			[]api.Item{dir("/a"), file("/a/b", "b")},
			[]api.Item{file("/a", "a")},
			[]api.Edit{there(file("/a", "a")), gone("/a/b")},
		},
		{
			[]api.Item{link("/a", "a")},
			[]api.Item{dir("/a"), link("/a/b", "b")},
			[]api.Edit{there(dir("/a")), there(link("/a/b", "b"))},
		},
		// A directory is not other because what it has is.
		{
			[]api.Item{dir("/a"), file("/a/b", "b"), file("/a/c", "c")},
			[]api.Item{dir("/a"), file("/a/b", "B"), file("/a/d", "d")},
			[]api.Edit{there(file("/a/b", "B")), gone("/a/c"), there(file("/a/d", "d"))},
		},
		// The order of paths is not that of texts.
		{
			[]api.Item{dir("/a"), file("/a/b", "b"), file("/a/~", "")},
			[]api.Item{file("/a!", "x"), file("/a0", "x")},
			[]api.Edit{gone("/a"), gone("/a/b"), gone("/a/~"), there(file("/a!", "x")), there(file("/a0", "x"))},
		},
		{
			[]api.Item{file("/a!", "x"), file("/aa", "")},
			[]api.Item{dir("/a"), file("/a/b", "b"), file("/a/~", "")},
			[]api.Edit{there(dir("/a")), there(file("/a/b", "b")), there(file("/a/~", "")), gone("/a!"), gone("/aa")},
		},
		{
			[]api.Item{file("/B", ""), file("/\u00f6", "")},
			[]api.Item{file("/10", ""), file("/9", ""), file("/a", "")},
			[]api.Edit{there(file("/10", "")), there(file("/9", "")), gone("/B"), there(file("/a", "")), gone("/\u00f6")},
		},
	} {
		if l, err := delta.Diff(c.a, c.b); !slices.Equal(l, c.want) || err != api.OK {
			t.Errorf("case %d: %v, %v, want %v", i, l, err, c.want)
		}
		checkDiff(t, c.a, c.b)
		checkDiff(t, c.b, c.a)
	}
}

// Whatever is other in an item makes it another one, and only that one.
func TestDiffLooksAtAllOfAnItem(t *testing.T) {
	w := []api.Item{{Path: "/a", Kind: 2}, {Path: "/a/b", Kind: 1, Mode: 420, Time: 7, Bytes: "ab"}, {Path: "/a/c", Kind: 3, Mode: 511, Time: -7, Bytes: "ab"}, {Path: "/b", Kind: 2, Mode: 1, Time: math.MaxInt}}
	for i, x := range w {
		for _, change := range []func(*api.Item){
			func(x *api.Item) { x.Mode ^= 1 },
			func(x *api.Item) { x.Mode ^= 256 },
			func(x *api.Item) { x.Time++ },
			func(x *api.Item) { x.Time ^= 1 << 40 },
			func(x *api.Item) { x.Time = math.MinInt },
			func(x *api.Item) { x.Kind, x.Bytes = 1, "x" },
			func(x *api.Item) { x.Kind, x.Bytes = 3, "x" },
			func(x *api.Item) { x.Kind, x.Bytes = 1, x.Bytes+"\x00" },
			func(x *api.Item) { x.Kind, x.Bytes = 1, strings.ToUpper(x.Bytes)+"." },
		} {
			other := slices.Clone(w)
			change(&other[i])
			if i == 0 && other[0].Kind != api.NDir {
				continue // two items are in it
			}
			for _, c := range []struct{ a, b []api.Item }{{w, other}, {other, w}} {
				want := []api.Edit{{Path: x.Path, Item: c.b[i]}}
				if l, err := delta.Diff(c.a, c.b); !slices.Equal(l, want) || err != api.OK {
					t.Errorf("Diff at %q: %v, %v, want %v", x.Path, l, err, want)
				}
			}
		}
	}
}

func TestDiffWordByWord(t *testing.T) {
	worlds := someWorlds()
	for _, a := range worlds {
		for _, b := range worlds {
			checkDiff(t, a, b)
		}
	}
	for seed := range 300 {
		a := oddWorld(seed)
		checkDiff(t, a, oddWorld(seed+1))
		// Worlds that are nearly the same.
		near := slices.Clone(a)
		for i := range near {
			near[i].Time++
			checkDiff(t, a, near)
			near[i].Time--
			if i+1 == len(a) || !strings.HasPrefix(a[i+1].Path, a[i].Path+"/") {
				checkDiff(t, a, slices.Delete(slices.Clone(a), i, i+1))
				checkDiff(t, slices.Delete(slices.Clone(a), i, i+1), a)
			}
		}
	}
}

// A world of 100 items and another one that has none of its paths are as far
// apart as may be.
func TestDiffOfWholeWorlds(t *testing.T) {
	a, b := numbered(0, 100), numbered(100, 100)
	l, err := delta.Diff(a, b)
	if want := append(goneAll(a), thereAll(b)...); !slices.Equal(l, want) || err != api.OK {
		t.Errorf("Diff: %d edits, %v, want %d", len(l), err, len(want))
	}
	l, err = delta.Diff(b, a)
	if want := append(thereAll(a), goneAll(b)...); !slices.Equal(l, want) || err != api.OK {
		t.Errorf("Diff, turned: %d edits, %v, want %d", len(l), err, len(want))
	}
	checkDiff(t, a, b)
	checkDiff(t, b, a)
	for _, w := range someWorlds() {
		if l, err := delta.Diff(w, w); len(l) != 0 || err != api.OK {
			t.Errorf("Diff of a world and itself: %v, %v", l, err)
		}
		if l, err := delta.Diff(nil, w); !slices.Equal(l, thereAll(w)) || err != api.OK {
			t.Errorf("Diff of no items and %s: %v, %v", few(w), l, err)
		}
		if l, err := delta.Diff(w, nil); !slices.Equal(l, goneAll(w)) || err != api.OK {
			t.Errorf("Diff of %s and no items: %v, %v", few(w), l, err)
		}
	}
}

// No edit that Diff tells may be left out.
func TestDiffTellsNothingInVain(t *testing.T) {
	for seed := range 30 {
		a, b := oddWorld(seed), oddWorld(seed+50)
		l, err := delta.Diff(a, b)
		if err != api.OK {
			t.Fatal(err)
		}
		for i, x := range l {
			w, err := delta.Apply(a, slices.Delete(slices.Clone(l), i, i+1))
			if err == api.OK && slices.Equal(w, b) {
				t.Errorf("Diff of %s and %s tells %v in vain", few(a), few(b), x)
			}
		}
	}
}

// wrongWorld is what walk.Check tells by that error.
type wrongWorld struct {
	w    []api.Item
	want api.Errno
}

func wrongWorlds() []wrongWorld {
	return []wrongWorld{
		{numbered(0, 101), api.ErrLarge},
		{make([]api.Item, 101), api.ErrLarge},
		{[]api.Item{file("/", "")}, api.ErrName},
		{[]api.Item{file("", "")}, api.ErrName},
		{[]api.Item{file("a", "")}, api.ErrName},
		{[]api.Item{file("/a/", "")}, api.ErrName},
		{[]api.Item{file("/"+strings.Repeat("a", 25), "")}, api.ErrLarge},
		{[]api.Item{file(strings.Repeat("/a", 9), "")}, api.ErrDeep},
		{[]api.Item{{Path: "/a"}}, api.ErrKind},
		{[]api.Item{{Path: "/a", Kind: 4}}, api.ErrKind},
		{[]api.Item{{Path: "/a", Kind: 1, Mode: 512}}, api.ErrArg},
		{[]api.Item{{Path: "/a", Kind: 2, Mode: -1}}, api.ErrArg},
		{[]api.Item{file("/a", strings.Repeat("a", 4097))}, api.ErrLarge},
		{[]api.Item{{Path: "/a", Kind: 2, Bytes: "a"}}, api.ErrLarge},
		{[]api.Item{link("/a", strings.Repeat("a", 1025))}, api.ErrLarge},
		{[]api.Item{link("/a", "")}, api.ErrForm},
		{[]api.Item{file("/a", ""), file("/a", "")}, api.ErrForm},
		{[]api.Item{file("/b", ""), file("/a", "")}, api.ErrForm},
		{[]api.Item{dir("/a"), file("/a!", ""), file("/a/b", "")}, api.ErrForm},
		{[]api.Item{file("/a/b", "")}, api.ErrNone},
		{[]api.Item{file("/a", ""), file("/a/b", "")}, api.ErrNone},
	}
}

func TestDiffTellsTheFirstError(t *testing.T) {
	for _, a := range wrongWorlds() {
		for _, right := range someWorlds() {
			if l, err := delta.Diff(a.w, right); l != nil || err != a.want {
				t.Errorf("Diff of a wrong world, %s: %v, %v, want %v alone", few(a.w), l, err, a.want)
			}
			if l, err := delta.Diff(right, a.w); l != nil || err != a.want {
				t.Errorf("Diff from a right world to %s: %v, %v, want %v alone", few(a.w), l, err, a.want)
			}
		}
		if l, err := delta.Diff(a.w, a.w); l != nil || err != a.want {
			t.Errorf("Diff of a wrong world and itself, %s: %v, %v, want %v alone", few(a.w), l, err, a.want)
		}
		for _, b := range wrongWorlds() {
			if l, err := delta.Diff(a.w, b.w); l != nil || err != a.want {
				t.Errorf("Diff of %s and %s: %v, %v, want %v alone", few(a.w), few(b.w), l, err, a.want)
			}
		}
	}
}

// eachSmallWorld tells all lists of at most one item of each of three paths,
// in their order: nothing, one of two files, a directory, or a link. Some lack
// a directory.
func eachSmallWorld(tell func([]api.Item)) {
	for n := range 125 {
		var w []api.Item
		for i, path := range []string{"/a", "/a/b", "/a!"} {
			switch []int{n % 5, n / 5 % 5, n / 25}[i] {
			case 1:
				w = append(w, file(path, "x"))
			case 2:
				w = append(w, file(path, "y"))
			case 3:
				w = append(w, dir(path))
			case 4:
				w = append(w, link(path, "x"))
			}
		}
		tell(w)
	}
}

// lineOfItem is how an answer is written down for a checksum.
func lineOfItem(x api.Item) string {
	return fmt.Sprintf("%s %d %d %d %s\n", x.Path, x.Kind, x.Mode, x.Time, x.Bytes)
}

func linesOfEdits(l []api.Edit) string {
	var s string
	for _, x := range l {
		if x.Gone {
			s += "- " + x.Path + "\n"
		} else {
			s += "+ " + x.Path + " " + lineOfItem(x.Item)
		}
	}
	return s
}

// These were worked out by another program.
func TestDiffOfAllSmallWorlds(t *testing.T) {
	var answers []byte
	count := 0
	eachSmallWorld(func(a []api.Item) {
		eachSmallWorld(func(b []api.Item) {
			checkDiff(t, a, b)
			l, err := delta.Diff(a, b)
			answers = fmt.Appendf(answers, "%d %d\n%s", err, len(l), linesOfEdits(l))
			count++
		})
	})
	if sum := crc32.ChecksumIEEE(answers); count != 15625 || sum != 0xc2ad420d {
		t.Errorf("%d answers, checksum %x", count, sum)
	}
}
