package delta_test

import (
	"fmt"
	"hash/crc32"
	"math"
	"slices"
	"strings"
	"testing"

	"lumberroom/api"
	"lumberroom/delta"
)

func TestCheck(t *testing.T) {
	for _, l := range someLists() {
		if err := delta.Check(l); err != api.OK {
			t.Errorf("Check of %d edits, %s: %v", len(l), few(l), err)
		}
		for n := range l {
			if err := delta.Check(l[:n]); err != api.OK {
				t.Errorf("Check of %d of %d edits, %s: %v", n, len(l), few(l), err)
			}
		}
	}
	// What an item is beside its Path is for Apply to judge.
	for _, n := range []int{math.MinInt, -1, 0, 1, 4, 511, 512, math.MaxInt} {
		x := api.Item{Path: "/a/b", Kind: n, Mode: n, Time: n, Bytes: odd(1, 5000)}
		if err := delta.Check([]api.Edit{there(x)}); err != api.OK {
			t.Errorf("Check of an item of kind %d: %v", n, err)
		}
	}
}

// checkRefused: what Check tells is told by Apply and Join too.
func checkRefused(t *testing.T, l []api.Edit, want api.Errno) {
	t.Helper()
	if err := delta.Check(l); err != want {
		t.Fatalf("Check of %d edits, %s: %v, want %v", len(l), few(l), err, want)
	}
	if w, err := delta.Apply(numbered(0, 3), l); w != nil || err != want {
		t.Fatalf("Apply of %d edits, %s: %d items, %v, want %v alone", len(l), few(l), len(w), err, want)
	}
	for _, right := range [][]api.Edit{nil, {gone("/a")}, thereAll(numbered(0, 200))} {
		if m, err := delta.Join(l, right); m != nil || err != want {
			t.Fatalf("Join of %d edits, %s, and %d: %d edits, %v, want %v alone", len(l), few(l), len(right), len(m), err, want)
		}
		if m, err := delta.Join(right, l); m != nil || err != want {
			t.Fatalf("Join of %d edits and %d, %s: %d edits, %v, want %v alone", len(right), len(l), few(l), len(m), err, want)
		}
	}
}

func TestCheckRefusesTooManyEdits(t *testing.T) {
	for _, count := range []int{201, 202, 256, 400, 1 << 16} {
		checkRefused(t, thereAll(numbered(0, count)), api.ErrLarge)
		checkRefused(t, goneAll(numbered(0, count)), api.ErrLarge)
		checkRefused(t, make([]api.Edit, count), api.ErrLarge)
		checkRefused(t, slices.Repeat([]api.Edit{gone("/a")}, count), api.ErrLarge)
	}
}

// fault is what may be wrong with an edit, and the error that tells it.
type fault struct {
	want   api.Errno
	change func(*api.Edit)
}

func pathFaults() []fault {
	var l []fault
	for _, c := range []struct {
		path string
		want api.Errno
	}{
		{"", api.ErrName}, {"a", api.ErrName}, {"~", api.ErrName}, {"a/b", api.ErrName}, {"//", api.ErrName}, {"//a", api.ErrName}, {"/a/", api.ErrName}, {"/~/", api.ErrName}, {"/a//b", api.ErrName},
		{"/.", api.ErrName}, {"/..", api.ErrName}, {"/./a", api.ErrName}, {"/~/..", api.ErrName}, {"/\x00", api.ErrName}, {"/~\n", api.ErrName}, {"/\x7f", api.ErrName}, {"/\xff", api.ErrName}, {"/\xed\xa0\x80", api.ErrName}, {"/~\xc3", api.ErrName}, {"\xff", api.ErrName},
		{"/" + strings.Repeat("~", 25), api.ErrLarge}, {"/" + strings.Repeat("\u00f6", 25), api.ErrLarge}, {"/~/" + strings.Repeat("~", 3000), api.ErrLarge}, {"/" + strings.Repeat("~", 25) + "/.", api.ErrLarge}, {"/./" + strings.Repeat("~", 25), api.ErrName},
		{strings.Repeat("/d", 9), api.ErrDeep}, {strings.Repeat("/~", 10), api.ErrDeep}, {strings.Repeat("/~", 8) + "/", api.ErrDeep}, {strings.Repeat("/~", 7) + "/./~", api.ErrName}, {strings.Repeat("/~", 3000), api.ErrDeep},
	} {
		l = append(l,
			fault{c.want, func(x *api.Edit) { x.Path = c.path }},
			fault{c.want, func(x *api.Edit) { *x = gone(c.path) }},
			fault{c.want, func(x *api.Edit) { *x = there(file(c.path, "")) }},
			fault{c.want, func(x *api.Edit) { *x = api.Edit{Path: c.path, Gone: true, Item: file(c.path, "")} }},
		)
	}
	return l
}

// itemFaults are of edits whose Path may be whatever it is, but not "/other".
func itemFaults() []fault {
	l := []fault{
		{api.ErrForm, func(x *api.Edit) { x.Gone, x.Item = true, api.Item{Path: x.Path} }},
		{api.ErrForm, func(x *api.Edit) { x.Gone, x.Item = true, file(x.Path, "a") }},
		{api.ErrForm, func(x *api.Edit) { x.Gone, x.Item = true, dir("/other") }},
	}
	for _, n := range []int{math.MinInt, -256, -1, 1, 2, 3, 256, 1 << 32, math.MaxInt} {
		l = append(l,
			fault{api.ErrForm, func(x *api.Edit) { x.Gone, x.Item = true, api.Item{Kind: n} }},
			fault{api.ErrForm, func(x *api.Edit) { x.Gone, x.Item = true, api.Item{Mode: n} }},
			fault{api.ErrForm, func(x *api.Edit) { x.Gone, x.Item = true, api.Item{Time: n} }},
		)
	}
	for _, s := range []string{"\x00", "a", "/", "/other", " "} {
		l = append(l,
			fault{api.ErrForm, func(x *api.Edit) { x.Gone, x.Item = true, api.Item{Path: s} }},
			fault{api.ErrForm, func(x *api.Edit) { x.Gone, x.Item = true, api.Item{Bytes: s} }},
		)
	}
	for _, item := range []api.Item{{}, file("/other", ""), file("", "a"), {Path: "//"}, {Path: "/other/."}, {Path: strings.Repeat("/a", 9)}} {
		l = append(l, fault{api.ErrForm, func(x *api.Edit) { x.Gone, x.Item = false, item }})
	}
	for _, tail := range []string{"/", "/a", "!", "\x00", " "} {
		l = append(l,
			fault{api.ErrForm, func(x *api.Edit) { x.Gone, x.Item = false, file(x.Path+tail, "") }},
			fault{api.ErrForm, func(x *api.Edit) { x.Gone, x.Item = false, file(x.Path[1:]+tail, "") }},
			fault{api.ErrForm, func(x *api.Edit) { x.Gone, x.Item = false, file(tail+x.Path, "") }},
		)
	}
	return l
}

// orderFaults are of paths that come ahead of all others but the root's.
func orderFaults() []fault {
	var l []fault
	for _, path := range []string{"/", "/ ", "/ / ", "/ /!"} {
		l = append(l,
			fault{api.ErrForm, func(x *api.Edit) { *x = gone(path) }},
			fault{api.ErrForm, func(x *api.Edit) { *x = there(file(path, "")) }},
		)
	}
	return l
}

// longList are 200 edits, of which every second one says that its path is
// gone.
func longList() []api.Edit {
	l := thereAll(numbered(0, 200))
	for i := range l {
		if i%2 == 1 {
			l[i] = gone(l[i].Path)
		}
	}
	return l
}

func TestCheckRefusesAWrongEdit(t *testing.T) {
	for _, at := range []int{0, 1, 2, 57, 198, 199} {
		l := longList()
		right := l[at]
		refuses := func(faults []fault) {
			for _, f := range faults {
				l[at] = right
				f.change(&l[at])
				checkRefused(t, l, f.want)
			}
		}
		refuses(pathFaults())
		refuses(itemFaults())
		if at > 0 {
			refuses(orderFaults())
		}
	}
}

// Of two faults of one edit the one of the Path is told.
func TestCheckTellsTheFirstErrorOfAnEdit(t *testing.T) {
	for _, f := range pathFaults() {
		for _, g := range itemFaults() {
			x := gone("/b")
			g.change(&x)
			f.change(&x)
			checkRefused(t, []api.Edit{gone("/c"), x}, f.want)
		}
	}
}

// Of two edits the first one's fault is told.
func TestCheckTellsTheFirstEditsError(t *testing.T) {
	for _, f := range slices.Concat(pathFaults(), itemFaults(), orderFaults()) {
		for _, g := range slices.Concat(pathFaults(), itemFaults()[:3], orderFaults()) {
			l := []api.Edit{gone("/a"), gone("/b"), gone("/c")}
			f.change(&l[1])
			g.change(&l[2])
			if err := delta.Check(l); err != f.want {
				t.Fatalf("Check of %v: %v, want %v", l, err, f.want)
			}
			l = append(l, make([]api.Edit, 197)...)
			if err := delta.Check(l); err != f.want {
				t.Fatalf("Check of %d edits, %s: %v, want %v", len(l), few(l), err, f.want)
			}
			if err := delta.Check(append(l, gone("/d"))); err != api.ErrLarge {
				t.Fatalf("Check of 201 edits, %s: %v, want ErrLarge", few(l), err)
			}
		}
	}
}

func TestCheckRefusesPathsThatDoNotRise(t *testing.T) {
	var l []api.Edit
	for _, path := range append([]string{"/"}, somePaths...) {
		l = append(l, gone(path))
		if err := delta.Check(l); err != api.OK {
			t.Fatalf("Check up to %q: %v", path, err)
		}
		for _, x := range l {
			checkRefused(t, append(l[:len(l):len(l)], x), api.ErrForm)
			checkRefused(t, append(l[:len(l):len(l)], there(link(x.Path, "l"))), api.ErrForm)
		}
	}
	checkRefused(t, []api.Edit{gone("/a"), gone("/a!"), gone("/a/b")}, api.ErrForm)
	checkRefused(t, []api.Edit{gone("/b"), gone("/a")}, api.ErrForm)
	checkRefused(t, []api.Edit{gone("/a"), there(file("/a", ""))}, api.ErrForm)
	checkRefused(t, []api.Edit{there(file("/a", "")), gone("/a")}, api.ErrForm)
	checkRefused(t, []api.Edit{gone("/"), gone("/")}, api.ErrForm)
}

func TestCheckWordByWord(t *testing.T) {
	for _, l := range someLists() {
		checkCheck(t, l)
		for i := range l {
			for k := max(0, i-3); k < min(i+3, len(l)); k++ {
				swapped := slices.Clone(l)
				swapped[i], swapped[k] = swapped[k], swapped[i]
				checkCheck(t, swapped)
				swapped[i].Path = l[i].Path
				checkCheck(t, swapped)
				swapped[k].Gone = !swapped[k].Gone
				checkCheck(t, swapped)
			}
		}
	}
}

// These were worked out by another program.
func TestCheckOfMany(t *testing.T) {
	parts := []api.Edit{
		gone("/"), gone("/a"), there(file("/a", "x")), there(dir("/a/b")), gone("/a/b"), gone("/a!"), there(api.Item{Path: "/a!"}), there(api.Item{Path: "/"}),
		{Path: "/a", Gone: true, Item: file("/a", "x")}, {Path: "/a"}, there(api.Item{}), gone("a"), gone("/a/"), gone("/" + strings.Repeat("b", 25)), gone(strings.Repeat("/a", 9)),
	}
	var answers []byte
	count := 0
	var more func(l []api.Edit)
	more = func(l []api.Edit) {
		checkCheck(t, l)
		answers = fmt.Appendf(answers, "%d\n", delta.Check(l))
		count++
		for _, x := range parts {
			if len(l) < 4 {
				more(append(slices.Clone(l), x))
			}
		}
	}
	more(nil)
	if sum := crc32.ChecksumIEEE(answers); count != 54241 || sum != 0xc1cbcd48 {
		t.Errorf("%d answers, checksum %x", count, sum)
	}
}
