package delta_test

import (
	"fmt"
	"slices"
	"strconv"
	"strings"
	"testing"

	"lumberroom/api"
	"lumberroom/delta"
	"lumberroom/names"
	"lumberroom/walk"
)

// odd makes n bytes that look like no text: the same ones for each seed.
func odd(seed, n int) string {
	b := make([]byte, n)
	for i := range b {
		seed = (seed*1103515245 + 12345) % (1 << 31)
		b[i] = byte(seed >> 16)
	}
	return string(b)
}

func file(path, s string) api.Item { return api.Item{Path: path, Kind: api.NFile, Bytes: s} }

func dir(path string) api.Item { return api.Item{Path: path, Kind: api.NDir} }

func link(path, to string) api.Item { return api.Item{Path: path, Kind: api.NLink, Bytes: to} }

func gone(path string) api.Edit { return api.Edit{Path: path, Gone: true} }

func there(x api.Item) api.Edit { return api.Edit{Path: x.Path, Item: x} }

// numbered are files beneath the root whose names are the numbers from first
// on.
func numbered(first, count int) []api.Item {
	var w []api.Item
	for n := first; n < first+count; n++ {
		w = append(w, file(fmt.Sprintf("/%06d", n), strconv.Itoa(n%7)))
	}
	return w
}

// thereAll are the edits that say of each item that it is there.
func thereAll(w []api.Item) []api.Edit {
	var l []api.Edit
	for _, x := range w {
		l = append(l, there(x))
	}
	return l
}

// goneAll are the edits that say of each item that it is gone.
func goneAll(w []api.Item) []api.Edit {
	var l []api.Edit
	for _, x := range w {
		l = append(l, gone(x.Path))
	}
	return l
}

// key is a text by which paths are in their order: no name has a character
// below 32.
func key(path string) string {
	return strings.ReplaceAll(path, "/", "\x00")
}

// sorted puts things in the order of their paths.
func sorted[T any](l []T, path func(T) string) []T {
	slices.SortFunc(l, func(x, y T) int { return strings.Compare(key(path(x)), key(path(y))) })
	return l
}

func pathOfItem(x api.Item) string { return x.Path }

func pathOfEdit(x api.Edit) string { return x.Path }

// somePaths have directories that other ones may be in, and names that begin
// with the name of such a directory.
var somePaths = []string{
	"/ ", "/ / ", "/!", "/a", "/a/a", "/a/a/a", "/a/a!", "/a/b", "/a/b/c", "/a/b/c/d", "/a/b/c/d/e", "/a/b/c/d/e/f", "/a/b/c/d/e/f/g", "/a/b/c/d/e/f/g/h", "/a/c", "/a ", "/a!", "/a!/b", "/a-", "/a-/x", "/a.", "/a0", "/aa", "/aa/a",
	"/b", "/b/a", "/b/a/z", "/b/b", "/b.", "/ba", "/c", "/c/c", "/~", "/\u00f6", "/\u00f6/\u00f6", "/\uffff", "/\U0010ffff", "/\U0010ffff/a",
}

// oddItem is one of few things that may be there.
func oddItem(path, o string) api.Item {
	x := api.Item{Path: path, Kind: 1 + int(o[0])%3, Mode: int(o[1]) % 2 * 511, Time: int(o[2])%3 - 1}
	if x.Kind != api.NDir {
		x.Bytes = strings.Repeat("x", int(o[3])%2+x.Kind/2)
	}
	return x
}

// oddWorld has some of somePaths; of other seeds it is a world like it.
func oddWorld(seed int) []api.Item {
	var w []api.Item
	dirs := []string{""}
	for i, path := range somePaths {
		o := odd(seed*100+i, 8)
		if o[4]%4 == 0 || !slices.Contains(dirs, path[:strings.LastIndex(path, "/")]) {
			continue
		}
		x := oddItem(path, o)
		if x.Kind == api.NDir {
			dirs = append(dirs, path)
		}
		w = append(w, x)
	}
	return w
}

// oddEdits say something of some of somePaths, be there a directory for it or
// not.
func oddEdits(seed int) []api.Edit {
	var l []api.Edit
	for i, path := range somePaths {
		o := odd(seed*100+i, 8)
		switch o[5] % 4 {
		case 0:
			l = append(l, gone(path))
		case 1:
			l = append(l, there(oddItem(path, o)))
		}
	}
	return l
}

// someWorlds may all be checked.
func someWorlds() [][]api.Item {
	all := [][]api.Item{
		nil,
		{},
		{file("/a", "")},
		{file("/a", "a")},
		{dir("/a")},
		{link("/a", "a")},
		{dir("/a"), file("/a/b", "b"), file("/a!", "c")},
		{file("/a", ""), dir("/b"), file("/b/a", ""), link("/c", "\xff\x00")},
		numbered(0, 1),
		numbered(0, 99),
		numbered(0, 100),
		numbered(50, 100),
		numbered(100, 100),
	}
	for seed := range 12 {
		all = append(all, oddWorld(seed))
	}
	return all
}

// someLists of edits may all be checked.
func someLists() [][]api.Edit {
	all := [][]api.Edit{
		nil,
		{},
		{gone("/")},
		{there(api.Item{Path: "/"})},
		{gone("/a")},
		{there(api.Item{Path: "/a"})},
		{there(api.Item{Path: "/a", Kind: -1, Mode: -1, Time: -1, Bytes: odd(1, 5000)})},
		{gone("/"), gone("/a"), gone("/a/b"), gone("/a!")},
		{gone("/a/b/c/d/e/f/g/h"), there(file("/b/c/d", "no directory"))},
		thereAll(numbered(0, 100)),
		goneAll(numbered(50, 100)),
		thereAll(numbered(0, 200)),
		goneAll(numbered(1, 200)),
	}
	for seed := range 12 {
		all = append(all, oddEdits(seed))
	}
	return all
}

// Each call written anew, word by word, with the limits as numbers; what is
// where is looked up by path.

func itemAt(w []api.Item, path string) (api.Item, bool) {
	for _, x := range w {
		if x.Path == path {
			return x, true
		}
	}
	return api.Item{}, false
}

func editAt(l []api.Edit, path string) (api.Edit, bool) {
	for _, x := range l {
		if x.Path == path {
			return x, true
		}
	}
	return api.Edit{}, false
}

func slowDiff(a, b []api.Item) ([]api.Edit, api.Errno) {
	for _, w := range [][]api.Item{a, b} {
		if err := walk.Check(w); err != api.OK {
			return nil, err
		}
	}
	var l []api.Edit
	for _, x := range a {
		if _, has := itemAt(b, x.Path); !has {
			l = append(l, api.Edit{Path: x.Path, Gone: true})
		}
	}
	for _, x := range b {
		if y, has := itemAt(a, x.Path); !has || x.Kind != y.Kind || x.Mode != y.Mode || x.Time != y.Time || x.Bytes != y.Bytes {
			l = append(l, api.Edit{Path: x.Path, Item: x})
		}
	}
	return sorted(l, pathOfEdit), api.OK
}

func slowCheck(l []api.Edit) api.Errno {
	if len(l) >= 201 {
		return api.ErrLarge
	}
	for i, x := range l {
		if _, err := names.Split(x.Path); err != api.OK {
			return err
		}
		if x.Gone && !(x.Item.Path == "" && x.Item.Kind == 0 && x.Item.Mode == 0 && x.Item.Time == 0 && x.Item.Bytes == "") {
			return api.ErrForm
		}
		if !x.Gone && x.Path != x.Item.Path {
			return api.ErrForm
		}
		if i > 0 && key(l[i-1].Path) >= key(x.Path) {
			return api.ErrForm
		}
	}
	return api.OK
}

func slowApply(a []api.Item, l []api.Edit) ([]api.Item, api.Errno) {
	if err := walk.Check(a); err != api.OK {
		return nil, err
	}
	if err := slowCheck(l); err != api.OK {
		return nil, err
	}
	var w []api.Item
	for _, x := range a {
		if _, has := editAt(l, x.Path); !has {
			w = append(w, x)
		}
	}
	for _, x := range l {
		if !x.Gone {
			w = append(w, x.Item)
		}
	}
	if err := walk.Check(sorted(w, pathOfItem)); err != api.OK {
		return nil, err
	}
	return w, api.OK
}

func slowJoin(l, m []api.Edit) ([]api.Edit, api.Errno) {
	for _, edits := range [][]api.Edit{l, m} {
		if err := slowCheck(edits); err != api.OK {
			return nil, err
		}
	}
	joined := slices.Clone(m)
	for _, x := range l {
		if _, has := editAt(m, x.Path); !has {
			joined = append(joined, x)
		}
	}
	if len(joined) >= 201 {
		return nil, api.ErrLarge
	}
	return sorted(joined, pathOfEdit), api.OK
}

// few is the beginning of what a list has.
func few[T any](l []T) string {
	s := strconv.QuoteToASCII(fmt.Sprint(l[:min(4, len(l))]))
	return s[:min(300, len(s))] + ".."
}

func checkDiff(t *testing.T, a, b []api.Item) {
	t.Helper()
	want, wrong := slowDiff(a, b)
	got, err := delta.Diff(a, b)
	if !slices.Equal(got, want) || err != wrong || err != api.OK && got != nil {
		t.Fatalf("Diff of %s and %s: %s (%d), %v, want %s (%d), %v", few(a), few(b), few(got), len(got), err, few(want), len(want), wrong)
	}
	if err != api.OK {
		return
	}
	if err := delta.Check(got); err != api.OK {
		t.Fatalf("Check of what Diff of %s and %s tells: %v", few(a), few(b), err)
	}
	if w, err := delta.Apply(a, got); !slices.Equal(w, b) || err != api.OK {
		t.Fatalf("Diff of %s and %s applied: %s, %v", few(a), few(b), few(w), err)
	}
}

func checkCheck(t *testing.T, l []api.Edit) {
	t.Helper()
	if got, want := delta.Check(l), slowCheck(l); got != want {
		t.Fatalf("Check of %d edits, %s: %v, want %v", len(l), few(l), got, want)
	}
}

func checkApply(t *testing.T, a []api.Item, l []api.Edit) {
	t.Helper()
	want, wrong := slowApply(a, l)
	got, err := delta.Apply(a, l)
	if !slices.Equal(got, want) || err != wrong || err != api.OK && got != nil {
		t.Fatalf("Apply to %s (%d) of %s (%d): %s (%d), %v, want %s (%d), %v", few(a), len(a), few(l), len(l), few(got), len(got), err, few(want), len(want), wrong)
	}
}

func checkJoin(t *testing.T, l, m []api.Edit) {
	t.Helper()
	want, wrong := slowJoin(l, m)
	got, err := delta.Join(l, m)
	if !slices.Equal(got, want) || err != wrong || err != api.OK && got != nil {
		t.Fatalf("Join of %s (%d) and %s (%d): %s (%d), %v, want %s (%d), %v", few(l), len(l), few(m), len(m), few(got), len(got), err, few(want), len(want), wrong)
	}
	if err := delta.Check(got); err != api.OK {
		t.Fatalf("Check of what Join of %s and %s tells: %v", few(l), few(m), err)
	}
}
