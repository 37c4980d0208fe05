package delta_test

import (
	"math"
	"slices"
	"strings"
	"testing"
	"unsafe"

	"lumberroom/api"
	"lumberroom/delta"
	"lumberroom/walk"
)

// checkAll: whatever comes, the calls answer what they should, the same each
// time, and leave the lists and their spare memory as they were.
func checkAll(t *testing.T, a, b []api.Item, l, m []api.Edit) {
	t.Helper()
	items := [][]api.Item{slices.Clone(a[:cap(a)]), slices.Clone(b[:cap(b)])}
	edits := [][]api.Edit{slices.Clone(l[:cap(l)]), slices.Clone(m[:cap(m)])}
	for range 2 {
		checkDiff(t, a, b)
		checkDiff(t, b, a)
		checkDiff(t, a, a)
		checkCheck(t, l)
		checkCheck(t, m)
		checkApply(t, a, l)
		checkApply(t, b, m)
		checkJoin(t, l, m)
		checkJoin(t, m, l)
		checkJoin(t, l, l)
	}
	if !slices.Equal(a[:cap(a)], items[0]) || !slices.Equal(b[:cap(b)], items[1]) {
		t.Fatalf("a world of %d or %d items was changed", len(a), len(b))
	}
	if !slices.Equal(l[:cap(l)], edits[0]) || !slices.Equal(m[:cap(m)], edits[1]) {
		t.Fatalf("a list of %d or %d edits was changed", len(l), len(m))
	}
}

func TestCallsAnswerAnything(t *testing.T) {
	wild := []int{math.MinInt, -1 << 32, -1, 0, 1, 2, 3, 4, 257, 511, 512, 1<<32 + 1, math.MaxInt}
	for _, n := range wild {
		for _, m := range wild {
			for _, k := range wild {
				a := []api.Item{{Path: "/a", Kind: n, Mode: m, Time: k}, {Path: "/a/b", Kind: m, Mode: k, Time: n, Bytes: odd(k, max(0, k%7))}}
				l := thereAll(a)
				l[k&1].Gone = m > 0
				checkAll(t, a, a[:1], l, l[1:])
			}
		}
	}
	huge := strings.Repeat("/h", 1<<19)
	for _, count := range []int{0, 1, 99, 100, 101, 199, 200, 201, 1 << 14} {
		w := numbered(0, count)
		checkAll(t, make([]api.Item, count), w, make([]api.Edit, count), thereAll(w))
		checkAll(t, slices.Repeat([]api.Item{dir("/a")}, count), w, slices.Repeat([]api.Edit{gone("/a")}, count), goneAll(w))
	}
	for _, path := range []string{huge, huge[1:], "/" + strings.Repeat("h", 1<<20), strings.Repeat("/", 1<<20)} {
		checkAll(t, []api.Item{file(path, "")}, nil, []api.Edit{gone(path)}, []api.Edit{there(file(path, ""))})
		checkAll(t, []api.Item{file("/a", path)}, nil, []api.Edit{there(file("/a", path))}, []api.Edit{{Path: "/a", Gone: true, Item: link("", path)}})
	}
	for seed := range 200 {
		a, b, l, m := oddWorld(seed), oddWorld(seed+1), oddEdits(seed), oddEdits(seed+1)
		checkAll(t, a, b, l, m)
		slices.Reverse(b)
		slices.Reverse(m)
		checkAll(t, a, b, l, m)
	}
}

func TestCallsKeepNothing(t *testing.T) {
	a, b, l, m := oddWorld(1), oddWorld(2), oddEdits(3), oddEdits(4)
	d, _ := delta.Diff(a, b)
	w, _ := delta.Apply(a, d)
	j, _ := delta.Join(l, m)
	keptDiff, keptJoin := slices.Clone(d), slices.Clone(j)
	for _, v := range someWorlds() {
		delta.Diff(v, b)
		delta.Diff(a, v)
		for _, k := range someLists() {
			delta.Check(k)
			delta.Apply(v, k)
			delta.Join(k, m)
		}
	}
	if !slices.Equal(d, keptDiff) || !slices.Equal(w, b) || !slices.Equal(j, keptJoin) {
		t.Error("an answer was changed by what was asked behind it")
	}
	diffAgain, _ := delta.Diff(a, b)
	worldAgain, _ := delta.Apply(a, d)
	joinAgain, _ := delta.Join(l, m)
	if !slices.Equal(diffAgain, keptDiff) || !slices.Equal(worldAgain, b) || !slices.Equal(joinAgain, keptJoin) {
		t.Error("what was asked in between is to be seen in the answer")
	}
}

// memory is where texts stand that can be written over.
type memory [][]byte

func (m *memory) text(s string) string {
	bytes := []byte(s + "behind")
	*m = append(*m, bytes)
	return unsafe.String(unsafe.SliceData(bytes), len(s))
}

func (m *memory) item(x api.Item) api.Item {
	x.Path, x.Bytes = m.text(x.Path), m.text(x.Bytes)
	return x
}

// items is a copy of a world, with spare memory behind it.
func (m *memory) items(w []api.Item) []api.Item {
	l := make([]api.Item, 0, len(w)+5)
	for _, x := range w {
		l = append(l, m.item(x))
	}
	return l
}

func (m *memory) edits(l []api.Edit) []api.Edit {
	c := make([]api.Edit, 0, len(l)+5)
	for _, x := range l {
		c = append(c, api.Edit{Path: m.text(x.Path), Gone: x.Gone, Item: m.item(x.Item)})
	}
	return c
}

func (m memory) overwrite() {
	for _, bytes := range m {
		clear(bytes)
	}
}

// overwrite changes a list and its spare memory.
func overwrite[T any](l []T, with T) {
	for i := range l[:cap(l)] {
		l[:cap(l)][i] = with
	}
}

// unchanged tells whether a list with spare memory is still as it was made.
func unchanged[T comparable](l, was []T) bool {
	var zero T
	return slices.Equal(l, was) && !slices.ContainsFunc(l[len(l):cap(l)], func(x T) bool { return x != zero })
}

var (
	otherItem = api.Item{Path: "/other", Kind: 9}
	otherEdit = api.Edit{Path: "/other", Item: otherItem}
)

// What was handed in is neither changed nor kept: its lists and its texts may
// be written over, and so may another answer.
func TestDiffIsMemoryOfItsOwn(t *testing.T) {
	for _, a := range someWorlds() {
		for _, b := range someWorlds() {
			var m memory
			inA, inB := m.items(a), m.items(b)
			l, err := delta.Diff(inA, inB)
			another, _ := delta.Diff(inA, inB)
			if !unchanged(inA, a) || !unchanged(inB, b) {
				t.Fatalf("a world of %d or %d items was changed", len(a), len(b))
			}
			overwrite(another, otherEdit)
			overwrite(inA, otherItem)
			overwrite(inB, otherItem)
			m.overwrite()
			if want, wrong := slowDiff(a, b); !slices.Equal(l, want) || err != wrong {
				t.Fatalf("Diff of %s and %s changes with them", few(a), few(b))
			}
		}
	}
}

func TestApplyIsMemoryOfItsOwn(t *testing.T) {
	for _, a := range someWorlds() {
		lists := someLists()
		for _, b := range someWorlds() {
			l, _ := delta.Diff(a, b)
			lists = append(lists, l)
		}
		for _, l := range lists {
			var m memory
			inA, inL := m.items(a), m.edits(l)
			w, err := delta.Apply(inA, inL)
			another, _ := delta.Apply(inA, inL)
			if !unchanged(inA, a) || !unchanged(inL, l) {
				t.Fatalf("a world of %d items, or a list of %d edits, was changed", len(a), len(l))
			}
			overwrite(another, otherItem)
			overwrite(inA, otherItem)
			overwrite(inL, otherEdit)
			m.overwrite()
			if want, wrong := slowApply(a, l); !slices.Equal(w, want) || err != wrong {
				t.Fatalf("Apply to %s of %s changes with them", few(a), few(l))
			}
		}
	}
}

func TestJoinIsMemoryOfItsOwn(t *testing.T) {
	for _, l := range someLists() {
		for _, m := range someLists() {
			var texts memory
			inL, inM := texts.edits(l), texts.edits(m)
			joined, err := delta.Join(inL, inM)
			another, _ := delta.Join(inL, inM)
			delta.Check(inL)
			if !unchanged(inL, l) || !unchanged(inM, m) {
				t.Fatalf("a list of %d or %d edits was changed", len(l), len(m))
			}
			overwrite(another, otherEdit)
			overwrite(inL, otherEdit)
			overwrite(inM, otherEdit)
			texts.overwrite()
			if want, wrong := slowJoin(l, m); !slices.Equal(joined, want) || err != wrong {
				t.Fatalf("Join of %s and %s changes with them", few(l), few(m))
			}
		}
	}
}

// A list that was changed is gone through anew.
func TestListsAreNotRemembered(t *testing.T) {
	a, b, l, m := oddWorld(5), oddWorld(6), oddEdits(7), oddEdits(8)
	for i := range min(len(a), len(l)) {
		a[i].Time++
		l[i] = gone(l[i].Path)
		checkAll(t, a, b, l, m)
		a[i].Mode += 400
		l[i].Path += "!"
		checkAll(t, a, b, l, m)
		a[i].Mode %= 512
		l[i] = there(file(l[i].Path, "!"))
		checkAll(t, a, b, l, m)
	}
}

// cutUp are items of 6 bytes each, most of them nearly right: the first byte
// tells how many names of the path ahead are the item's too.
func cutUp(s string) []api.Item {
	var w []api.Item
	var ahead []string
	for ; len(s) >= 6; s = s[6:] {
		names := append(slices.Clone(ahead[:min(len(ahead), int(s[0])%10)]), s[1:2])
		x := api.Item{Path: "/" + strings.Join(names, "/"), Kind: int(s[2]) % 5, Mode: int(s[3])*3 - 1, Time: int(int8(s[4]))}
		x.Bytes = strings.Repeat("x", int(s[5])*int(s[0]>>4))
		w = append(w, x)
		ahead = names
	}
	return w
}

// worldOf has those of some items that are a world.
func worldOf(items []api.Item) []api.Item {
	var w []api.Item
	for _, x := range sorted(items, pathOfItem) {
		if walk.Check(append(w, x)) == api.OK {
			w = append(w, x)
		}
	}
	return w
}

// editsOf are of those items some that are there, and some that are gone.
func editsOf(items []api.Item) []api.Edit {
	var l []api.Edit
	for _, x := range items {
		if x.Time%2 == 0 {
			l = append(l, gone(x.Path))
		} else {
			l = append(l, there(x))
		}
	}
	return l
}

// listOf has those of some edits that Check lets pass.
func listOf(edits []api.Edit) []api.Edit {
	var l []api.Edit
	for _, x := range sorted(edits, pathOfEdit) {
		if delta.Check(append(l, x)) == api.OK {
			l = append(l, x)
		}
	}
	return l
}

func FuzzItems(f *testing.F) {
	f.Add("\x00a\x02100\x01b\x01100\x05c\x03200", "\x00b\x02111\x01c\x01111")
	f.Add(odd(1, 400), odd(2, 300))
	f.Add("", "\x00a\x01100")
	f.Fuzz(func(t *testing.T, s, u string) {
		a, b := cutUp(s), cutUp(u)
		checkAll(t, a, b, editsOf(a), editsOf(b))
		l, m := listOf(editsOf(a)), listOf(editsOf(b))
		a, b = worldOf(a), worldOf(b)
		checkAll(t, a, b, l, m)
		checkAll(t, b, a, thereAll(a), goneAll(b))
		d, _ := delta.Diff(a, b)
		back, _ := delta.Diff(b, a)
		checkAll(t, a, b, d, back)
		if j, err := delta.Join(d, back); err != api.OK {
			t.Fatalf("Join of two ways between two worlds: %v", err)
		} else if w, err := delta.Apply(a, j); !slices.Equal(w, a) || err != api.OK {
			t.Fatalf("there and back from %s: %s, %v", few(a), few(w), err)
		}
	})
}
