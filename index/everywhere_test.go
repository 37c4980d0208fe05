package index_test

import (
	"math"
	"slices"
	"strings"
	"testing"
	"unsafe"

	"lumberroom/api"
	"lumberroom/index"
)

// checkPlaces: whatever places come, the calls answer what they should, the
// same each time, and leave the lists and their spare memory as they were.
func checkPlaces(t *testing.T, a, b []api.Place) {
	t.Helper()
	memory := [][]api.Place{slices.Clone(a[:cap(a)]), slices.Clone(b[:cap(b)])}
	for range 2 {
		if got, want := index.Check(a), slowCheck(a); got != want {
			t.Fatalf("Check of %d places, %v..: %v, want %v", len(a), few(a), got, want)
		}
		checkFind(t, a, api.ID{})
		for _, p := range b[:min(3, len(b))] {
			checkFind(t, a, p.ID)
		}
		checkMerge(t, a, b)
		checkMerge(t, b, a)
		checkMerge(t, a, a)
		checkText(t, a)
	}
	if !slices.Equal(a[:cap(a)], memory[0]) || !slices.Equal(b[:cap(b)], memory[1]) {
		t.Fatalf("a list of %d or %d places was changed", len(a), len(b))
	}
}

func checkEntries(t *testing.T, n int, l []api.Entry) {
	t.Helper()
	memory := slices.Clone(l[:cap(l)])
	for range 2 {
		checkOf(t, n, l)
	}
	if !slices.Equal(l[:cap(l)], memory) {
		t.Fatalf("a list of %d entries was changed", len(l))
	}
}

var wildNumbers = []int{math.MinInt, math.MinInt + 1, -1 << 40, -1 << 32, -1, 0, 1, 2, 3, 4, 256, 257, 1 << 32, 1<<32 + 1, 1<<40 - 1, 1 << 40, 1<<40 + 1, 1 << 41, math.MaxInt - 1, math.MaxInt}

func TestCallsAnswerAnything(t *testing.T) {
	for _, kind := range wildNumbers {
		for _, n := range wildNumbers {
			for _, m := range wildNumbers {
				x := []api.Place{{Kind: kind, Pack: n, At: m, Len: 1}, {ID: api.ID{0, 9}, Kind: kind, Pack: 1, At: n, Len: m}, {ID: api.ID{0, 9, 1}, Kind: 1, Pack: m, Len: n}}
				checkPlaces(t, x, x[1:])
				checkPlaces(t, x[:2], x[2:])
				checkPlaces(t, x[:1], x[:1:1])
				checkEntries(t, n, entriesOf(x))
				checkEntries(t, m, entriesOf(x[2:]))
			}
		}
	}
	for _, count := range []int{0, 1, 200, 201, 399, 400, 401, 1000, 1 << 17} {
		checkPlaces(t, make([]api.Place, count), numbered(0, 300))
		checkPlaces(t, slices.Repeat([]api.Place{{Kind: 1}}, count), nil)
		checkEntries(t, count, make([]api.Entry, count))
		checkEntries(t, count, slices.Repeat([]api.Entry{{Kind: 2}}, count))
	}
	for seed := range 300 {
		checkRead(t, odd(seed, seed))
		checkRead(t, counted(uint64(seed), odd(seed, seed)))
		checkRead(t, counted(uint64(seed), many(seed)...)+odd(seed, seed%3))
	}
	for _, s := range []string{"\x00", "\x01", "\x02", "\xff"} {
		checkRead(t, strings.Repeat(s, 1<<17))
	}
}

func TestCallsKeepNothing(t *testing.T) {
	x, y := oddIndex(1, 200), oddIndex(101, 200)
	merged, _ := index.Merge(x, y)
	of, _ := index.Of(5, entriesOf(y))
	s, _ := index.Text(merged)
	read, _ := index.Read(s)
	keptMerged, keptOf, keptText := slices.Clone(merged), slices.Clone(of), strings.Clone(s)
	for _, other := range someIndexes() {
		index.Merge(other, x)
		index.Of(6, entriesOf(other))
		text, _ := index.Text(other)
		index.Read(text)
		index.Find(other, api.ID{1})
	}
	for _, c := range unread {
		index.Read(c.s)
	}
	if !slices.Equal(merged, keptMerged) || !slices.Equal(of, keptOf) || s != keptText || !slices.Equal(read, keptMerged) {
		t.Error("an answer was changed by what was asked behind it")
	}
	mergedAgain, _ := index.Merge(x, y)
	ofAgain, _ := index.Of(5, entriesOf(y))
	textAgain, _ := index.Text(merged)
	if !slices.Equal(mergedAgain, keptMerged) || !slices.Equal(ofAgain, keptOf) || textAgain != keptText {
		t.Error("what was asked in between is to be seen in the answer")
	}
}

// withSpare has more behind it in its own memory.
func withSpare(x []api.Place) []api.Place {
	memory := append(slices.Clone(x), slices.Repeat([]api.Place{{Kind: 77}}, 9)...)
	return memory[:len(x)]
}

// overwrite changes a list and its spare memory.
func overwrite[T any](l []T, with T) {
	for i := range l[:cap(l)] {
		l[:cap(l)][i] = with
	}
}

func TestListsAreNotChangedAndNotShared(t *testing.T) {
	other := api.Place{Kind: 99}
	for _, x := range someIndexes() {
		for _, y := range [][]api.Place{nil, x, numbered(0, 3), oddIndex(40, 100)} {
			a, b := withSpare(x), withSpare(y)
			wholeA, wholeB := slices.Clone(a[:cap(a)]), slices.Clone(b[:cap(b)])
			merged, _ := index.Merge(a, b)
			turned, _ := index.Merge(b, a)
			want := slices.Clone(merged)
			overwrite(turned, other)
			if !slices.Equal(merged, want) || !slices.Equal(a[:cap(a)], wholeA) || !slices.Equal(b[:cap(b)], wholeB) {
				t.Fatalf("Merge of %d and %d places shares memory with what was handed in", len(x), len(y))
			}
			overwrite(a, other)
			overwrite(b, other)
			if !slices.Equal(merged, want) {
				t.Fatalf("Merge of %d and %d places changes with what was handed in", len(x), len(y))
			}
		}
	}
}

// checkOwnList: not even the spare memory of a list is another one's.
func checkOwnList(t *testing.T, ask func() []api.Place) {
	t.Helper()
	first := ask()
	want := slices.Clone(first)
	overwrite(ask(), api.Place{Kind: 99})
	if third := ask(); !slices.Equal(first, want) || !slices.Equal(third, want) {
		t.Error("two answers share a list's memory")
	}
}

func TestListsAreMemoryOfTheirOwn(t *testing.T) {
	for _, x := range someIndexes() {
		s, _ := index.Text(x)
		l := entriesOf(x)
		checkOwnList(t, func() []api.Place { got, _ := index.Read(s); return got })
		checkOwnList(t, func() []api.Place { got, _ := index.Of(1, l); return got })
		checkOwnList(t, func() []api.Place { got, _ := index.Merge(x, nil); return got })
		checkOwnList(t, func() []api.Place { got, _ := index.Merge(nil, x); return got })
		checkOwnList(t, func() []api.Place { got, _ := index.Merge(x, x); return got })
	}
}

// A list that was changed is read anew.
func TestListsAreNotKept(t *testing.T) {
	x, l := oddIndex(1, 12), oddEntries(1, 12)
	for i := range x {
		checkPlaces(t, x, x[i:])
		checkEntries(t, i, l)
		x[i].Pack++
		l[i].At++
		l[11-i].ID = l[i].ID
		checkPlaces(t, x, x[i:])
		x[11-i].Kind = 1 + x[11-i].Kind%4
	}
}

// The memory of a text is not changed, and what is read from it is another.
func TestTextsAreNotChangedAndNotKept(t *testing.T) {
	for _, x := range someIndexes() {
		s, _ := index.Text(x)
		memory := []byte(s)
		read, _ := index.Read(unsafe.String(unsafe.SliceData(memory), len(memory)))
		if string(memory) != s {
			t.Fatalf("the text of %d places was changed", len(x))
		}
		clear(memory)
		if !slices.Equal(read, x) {
			t.Errorf("%d places change with the text they were read from", len(x))
		}
		again, _ := index.Text(x)
		// Texts of one byte may all be the same constant ones.
		if len(s) > 1 && unsafe.StringData(s) == unsafe.StringData(again) {
			t.Errorf("two texts of %d places share memory", len(x))
		}
	}
}

// cutUp are places of 8 bytes each, their numbers small, their IDs near.
func cutUp(s string) []api.Place {
	var x []api.Place
	for ; len(s) >= 8; s = s[8:] {
		p := api.Place{ID: api.ID{s[0] % 4, s[1], 0, 0, s[2]}, Kind: int(s[3]) % 5, Pack: int(s[4]) % 3, At: int(s[5])%4 - 1, Len: int(s[6]) % 3}
		if s[7] == 0 {
			p.Len += 1 << 40
		}
		x = append(x, p)
	}
	return x
}

// made are places that are right, and rise: what cutUp makes seldom is.
func made(x []api.Place) []api.Place {
	var l []api.Place
	for _, p := range x {
		p.Kind, p.At, p.Len = 1+p.Kind%3, p.At+1, p.Len%3
		l = put(l, p)
	}
	return l
}

func FuzzPlaces(f *testing.F) {
	f.Add("some bytes of which places are made", "and of which others are made", 7)
	f.Add("", "\x01\x01\x01\x01\x01\x01\x01\x01", -1)
	f.Fuzz(func(t *testing.T, s, u string, n int) {
		a, b := cutUp(s), cutUp(u)
		checkPlaces(t, a, b)
		checkEntries(t, n, entriesOf(a))
		checkEntries(t, n&math.MaxUint16, entriesOf(b))
		checkPlaces(t, made(a), made(b))
		checkEntries(t, n&math.MaxUint16, entriesOf(made(append(a, b...))))
	})
}

func FuzzRead(f *testing.F) {
	for _, c := range written {
		f.Add(byHex(f, c.form))
	}
	for _, c := range unread {
		f.Add(c.s[:min(60, len(c.s))])
	}
	f.Fuzz(func(t *testing.T, s string) { checkRead(t, s) })
}
