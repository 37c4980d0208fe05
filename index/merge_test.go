package index_test

import (
	"math"
	"slices"
	"testing"

	"lumberroom/api"
	"lumberroom/index"
	"lumberroom/pack"
)

func place(id byte, kind, in, at, size int) api.Place {
	return api.Place{ID: api.ID{id}, Kind: kind, Pack: in, At: at, Len: size}
}

func TestMerge(t *testing.T) {
	for i, c := range []struct{ a, b, want []api.Place }{
		{nil, nil, nil},
		{nil, []api.Place{{Kind: 1}}, []api.Place{{Kind: 1}}},
		{
			[]api.Place{place(1, 1, 2, 0, 0), place(3, 1, 0, 0, 0)},
			[]api.Place{place(1, 1, 1, 0, 0), place(2, 2, 0, 0, 0)},
			[]api.Place{place(1, 1, 1, 0, 0), place(2, 2, 0, 0, 0), place(3, 1, 0, 0, 0)},
		},
		{
			[]api.Place{place(1, 1, 9, 9, 9), place(2, 2, 8, 8, 8), place(255, 3, 7, 7, 7)},
			[]api.Place{place(127, 1, 1, 1, 1), place(128, 2, 1, 1, 1)},
			[]api.Place{place(1, 1, 9, 9, 9), place(2, 2, 8, 8, 8), place(127, 1, 1, 1, 1), place(128, 2, 1, 1, 1), place(255, 3, 7, 7, 7)},
		},
		// The smaller Pack, then At, then Len, then Kind, whatever is told behind.
		{[]api.Place{place(5, 3, 1, 9, 9)}, []api.Place{place(5, 1, 2, 0, 0)}, []api.Place{place(5, 3, 1, 9, 9)}},
		{[]api.Place{place(5, 3, 1, 1, 9)}, []api.Place{place(5, 1, 1, 2, 0)}, []api.Place{place(5, 3, 1, 1, 9)}},
		{[]api.Place{place(5, 3, 1, 1, 1)}, []api.Place{place(5, 1, 1, 1, 2)}, []api.Place{place(5, 3, 1, 1, 1)}},
		{[]api.Place{place(5, 1, 1, 1, 1)}, []api.Place{place(5, 2, 1, 1, 1)}, []api.Place{place(5, 1, 1, 1, 1)}},
		{[]api.Place{place(5, 2, 1, 1, 1)}, []api.Place{place(5, 3, 1, 1, 1)}, []api.Place{place(5, 2, 1, 1, 1)}},
		{[]api.Place{place(5, 1, 1, 1, 1)}, []api.Place{place(5, 1, 1, 1, 1)}, []api.Place{place(5, 1, 1, 1, 1)}},
		{[]api.Place{place(5, 1, 255, 0, 0)}, []api.Place{place(5, 1, 256, 0, 0)}, []api.Place{place(5, 1, 255, 0, 0)}},
		{[]api.Place{place(5, 1, 1<<32, 0, 0)}, []api.Place{place(5, 1, 1<<32+1, 0, 0)}, []api.Place{place(5, 1, 1<<32, 0, 0)}},
		{[]api.Place{place(5, 1, 0, 1, 0)}, []api.Place{place(5, 1, 0, 1<<40, 0)}, []api.Place{place(5, 1, 0, 1, 0)}},
	} {
		if m, err := index.Merge(c.a, c.b); !slices.Equal(m, c.want) || err != api.OK {
			t.Errorf("case %d: %v, %v, want %v", i, m, err, c.want)
		}
		if m, err := index.Merge(c.b, c.a); !slices.Equal(m, c.want) || err != api.OK {
			t.Errorf("case %d, turned: %v, %v, want %v", i, m, err, c.want)
		}
	}
}

// smaller says which of two places with one ID stays.
func smaller(p, q api.Place) api.Place {
	for _, pair := range [][2]int{{p.Pack, q.Pack}, {p.At, q.At}, {p.Len, q.Len}, {p.Kind, q.Kind}} {
		if pair[0] < pair[1] {
			return p
		}
		if pair[0] > pair[1] {
			return q
		}
	}
	return p
}

// put puts a place where it belongs among the others.
func put(x []api.Place, p api.Place) []api.Place {
	for i, q := range x {
		if q.ID == p.ID {
			x[i] = smaller(p, q)
			return x
		}
		if string(p.ID[:]) < string(q.ID[:]) {
			return slices.Insert(x, i, p)
		}
	}
	return append(x, p)
}

// slowMerge puts place by place.
func slowMerge(a, b []api.Place) ([]api.Place, api.Errno) {
	for _, x := range [][]api.Place{a, b} {
		if err := slowCheck(x); err != api.OK {
			return nil, err
		}
	}
	var merged []api.Place
	for _, p := range append(slices.Clone(b), a...) {
		merged = put(merged, p)
	}
	if len(merged) > 400 {
		return nil, api.ErrLarge
	}
	return merged, api.OK
}

func checkMerge(t *testing.T, a, b []api.Place) {
	t.Helper()
	want, wrong := slowMerge(a, b)
	if got, err := index.Merge(a, b); !slices.Equal(got, want) || err != wrong || wrong != api.OK && got != nil {
		t.Fatalf("Merge of %d and %d places: %d, %v, want %d, %v", len(a), len(b), len(got), err, len(want), wrong)
	}
}

func TestMergeWordByWord(t *testing.T) {
	for _, a := range someIndexes() {
		for _, b := range someIndexes() {
			checkMerge(t, a, b)
		}
	}
	for seed := range 60 {
		checkMerge(t, oddIndex(seed, seed*5), oddIndex(3*seed, 60))
		checkMerge(t, oddIndex(seed, 100), oddIndex(seed+7, 90))
	}
}

// All places of two packs, two beginnings and so on, that have one ID.
func TestMergeOfAllSmallPlaces(t *testing.T) {
	var l []api.Place
	for n := range 3 * 3 * 3 * 3 {
		l = append(l, place(7, 1+n%3, n/3%3, n/9%3, n/27))
	}
	for _, p := range l {
		for _, q := range l {
			want := []api.Place{place(6, 1, 0, 0, 0), smaller(p, q), place(8, 2, 9, 9, 9)}
			m, err := index.Merge([]api.Place{want[0], p}, []api.Place{q, want[2]})
			if !slices.Equal(m, want) || err != api.OK {
				t.Errorf("Merge of %v and %v: %v, %v, want %v", p, q, m, err, want)
			}
		}
	}
}

// numbered are places whose IDs are the numbers from first on.
func numbered(first, count int) []api.Place {
	var x []api.Place
	for n := first; n < first+count; n++ {
		x = append(x, api.Place{ID: api.ID{byte(n >> 8), byte(n)}, Kind: 1 + n%3, Pack: n})
	}
	return x
}

func TestMergeRefusesTooManyPlaces(t *testing.T) {
	for _, c := range []struct {
		a, b []api.Place
		want int // 0: they are too many
	}{
		{numbered(0, 200), numbered(200, 200), 400},
		{numbered(0, 400), nil, 400},
		{numbered(0, 400), numbered(0, 400), 400},
		{numbered(0, 400), numbered(399, 1), 400},
		{numbered(1, 399), numbered(0, 1), 400},
		{numbered(0, 300), numbered(100, 300), 400},
		{numbered(0, 400), numbered(400, 1), 0},
		{numbered(1, 400), numbered(0, 1), 0},
		{numbered(0, 201), numbered(201, 200), 0},
		{numbered(0, 400), numbered(1, 400), 0},
		{numbered(0, 400), numbered(400, 400), 0},
	} {
		wrong := api.OK
		if c.want == 0 {
			wrong = api.ErrLarge
		}
		for _, pair := range [][2][]api.Place{{c.a, c.b}, {c.b, c.a}} {
			if m, err := index.Merge(pair[0], pair[1]); len(m) != c.want || err != wrong {
				t.Errorf("Merge of %d and %d places: %d, %v, want %d, %v", len(pair[0]), len(pair[1]), len(m), err, c.want, wrong)
			}
		}
	}
}

func TestMergeTellsTheFirstError(t *testing.T) {
	wrongs := []struct {
		x    []api.Place
		want api.Errno
	}{
		{numbered(0, 401), api.ErrLarge},
		{[]api.Place{{}}, api.ErrKind},
		{[]api.Place{{Kind: 1, Pack: -1}}, api.ErrArg},
		{[]api.Place{{Kind: 1}, {Kind: 1}}, api.ErrForm},
	}
	for _, a := range wrongs {
		for _, b := range wrongs {
			if m, err := index.Merge(a.x, b.x); m != nil || err != a.want {
				t.Errorf("Merge of two wrong ones: %d places, %v, want %v alone", len(m), err, a.want)
			}
		}
		// Taken together they would be too many, too.
		if m, err := index.Merge(numbered(0, 400), a.x); m != nil || err != a.want {
			t.Errorf("Merge with a wrong one: %d places, %v, want %v alone", len(m), err, a.want)
		}
	}
}

func entryOf(p api.Place) api.Entry {
	return api.Entry{ID: p.ID, Kind: p.Kind, At: p.At, Len: p.Len}
}

func entriesOf(x []api.Place) []api.Entry {
	var l []api.Entry
	for _, p := range x {
		l = append(l, entryOf(p))
	}
	return l
}

func TestOf(t *testing.T) {
	for i, c := range []struct {
		n    int
		l    []api.Entry
		want []api.Place
	}{
		{0, nil, nil},
		{1 << 40, []api.Entry{}, nil},
		{0, []api.Entry{{Kind: 1}}, []api.Place{{Kind: 1}}},
		{1 << 40, []api.Entry{{ID: api.ID{1}, Kind: 3, At: 1 << 40, Len: 1 << 40}}, []api.Place{place(1, 3, 1<<40, 1<<40, 1<<40)}},
		{
			4,
			[]api.Entry{{ID: api.ID{255}, Kind: 1, Len: 3}, {ID: api.ID{128}, Kind: 2, At: 3, Len: 9}, {ID: api.ID{127}, Kind: 3, At: 12, Len: 1}},
			[]api.Place{place(127, 3, 4, 12, 1), place(128, 2, 4, 3, 9), place(255, 1, 4, 0, 3)},
		},
		// Of one ID the smaller At, then Len, then Kind.
		{9, []api.Entry{{Kind: 1, At: 2}, {Kind: 3, At: 1, Len: 7}, {Kind: 2, At: 3}}, []api.Place{{Kind: 3, Pack: 9, At: 1, Len: 7}}},
		{9, []api.Entry{{Kind: 1, At: 1, Len: 8}, {Kind: 3, At: 1, Len: 7}}, []api.Place{{Kind: 3, Pack: 9, At: 1, Len: 7}}},
		{9, []api.Entry{{Kind: 3}, {Kind: 2}, {Kind: 1}, {Kind: 2}}, []api.Place{{Kind: 1, Pack: 9}}},
		{9, []api.Entry{{Kind: 2, Len: 5}, {Kind: 2, Len: 5}}, []api.Place{{Kind: 2, Pack: 9, Len: 5}}},
		{
			4,
			[]api.Entry{{ID: api.ID{2}, Kind: 1, At: 5}, {ID: api.ID{1}, Kind: 1}, {ID: api.ID{2}, Kind: 1}, {ID: api.ID{1}, Kind: 2}},
			[]api.Place{place(1, 1, 4, 0, 0), place(2, 1, 4, 0, 0)},
		},
	} {
		if x, err := index.Of(c.n, c.l); !slices.Equal(x, c.want) || err != api.OK {
			t.Errorf("case %d: %v, %v, want %v", i, x, err, c.want)
		}
	}
}

func checkOfRefuses(t *testing.T, n int, l []api.Entry, want api.Errno) {
	t.Helper()
	if x, err := index.Of(n, l); x != nil || err != want {
		t.Fatalf("Of %d, %d entries, %v..: %d places, %v, want %v alone", n, len(l), few(l), len(x), err, want)
	}
}

func TestOfRefusesAWrongPack(t *testing.T) {
	for _, n := range wrongNumbers {
		checkOfRefuses(t, n, nil, api.ErrArg)
		checkOfRefuses(t, n, []api.Entry{{Kind: 1}}, api.ErrArg)
		checkOfRefuses(t, n, []api.Entry{{Kind: 9}}, api.ErrArg)
		checkOfRefuses(t, n, make([]api.Entry, 401), api.ErrArg)
	}
}

// Entries are counted one by one, also those of one ID.
func TestOfRefusesTooManyEntries(t *testing.T) {
	same := []api.Entry{{Kind: 1}}
	for _, count := range []int{401, 402, 656, 1000} {
		checkOfRefuses(t, 0, entriesOf(oddIndex(0, count)), api.ErrLarge)
		checkOfRefuses(t, 0, make([]api.Entry, count), api.ErrLarge)
		checkOfRefuses(t, 0, slices.Repeat(same, count), api.ErrLarge)
	}
	if x, err := index.Of(0, slices.Repeat(same, 400)); len(x) != 1 || err != api.OK {
		t.Errorf("Of 400 like entries: %d places, %v", len(x), err)
	}
	if x, err := index.Of(0, entriesOf(oddIndex(0, 400))); len(x) != 400 || err != api.OK {
		t.Errorf("Of 400 entries: %d places, %v", len(x), err)
	}
}

func TestOfRefusesAWrongEntry(t *testing.T) {
	for at := range 400 {
		l := entriesOf(oddIndex(at, 400))
		right := l[at]
		for _, kind := range wrongKinds {
			l[at].Kind = kind
			checkOfRefuses(t, at, l, api.ErrKind)
		}
		l[at] = right
		for _, n := range wrongNumbers {
			l[at].At = n
			checkOfRefuses(t, at, l, api.ErrArg)
			l[at] = right
			l[at].Len = n
			checkOfRefuses(t, at, l, api.ErrArg)
			l[at] = right
		}
	}
}

func TestOfTellsTheFirstError(t *testing.T) {
	right, noKind, noNumber := api.Entry{Kind: 1}, api.Entry{ID: api.ID{5}}, api.Entry{ID: api.ID{3}, Kind: 1, Len: -1}
	checkOfRefuses(t, 0, []api.Entry{{Kind: 4, At: -1}}, api.ErrKind)
	checkOfRefuses(t, 0, []api.Entry{noKind, noNumber}, api.ErrKind)
	checkOfRefuses(t, 0, []api.Entry{noNumber, noKind}, api.ErrArg)
	checkOfRefuses(t, 0, []api.Entry{right, noNumber, right, noKind}, api.ErrArg)
	checkOfRefuses(t, 0, []api.Entry{right, right, noKind, noNumber}, api.ErrKind)
}

// slowOf puts place by place.
func slowOf(n int, l []api.Entry) ([]api.Place, api.Errno) {
	if n < 0 || n > 1099511627776 {
		return nil, api.ErrArg
	}
	if len(l) >= 401 {
		return nil, api.ErrLarge
	}
	var x []api.Place
	for _, e := range l {
		p := api.Place{ID: e.ID, Kind: e.Kind, Pack: n, At: e.At, Len: e.Len}
		if err := slowCheck([]api.Place{p}); err != api.OK {
			return nil, err
		}
		x = put(x, p)
	}
	return x, api.OK
}

func checkOf(t *testing.T, n int, l []api.Entry) {
	t.Helper()
	want, wrong := slowOf(n, l)
	if got, err := index.Of(n, l); !slices.Equal(got, want) || err != wrong || wrong != api.OK && got != nil {
		t.Fatalf("Of %d, %d entries, %v..: %v, %v, want %v, %v", n, len(l), few(l), few(got), err, few(want), wrong)
	}
}

// oddEntries stand in no order, and many share an ID with others.
func oddEntries(seed, count int) []api.Entry {
	var l []api.Entry
	for i := range count {
		o := odd(seed*500+i, 5)
		l = append(l, api.Entry{ID: api.ID{o[0] % 8, 0, o[1] % 8}, Kind: 1 + int(o[2])%3, At: int(o[3]) % 3, Len: int(o[4]) % 3})
	}
	return l
}

func TestOfWordByWord(t *testing.T) {
	for seed := range 200 {
		checkOf(t, seed, oddEntries(seed, 2*seed+2))
		checkOf(t, seed, entriesOf(oddIndex(seed, 2*seed)))
	}
	for _, n := range []int{math.MinInt, -1, 0, 1, 1 << 40, 1<<40 + 1} {
		checkOf(t, n, oddEntries(n, 50))
	}
}

// What packs list is found again: each blob is where its place says.
func TestFindWhatPacksHave(t *testing.T) {
	var files []string
	var blobs []api.Blob
	var x []api.Place
	for n := range 10 {
		var l []api.Blob
		for i := range 40 {
			l = append(l, api.Blob{Kind: 1 + i%3, Bytes: odd(40*n+i, i)})
		}
		file, err := pack.Make(l[n%2:])
		if err != api.OK {
			t.Fatal(err)
		}
		entries, _ := pack.List(file)
		places, err := index.Of(n, entries)
		if len(places) != len(entries) || err != api.OK {
			t.Fatalf("Of pack %d: %d places of %d, %v", n, len(places), len(entries), err)
		}
		x, err = index.Merge(x, places)
		if err != api.OK {
			t.Fatal(err)
		}
		files, blobs = append(files, file), append(blobs, l[n%2:]...)
	}
	for _, b := range blobs {
		id, _ := pack.ID(b)
		p, err := index.Find(x, id)
		if err != api.OK {
			t.Fatalf("%.20q is not found: %v", b.Bytes, err)
		}
		if got, err := pack.One(files[p.Pack], entryOf(p)); got != b || err != api.OK {
			t.Errorf("at %v: %.20q, %v, want %.20q", p, got.Bytes, err, b.Bytes)
		}
	}
}
