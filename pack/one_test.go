package pack_test

import (
	"math"
	"slices"
	"strings"
	"testing"

	"lumberroom/api"
	"lumberroom/mix"
	"lumberroom/pack"
	"lumberroom/press"
)

// entryOf tells of a blob whose pressed bytes stand at a place.
func entryOf(b api.Blob, at, size int) api.Entry {
	return api.Entry{ID: mix.ID(string([]byte{byte(b.Kind)}) + b.Bytes), Kind: b.Kind, At: at, Len: size}
}

func TestOneTakesEachBlobOut(t *testing.T) {
	for _, blobs := range someLists() {
		s, _ := pack.Make(blobs)
		entries, _ := pack.List(s)
		for i, x := range entries {
			if b, err := pack.One(s, x); b != blobs[i] || err != api.OK {
				t.Errorf("blob %d of %d: kind %d, %.20q, %v, want %.20q", i, len(blobs), b.Kind, b.Bytes, err, blobs[i].Bytes)
			}
		}
	}
}

// One looks at a place alone: no pack needs to be around it.
func TestOne(t *testing.T) {
	for i, c := range []struct {
		s string
		x api.Entry
		b api.Blob
	}{
		{"\x00", entryOf(data(""), 0, 1), data("")},
		{"\x00ab", entryOf(tree("ab"), 0, 3), tree("ab")},
		{"\x00ab", entryOf(snap("a"), 0, 2), snap("a")},
		{"\x00ab", entryOf(snap(""), 0, 1), snap("")},
		{"..\x00ab..", entryOf(data("ab"), 2, 3), data("ab")},
		{"..\x00ab..", entryOf(data("ab.."), 2, 5), data("ab..")},
		{"..\x00\x00", entryOf(data(""), 3, 1), data("")},
		{"\x00" + odd(1, 4096), entryOf(tree(odd(1, 4096)), 0, 4097), tree(odd(1, 4096))},
		{"\x00\x01\x01\x11\x01\x05\x01\x04\x00\x02\x01\x02\x10\x02a\x02\x39\x00\x00", entryOf(snap(strings.Repeat("a", 17)), 1, 17), snap(strings.Repeat("a", 17))},
	} {
		if b, err := pack.One(c.s, c.x); b != c.b || err != api.OK {
			t.Errorf("case %d: One(%.20q, %v) = %.40v, %v, want %.40v", i, c.s, c.x, b, err, c.b)
		}
	}
}

func checkOneRefuses(t *testing.T, s string, x api.Entry, want api.Errno) {
	t.Helper()
	if b, err := pack.One(s, x); b != (api.Blob{}) || err != want {
		t.Errorf("One(%.40q, %v) = %.40v, %v, want %v alone", s, x, b, err, want)
	}
}

func TestOneRefusesAPlaceThatIsNotThere(t *testing.T) {
	id := entryOf(data("ab"), 0, 0).ID
	for _, c := range [][2]int{
		{-1, 0}, {-1, 1}, {-1, 4}, {0, -1}, {1, -1}, {4, -1}, {-1, -1}, {0, 5}, {1, 4}, {3, 2}, {4, 1}, {5, 0}, {5, -1}, {5, -5}, {6, 0}, {100, 1},
		{math.MaxInt, 0}, {math.MaxInt, 1}, {math.MaxInt, math.MaxInt}, {0, math.MaxInt}, {1, math.MaxInt}, {2, math.MaxInt - 1},
		{math.MinInt, 0}, {math.MinInt, 4}, {0, math.MinInt}, {4, math.MinInt}, {math.MinInt, math.MinInt}, {math.MinInt, math.MaxInt}, {math.MaxInt, math.MinInt},
		{-math.MaxInt, math.MaxInt}, {math.MaxInt, -math.MaxInt}, {1 << 32, 1}, {0, 1 << 32}, {1 << 32, 1 << 32}, {1<<32 - 1, 1<<32 + 2}, {1 << 62, 1 << 62},
	} {
		for _, kind := range []int{1, 2, 3, 0, 9} {
			checkOneRefuses(t, "\x00ab.", api.Entry{ID: id, Kind: kind, At: c[0], Len: c[1]}, api.ErrArg)
			checkOneRefuses(t, "\x09ab.", api.Entry{Kind: kind, At: c[0], Len: c[1]}, api.ErrArg)
		}
	}
	checkOneRefuses(t, "", api.Entry{Kind: 1, Len: 1}, api.ErrArg)
	checkOneRefuses(t, "", api.Entry{Kind: 1, At: 1}, api.ErrArg)
	for at := range 5 {
		checkOneRefuses(t, "\x00ab.", api.Entry{Kind: 1, At: at}, api.ErrShort)
	}
	checkOneRefuses(t, "", api.Entry{Kind: 1}, api.ErrShort)
}

func TestOneRefusesAWrongKind(t *testing.T) {
	for _, kind := range wrongKinds {
		x := entryOf(api.Blob{Kind: kind, Bytes: "ab"}, 0, 3)
		checkOneRefuses(t, "\x00ab", x, api.ErrKind)
		checkOneRefuses(t, "", api.Entry{Kind: kind}, api.ErrKind)
		checkOneRefuses(t, "\x09ab", x, api.ErrKind)
	}
}

func TestOneRefusesWhatCanNotBeOpened(t *testing.T) {
	for _, c := range []struct {
		s    string
		want api.Errno
	}{
		{"", api.ErrShort},
		{"\x02", api.ErrKind},
		{"\xff12345678", api.ErrKind},
		{"\x00" + odd(1, 4097), api.ErrLarge},
		{"\x01", api.ErrShort},
		{"\x01\x09", api.ErrForm},
		{"\x01\x02\x10\x01", api.ErrLarge},
		{"\x01\x01\x02\x01\x02\x01\x02\x00\x01a\x01\x40", api.ErrForm},
		{"\x01\x01\x11\x01\x05\x01\x04\x00\x02\x01\x02\x10\x02a\x02\x39", api.ErrShort},
		{"\x01\x01\x11\x01\x05\x01\x04\x00\x02\x01\x02\x10\x02a\x02\x39\x00\x00", api.ErrForm},
	} {
		for _, x := range []api.Entry{entryOf(data(""), 0, len(c.s)), {Kind: 2, Len: len(c.s)}} {
			checkOneRefuses(t, c.s, x, c.want)
			x.At = 3
			checkOneRefuses(t, "abc"+c.s+"abc", x, c.want)
		}
	}
}

func TestOneRefusesAnotherID(t *testing.T) {
	s := "\x00ab"
	for kind := 1; kind <= 3; kind++ {
		right := entryOf(api.Blob{Kind: kind, Bytes: "ab"}, 0, 3)
		for at := range right.ID {
			x := right
			x.ID[at] ^= 1
			checkOneRefuses(t, s, x, api.ErrSum)
			x.ID[at] ^= 0x81
			checkOneRefuses(t, s, x, api.ErrSum)
		}
		for other := 1; other <= 3; other++ {
			if other != kind {
				checkOneRefuses(t, s, api.Entry{ID: right.ID, Kind: other, Len: 3}, api.ErrSum)
			}
		}
		checkOneRefuses(t, s, api.Entry{ID: right.ID, Kind: kind, Len: 2}, api.ErrSum)
		checkOneRefuses(t, s, api.Entry{Kind: kind, Len: 3}, api.ErrSum)
		checkOneRefuses(t, s, api.Entry{ID: mix.ID("ab"), Kind: kind, Len: 3}, api.ErrSum)
		checkOneRefuses(t, s, api.Entry{ID: mix.ID(s), Kind: kind, Len: 3}, api.ErrSum)
	}
}

// slowOne opens the bytes, if any, ahead of all else.
func slowOne(s string, x api.Entry) (api.Blob, api.Errno) {
	n := uint64(len(s))
	if uint64(x.At) > n || uint64(x.Len) > n || uint64(x.At)+uint64(x.Len) > n {
		return api.Blob{}, api.ErrArg
	}
	opened, wrong := press.Open(string([]byte(s)[x.At:][:x.Len]))
	switch {
	case x.Kind < 1 || x.Kind > 3:
		return api.Blob{}, api.ErrKind
	case wrong != api.OK:
		return api.Blob{}, wrong
	case mix.ID(string(rune(x.Kind))+opened) != x.ID:
		return api.Blob{}, api.ErrSum
	}
	return api.Blob{Kind: x.Kind, Bytes: opened}, api.OK
}

func checkOne(t *testing.T, s string, x api.Entry) {
	t.Helper()
	want, wrong := slowOne(s, x)
	if got, err := pack.One(s, x); got != want || err != wrong {
		t.Errorf("One(%.40q, %v) = %.40v, %v, want %.40v, %v", s, x, got, err, want, wrong)
	}
}

func TestOneOfAllPlaces(t *testing.T) {
	for _, c := range made {
		s := byHex(t, c.want)
		for _, b := range c.l {
			for at := -2; at <= len(s)+2; at++ {
				for size := -2; size <= len(s)+2; size++ {
					checkOne(t, s, entryOf(b, at, size))
				}
			}
		}
	}
}

func TestSplitTellsAllBlobs(t *testing.T) {
	for _, blobs := range append(someLists(), oddBlobs(1, 40, 4096)) {
		s, _ := pack.Make(blobs)
		if l, err := pack.Split(s); !slices.Equal(l, blobs) || err != api.OK {
			t.Errorf("Split of %d blobs: %d, %v", len(blobs), len(l), err)
		}
	}
	for _, c := range made {
		if l, err := pack.Split(byHex(t, c.want)); !slices.Equal(l, c.l) || err != api.OK {
			t.Errorf("Split(%s) = %.60v, %v, want %.60v", c.want, l, err, c.l)
		}
	}
}

func checkSplitRefuses(t *testing.T, s string, want api.Errno) {
	t.Helper()
	if l, err := pack.Split(s); l != nil || err != want {
		t.Errorf("Split(%.60q): %d blobs, %v, want %v alone", s, len(l), err, want)
	}
}

// A list may tell what the body does not hold: List takes it, Split does not.
func TestSplitRefusesABlobThatIsNotThere(t *testing.T) {
	ab, none := entryOf(data("ab"), 0, 3).ID, entryOf(data(""), 0, 1).ID
	good, goodList := "\x00ab", entry(1, string(ab[:]), 3)
	for i, c := range []struct {
		body, list string
		want       api.Errno
	}{
		{"", counted(1, entry(1, string(none[:]), 0)), api.ErrShort},
		{"\x02", counted(1, entry(1, string(none[:]), 1)), api.ErrKind},
		{"\x01\x09", counted(1, entry(1, string(none[:]), 2)), api.ErrForm},
		{"\x00ac", counted(1, goodList), api.ErrSum},
		{good, counted(1, entry(2, string(ab[:]), 3)), api.ErrSum},
		{good, counted(1, entry(1, "12345678", 3)), api.ErrSum},
		{"\x00\x00ab", counted(2, entry(1, string(none[:]), 1), entry(1, "12345678", 3)), api.ErrSum},
		{good + "\x02", counted(2, goodList, entry(1, "12345678", 1)), api.ErrKind},
		{good + "\x02\x00", counted(3, goodList, entry(1, "12345678", 1), entry(1, "22345678", 1)), api.ErrKind},
		{good + "\x00\x02", counted(3, goodList, entry(1, "12345678", 1), entry(1, "22345678", 1)), api.ErrSum},
		{good, counted(2, goodList, entry(1, "12345678", 0)), api.ErrShort},
		{good + odd(1, 39), counted(40, append([]string{goodList}, many(39, 1)...)...), api.ErrKind},
	} {
		s := sealed(c.body, c.list)
		if _, err := pack.List(s); err != api.OK {
			t.Errorf("case %d: List: %v", i, err)
		}
		checkSplitRefuses(t, s, c.want)
	}
}

// slowSplit is word by word what is promised.
func slowSplit(s string) ([]api.Blob, api.Errno) {
	entries, wrong := slowList(s)
	l := []api.Blob{}
	for i := 0; wrong == api.OK && i < len(entries); i++ {
		var b api.Blob
		b, wrong = slowOne(s, entries[i])
		l = append(l, b)
	}
	if wrong != api.OK {
		return nil, wrong
	}
	return l, api.OK
}

func checkSplit(t *testing.T, s string) {
	t.Helper()
	want, wrong := slowSplit(s)
	if got, err := pack.Split(s); !slices.Equal(got, want) || err != wrong || wrong != api.OK && got != nil {
		t.Errorf("Split(%.60q) = %.60v, %v, want %.60v, %v", s, got, err, want, wrong)
	}
}

func TestSplitWordByWord(t *testing.T) {
	for _, c := range made {
		s := byHex(t, c.want)
		for _, other := range changed(s[:len(s)-8]) {
			checkSplit(t, summed(other))
		}
	}
	for _, c := range unlisted {
		checkSplit(t, sealed(c.body, c.list))
	}
}
