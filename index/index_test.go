package index_test

import (
	"encoding/hex"
	"math"
	"slices"
	"strings"
	"testing"

	"lumberroom/api"
	"lumberroom/index"
)

// odd makes n bytes that look like no text: the same ones for each seed.
func odd(seed, n int) string {
	b := make([]byte, n)
	for i := range b {
		seed = (seed*1103515245 + 12345) % (1 << 31)
		b[i] = byte(seed >> 16)
	}
	return string(b)
}

// few are as many of a list as are worth telling.
func few[T any](l []T) []T { return l[:min(3, len(l))] }

func idOf(s string) api.ID { return api.ID([]byte(s)) }

// oddNumber is from 0 to 2^40, of few bits as often as of many.
func oddNumber(s string) int {
	n := 0
	for i := range len(s) {
		n = n<<8 | int(s[i])
	}
	return n % (1<<40 + 1) >> (s[0] % 41)
}

// oddIndex is an index of so many places; two of near seeds share some IDs.
func oddIndex(seed, count int) []api.Place {
	var ids []string
	for i := range count {
		ids = append(ids, odd(seed+i, 8))
	}
	slices.Sort(ids)
	var x []api.Place
	for i, id := range ids {
		o := odd(seed+i+7, 15)
		x = append(x, api.Place{ID: idOf(id), Kind: 1 + i%3, Pack: oddNumber(o[:5]), At: oddNumber(o[5:10]), Len: oddNumber(o[10:])})
	}
	return x
}

// byHex is the text whose bytes are told by base 16, with blanks in between.
func byHex(t testing.TB, s string) string {
	t.Helper()
	b, err := hex.DecodeString(strings.ReplaceAll(s, " ", ""))
	if err != nil {
		t.Fatal(err)
	}
	return string(b)
}

// risingIDs: at each byte one is above the one ahead, what is behind that byte
// being below, and bytes from 128 on are above those below 128.
func risingIDs() []api.ID {
	ids := []api.ID{{}}
	for at := 7; at >= 0; at-- {
		for _, c := range []byte{1, 127, 128, 254, 255} {
			var id, full api.ID
			id[at], full[at] = c, c
			for i := at + 1; i < 8; i++ {
				full[i] = 255
			}
			ids = append(ids, id)
			if at < 7 {
				ids = append(ids, full)
			}
		}
	}
	return ids
}

var wrongKinds = []int{math.MinInt, -1 << 32, -256, -255, -1, 0, 4, 5, 128, 255, 256, 257, 258, 259, 1<<32 + 1, math.MaxInt}

var wrongNumbers = []int{math.MinInt, -1 << 40, -1 << 32, -1, 1<<40 + 1, 1<<40 + 2, 1 << 41, 1 << 62, math.MaxInt}

// asPlaces are those numbers as each of a place's three.
func asPlaces(numbers []int) []api.Place {
	var l []api.Place
	for _, n := range numbers {
		l = append(l, api.Place{Kind: 1, Pack: n}, api.Place{Kind: 2, At: n}, api.Place{Kind: 3, Len: n})
	}
	return l
}

func TestCheck(t *testing.T) {
	for _, x := range someIndexes() {
		if err := index.Check(x); err != api.OK {
			t.Errorf("Check of %d places, %v..: %v", len(x), few(x), err)
		}
	}
}

// someIndexes may all be checked, found in, merged and written.
func someIndexes() [][]api.Place {
	all := [][]api.Place{
		nil,
		{},
		{{Kind: 1}},
		{{ID: api.ID{255, 255, 255, 255, 255, 255, 255, 255}, Kind: 3, Pack: 1 << 40, At: 1 << 40, Len: 1 << 40}},
	}
	for _, p := range asPlaces([]int{0, 1, 255, 256, 1<<32 - 1, 1 << 32, 1<<40 - 1, 1 << 40}) {
		all = append(all, []api.Place{p})
	}
	var rising []api.Place
	for i, id := range risingIDs() {
		// All that is no ID falls.
		rising = append(rising, api.Place{ID: id, Kind: 3 - i%3, Pack: 200 - i, At: 300 - i, Len: 400 - i})
	}
	all = append(all, rising)
	for _, count := range []int{1, 2, 3, 40, 255, 256, 399, 400} {
		all = append(all, oddIndex(count, count))
	}
	return all
}

func checkRefused(t *testing.T, x []api.Place, want api.Errno) {
	t.Helper()
	if err := index.Check(x); err != want {
		t.Fatalf("Check of %d places, %v..: %v, want %v", len(x), few(x), err, want)
	}
	if p, err := index.Find(x, api.ID{}); p != (api.Place{}) || err != want {
		t.Fatalf("Find in %d places, %v..: %v, %v, want %v alone", len(x), few(x), p, err, want)
	}
	if s, err := index.Text(x); s != "" || err != want {
		t.Fatalf("Text of %d places, %v..: %d bytes, %v, want %v alone", len(x), few(x), len(s), err, want)
	}
	for _, y := range [][]api.Place{nil, {{Kind: 1}}} {
		if m, err := index.Merge(x, y); m != nil || err != want {
			t.Fatalf("Merge of %d places, %v..: %v, %v, want %v alone", len(x), few(x), few(m), err, want)
		}
		if m, err := index.Merge(y, x); m != nil || err != want {
			t.Fatalf("Merge with %d places, %v..: %v, %v, want %v alone", len(x), few(x), few(m), err, want)
		}
	}
}

func TestCheckRefusesTooManyPlaces(t *testing.T) {
	for _, count := range []int{401, 402, 656, 800} {
		checkRefused(t, oddIndex(0, count), api.ErrLarge)
		checkRefused(t, make([]api.Place, count), api.ErrLarge)
	}
}

func TestCheckRefusesAWrongPlace(t *testing.T) {
	for at := range 400 {
		x := oddIndex(at, 400)
		right := x[at]
		for _, kind := range wrongKinds {
			x[at].Kind = kind
			checkRefused(t, x, api.ErrKind)
		}
		for _, p := range asPlaces(wrongNumbers) {
			p.ID = right.ID
			x[at] = p
			checkRefused(t, x, api.ErrArg)
		}
		x[at] = right
		if at > 0 {
			x[at].ID = x[at-1].ID
			checkRefused(t, x, api.ErrForm)
			x[at].ID = x[0].ID
			checkRefused(t, x, api.ErrForm)
		}
	}
}

func TestCheckRefusesIDsThatDoNotRise(t *testing.T) {
	ids := risingIDs()
	for i, id := range ids {
		for _, ahead := range ids[i:] {
			checkRefused(t, []api.Place{{ID: ahead, Kind: 1, Pack: 1}, {ID: id, Kind: 2, Pack: 2}}, api.ErrForm)
		}
		for _, ahead := range ids[:i] {
			if err := index.Check([]api.Place{{ID: ahead, Kind: 2, Pack: 2}, {ID: id, Kind: 1, Pack: 1}}); err != api.OK {
				t.Errorf("%x behind %x: %v", id, ahead, err)
			}
		}
	}
}

func TestCheckTellsTheFirstError(t *testing.T) {
	a, b := api.Place{ID: api.ID{1}, Kind: 1}, api.Place{ID: api.ID{2}, Kind: 1}
	noKind, noNumber := api.Place{ID: api.ID{3}}, api.Place{ID: api.ID{3}, Kind: 1, At: -1}
	for _, c := range []struct {
		x    []api.Place
		want api.Errno
	}{
		// Within one place.
		{[]api.Place{{Pack: -1}}, api.ErrKind},
		{[]api.Place{b, {Len: -1}}, api.ErrKind},
		{[]api.Place{b, {Kind: 9}}, api.ErrKind},
		{[]api.Place{b, {Kind: 1, At: 1<<40 + 1}}, api.ErrArg},
		{[]api.Place{b, {ID: api.ID{2}, Kind: 1, Pack: -1}}, api.ErrArg},
		// Of several.
		{[]api.Place{noKind, noNumber, a}, api.ErrKind},
		{[]api.Place{noNumber, noKind, a}, api.ErrArg},
		{[]api.Place{b, a, noKind, noNumber}, api.ErrForm},
		{[]api.Place{b, b, noNumber, noKind}, api.ErrForm},
		{[]api.Place{a, b, noNumber, noKind}, api.ErrArg},
		{append(slices.Repeat([]api.Place{a}, 400), noKind), api.ErrLarge},
		{append(slices.Repeat([]api.Place{noKind}, 400), a), api.ErrLarge},
		{slices.Repeat([]api.Place{noKind}, 400), api.ErrKind},
	} {
		checkRefused(t, c.x, c.want)
	}
}

// slowCheck holds IDs against each other as texts.
func slowCheck(x []api.Place) api.Errno {
	if len(x) >= 401 {
		return api.ErrLarge
	}
	ahead := ""
	for i, p := range x {
		if p.Kind < 1 || p.Kind > 3 {
			return api.ErrKind
		}
		for _, n := range []int{p.Pack, p.At, p.Len} {
			if n < 0 || n > 1099511627776 {
				return api.ErrArg
			}
		}
		if i > 0 && string(p.ID[:]) <= ahead {
			return api.ErrForm
		}
		ahead = string(p.ID[:])
	}
	return api.OK
}

func slowFind(x []api.Place, id api.ID) (api.Place, api.Errno) {
	if err := slowCheck(x); err != api.OK {
		return api.Place{}, err
	}
	for _, p := range x {
		if p.ID == id {
			return p, api.OK
		}
	}
	return api.Place{}, api.ErrNone
}

func checkFind(t *testing.T, x []api.Place, id api.ID) {
	t.Helper()
	want, wrong := slowFind(x, id)
	if got, err := index.Find(x, id); got != want || err != wrong {
		t.Fatalf("Find of %x in %d places: %v, %v, want %v, %v", id, len(x), got, err, want, wrong)
	}
}

// near are IDs of which one byte is one more, or one less.
func near(id api.ID) []api.ID {
	var all []api.ID
	for at := range id {
		more, less := id, id
		more[at]++
		less[at]--
		all = append(all, more, less)
	}
	return all
}

func TestFind(t *testing.T) {
	for _, x := range someIndexes() {
		for _, p := range x {
			if got, err := index.Find(x, p.ID); got != p || err != api.OK {
				t.Errorf("Find of %x in %d places: %v, %v, want %v", p.ID, len(x), got, err, p)
			}
			for _, id := range near(p.ID) {
				checkFind(t, x, id)
			}
		}
	}
}

func TestFindTellsThatThereIsNone(t *testing.T) {
	x := []api.Place{{ID: api.ID{2}, Kind: 1}, {ID: api.ID{128}, Kind: 2}, {ID: api.ID{254}, Kind: 3}}
	for _, id := range []api.ID{{}, {1, 255}, {2, 0, 0, 0, 0, 0, 0, 1}, {127, 255}, {128, 1}, {253}, {254, 1}, {255}, {0, 2}} {
		for n := range 4 {
			if p, err := index.Find(x[:n], id); p != (api.Place{}) || err != api.ErrNone {
				t.Errorf("Find of %x in %d places: %v, %v, want ErrNone alone", id, n, p, err)
			}
		}
	}
}

// A place is not told of a list that is no index, even if it is there.
func TestFindLooksAtAllPlaces(t *testing.T) {
	x := oddIndex(1, 400)
	x[399].Kind = 0
	for _, p := range x {
		if got, err := index.Find(x, p.ID); got != (api.Place{}) || err != api.ErrKind {
			t.Errorf("Find of %x: %v, %v, want ErrKind alone", p.ID, got, err)
		}
	}
}
