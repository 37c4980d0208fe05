package pack_test

import (
	"encoding/hex"
	"hash/crc32"
	"math"
	"slices"
	"strings"
	"testing"

	"lumberroom/api"
	"lumberroom/mix"
	"lumberroom/num"
	"lumberroom/pack"
	"lumberroom/press"
)

// odd makes n bytes that look like no text: the same ones for each seed.
func odd(seed, n int) string {
	b := make([]byte, n)
	for i := range b {
		seed = (seed*1103515245 + 12345) % (1 << 31)
		b[i] = byte(seed >> 16)
	}
	return string(b)
}

// oddBlobs are of all kinds, each of n odd bytes.
func oddBlobs(seed, count, n int) []api.Blob {
	var l []api.Blob
	for i := range count {
		l = append(l, api.Blob{Kind: 1 + i%3, Bytes: odd(seed+i, n)})
	}
	return l
}

// letters are blobs of one byte each, all unlike.
func letters(count int) []api.Blob {
	var l []api.Blob
	for i := range count {
		l = append(l, data(string([]byte{byte(i)})))
	}
	return l
}

func data(s string) api.Blob { return api.Blob{Kind: api.KData, Bytes: s} }

func tree(s string) api.Blob { return api.Blob{Kind: api.KTree, Bytes: s} }

func snap(s string) api.Blob { return api.Blob{Kind: api.KSnap, Bytes: s} }

// byHex is the text whose bytes are told by base 16, with blanks in between.
func byHex(t testing.TB, s string) string {
	t.Helper()
	b, err := hex.DecodeString(strings.ReplaceAll(s, " ", ""))
	if err != nil {
		t.Fatal(err)
	}
	return string(b)
}

func idOf(t testing.TB, s string) api.ID {
	t.Helper()
	return api.ID([]byte(byHex(t, s)))
}

// wrongKinds begin with numbers whose lowest byte is that of a right one.
var wrongKinds = []int{257, 258, 259, 1<<32 + 1, -255, -254, -253, math.MinInt + 1, 0, 4, 5, 255, 256, -1, -3, math.MinInt, math.MaxInt}

// The IDs were worked out by another program.
func TestID(t *testing.T) {
	for _, c := range []struct {
		b    api.Blob
		want string
	}{
		{data(""), "419bb9c8e32ae701"},
		{tree(""), "1e26f0d79411d7bf"},
		{snap(""), "c5409b0454758579"},
		{data("ab"), "b35fbde88c833549"},
		{tree("ab"), "b560957a7fd46253"},
		{snap("ab"), "3ac65c3ba50b2f22"},
		{data("\x00"), "0b1f9ee04d8c298a"},
		{data("abcdefg"), "2a4b15f0c83c7341"},
		{data("abcdefgh"), "6c6262cc40a6b8b8"},
		{tree(strings.Repeat("\x00", 4096)), "1235ad0ffc1c4e1a"},
		{data(strings.Repeat("a", 4096)), "2c1a2505ecb357aa"},
		{snap(odd(1, 4096)), "5d2dcfd7419fea11"},
		{data(odd(2, 4095)), "757c7908194344a7"},
	} {
		if id, err := pack.ID(c.b); id != idOf(t, c.want) || err != api.OK {
			t.Errorf("ID of kind %d, %.20q: %x, %v, want %s", c.b.Kind, c.b.Bytes, id, err, c.want)
		}
	}
}

func TestIDRefuses(t *testing.T) {
	for _, n := range []int{4097, 4098, 8192, 1 << 16, 1 << 20} {
		for kind := 1; kind <= 3; kind++ {
			if id, err := pack.ID(api.Blob{Kind: kind, Bytes: odd(n, n)}); id != (api.ID{}) || err != api.ErrLarge {
				t.Errorf("ID of kind %d, %d bytes: %x, %v, want %v alone", kind, n, id, err, api.ErrLarge)
			}
		}
	}
	for _, kind := range wrongKinds {
		for _, n := range []int{0, 1, 4096, 4097} {
			if id, err := pack.ID(api.Blob{Kind: kind, Bytes: odd(n, n)}); id != (api.ID{}) || err != api.ErrKind {
				t.Errorf("ID of kind %d, %d bytes: %x, %v, want %v alone", kind, n, id, err, api.ErrKind)
			}
		}
	}
}

// made are packs as another program made them.
var made = []struct {
	l    []api.Blob
	want string
}{
	{nil, "00 0100 1807cb318817f60a"},
	{[]api.Blob{}, "00 0100 1807cb318817f60a"},
	{[]api.Blob{data("")}, "00 0101 01419bb9c8e32ae7010101 0d00 d619c566c4e501d4"},
	{[]api.Blob{data("ab")}, "006162 0101 01b35fbde88c8335490103 0d00 f583d1d32e5ead69"},
	{[]api.Blob{data("ab"), tree("ab")}, "006162006162 0102 01b35fbde88c8335490103 02b560957a7fd462530103 1800 3ae1c2c7dba179f9"},
	{[]api.Blob{tree("ab"), data("ab")}, "006162006162 0102 02b560957a7fd462530103 01b35fbde88c8335490103 1800 722c20d8c9b3331a"},
	{[]api.Blob{snap(strings.Repeat("a", 17)), data("")}, "0101110105010400020102100261023900 00 0102 03e10ccbf57bfc4e8e0111 01419bb9c8e32ae7010101 1800 78438b12b552e021"},
	{
		[]api.Blob{data(strings.Repeat("a", 4096)), tree(strings.Repeat("abcd", 200)), snap(strings.Repeat("a", 17))},
		"0102100001350105000201020f036103ff023c92492492492492492492492640 0102032001140108000104031f056105620463046404ff037d8d758b163d00 0101110105010400020102100261023900" +
			"0103 012c1a2505ecb357aa0120 02dd09b6e3f10e9c82011f 03e10ccbf57bfc4e8e0111 2300 02f9b9fe0fdb8b31",
	},
}

func TestMake(t *testing.T) {
	for i, c := range made {
		if s, err := pack.Make(c.l); s != byHex(t, c.want) || err != api.OK {
			t.Errorf("case %d: Make(%.40v) = %x, %v, want %s", i, c.l, s, err, c.want)
		}
	}
}

// These were worked out by another program. From 24 blobs on the list has more
// than 255 bytes.
func TestMakeOfManyBlobs(t *testing.T) {
	for _, c := range []struct {
		l        []api.Blob
		size     int
		checksum uint32
	}{
		{oddBlobs(0, 40, 4096), 164372, 0xa688fb25},
		{[]api.Blob{data(odd(1, 4096))}, 4121, 0x2e06d553},
		{letters(40), 532, 0x9f0b8b4b},
		{letters(23), 311, 0x242a75be},
		{letters(24), 324, 0x76a5b101},
	} {
		s, err := pack.Make(c.l)
		if sum := crc32.ChecksumIEEE([]byte(s)); len(s) != c.size || sum != c.checksum || err != api.OK {
			t.Errorf("Make of %d blobs: %d bytes, checksum %x, %v, want %d, %x", len(c.l), len(s), sum, err, c.size, c.checksum)
		}
	}
}

// clash is a blob that begins with front (of 7 bytes, or 8, 16.. more) and has
// the ID of b: its last block is chosen so that the digest comes to the same.
func clash(b api.Blob, kind int, front string) api.Blob {
	whole := string([]byte{byte(kind)}) + front
	size := uint64(len(whole) + 8)
	ahead := mix.Undo(mix.Sum(whole), uint64(len(whole)))
	block := mix.Undo(mix.Undo(mix.Sum(string([]byte{byte(b.Kind)})+b.Bytes), size), ahead)
	var last []byte
	for ; len(last) < 8; block >>= 8 {
		last = append(last, byte(block))
	}
	return api.Blob{Kind: kind, Bytes: front + string(last)}
}

// clashes are pairs of unlike blobs that have one ID.
func clashes(t testing.TB) [][2]api.Blob {
	var all [][2]api.Blob
	for _, b := range []api.Blob{data(""), tree("ab"), snap("abcdefg"), data("abcdefgh"), data(odd(1, 15)), tree(odd(3, 4096))} {
		for kind := 1; kind <= 3; kind++ {
			for _, n := range []int{7, 15, 63, 4087} {
				all = append(all, [2]api.Blob{b, clash(b, kind, odd(kind+20, n))})
			}
		}
	}
	for _, pair := range all {
		one, _ := pack.ID(pair[0])
		other, err := pack.ID(pair[1])
		if one != other || err != api.OK || pair[0] == pair[1] {
			t.Fatalf("%.20q and %.20q do not clash: %x, %x, %v", pair[0].Bytes, pair[1].Bytes, one, other, err)
		}
	}
	return all
}

func checkMakeRefuses(t *testing.T, l []api.Blob, want api.Errno) {
	t.Helper()
	if s, err := pack.Make(l); s != "" || err != want {
		t.Errorf("Make of %d blobs, %.60v: %d bytes, %v, want %v alone", len(l), l, len(s), err, want)
	}
}

func TestMakeRefusesTooManyBlobs(t *testing.T) {
	for _, n := range []int{41, 42, 80, 255, 256, 300} {
		checkMakeRefuses(t, oddBlobs(0, n, 9), api.ErrLarge)
		checkMakeRefuses(t, make([]api.Blob, n), api.ErrLarge)
		checkMakeRefuses(t, slices.Repeat([]api.Blob{data("a")}, n), api.ErrLarge)
	}
	for n := range 41 {
		if s, err := pack.Make(oddBlobs(0, n, 9)); err != api.OK {
			t.Errorf("Make of %d blobs: %d bytes, %v", n, len(s), err)
		}
	}
}

func TestMakeRefusesABlobThatHasNoID(t *testing.T) {
	for at := range 40 {
		for _, kind := range wrongKinds {
			l := oddBlobs(0, 40, 9)
			l[at].Kind = kind
			checkMakeRefuses(t, l, api.ErrKind)
			l[at].Bytes = odd(1, 4097)
			checkMakeRefuses(t, l, api.ErrKind)
		}
		l := oddBlobs(0, 40, 9)
		l[at].Bytes = odd(1, 4097)
		checkMakeRefuses(t, l, api.ErrLarge)
	}
}

func TestMakeRefusesABlobThatIsThere(t *testing.T) {
	for at := range 40 {
		for ahead := range at {
			l := oddBlobs(0, 40, 9)
			l[at] = api.Blob{Kind: l[ahead].Kind, Bytes: strings.Clone(l[ahead].Bytes)}
			checkMakeRefuses(t, l, api.ErrThere)
		}
	}
	checkMakeRefuses(t, []api.Blob{data(""), data("")}, api.ErrThere)
	checkMakeRefuses(t, []api.Blob{data("a"), tree("a"), snap("a"), tree("a")}, api.ErrThere)
	checkMakeRefuses(t, slices.Repeat([]api.Blob{snap(odd(1, 4096))}, 40), api.ErrThere)
}

func TestMakeRefusesAClash(t *testing.T) {
	for _, pair := range clashes(t) {
		for _, between := range []int{0, 1, 37} {
			l := slices.Concat(pair[:1], oddBlobs(50, between, 9), pair[1:])
			checkMakeRefuses(t, l, api.ErrClash)
			slices.Reverse(l)
			checkMakeRefuses(t, l, api.ErrClash)
		}
	}
}

func TestMakeTellsTheFirstError(t *testing.T) {
	a := data("a")
	other := clash(a, api.KTree, "another")
	large := data(odd(1, 4097))
	wrong := api.Blob{Kind: 9}
	for i, c := range []struct {
		l    []api.Blob
		want api.Errno
	}{
		{[]api.Blob{a, wrong, large, a, other}, api.ErrKind},
		{[]api.Blob{a, large, wrong, a, other}, api.ErrLarge},
		{[]api.Blob{a, a, other, large, wrong}, api.ErrThere},
		{[]api.Blob{a, other, a, large, wrong}, api.ErrClash},
		{[]api.Blob{a, other, other, large, wrong}, api.ErrClash},
		{[]api.Blob{other, other, a}, api.ErrThere},
		{[]api.Blob{other, a, other}, api.ErrClash},
		{[]api.Blob{large, large}, api.ErrLarge},
		{[]api.Blob{wrong, wrong}, api.ErrKind},
		{append(slices.Repeat([]api.Blob{a}, 40), wrong), api.ErrLarge},
		{append(slices.Repeat([]api.Blob{wrong}, 40), a), api.ErrLarge},
	} {
		if s, err := pack.Make(c.l); s != "" || err != c.want {
			t.Errorf("case %d: %d bytes, %v, want %v alone", i, len(s), err, c.want)
		}
	}
}

// slowMake holds each blob against all that are ahead of it.
func slowMake(l []api.Blob) (string, api.Errno) {
	if len(l) > 40 {
		return "", api.ErrLarge
	}
	body, list := "", num.Put(uint64(len(l)))
	for i, b := range l {
		if b.Kind < 1 || b.Kind > 3 {
			return "", api.ErrKind
		}
		if len(b.Bytes) > 4096 {
			return "", api.ErrLarge
		}
		if slices.Contains(l[:i], b) {
			return "", api.ErrThere
		}
		id := mix.ID(string(rune(b.Kind)) + b.Bytes)
		for _, ahead := range l[:i] {
			if mix.ID(string(rune(ahead.Kind))+ahead.Bytes) == id {
				return "", api.ErrClash
			}
		}
		pressed, _ := press.Press(b.Bytes)
		body += pressed
		list += string(rune(b.Kind)) + string(id[:]) + num.Put(uint64(len(pressed)))
	}
	return sealed(body, list), api.OK
}

// sealed has the list's length and the sum behind body and list.
func sealed(body, list string) string {
	return summed(body + list + string([]byte{byte(len(list) % 256), byte(len(list) / 256)}))
}

func summed(s string) string {
	sum := mix.ID(s)
	return s + string(sum[:])
}

func checkMake(t *testing.T, l []api.Blob) {
	t.Helper()
	want, wrong := slowMake(l)
	if got, err := pack.Make(l); got != want || err != wrong {
		t.Errorf("Make of %d blobs, %.60v: %d bytes, %v, want %d bytes, %v", len(l), l, len(got), err, len(want), wrong)
	}
}

// someLists may all be made packs of.
func someLists() [][]api.Blob {
	all := [][]api.Blob{
		{data(""), tree(""), snap("")},
		{snap("a"), tree("a"), data("a")},
		{data(strings.Repeat("a", 4096)), data(odd(1, 4096)), data(strings.Repeat("a", 4095)), snap(odd(1, 4096))},
		{data(odd(7, 254)), data(odd(7, 255)), data(odd(7, 256)), data(odd(7, 4095))},
		{data("\x00"), data("\x00\x00"), data("\x01"), data("\x02"), data("\xff\xff")},
		letters(23), letters(24), letters(40), oddBlobs(3, 40, 5), oddBlobs(1, 40, 300), oddBlobs(9, 39, 100),
	}
	for _, c := range made {
		all = append(all, c.l)
	}
	for seed := range 60 {
		var l []api.Blob
		for i := range seed % 41 {
			n := int(odd(seed*50+i, 1)[0])
			l = append(l, api.Blob{Kind: 1 + n%3, Bytes: strings.Repeat(odd(seed*50+i, 1+n%9), 1+n%60)})
		}
		slices.SortFunc(l, func(a, b api.Blob) int { return strings.Compare(a.Bytes, b.Bytes) })
		all = append(all, slices.CompactFunc(l, func(a, b api.Blob) bool { return a.Bytes == b.Bytes }))
	}
	return all
}

func TestMakeWordByWord(t *testing.T) {
	for _, l := range someLists() {
		checkMake(t, l)
	}
}
