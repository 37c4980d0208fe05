package index_test

import (
	"hash/crc32"
	"slices"
	"strings"
	"testing"

	"lumberroom/api"
	"lumberroom/index"
	"lumberroom/num"
)

// written were worked out by another program.
var written = []struct {
	x    []api.Place
	form string
}{
	{nil, "00"},
	{[]api.Place{{Kind: 1}}, "0101 0000000000000000 01 00 00 00"},
	{[]api.Place{{ID: idOf("12345678"), Kind: 3, Pack: 1 << 40, At: 1<<40 - 1, Len: 256}}, "0101 3132333435363738 03 06010000000000 05ffffffffff 020100"},
	{[]api.Place{{ID: api.ID{255, 255, 255, 255, 255, 255, 255, 255}, Kind: 2, Pack: 1, At: 255, Len: 300}}, "0101 ffffffffffffffff 02 0101 01ff 02012c"},
	{
		[]api.Place{
			{ID: api.ID{1, 1, 1, 1, 1, 1, 1, 1}, Kind: 1, Pack: 2, At: 3, Len: 4},
			{ID: api.ID{1, 1, 1, 1, 1, 1, 1, 2}, Kind: 2, Pack: 5, At: 6, Len: 7},
			{ID: api.ID{2}, Kind: 3, Pack: 65536, At: 1},
		},
		"0103 0101010101010101 01 0102 0103 0104 0101010101010102 02 0105 0106 0107 0200000000000000 03 03010000 0101 00",
	},
}

func TestTextAndRead(t *testing.T) {
	for i, c := range written {
		form := byHex(t, c.form)
		if s, err := index.Text(c.x); s != form || err != api.OK {
			t.Errorf("case %d: Text(%v) = %x, %v, want %s", i, c.x, s, err, c.form)
		}
		if x, err := index.Read(form); !slices.Equal(x, c.x) || err != api.OK {
			t.Errorf("case %d: Read(%s) = %v, %v, want %v", i, c.form, x, err, c.x)
		}
	}
}

// These were worked out by another program.
func TestTextOfManyPlaces(t *testing.T) {
	for _, c := range []struct {
		seed, count, size int
		checksum          uint32
	}{
		{0, 400, 8278, 0x2a8514a1},
		{1, 255, 5273, 0xad779ab7},
		{1, 256, 5295, 0x56c3ec38},
		{5, 1, 20, 0x768a19a5},
		{9, 40, 813, 0x1e3721fa},
	} {
		s, err := index.Text(oddIndex(c.seed, c.count))
		if sum := crc32.ChecksumIEEE([]byte(s)); len(s) != c.size || sum != c.checksum || err != api.OK {
			t.Errorf("Text of %d places: %d bytes, checksum %x, %v, want %d, %x", c.count, len(s), sum, err, c.size, c.checksum)
		}
	}
}

func TestReadTellsWhatTextWrote(t *testing.T) {
	for _, x := range someIndexes() {
		s, err := index.Text(x)
		if err != api.OK {
			t.Fatalf("Text of %d places: %v", len(x), err)
		}
		if got, err := index.Read(s); !slices.Equal(got, x) || err != api.OK {
			t.Errorf("%d places come back as %d, %v", len(x), len(got), err)
		}
		// No beginning of it, and nothing longer, is an index.
		for n := range len(s) {
			checkReadRefuses(t, s[:n], api.ErrShort)
		}
		for _, more := range []string{"\x00", "\x01", "\xff", s} {
			checkReadRefuses(t, s+more, api.ErrForm)
		}
	}
}

func checkReadRefuses(t *testing.T, s string, want api.Errno) {
	t.Helper()
	if x, err := index.Read(s); x != nil || err != want {
		t.Fatalf("Read(%.60q): %d places, %v, want %v alone", s, len(x), err, want)
	}
}

// line is how a place is written, be it right or wrong.
func line(id string, kind byte, numbers ...uint64) string {
	s := id + string([]byte{kind})
	for _, n := range numbers {
		s += num.Put(n)
	}
	return s
}

func counted(n uint64, lines ...string) string {
	return num.Put(n) + strings.Join(lines, "")
}

// many are n lines whose IDs rise.
func many(n int) []string {
	var l []string
	for i := range n {
		l = append(l, line("number"+string([]byte{byte(i >> 8), byte(i)}), 1, uint64(i), 0, 0))
	}
	return l
}

var unread = []struct {
	s    string
	want api.Errno
}{
	// How many there are.
	{"", api.ErrShort},
	{"\x01", api.ErrShort},
	{"\x02\x01", api.ErrShort},
	{"\x08\x01\x01\x01\x01\x01\x01\x01", api.ErrShort},
	{"\x09", api.ErrForm},
	{"\xff", api.ErrForm},
	{"\x01\x00", api.ErrForm},
	{"\x02\x00\x01", api.ErrForm},
	{counted(401), api.ErrLarge},
	{counted(656), api.ErrLarge},
	{counted(1 << 32), api.ErrLarge},
	{counted(1<<32 + 1), api.ErrLarge},
	{counted(1 << 63), api.ErrLarge},
	{counted(1<<64 - 1), api.ErrLarge},
	{counted(401, many(401)...), api.ErrLarge},
	{counted(401, "x"), api.ErrLarge},
	// A place's ID and Kind.
	{counted(1), api.ErrShort},
	{counted(1, "1"), api.ErrShort},
	{counted(1, "12345678"), api.ErrShort},
	{counted(2, line("12345678", 1, 0, 0, 0)), api.ErrShort},
	{counted(2, line("12345678", 9, 0, 0, 0), "12345679"), api.ErrShort},
	{counted(400, many(399)...), api.ErrShort},
	// Its numbers.
	{counted(1, line("12345678", 1)), api.ErrShort},
	{counted(1, line("12345678", 1, 0)), api.ErrShort},
	{counted(1, line("12345678", 1, 0, 0)), api.ErrShort},
	{counted(1, line("12345678", 1), "\x01"), api.ErrShort},
	{counted(1, line("12345678", 1, 5), "\x06\x01\x00\x00\x00\x00"), api.ErrShort},
	{counted(1, line("12345678", 1, 5, 5), "\x02\x01"), api.ErrShort},
	{counted(1, line("12345678", 0), "\x01"), api.ErrShort},
	{counted(1, line("12345678", 1), "\x09\x00\x00"), api.ErrForm},
	{counted(1, line("12345678", 1, 5), "\xff\x00"), api.ErrForm},
	{counted(1, line("12345678", 1, 5, 5), "\x09"), api.ErrForm},
	{counted(1, line("12345678", 1), "\x01\x00\x00\x00"), api.ErrForm},
	{counted(1, line("12345678", 1, 5), "\x02\x00\x07\x00"), api.ErrForm},
	{counted(1, line("12345678", 1, 5, 5), "\x01\x00"), api.ErrForm},
	{counted(1, line("12345678", 9), "\x09"), api.ErrForm},
	{counted(1, line("12345678", 1, 1<<40+1, 0, 0)), api.ErrLarge},
	{counted(1, line("12345678", 1, 0, 1<<40+1, 0)), api.ErrLarge},
	{counted(1, line("12345678", 1, 0, 0, 1<<40+1)), api.ErrLarge},
	{counted(1, line("12345678", 1, 1<<63, 0, 0)), api.ErrLarge},
	{counted(1, line("12345678", 1, 0, 1<<64-1, 0)), api.ErrLarge},
	{counted(1, line("12345678", 1, 0, 0, 1<<63+5)), api.ErrLarge},
	{counted(1, line("12345678", 9, 0, 0, 1<<40+1)), api.ErrLarge},
	// The first of several.
	{counted(1, line("12345678", 1, 1<<40+1)), api.ErrLarge},
	{counted(1, line("12345678", 1, 1<<40+1), "\x09"), api.ErrLarge},
	{counted(1, line("12345678", 1), "\x09", num.Put(1<<40+1)), api.ErrForm},
	{counted(1, line("12345678", 1, 0, 0, 1<<40+1), "left"), api.ErrLarge},
	{counted(2, line("12345678", 9, 0, 0, 0), line("12345678", 1, 1<<40+1)), api.ErrLarge},
	{counted(2, line("12345678", 1, 0, 0, 0), line("12345678", 1, 0), "\x0a"), api.ErrForm},
	{counted(3, line("12345678", 9, 0, 0, 0), line("12345678", 1, 0, 0, 0)), api.ErrShort},
	// Bytes that are left.
	{counted(0, "\x00"), api.ErrForm},
	{counted(0, many(1)...), api.ErrForm},
	{counted(1, line("12345678", 1, 0, 0, 0), "\x00"), api.ErrForm},
	{counted(1, line("12345678", 9, 0, 0, 0), "\x00"), api.ErrForm},
	{counted(400, many(401)...), api.ErrForm},
	// What Check tells.
	{counted(1, line("12345678", 0, 0, 0, 0)), api.ErrKind},
	{counted(1, line("12345678", 4, 0, 0, 0)), api.ErrKind},
	{counted(1, line("12345678", 0x81, 1, 2, 3)), api.ErrKind},
	{counted(1, line("12345678", 255, 1, 2, 3)), api.ErrKind},
	{counted(400, append(many(399), line("z2345678", 5, 0, 0, 0))...), api.ErrKind},
	{counted(2, line("12345678", 1, 0, 0, 0), line("12345678", 1, 0, 0, 0)), api.ErrForm},
	{counted(2, line("12345678", 1, 0, 0, 0), line("12345677", 1, 1, 1, 1)), api.ErrForm},
	{counted(2, line("\x802345678"[:8], 1, 0, 0, 0), line("\x7f2345678"[:8], 1, 0, 0, 0)), api.ErrForm},
	{counted(2, line("12345678", 1, 0, 0, 0), line("12345678", 0, 0, 0, 0)), api.ErrKind},
	{counted(3, line("12345678", 1, 0, 0, 0), line("12345678", 1, 0, 0, 0), line("22345678", 0, 0, 0, 0)), api.ErrForm},
	{counted(400, append(many(399), many(1)...)...), api.ErrForm},
}

func TestReadRefuses(t *testing.T) {
	for _, c := range unread {
		checkReadRefuses(t, c.s, c.want)
	}
}

func TestReadTakesAsMuchAsThereMayBe(t *testing.T) {
	if x, err := index.Read(counted(400, many(400)...)); len(x) != 400 || err != api.OK {
		t.Errorf("Read of 400 places: %d, %v", len(x), err)
	}
	want := []api.Place{{ID: idOf("12345678"), Kind: 2, Pack: 1 << 40, At: 1 << 40, Len: 1 << 40}}
	if x, err := index.Read(counted(1, line("12345678", 2, 1<<40, 1<<40, 1<<40))); !slices.Equal(x, want) || err != api.OK {
		t.Errorf("Read of the greatest numbers: %v, %v", x, err)
	}
}

// slowRead reads by places in s.
func slowRead(s string) ([]api.Place, api.Errno) {
	count, at, err := num.Get(s)
	if err != api.OK {
		return nil, err
	}
	if count > 400 {
		return nil, api.ErrLarge
	}
	var x []api.Place
	for ; count > 0; count-- {
		if at+9 > len(s) {
			return nil, api.ErrShort
		}
		p := api.Place{ID: idOf(s[at : at+8]), Kind: int(s[at+8])}
		at += 9
		for _, to := range []*int{&p.Pack, &p.At, &p.Len} {
			n, k, err := num.Get(s[at:])
			if err != api.OK {
				return nil, err
			}
			if n > 1099511627776 {
				return nil, api.ErrLarge
			}
			*to = int(n)
			at += k
		}
		x = append(x, p)
	}
	if at < len(s) {
		return nil, api.ErrForm
	}
	if err := slowCheck(x); err != api.OK {
		return nil, err
	}
	return x, api.OK
}

func slowText(x []api.Place) (string, api.Errno) {
	if err := slowCheck(x); err != api.OK {
		return "", err
	}
	s := num.Put(uint64(len(x)))
	for _, p := range x {
		s += line(string(p.ID[:]), byte(p.Kind), uint64(p.Pack), uint64(p.At), uint64(p.Len))
	}
	return s, api.OK
}

func checkText(t *testing.T, x []api.Place) {
	t.Helper()
	want, wrong := slowText(x)
	if got, err := index.Text(x); got != want || err != wrong {
		t.Fatalf("Text of %d places, %v..: %d bytes, %v, want %d, %v", len(x), few(x), len(got), err, len(want), wrong)
	}
}

// checkRead: an index has one form alone, so that what was read is written as
// it was.
func checkRead(t *testing.T, s string) {
	t.Helper()
	want, wrong := slowRead(s)
	got, err := index.Read(s)
	if !slices.Equal(got, want) || err != wrong || wrong != api.OK && got != nil {
		t.Fatalf("Read(%.60q) = %v, %v, want %v, %v", s, few(got), err, few(want), wrong)
	}
	if err != api.OK {
		return
	}
	if again, err := index.Text(got); again != s || err != api.OK {
		t.Fatalf("%.60q is written as %.60q, %v", s, again, err)
	}
}

// changed are like s with one byte changed, left out or put in, and shortened.
func changed(s string) []string {
	var all []string
	for at := range len(s) {
		for _, c := range []byte{0, 1, 2, 3, 4, 5, 6, 7, 8, 9, 128, 255, s[at] + 1, s[at] - 1} {
			all = append(all, s[:at]+string([]byte{c})+s[at+1:], s[:at]+string([]byte{c})+s[at:])
		}
		all = append(all, s[:at]+s[at+1:], s[:at], s[at:])
	}
	return all
}

func TestReadWordByWord(t *testing.T) {
	for _, c := range written {
		for _, s := range changed(byHex(t, c.form)) {
			checkRead(t, s)
		}
	}
	for _, c := range unread {
		for _, s := range changed(c.s[:min(60, len(c.s))]) {
			checkRead(t, s)
		}
	}
	s, _ := slowText(oddIndex(3, 12))
	for _, other := range changed(s) {
		checkRead(t, other)
	}
}

// eachText tells all texts of up to n of these bytes behind head.
func eachText(head, of string, n int, tell func(string)) {
	tell(head)
	if n == 0 {
		return
	}
	for i := range len(of) {
		eachText(head+of[i:i+1], of, n-1, tell)
	}
}

func TestReadOfAllShortTexts(t *testing.T) {
	eachText("", "\x00\x01\x02\x03\x09", 5, func(s string) { checkRead(t, s) })
	// The Kind of a place, its numbers, and more.
	eachText("\x01\x0112345678", "\x00\x01\x02\x09", 7, func(s string) { checkRead(t, s) })
	eachText("\x01\x0212345678\x01\x00\x00\x001234567", "\x00\x01\x37\x38\x39", 6, func(s string) { checkRead(t, s) })
}
