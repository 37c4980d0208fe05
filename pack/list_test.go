package pack_test

import (
	"slices"
	"strings"
	"testing"

	"lumberroom/api"
	"lumberroom/mix"
	"lumberroom/num"
	"lumberroom/pack"
)

// The IDs were worked out by another program.
func TestList(t *testing.T) {
	ab, abTree := idOf(t, "b35fbde88c833549"), idOf(t, "b560957a7fd46253")
	for i, c := range []struct {
		form string
		want []api.Entry
	}{
		{made[0].want, nil},
		{made[2].want, []api.Entry{{ID: idOf(t, "419bb9c8e32ae701"), Kind: 1, Len: 1}}},
		{made[3].want, []api.Entry{{ID: ab, Kind: 1, Len: 3}}},
		{made[4].want, []api.Entry{{ID: ab, Kind: 1, Len: 3}, {ID: abTree, Kind: 2, At: 3, Len: 3}}},
		{made[5].want, []api.Entry{{ID: abTree, Kind: 2, Len: 3}, {ID: ab, Kind: 1, At: 3, Len: 3}}},
		{made[7].want, []api.Entry{
			{ID: idOf(t, "2c1a2505ecb357aa"), Kind: 1, Len: 32},
			{ID: idOf(t, "dd09b6e3f10e9c82"), Kind: 2, At: 32, Len: 31},
			{ID: idOf(t, "e10ccbf57bfc4e8e"), Kind: 3, At: 63, Len: 17},
		}},
	} {
		if l, err := pack.List(byHex(t, c.form)); !slices.Equal(l, c.want) || err != api.OK {
			t.Errorf("case %d: List(%s) = %v, %v, want %v", i, c.form, l, err, c.want)
		}
	}
}

// entry is what a list tells of a blob, which need not be there.
func entry(kind byte, id string, size uint64) string {
	return string([]byte{kind}) + id + num.Put(size)
}

func counted(n uint64, entries ...string) string {
	return num.Put(n) + strings.Join(entries, "")
}

// many are n entries, all with other IDs, each of so many bytes.
func many(n int, size uint64) []string {
	var l []string
	for i := range n {
		l = append(l, entry(1, "numbered"[:7]+string([]byte{byte(i)}), size))
	}
	return l
}

// List reads no more than what a pack tells of its blobs.
func TestListLooksAtNoBlob(t *testing.T) {
	for i, c := range []struct {
		body, list string
		want       []api.Entry
	}{
		{"", counted(1, entry(1, "12345678", 0)), []api.Entry{{ID: api.ID([]byte("12345678")), Kind: 1}}},
		{"", counted(2, entry(1, "12345678", 0), entry(1, "12345679", 0)), []api.Entry{{ID: api.ID([]byte("12345678")), Kind: 1}, {ID: api.ID([]byte("12345679")), Kind: 1}}},
		{"abc", counted(3, entry(3, "12345678", 1), entry(2, "22345678", 0), entry(3, "\x00\x00\x00\x00\x00\x00\x00\x00", 2)), []api.Entry{
			{ID: api.ID([]byte("12345678")), Kind: 3, Len: 1}, {ID: api.ID([]byte("22345678")), Kind: 2, At: 1}, {Kind: 3, At: 1, Len: 2},
		}},
		{odd(1, 4097), counted(1, entry(2, "12345678", 4097)), []api.Entry{{ID: api.ID([]byte("12345678")), Kind: 2, Len: 4097}}},
	} {
		if l, err := pack.List(sealed(c.body, c.list)); !slices.Equal(l, c.want) || err != api.OK {
			t.Errorf("case %d: %v, %v, want %v", i, l, err, c.want)
		}
	}
}

// unlisted are packs whose sums fit.
var unlisted = []struct {
	body, list string
	want       api.Errno
}{
	// The first number.
	{"", "", api.ErrShort},
	{"abc", "", api.ErrShort},
	{"", "\x01", api.ErrShort},
	{"", "\x02\x01", api.ErrShort},
	{"\x01\x01", "\x01", api.ErrShort},
	{"", "\x09", api.ErrForm},
	{"", "\xff", api.ErrForm},
	{"", "\x01\x00", api.ErrForm},
	{"", "\x02\x00\x01", api.ErrForm},
	{"", counted(41), api.ErrLarge},
	{"", counted(256), api.ErrLarge},
	{"", counted(1<<32 + 1), api.ErrLarge},
	{"", counted(1 << 63), api.ErrLarge},
	{"", counted(1<<64 - 1), api.ErrLarge},
	{"", counted(41, many(41, 0)...), api.ErrLarge},
	{odd(1, 41), counted(41, many(41, 1)...), api.ErrLarge},
	{"", counted(41, "\x09"), api.ErrLarge},
	// A blob's Kind and ID.
	{"", counted(1), api.ErrShort},
	{"", counted(1, "\x011234567"), api.ErrShort},
	{"", counted(1, "\x09"), api.ErrShort},
	{"", counted(1, "\x091234567"), api.ErrShort},
	{"", counted(2, entry(1, "12345678", 0)), api.ErrShort},
	{"a", counted(2, entry(1, "12345678", 1), "\x001234567"), api.ErrShort},
	{odd(1, 39), counted(40, many(39, 1)...), api.ErrShort},
	{"", counted(1, "\x0012345678"), api.ErrKind},
	{"", counted(1, "\x0412345678"), api.ErrKind},
	{"", counted(1, "\xff12345678\x01"), api.ErrKind},
	{"", counted(1, entry(0, "12345678", 0)), api.ErrKind},
	{"", counted(1, entry(4, "12345678", 5000)), api.ErrKind},
	{"", counted(1, entry(0x81, "12345678", 1)), api.ErrKind},
	{"", counted(2, entry(1, "12345678", 0), entry(4, "12345678", 0)), api.ErrKind},
	// Its length.
	{"", counted(1, "\x0112345678"), api.ErrShort},
	{"abc", counted(1, "\x0112345678\x01"), api.ErrShort},
	{"abc", counted(1, "\x0212345678\x02\x01"), api.ErrShort},
	{"", counted(2, entry(1, "12345678", 0), "\x0112345678"), api.ErrShort},
	{"", counted(1, "\x0312345678\x09"), api.ErrForm},
	{"", counted(1, "\x0112345678\x01\x00"), api.ErrForm},
	{"abc", counted(1, "\x0112345678\x02\x00\x03"), api.ErrForm},
	{odd(1, 4098), counted(1, entry(1, "12345678", 4098)), api.ErrLarge},
	{"", counted(1, entry(1, "12345678", 4098)), api.ErrLarge},
	{"", counted(1, entry(1, "12345678", 1<<32)), api.ErrLarge},
	{"", counted(1, entry(1, "12345678", 1<<63)), api.ErrLarge},
	{"", counted(1, entry(1, "12345678", 1<<64-1)), api.ErrLarge},
	{"a", counted(2, entry(1, "12345678", 1), entry(2, "12345678", 4098)), api.ErrLarge},
	// An ID that was there, bytes beyond the body.
	{"", counted(2, entry(1, "12345678", 0), entry(1, "12345678", 0)), api.ErrForm},
	{"ab", counted(2, entry(1, "12345678", 1), entry(3, "12345678", 1)), api.ErrForm},
	{"abc", counted(3, entry(1, "12345678", 1), entry(1, "22345678", 1), entry(1, "12345678", 1)), api.ErrForm},
	{"abc", counted(3, entry(1, "22345678", 1), entry(1, "12345678", 1), entry(1, "12345678", 1)), api.ErrForm},
	{odd(1, 40), counted(40, append(many(39, 1), entry(2, "numbere\x00", 1))...), api.ErrForm},
	{odd(1, 40), counted(40, append(many(39, 1), entry(2, "numbere\x26", 1))...), api.ErrForm},
	{"", counted(1, entry(1, "12345678", 1)), api.ErrForm},
	{"abc", counted(1, entry(1, "12345678", 4)), api.ErrForm},
	{"abc", counted(2, entry(1, "12345678", 3), entry(1, "12345679", 1)), api.ErrForm},
	{"abc", counted(2, entry(1, "12345678", 2), entry(1, "12345679", 2)), api.ErrForm},
	{odd(1, 4096), counted(1, entry(1, "12345678", 4097)), api.ErrForm},
	{"abc", counted(2, entry(1, "12345678", 4), entry(9, "12345679", 0)), api.ErrForm},
	{"abc", counted(3, entry(1, "12345678", 1), entry(1, "12345678", 1), entry(9, "12345679", 1)), api.ErrForm},
	{"abc", counted(2, entry(1, "12345678", 4)), api.ErrForm},
	// Bytes that are left.
	{"", "\x00\x00", api.ErrForm},
	{"", "\x00" + odd(1, 500), api.ErrForm},
	{"a", "\x00", api.ErrForm},
	{odd(1, 4097), "\x00", api.ErrForm},
	{"", counted(1, entry(1, "12345678", 0), "\x00"), api.ErrForm},
	{"", counted(1, many(2, 0)...), api.ErrForm},
	{"abc", counted(1, entry(1, "12345678", 2)), api.ErrForm},
	{"a", counted(1, entry(1, "12345678", 0)), api.ErrForm},
	{odd(1, 41), counted(40, many(40, 1)...), api.ErrForm},
	{odd(1, 41), counted(40, many(41, 1)...), api.ErrForm},
}

func checkListRefuses(t *testing.T, s string, want api.Errno) {
	t.Helper()
	if l, err := pack.List(s); l != nil || err != want {
		t.Errorf("List(%.60q): %d entries, %v, want %v alone", s, len(l), err, want)
	}
	if l, err := pack.Split(s); l != nil || err != want {
		t.Errorf("Split(%.60q): %d blobs, %v, want %v alone", s, len(l), err, want)
	}
}

func TestListRefuses(t *testing.T) {
	for _, c := range unlisted {
		checkListRefuses(t, sealed(c.body, c.list), c.want)
	}
}

func TestListRefusesFewerThanTenBytes(t *testing.T) {
	for n := range 10 {
		checkListRefuses(t, odd(n, n), api.ErrShort)
		checkListRefuses(t, strings.Repeat("\x00", n), api.ErrShort)
	}
	checkListRefuses(t, summed(""), api.ErrShort)
	checkListRefuses(t, summed("\x00"), api.ErrShort)
	checkListRefuses(t, strings.Repeat("\x00", 10), api.ErrSum)
	checkListRefuses(t, summed("\x00\x00"), api.ErrShort)
	checkListRefuses(t, summed("\x01\x00"), api.ErrForm)
}

// The sum is looked at ahead of all else: of a pack each byte counts.
func TestListRefusesASumThatDoesNotFit(t *testing.T) {
	for _, c := range unlisted {
		s := []byte(sealed(c.body, c.list))
		s[len(s)-1] ^= 1
		checkListRefuses(t, string(s), api.ErrSum)
	}
	for _, c := range made {
		s := []byte(byHex(t, c.want))
		for at := range s {
			for _, by := range []byte{1, 16, 128, 255} {
				s[at] ^= by
				checkListRefuses(t, string(s), api.ErrSum)
				s[at] ^= by
			}
		}
	}
}

// A list is told to have from 0 to 65535 bytes, the lower byte first.
func TestListRefusesAListThatIsLongerThanWhatIsThere(t *testing.T) {
	full := counted(40, many(40, 0)...)
	for _, c := range []struct {
		ahead string
		size  int
		want  api.Errno
	}{
		{"", 0, api.ErrShort},
		{"", 1, api.ErrForm},
		{"", 256, api.ErrForm},
		{"", 65535, api.ErrForm},
		{"\x00", 1, api.OK},
		{"\x00", 2, api.ErrForm},
		{"\x00", 257, api.ErrForm},
		{"\x00", 0, api.ErrShort},
		{"\x09", 2, api.ErrForm},
		{"\x01\x29", 2, api.ErrLarge},
		{"\x01\x29", 3, api.ErrForm},
		{full, len(full), api.OK},
		{full, len(full) + 1, api.ErrForm},
		{full, len(full) + 256, api.ErrForm},
		{full, len(full) - 256, api.ErrForm},
		{odd(1, 65535), 65535, api.ErrForm},
		{"\x01\x29" + odd(1, 65533), 65535, api.ErrLarge},
		{"\x01\x29" + odd(1, 65533), 65534, api.ErrForm},
		{"\x00" + odd(1, 65533), 65535, api.ErrForm},
	} {
		s := summed(c.ahead + string([]byte{byte(c.size), byte(c.size >> 8)}))
		if c.want != api.OK {
			checkListRefuses(t, s, c.want)
		} else if _, err := pack.List(s); err != api.OK {
			t.Errorf("a list of %d bytes: %v", c.size, err)
		}
	}
}

// slowList reads by places, and holds each ID against all that are ahead.
func slowList(s string) ([]api.Entry, api.Errno) {
	end := len(s) - 10
	if end < 0 {
		return nil, api.ErrShort
	}
	if summed(s[:end+2]) != s {
		return nil, api.ErrSum
	}
	at := end - int(s[end]) - 256*int(s[end+1])
	if at < 0 {
		return nil, api.ErrForm
	}
	bodyEnd := at
	count, k, err := num.Get(s[at:end])
	if err != api.OK {
		return nil, err
	}
	if count > 40 {
		return nil, api.ErrLarge
	}
	at += k
	body := 0
	var l []api.Entry
	for i := 0; i < int(count); i++ {
		if at+9 > end {
			return nil, api.ErrShort
		}
		if !strings.Contains("\x01\x02\x03", s[at:at+1]) {
			return nil, api.ErrKind
		}
		size, k, err := num.Get(s[at+9 : end])
		if err != api.OK {
			return nil, err
		}
		if size > 4097 {
			return nil, api.ErrLarge
		}
		x := api.Entry{ID: api.ID([]byte(s[at+1 : at+9])), Kind: int(s[at]), At: body, Len: int(size)}
		if slices.ContainsFunc(l, func(ahead api.Entry) bool { return ahead.ID == x.ID }) {
			return nil, api.ErrForm
		}
		at += 9 + k
		body += x.Len
		if body > bodyEnd {
			return nil, api.ErrForm
		}
		l = append(l, x)
	}
	if at != end || body != bodyEnd {
		return nil, api.ErrForm
	}
	return l, api.OK
}

func checkList(t *testing.T, s string) {
	t.Helper()
	want, wrong := slowList(s)
	if got, err := pack.List(s); !slices.Equal(got, want) || err != wrong || wrong != api.OK && got != nil {
		t.Errorf("List(%.60q) = %v, %v, want %v, %v", s, got, err, want, wrong)
	}
}

// changed are like s with one byte changed, left out or put in, and shortened.
func changed(s string) []string {
	var all []string
	for at := range len(s) {
		for _, c := range []byte{0, 1, 2, 3, 4, 8, 9, 40, 41, 128, 255, s[at] + 1, s[at] - 1} {
			all = append(all, s[:at]+string([]byte{c})+s[at+1:], s[:at]+string([]byte{c})+s[at:])
		}
		all = append(all, s[:at]+s[at+1:], s[:at], s[at:])
	}
	return all
}

func TestListWordByWord(t *testing.T) {
	for _, c := range made {
		s := byHex(t, c.want)
		for _, other := range changed(s[:len(s)-8]) {
			checkList(t, other)
			checkList(t, summed(other))
		}
	}
	for _, l := range someLists() {
		s, _ := slowMake(l)
		checkList(t, s)
		checkList(t, s+"\x00")
		checkList(t, "\x00"+s)
	}
	for _, c := range unlisted {
		for _, other := range changed(c.list[:min(60, len(c.list))]) {
			checkList(t, sealed(c.body, other))
			checkList(t, sealed(c.body[:len(c.body)/2], other))
		}
	}
}

// eachText tells all texts of up to n of these bytes behind head.
func eachText(head, of string, n int, tell func(string)) {
	tell(head)
	if n == 0 {
		return
	}
	for i := range len(of) {
		eachText(head+of[i:i+1], of, n-1, tell)
	}
}

func TestListOfAllShortLists(t *testing.T) {
	eachText("", "\x00\x01\x02\x03\x09", 5, func(list string) {
		checkList(t, sealed("", list))
		checkList(t, sealed("a", list))
	})
	// Behind the first blob two bytes tell its length, and another one begins.
	first := "\x01\x02\x0112345678"
	eachText(first, "\x00\x01\x02\x09", 4, func(list string) {
		for _, body := range []string{"", "a", "ab"} {
			checkList(t, sealed(body, list+"2345678"))
			checkList(t, sealed(body, list+"2345678\x00"))
			checkList(t, sealed(body, list+"12345678\x00"))
			checkList(t, sealed(body, list+"12345678\x01\x01"))
		}
	})
}

func TestListTellsWhatMakeMade(t *testing.T) {
	for _, blobs := range someLists() {
		s, _ := pack.Make(blobs)
		l, err := pack.List(s)
		if len(l) != len(blobs) || err != api.OK {
			t.Fatalf("List of %d blobs: %d, %v", len(blobs), len(l), err)
		}
		at := 0
		for i, x := range l {
			id := mix.ID(string(rune(blobs[i].Kind)) + blobs[i].Bytes)
			if x.ID != id || x.Kind != blobs[i].Kind || x.At != at || x.Len < 1 || x.Len > len(blobs[i].Bytes)+1 {
				t.Errorf("blob %d of %d: %v, want it at %d, ID %x", i, len(l), x, at, id)
			}
			at += x.Len
		}
	}
}
