package names_test

import (
	"fmt"
	"hash/crc32"
	"slices"
	"strings"
	"testing"

	"lumberroom/api"
	"lumberroom/names"
)

var (
	long    = strings.Repeat("a", 24)
	tooLong = strings.Repeat("a", 25)
)

// pathParts make paths, right and wrong ones, that are deep or not.
var pathParts = []string{"/", "a", ".", "..", "/b/cc", "/a/b/c/d", "\xff"}

var nameParts = []string{"a", "", "a/b", "..", tooLong, "...", "\xc3\xb6"}

// slowSplit goes by bytes.
func slowSplit(p string) ([]string, api.Errno) {
	if p == "" || p[0] != '/' {
		return nil, api.ErrName
	}
	if len(p) == 1 {
		return nil, api.OK
	}
	var l []string
	from := 1
	for at := 1; at <= len(p); at++ {
		if at < len(p) && p[at] != '/' {
			continue
		}
		name := p[from:at]
		from = at + 1
		if len(l) == 8 {
			return nil, api.ErrDeep
		}
		if err := slowCheck(name); err != api.OK {
			return nil, err
		}
		l = append(l, name)
	}
	return l, api.OK
}

func slowJoin(l []string) (string, api.Errno) {
	var p string
	for i, name := range l {
		if i > 7 {
			return "", api.ErrDeep
		}
		if err := slowCheck(name); err != api.OK {
			return "", err
		}
		p += "/" + name
	}
	if len(l) == 0 {
		p = "/"
	}
	return p, api.OK
}

func checkSplit(t *testing.T, p string) {
	t.Helper()
	want, wrong := slowSplit(p)
	got, err := names.Split(p)
	if !slices.Equal(got, want) || err != wrong || wrong != api.OK && got != nil {
		t.Fatalf("Split(%.60q) = %.60q, %v, want %.60q, %v", p, got, err, want, wrong)
	}
	if err != api.OK {
		return
	}
	if again, err := names.Join(got); again != p || err != api.OK {
		t.Fatalf("%q is split to %q, and joined to %q, %v", p, got, again, err)
	}
}

func checkJoin(t *testing.T, l []string) {
	t.Helper()
	want, wrong := slowJoin(l)
	got, err := names.Join(l)
	if got != want || err != wrong {
		t.Fatalf("Join(%.60q) = %.60q, %v, want %.60q, %v", l, got, err, want, wrong)
	}
	if err != api.OK {
		return
	}
	if again, err := names.Split(got); !slices.Equal(again, l) || err != api.OK {
		t.Fatalf("%q is joined to %q, and split to %q, %v", l, got, again, err)
	}
}

var rightPaths = []struct {
	p string
	l []string
}{
	{"/", nil},
	{"/a", []string{"a"}},
	{"/a/b", []string{"a", "b"}},
	{"/a/a/a", []string{"a", "a", "a"}},
	{"/a b/ /c", []string{"a b", " ", "c"}},
	{"/.../.a/..b/c.", []string{"...", ".a", "..b", "c."}},
	{"/\xc3\xb6/\xf0\x9f\x98\x80/\xef\xbf\xbd", []string{"\xc3\xb6", "\xf0\x9f\x98\x80", "\xef\xbf\xbd"}},
	{"/a\\/b", []string{"a\\", "b"}},
	{"/" + long, []string{long}},
	{"/" + long + "/" + long, []string{long, long}},
	{"/1/2/3/4/5/6/7", []string{"1", "2", "3", "4", "5", "6", "7"}},
	{"/1/2/3/4/5/6/7/8", []string{"1", "2", "3", "4", "5", "6", "7", "8"}},
	{strings.Repeat("/"+strings.Repeat("\xf0\x9f\x98\x80", 24), 8), slices.Repeat([]string{strings.Repeat("\xf0\x9f\x98\x80", 24)}, 8)},
}

func TestSplitAndJoin(t *testing.T) {
	for _, c := range rightPaths {
		if l, err := names.Split(c.p); !slices.Equal(l, c.l) || err != api.OK {
			t.Errorf("Split(%q) = %q, %v, want %q", c.p, l, err, c.l)
		}
		if p, err := names.Join(c.l); p != c.p || err != api.OK {
			t.Errorf("Join(%q) = %q, %v, want %q", c.l, p, err, c.p)
		}
	}
	if p, err := names.Join([]string{}); p != "/" || err != api.OK {
		t.Errorf("Join of no names = %q, %v", p, err)
	}
}

var wrongPaths = []struct {
	p    string
	want api.Errno
}{
	// What does not begin as a path does.
	{"", api.ErrName},
	{"a", api.ErrName},
	{"a/b", api.ErrName},
	{" /a", api.ErrName},
	{"\\a", api.ErrName},
	{".", api.ErrName},
	{"./a", api.ErrName},
	{"\xff/a", api.ErrName},
	{"\xc0\xaf", api.ErrName},
	{tooLong, api.ErrName},
	{"a/1/2/3/4/5/6/7/8/9", api.ErrName},
	{"a/" + tooLong, api.ErrName},
	// Names that are empty.
	{"//", api.ErrName},
	{"///", api.ErrName},
	{"//a", api.ErrName},
	{"/a/", api.ErrName},
	{"/a//", api.ErrName},
	{"/a//b", api.ErrName},
	{"/1/2/3/4/5/6/7/", api.ErrName},
	{strings.Repeat("/", 100), api.ErrName},
	// Other wrong names.
	{"/.", api.ErrName},
	{"/..", api.ErrName},
	{"/a/.", api.ErrName},
	{"/../a", api.ErrName},
	{"/a/\xff", api.ErrName},
	{"/\xc3/\xb6", api.ErrName},
	{"/a\n/b", api.ErrName},
	{"/a/b\x7f", api.ErrName},
	{"/\x00", api.ErrName},
	{"/1/2/3/4/5/6/7/..", api.ErrName},
	// Names that are too long.
	{"/" + tooLong, api.ErrLarge},
	{"/a/" + tooLong, api.ErrLarge},
	{"/" + tooLong + "/a", api.ErrLarge},
	{"/1/2/3/4/5/6/7/" + tooLong, api.ErrLarge},
	{"/" + tooLong + "\xff", api.ErrName},
	// Too many names.
	{"/1/2/3/4/5/6/7/8/9", api.ErrDeep},
	{"/1/2/3/4/5/6/7/8/9/10", api.ErrDeep},
	{strings.Repeat("/a", 5000), api.ErrDeep},
	// The ninth may be anything.
	{"/1/2/3/4/5/6/7/8/", api.ErrDeep},
	{"/1/2/3/4/5/6/7/8//", api.ErrDeep},
	{"/1/2/3/4/5/6/7/8/..", api.ErrDeep},
	{"/1/2/3/4/5/6/7/8/\xff", api.ErrDeep},
	{"/1/2/3/4/5/6/7/8/" + tooLong, api.ErrDeep},
	// The first of several.
	{"/1/2/3/4/5/6/7//9", api.ErrName},
	{"/1/2/3/4/5/6/7/\xff/9", api.ErrName},
	{"/1/2/3/4/5/6/7/" + tooLong + "/9", api.ErrLarge},
	{"//2/3/4/5/6/7/8/9", api.ErrName},
	{"/" + tooLong + "/2/3/4/5/6/7/8/9", api.ErrLarge},
	{"/" + tooLong + "/..", api.ErrLarge},
	{"/../" + tooLong, api.ErrName},
	{"/a/" + tooLong + "/", api.ErrLarge},
	{"/a//" + tooLong, api.ErrName},
}

func TestSplitRefuses(t *testing.T) {
	for _, c := range wrongPaths {
		if l, err := names.Split(c.p); l != nil || err != c.want {
			t.Errorf("Split(%.60q) = %q, %v, want %v alone", c.p, l, err, c.want)
		}
	}
}

func TestJoinRefuses(t *testing.T) {
	eight := []string{"1", "2", "3", "4", "5", "6", "7", "8"}
	with := func(at int, name string) []string {
		l := slices.Clone(eight)
		l[at] = name
		return l
	}
	for _, c := range []struct {
		l    []string
		want api.Errno
	}{
		{[]string{""}, api.ErrName},
		{[]string{"/"}, api.ErrName},
		{[]string{"/a"}, api.ErrName},
		{[]string{"a/b"}, api.ErrName},
		{[]string{"a", ""}, api.ErrName},
		{[]string{"", "a"}, api.ErrName},
		{[]string{"a", "."}, api.ErrName},
		{[]string{"..", "a"}, api.ErrName},
		{[]string{"a", "\xff"}, api.ErrName},
		// Two that would be one character together.
		{[]string{"\xc3", "\xb6"}, api.ErrName},
		{[]string{tooLong}, api.ErrLarge},
		{[]string{"a", tooLong}, api.ErrLarge},
		{with(7, ""), api.ErrName},
		{with(7, tooLong), api.ErrLarge},
		{append(slices.Clone(eight), "9"), api.ErrDeep},
		{append(slices.Clone(eight), ""), api.ErrDeep},
		{append(slices.Clone(eight), "a/b"), api.ErrDeep},
		{append(slices.Clone(eight), tooLong), api.ErrDeep},
		{append(slices.Clone(eight), eight...), api.ErrDeep},
		{slices.Repeat(eight, 1000), api.ErrDeep},
		// The first of several.
		{append(with(7, ".."), "9"), api.ErrName},
		{append(with(7, tooLong), "9"), api.ErrLarge},
		{append(with(0, "\x1f"), "9"), api.ErrName},
		{[]string{tooLong, ""}, api.ErrLarge},
		{[]string{"", tooLong}, api.ErrName},
	} {
		if p, err := names.Join(c.l); p != "" || err != c.want {
			t.Errorf("Join(%.60q) = %q, %v, want %v alone", c.l, p, err, c.want)
		}
	}
}

// Of each name, at each place, Check's error is told.
func TestPathsHaveTheirNamesErrors(t *testing.T) {
	for _, c := range someNames {
		if strings.Contains(c.name, "/") || len(c.name) > 1000 {
			continue
		}
		for count := 1; count <= 8; count++ {
			for at := range count {
				l := slices.Repeat([]string{"x"}, count)
				l[at] = c.name
				checkJoin(t, l)
				if _, err := names.Join(l); err != c.want {
					t.Fatalf("Join(%.60q): %v, want %v", l, err, c.want)
				}
				p := "/" + strings.Join(l, "/")
				checkSplit(t, p)
				// An empty name alone is the root's path.
				if _, err := names.Split(p); err != c.want && p != "/" {
					t.Fatalf("Split(%.60q): %v, want %v", p, err, c.want)
				}
			}
		}
	}
}

// These were worked out by another program.
func TestSplitOfMany(t *testing.T) {
	var answers []byte
	count := 0
	eachText("", pathParts, 6, func(p string) {
		checkSplit(t, p)
		l, err := names.Split(p)
		answers = fmt.Appendf(answers, "%d %s\n", err, strings.Join(l, "|"))
		count++
	})
	if sum := crc32.ChecksumIEEE(answers); count != 137257 || sum != 0xb8f39b0b {
		t.Errorf("%d answers, checksum %x", count, sum)
	}
}

// eachList tells all lists of up to n of these names behind head.
func eachList(head, of []string, n int, tell func([]string)) {
	tell(head)
	if n == 0 {
		return
	}
	for _, name := range of {
		eachList(append(slices.Clone(head), name), of, n-1, tell)
	}
}

// These were worked out by another program.
func TestJoinOfMany(t *testing.T) {
	for i, c := range []struct {
		head     []string
		most     int
		count    int
		checksum uint32
	}{
		{nil, 5, 19608, 0xffb33571},
		{slices.Repeat([]string{"x"}, 6), 4, 2801, 0xffcc42e7},
	} {
		var answers []byte
		count := 0
		eachList(c.head, nameParts, c.most, func(l []string) {
			checkJoin(t, l)
			p, err := names.Join(l)
			answers = fmt.Appendf(answers, "%d %s\n", err, p)
			count++
		})
		if sum := crc32.ChecksumIEEE(answers); count != c.count || sum != c.checksum {
			t.Errorf("case %d: %d answers, checksum %x, want %d, %x", i, count, sum, c.count, c.checksum)
		}
	}
}
