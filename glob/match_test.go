package glob_test

import (
	"hash/crc32"
	"strings"
	"testing"

	"lumberroom/api"
	"lumberroom/glob"
)

var (
	long    = strings.Repeat("a", 24)
	tooLong = strings.Repeat("a", 25)
)

func checkMatch(t *testing.T, pattern, path string) {
	t.Helper()
	want, wrong := slowMatch(pattern, path)
	if is, err := glob.Match(pattern, path); is != want || err != wrong {
		t.Fatalf("Match(%.80q, %.80q) = %v, %v, want %v, %v", pattern, path, is, err, want, wrong)
	}
}

// matches: which paths a pattern matches, and which not.
var matches = []struct {
	pattern string
	yes, no []string
}{
	// Characters themselves.
	{"/a", []string{"/a"}, []string{"/", "/b", "/aa", "/A", "/a/a", "/a/b", "/b/a"}},
	{"/a/b", []string{"/a/b"}, []string{"/", "/a", "/b", "/ab", "/b/a", "/a/b/c", "/a/b/b"}},
	{"/ab", []string{"/ab"}, []string{"/a", "/b", "/ba", "/abc", "/a/b"}},
	{"/\xc3\xb6", []string{"/\xc3\xb6"}, []string{"/o", "/\xc3\xa4", "/o\xcc\x88", "/\xc3\xb6\xc3\xb6"}},
	{"/\xef\xbf\xbd", []string{"/\xef\xbf\xbd"}, []string{"/a", "/\xef\xbf\xbc"}},
	{"/.", nil, []string{"/", "/a", "/..."}},
	{"/..", nil, []string{"/", "/a", "/..."}},
	{"/.a", []string{"/.a"}, []string{"/aa", "/a"}},
	{"/a\n", nil, []string{"/a"}},
	{"/1/2/3/4/5/6/7/8", []string{"/1/2/3/4/5/6/7/8"}, []string{"/1/2/3/4/5/6/7"}},
	{"/1/2/3/4/5/6/7/8/9", nil, []string{"/1/2/3/4/5/6/7/8"}},
	{"/" + tooLong, nil, []string{"/" + long}},
	// "*".
	{"/*", []string{"/a", "/abc", "/.a", "/*", "/\xf0\x9f\x98\x80", "/" + long}, []string{"/", "/a/b"}},
	{"/*/*", []string{"/a/b", "/a/a"}, []string{"/", "/a", "/a/b/c"}},
	{"/a*", []string{"/a", "/ab", "/aa", "/a*"}, []string{"/", "/b", "/ba", "/a/b"}},
	{"/*a", []string{"/a", "/ba", "/aa", "/aba"}, []string{"/", "/b", "/ab", "/b/a"}},
	{"/a*b", []string{"/ab", "/aab", "/abb", "/axyb"}, []string{"/a", "/b", "/aba", "/a/b"}},
	{"/*a*", []string{"/a", "/xax", "/aa"}, []string{"/", "/x", "/x/a"}},
	{"/*ab*ab*", []string{"/abab", "/xabxabx", "/aababb"}, []string{"/ab", "/aab", "/abba"}},
	{"/a*b*c", []string{"/abc", "/aXbYbc", "/abcbc", "/abbcc"}, []string{"/ac", "/abcb", "/acb"}},
	{"/*.txt", []string{"/a.txt", "/.txt", "/.txt.txt"}, []string{"/a/b.txt", "/a.txtx", "/atxt"}},
	{"/*\xc3\xb6", []string{"/\xc3\xb6", "/a\xc3\xb6"}, []string{"/\xc3\xb6a", "/\xc3\xa4"}},
	// "**" that is a part, and one that is not.
	{"/**", []string{"/", "/a", "/a/b", "/a/b/c", "/1/2/3/4/5/6/7/8"}, nil},
	{"/**/**", []string{"/", "/a", "/a/b"}, nil},
	{strings.Repeat("/**", 20), []string{"/", "/a", "/1/2/3/4/5/6/7/8"}, nil},
	{"/**/b", []string{"/b", "/a/b", "/a/c/b", "/b/b"}, []string{"/", "/a", "/b/a", "/ab"}},
	{"/a/**", []string{"/a", "/a/b", "/a/b/c", "/a/a"}, []string{"/", "/b", "/b/a", "/ab"}},
	{"/a/**/b", []string{"/a/b", "/a/c/b", "/a/b/b", "/a/a/b", "/a/b/a/b"}, []string{"/", "/a", "/b", "/ab", "/a/b/c"}},
	{"/**/a/**", []string{"/a", "/a/b", "/b/a", "/b/a/b"}, []string{"/", "/b", "/b/b"}},
	{"/**/a/b/**/a/c", []string{"/a/b/a/c", "/a/a/b/a/c", "/a/b/a/b/a/c", "/a/b/x/a/c"}, []string{"/a/b/c", "/a/b/a/c/a", "/a/c/a/b"}},
	{"/**/*", []string{"/a", "/a/b", "/1/2/3/4/5/6/7/8"}, []string{"/"}},
	{"/*/**/*", []string{"/a/b", "/a/b/c"}, []string{"/", "/a"}},
	{"/***", []string{"/a", "/**", "/abc"}, []string{"/", "/a/b"}},
	{"/****", []string{"/a"}, []string{"/", "/a/b"}},
	{"/**a", []string{"/a", "/ba"}, []string{"/", "/b/a", "/ab"}},
	{"/a**", []string{"/a", "/ab"}, []string{"/a/b", "/"}},
	{"/a**b", []string{"/ab", "/axb"}, []string{"/a/b"}},
	{"/**?", []string{"/a", "/ab"}, []string{"/", "/a/b"}},
	{"/\\**", []string{"/*", "/**", "/*a"}, []string{"/", "/a", "/*/a"}},
	{"/*\\*", []string{"/*", "/**", "/a*"}, []string{"/", "/a", "/*a"}},
	{"/\\*\\*", []string{"/**"}, []string{"/", "/*", "/a", "/ab", "/*/*"}},
	{"/[*][*]", []string{"/**"}, []string{"/", "/*", "/ab"}},
	{"/[**]", []string{"/*"}, []string{"/", "/**", "/a"}},
	// "?".
	{"/?", []string{"/a", "/?", "/\xc3\xb6", "/\xf0\x9f\x98\x80", "/*"}, []string{"/", "/ab", "/a/b"}},
	{"/??", []string{"/ab", "/\xc3\xb6\xc3\xb6"}, []string{"/a", "/\xc3\xb6", "/a/b", "/abc"}},
	{"/a?c", []string{"/abc", "/aac", "/a\xc3\xb6c"}, []string{"/ac", "/abbc", "/a/c"}},
	{"/?*", []string{"/a", "/ab"}, []string{"/"}},
	{"/*?*?", []string{"/ab", "/abc"}, []string{"/", "/a", "/a/b"}},
	{"/" + strings.Repeat("?", 24), []string{"/" + long}, []string{"/" + long[1:]}},
	{"/" + strings.Repeat("?", 25), nil, []string{"/" + long}},
	// A backslash.
	{"/\\a", []string{"/a"}, []string{"/\\a", "/b", "/\\"}},
	{"/\\*", []string{"/*"}, []string{"/a", "/\\*", "/", "/**"}},
	{"/\\?", []string{"/?"}, []string{"/a", "/\\?"}},
	{"/\\[a]", []string{"/[a]"}, []string{"/a", "/[a", "/\\a"}},
	{"/\\\\", []string{"/\\"}, []string{"/\\\\", "/a"}},
	{"/\\\\a", []string{"/\\a"}, []string{"/a", "/\\\\a"}},
	{"/a\\]", []string{"/a]"}, []string{"/a\\]", "/a"}},
	{"/\\\xc3\xb6", []string{"/\xc3\xb6"}, []string{"/\\\xc3\xb6", "/a"}},
	{"/\\n\\t\\d\\x41", []string{"/ntdx41"}, []string{"/A"}},
	// What means something elsewhere only.
	{"/]", []string{"/]"}, []string{"/a"}},
	{"/a-c", []string{"/a-c"}, []string{"/b", "/a"}},
	{"/^a", []string{"/^a"}, []string{"/a", "/b"}},
	{"/!a", []string{"/!a"}, []string{"/a", "/b"}},
	{"/{a,b}", []string{"/{a,b}"}, []string{"/a", "/b"}},
	{"/a+.|(b)$", []string{"/a+.|(b)$"}, []string{"/aab"}},
	// Classes.
	{"/[a]", []string{"/a"}, []string{"/", "/b", "/aa", "/[a]", "/a/a"}},
	{"/[ab]", []string{"/a", "/b"}, []string{"/c", "/ab", "/"}},
	{"/[^ab]", []string{"/c", "/^", "/\xc3\xb6", "/-"}, []string{"/a", "/b", "/", "/cc"}},
	{"/[a]]", []string{"/a]"}, []string{"/a", "/]"}},
	{"/[[]", []string{"/["}, []string{"/]", "/[["}},
	{"/[[a]]", []string{"/[]", "/a]"}, []string{"/a", "/[", "/]]"}},
	{"/[*?]", []string{"/*", "/?"}, []string{"/a", "/**"}},
	{"/[!a]", []string{"/!", "/a"}, []string{"/b"}},
	{"/[a-c]", []string{"/a", "/b", "/c"}, []string{"/d", "/-", "/`", "/B"}},
	{"/[^a-c]", []string{"/d", "/-", "/`", "/\xf0\x9f\x98\x80"}, []string{"/a", "/b", "/c", "/"}},
	{"/[b-b]", []string{"/b"}, []string{"/a", "/c", "/-"}},
	{"/[a-cx-z]", []string{"/a", "/c", "/x", "/z"}, []string{"/d", "/w", "/-"}},
	{"/[^a-cx-z]", []string{"/d", "/w", "/-"}, []string{"/a", "/c", "/x", "/z"}},
	{"/[a-c-]", []string{"/a", "/b", "/c", "/-"}, []string{"/d"}},
	{"/[a-c-e]", []string{"/a", "/b", "/c", "/-", "/e"}, []string{"/d", "/f"}},
	{"/[-a]", []string{"/-", "/a"}, []string{"/b", "/0", "/_"}},
	{"/[^-a]", []string{"/b", "/^", "/0"}, []string{"/-", "/a"}},
	{"/[-]", []string{"/-"}, []string{"/a"}},
	{"/[^-]", []string{"/a", "/^"}, []string{"/-"}},
	{"/[--0]", []string{"/-", "/0"}, []string{"/,", "/1", "/a"}},
	{"/[+--]", []string{"/+", "/,", "/-"}, []string{"/*", "/a"}},
	{"/[---]", []string{"/-"}, []string{"/,", "/0", "/a"}},
	{"/[----]", []string{"/-"}, []string{"/,", "/0"}},
	{"/[a^]", []string{"/a", "/^"}, []string{"/b"}},
	{"/[^^]", []string{"/a", "/-"}, []string{"/^"}},
	{"/[^^a]", []string{"/b", "/-"}, []string{"/^", "/a"}},
	{"/[^a^]", []string{"/b", "/-"}, []string{"/^", "/a"}},
	{"/[^^-a]", []string{"/b", "/]"}, []string{"/^", "/_", "/`", "/a"}},
	{"/[A-^]", []string{"/A", "/Z", "/[", "/\\", "/]", "/^"}, []string{"/_", "/@", "/a"}},
	{"/[\\]]", []string{"/]"}, []string{"/\\", "/[", "/\\]"}},
	{"/[^\\]]", []string{"/\\", "/a"}, []string{"/]"}},
	{"/[\\^a]", []string{"/^", "/a"}, []string{"/b", "/\\"}},
	{"/[^\\^]", []string{"/a", "/\\"}, []string{"/^"}},
	{"/[\\-]", []string{"/-"}, []string{"/\\", "/a"}},
	{"/[a\\-c]", []string{"/a", "/-", "/c"}, []string{"/b", "/\\"}},
	{"/[c\\-a]", []string{"/a", "/-", "/c"}, []string{"/b", "/\\"}},
	{"/[\\--0]", []string{"/-", "/0"}, []string{"/,", "/\\", "/1"}},
	{"/[+-\\-]", []string{"/+", "/,", "/-"}, []string{"/\\", "/0"}},
	{"/[\\a-\\c]", []string{"/a", "/b", "/c"}, []string{"/\\", "/-", "/d"}},
	{"/[\\\\]", []string{"/\\"}, []string{"/]", "/a"}},
	{"/[A-\\]]", []string{"/A", "/Z", "/[", "/\\", "/]"}, []string{"/^", "/-", "/@"}},
	{"/[\\[-\\]]", []string{"/[", "/\\", "/]"}, []string{"/Z", "/^", "/-"}},
	{"/[\\n]", []string{"/n"}, []string{"/\\", "/a"}},
	{"/[\xc3\xa4-\xc3\xb6]", []string{"/\xc3\xa4", "/\xc3\xa5", "/\xc3\xb6"}, []string{"/a", "/\xc3\xa3", "/\xc3\xb7"}},
	{"/[a-\xf0\x9f\x98\x80]", []string{"/a", "/\xc3\xb6", "/\xef\xbf\xbd", "/\xf0\x9f\x98\x80"}, []string{"/A", "/\xf0\x9f\x98\x81"}},
	{"/[^\x01-\xf4\x8f\xbf\xbf]", nil, []string{"/a", "/\xf4\x8f\xbf\xbf"}},
	{"/[\x00-\xf4\x8f\xbf\xbf]", []string{"/a", "/\xf4\x8f\xbf\xbf"}, []string{"/", "/aa"}},
	// A class does not reach over a "/".
	{"/a[!-0]b", []string{"/a.b", "/a0b"}, []string{"/a/b", "/ab"}},
	{"/a[^x]b", []string{"/a.b"}, []string{"/a/b", "/axb", "/ab"}},
	// Together.
	{"/[a-c]?", []string{"/bx", "/aa"}, []string{"/b", "/dx", "/bxx"}},
	{"/**/[a-c]*/?\\?", []string{"/a/x?", "/x/y/cc/??"}, []string{"/a/x", "/d/x?", "/x?", "/a/x?/a"}},
	{"/*[0-9]*", []string{"/a1", "/1", "/1a", "/a1a"}, []string{"/a", "/a/1"}},
	{"/[^.]*.[ch]", []string{"/a.c", "/ab.h", "/a.b.c"}, []string{"/.c", "/a.o", "/.a.c", "/a/b.c"}},
}

func TestMatch(t *testing.T) {
	for _, c := range matches {
		for i, paths := range [][]string{c.yes, c.no} {
			for _, path := range paths {
				if is, err := glob.Match(c.pattern, path); is != (i == 0) || err != api.OK {
					t.Errorf("Match(%q, %q) = %v, %v", c.pattern, path, is, err)
				}
				checkMatch(t, c.pattern, path)
			}
		}
	}
}

func TestMatchRefuses(t *testing.T) {
	for _, c := range []struct {
		pattern, path string
		want          api.Errno
	}{
		{"", "/a", api.ErrSyntax},
		{"a", "/a", api.ErrSyntax},
		{"/", "/", api.ErrSyntax},
		{"/[", "/[", api.ErrSyntax},
		{"/[b-a]", "/a", api.ErrSyntax},
		{"/a\\", "/a", api.ErrSyntax},
		{"/**/", "/a", api.ErrSyntax},
		{"/\xff", "/a", api.ErrSyntax},
		{"/a/[", "/b", api.ErrSyntax},
		{"!/a", "/a", api.ErrSyntax},
		{"/" + strings.Repeat("a", 60), "/a", api.ErrLarge},
		{"/**", "", api.ErrName},
		{"/**", "a", api.ErrName},
		{"/**", "//", api.ErrName},
		{"/**", "/a/", api.ErrName},
		{"/**", "/..", api.ErrName},
		{"/*", "/\xff", api.ErrName},
		{"/*", "/a\n", api.ErrName},
		{"/*", "/" + tooLong, api.ErrLarge},
		{"/**", strings.Repeat("/a", 9), api.ErrDeep},
		{"/b", "/a/", api.ErrName},
		{"/.", "/.", api.ErrName},
		// The pattern's error comes ahead of the path's.
		{"", "", api.ErrSyntax},
		{"/", "a", api.ErrSyntax},
		{"/[", "/" + tooLong, api.ErrSyntax},
		{"/[", strings.Repeat("/a", 9), api.ErrSyntax},
		{"/" + strings.Repeat("a", 60), "a", api.ErrLarge},
		{"/" + strings.Repeat("a", 60), strings.Repeat("/a", 9), api.ErrLarge},
	} {
		if is, err := glob.Match(c.pattern, c.path); is || err != c.want {
			t.Errorf("Match(%.80q, %.80q) = %v, %v, want %v alone", c.pattern, c.path, is, err, c.want)
		}
		checkMatch(t, c.pattern, c.path)
	}
}

func TestMatchHasTheErrorsOfCheck(t *testing.T) {
	for _, c := range wrongPatterns {
		for _, path := range []string{"/", "/a", "/a/b", "", "/a/", "/" + tooLong} {
			if is, err := glob.Match(c.pattern, path); is || err != c.want {
				t.Errorf("Match(%.80q, %.80q) = %v, %v, want %v alone", c.pattern, path, is, err, c.want)
			}
		}
	}
	for _, p := range rightPatterns {
		for _, path := range []string{"/", "/a", "/a/b", "/" + long} {
			if _, err := glob.Match(p, path); err != api.OK {
				t.Errorf("Match(%q, %q): %v", p, path, err)
			}
			checkMatch(t, p, path)
		}
	}
}

// A name with a backslash ahead of each of its characters matches itself, and
// so does one with each in a class.
func TestEachCharacterCanBeMeant(t *testing.T) {
	var all []rune
	for c := rune(32); c < 0x3000; c++ {
		if c != 127 && c != '/' && c != '.' {
			all = append(all, c)
		}
	}
	all = append(all, 0xd7ff, 0xe000, 0xfffd, 0xffff, 0x10000, 0x10ffff)
	for _, c := range all {
		one := string(c)
		for _, x := range []struct {
			pattern string
			want    bool
		}{{"/\\" + one, true}, {"/[\\" + one + "]", true}, {"/[^\\" + one + "]", false}, {"/[\\" + one + "-\\" + one + "]", true}, {"/?", true}, {"/??", false}, {"/?*", true}} {
			if is, err := glob.Match(x.pattern, "/"+one); is != x.want || err != api.OK {
				t.Fatalf("Match(%q, %q) = %v, %v", x.pattern, "/"+one, is, err)
			}
		}
		for _, other := range []rune{c + 1, c - 1} {
			if is, _ := glob.Match("/\\"+one, "/"+string(other)); is {
				t.Fatalf("%q is taken for %q", other, c)
			}
			if is, _ := glob.Match("/[\\"+one+"]", "/"+string(other)); is {
				t.Fatalf("%q is in a class of %q", other, c)
			}
		}
	}
}

var somePaths = []string{"/", "/a", "/b", "/ab", "/ba", "/a/b", "/b/a/a", "/*", "/[", "/]", "/-", "/^", "/\\", "/\xc3\xb6", "/a\xc3\xb6/\xc3\xb6", "/a^", "/a-b"}

// pathsOf are all paths of up to n of these names.
func pathsOf(of []string, n int) []string {
	var l []string
	eachText("", of, n, func(p string) {
		if p == "" {
			p = "/"
		}
		l = append(l, p)
	})
	return l
}

// namesOf are all paths of one name of up to n of these characters.
func namesOf(of string, n int) []string {
	var l []string
	eachText("/", charactersOf(of), n, func(p string) { l = append(l, p) })
	return l[1:]
}

// These were worked out by another program.
func TestMatchOfMany(t *testing.T) {
	for i, c := range []struct {
		head       string
		of         []string
		most       int
		paths      []string
		count, yes int
		checksum   uint32
	}{
		{"/", append(charactersOf("ab*?[]^-\\/"), "**", "\xc3\xb6"), 4, somePaths, 384557, 3549, 0x21e06c44},
		{"/[", charactersOf("ab-^]\\["), 6, somePaths, 2333369, 26390, 0xc2e20da8},
		{"/[^", charactersOf("\xc3\xb6a-]\\?"), 6, somePaths, 951779, 19031, 0x130d43e4},
		{"", []string{"/a", "/*", "/**", "/b"}, 6, pathsOf([]string{"/a", "/b"}, 4), 169291, 19568, 0x285c8a90},
		{"/", charactersOf("ab*?"), 6, namesOf("ab", 5), 338582, 59560, 0x1d16e194},
	} {
		var answers []byte
		yes := 0
		eachText(c.head, c.of, c.most, func(p string) {
			for _, path := range c.paths {
				is, err := glob.Match(p, path)
				answer := byte(err) * 2
				if is {
					answer++
					yes++
				}
				answers = append(answers, answer)
			}
		})
		if sum := crc32.ChecksumIEEE(answers); len(answers) != c.count || yes != c.yes || sum != c.checksum {
			t.Errorf("case %d: %d answers, %d yes, checksum %x", i, len(answers), yes, sum)
		}
	}
}

func TestMatchOfAllShortTexts(t *testing.T) {
	paths := append(pathsOf([]string{"/a", "/b"}, 3), "/aa", "/ab", "/aab/b", "/-", "/]")
	eachText("/", []string{"a", "b", "*", "/", "?", "[^a]", "[a-b]", "**", "\\"}, 4, func(p string) {
		for _, path := range paths {
			checkMatch(t, p, path)
		}
	})
}

// However many ways there are to share what is matched, the answer comes soon:
// a call that tries them all does not end within the time that a test has.
func TestMatchEndsSoon(t *testing.T) {
	deep := strings.Repeat("/"+long, 8)
	for _, c := range []struct {
		pattern, path string
		want          bool
	}{
		{strings.Repeat("/**", 19) + "/b", "/1/2/3/4/5/6/7/8", false},
		{strings.Repeat("/**", 20), deep, true},
		{strings.Repeat("/**/*", 12), "/1/2/3/4/5/6/7/8", false},
		{strings.Repeat("/**/*", 8), "/1/2/3/4/5/6/7/8", true},
		{"/" + strings.Repeat("*", 58) + "b", "/" + long, false},
		{"/" + strings.Repeat("*a", 29), "/" + long, false},
		{"/" + strings.Repeat("*a", 24), "/" + long, true},
		{"/" + strings.Repeat("*a", 20) + "*b", "/" + long, false},
		{"/" + strings.Repeat("*?", 12) + "*b*", "/" + long, false},
		{"/**/" + strings.Repeat("*a", 20) + "*b/**", deep, false},
		{strings.Repeat("/**/*a*a*a*a*b", 4), deep, false},
	} {
		for range 20 {
			if is, err := glob.Match(c.pattern, c.path); is != c.want || err != api.OK {
				t.Errorf("Match(%q, %q) = %v, %v", c.pattern, c.path, is, err)
			}
		}
	}
}
