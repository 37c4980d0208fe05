package glob_test

import (
	"hash/crc32"
	"strings"
	"testing"
	"unicode/utf8"

	"lumberroom/api"
	"lumberroom/glob"
)

// eachText tells all texts of up to n of these parts behind head.
func eachText(head string, of []string, n int, tell func(string)) {
	tell(head)
	if n == 0 {
		return
	}
	for _, part := range of {
		eachText(head+part, of, n-1, tell)
	}
}

// charactersOf are the characters of s, each as a text.
func charactersOf(s string) []string { return strings.Split(s, "") }

func checkCheck(t *testing.T, pattern string) {
	t.Helper()
	_, want := slowPattern(pattern)
	if err := glob.Check(pattern); err != want {
		t.Fatalf("Check(%.80q) = %v, want %v", pattern, err, want)
	}
}

var rightPatterns = []string{
	"/a",
	"/a/b",
	"/\xc3\xb6/\xf0\x9f\x98\x80/\xef\xbf\xbd",
	"/ ",
	// Names that no path has are no fault of a pattern.
	"/.",
	"/..",
	"/\x00\x1f\x7f",
	"/" + strings.Repeat("a", 59),
	"/1/2/3/4/5/6/7/8/9/10",
	strings.Repeat("/a", 30),
	// Signs.
	"/*",
	"/?",
	"/**",
	"/***",
	"/a**",
	"/**a",
	"/**/**",
	strings.Repeat("/**", 20),
	"/" + strings.Repeat("*", 59),
	"/" + strings.Repeat("?", 59),
	"/\\a",
	"/\\\\",
	"/\\*\\*",
	"/\\[",
	"/\\[a",
	"/\\\xc3\xb6",
	"/a\\ /b",
	// What means something elsewhere only.
	"/]",
	"/a]b",
	"/]]",
	"/-",
	"/a-",
	"/b-a",
	"/^",
	"/^a",
	"/!a",
	"/!",
	"/{a,b}",
	// Classes.
	"/[a]",
	"/[ab]",
	"/[aa]",
	"/[^a]",
	"/[^ab]c",
	"/[a][b]",
	"/x[a]y/[b]",
	"/[a]]",
	"/[[]",
	"/[[]]",
	"/[[a]]",
	"/[*]",
	"/[**]",
	"/[?]",
	"/[!a]",
	"/[ ]",
	"/[\xc3\xb6]",
	"/[^\xf0\x9f\x98\x80]",
	// Items of two.
	"/[a-b]",
	"/[a-a]",
	"/[^a-b]",
	"/[a-bc-d]",
	"/[a-bc]",
	"/[ca-b]",
	"/[\x00-\xf4\x8f\xbf\xbf]",
	"/[\xed\x9f\xbf-\xee\x80\x80]",
	"/[a-\xc3\xb6]",
	"/[*-?]",
	"/[[-a]",
	// "-" and "^" themselves.
	"/[-]",
	"/[-a]",
	"/[^-]",
	"/[^-a]",
	"/[a-b-]",
	"/[a-b-c]",
	"/[a-b-b-c]",
	"/[---]",
	"/[--a]",
	"/[^---]",
	"/[+--]",
	"/[----]",
	"/[^^]",
	"/[^^a]",
	"/[^a^]",
	"/[a^]",
	"/[^^-a]",
	"/[^^^]",
	"/[A-^]",
	"/[!-^]",
	// Backslashes in items.
	"/[\\]]",
	"/[^\\]]",
	"/[a\\]]",
	"/[\\]a]",
	"/[\\^]",
	"/[\\^a]",
	"/[\\-]",
	"/[a\\-]",
	"/[a\\-a]",
	"/[b\\-a]",
	"/[\\--a]",
	"/[\\a]",
	"/[\\a-\\b]",
	"/[\\\\]",
	"/[\\\\-\\]]",
	"/[A-\\]]",
	"/[+-\\-]",
	"/[\\[-\\]]",
	"/[\\\xc3\xb6]",
}

func TestCheckTakesPatterns(t *testing.T) {
	for _, p := range rightPatterns {
		if err := glob.Check(p); err != api.OK {
			t.Errorf("Check(%q) = %v", p, err)
		}
		checkCheck(t, p)
	}
}

var wrongPatterns = []struct {
	pattern string
	want    api.Errno
}{
	// Too many bytes, whatever they are.
	{"/" + strings.Repeat("a", 60), api.ErrLarge},
	{strings.Repeat("a", 61), api.ErrLarge},
	{"/" + strings.Repeat("\xc3\xb6", 30), api.ErrLarge},
	{"/[" + strings.Repeat("a", 59), api.ErrLarge},
	{"/\xff" + strings.Repeat("a", 59), api.ErrLarge},
	{strings.Repeat("/", 61), api.ErrLarge},
	{"!/" + strings.Repeat("a", 59), api.ErrLarge},
	{strings.Repeat("/a", 1000), api.ErrLarge},
	{strings.Repeat("a", 60), api.ErrSyntax},
	{"/[" + strings.Repeat("a", 58), api.ErrSyntax},
	{strings.Repeat("/", 60), api.ErrSyntax},
	// No "/" to begin with.
	{"", api.ErrSyntax},
	{"a", api.ErrSyntax},
	{"a/b", api.ErrSyntax},
	{"*", api.ErrSyntax},
	{"**/a", api.ErrSyntax},
	{" /a", api.ErrSyntax},
	{"\\/a", api.ErrSyntax},
	{"!/a", api.ErrSyntax},
	{"[/]", api.ErrSyntax},
	// No UTF-8.
	{"/\xff", api.ErrSyntax},
	{"\xff/a", api.ErrSyntax},
	{"/a\xc3", api.ErrSyntax},
	{"/\xc3/\xb6", api.ErrSyntax},
	{"/\xb6", api.ErrSyntax},
	{"/\xc0\xaf", api.ErrSyntax},
	{"/\xed\xa0\x80", api.ErrSyntax},
	{"/\xf4\x90\x80\x80", api.ErrSyntax},
	{"/[\xff]", api.ErrSyntax},
	{"/[a-\xff]", api.ErrSyntax},
	{"/\\\xff", api.ErrSyntax},
	{"/\xc3\\\xb6", api.ErrSyntax},
	{"/a/b/\xff/c", api.ErrSyntax},
	// Parts that are empty.
	{"/", api.ErrSyntax},
	{"//", api.ErrSyntax},
	{"//a", api.ErrSyntax},
	{"/a/", api.ErrSyntax},
	{"/a//b", api.ErrSyntax},
	{"/**/", api.ErrSyntax},
	{"//**", api.ErrSyntax},
	// A "[" without its class.
	{"/[", api.ErrSyntax},
	{"/a[", api.ErrSyntax},
	{"/[a", api.ErrSyntax},
	{"/[^", api.ErrSyntax},
	{"/[^a", api.ErrSyntax},
	{"/[a-", api.ErrSyntax},
	{"/[a-b", api.ErrSyntax},
	{"/[\\]", api.ErrSyntax},
	{"/[a\\]", api.ErrSyntax},
	{"/[a][", api.ErrSyntax},
	{"/[a]/[", api.ErrSyntax},
	{"/*[", api.ErrSyntax},
	{"/\\\\[", api.ErrSyntax},
	{"/[a/b]", api.ErrSyntax},
	{"/[a/]", api.ErrSyntax},
	{"/[/]", api.ErrSyntax},
	{"/[\\/]", api.ErrSyntax},
	{"/[a-/]", api.ErrSyntax},
	// A class of no items.
	{"/[]", api.ErrSyntax},
	{"/[]]", api.ErrSyntax},
	{"/[]a]", api.ErrSyntax},
	{"/[^]", api.ErrSyntax},
	{"/[^]]", api.ErrSyntax},
	{"/[^]a]", api.ErrSyntax},
	// A "-" behind a character, with none behind it.
	{"/[a-]", api.ErrSyntax},
	{"/[a-]]", api.ErrSyntax},
	{"/[A-]]", api.ErrSyntax},
	{"/[^a-]", api.ErrSyntax},
	{"/[ab-]", api.ErrSyntax},
	{"/[--]", api.ErrSyntax},
	{"/[^--]", api.ErrSyntax},
	{"/[^^-]", api.ErrSyntax},
	{"/[\\--]", api.ErrSyntax},
	{"/[\\]-]", api.ErrSyntax},
	{"/[a-b--]", api.ErrSyntax},
	{"/[-----]", api.ErrSyntax},
	{"/[a-\\]", api.ErrSyntax},
	// Items that go down.
	{"/[b-a]", api.ErrSyntax},
	{"/[^b-a]", api.ErrSyntax},
	{"/[a-bd-c]", api.ErrSyntax},
	{"/[a--]", api.ErrSyntax},
	{"/[a-^]", api.ErrSyntax},
	{"/[a-\\]]", api.ErrSyntax},
	{"/[\\b-\\a]", api.ErrSyntax},
	{"/[\xc3\xb6-a]", api.ErrSyntax},
	{"/[\xf0\x9f\x98\x80-\xef\xbf\xbd]", api.ErrSyntax},
	{"/[-- ]", api.ErrSyntax},
	{"/a/b/[b-a]/c", api.ErrSyntax},
	// A backslash with nothing of its part behind it.
	{"/\\", api.ErrSyntax},
	{"/a\\", api.ErrSyntax},
	{"/\\/a", api.ErrSyntax},
	{"/a\\/b", api.ErrSyntax},
	{"/\\\\\\", api.ErrSyntax},
	{"/*\\", api.ErrSyntax},
	{"/**\\", api.ErrSyntax},
	{"/**/\\", api.ErrSyntax},
	{"/[a]\\", api.ErrSyntax},
	{"/[\\", api.ErrSyntax},
}

func TestCheckRefuses(t *testing.T) {
	for _, c := range wrongPatterns {
		if err := glob.Check(c.pattern); err != c.want {
			t.Errorf("Check(%.80q) = %v, want %v", c.pattern, err, c.want)
		}
		checkCheck(t, c.pattern)
	}
}

// What is right in one part is so in each, and what is wrong is so in each.
func TestCheckGoesPartByPart(t *testing.T) {
	for _, p := range rightPatterns {
		for _, with := range []string{"/x" + p, p + "/x", "/**" + p, p + "/[a-c]", "/x" + p + "/*"} {
			if err := glob.Check(with); err != api.OK && len(with) <= 60 {
				t.Errorf("Check(%q) = %v", with, err)
			}
			checkCheck(t, with)
		}
	}
	for _, c := range wrongPatterns {
		if c.want == api.ErrLarge || !strings.HasPrefix(c.pattern, "/") {
			continue
		}
		for _, with := range []string{"/x" + c.pattern, c.pattern + "/x", "/**" + c.pattern, c.pattern + "/[a-c]"} {
			if err := glob.Check(with); err != api.ErrSyntax && len(with) <= 60 {
				t.Errorf("Check(%q) = %v", with, err)
			}
			checkCheck(t, with)
		}
	}
}

// Bytes are counted, not characters, of all that is handed in.
func TestCheckCountsBytes(t *testing.T) {
	for n := range 200 {
		for _, part := range []string{"a", "/", "*", "\xc3\xb6", "[a]", "\\a", "\xff", "/**"} {
			p := ("/" + strings.Repeat(part, n))[:n]
			if err := glob.Check(p); n > 60 != (err == api.ErrLarge) {
				t.Errorf("%d bytes: Check(%.80q) = %v", n, p, err)
			}
			checkCheck(t, p)
		}
	}
}

// These were worked out by another program.
func TestCheckOfMany(t *testing.T) {
	for i, c := range []struct {
		head         string
		of           []string
		most         int
		count, right int
		checksum     uint32
	}{
		{"/", charactersOf("ab-^[]\\/*"), 6, 597871, 215295, 0x140c6d87},
		{"/[", charactersOf("ab-^]\\["), 6, 137257, 29739, 0x270a5b40},
		{"/[^", charactersOf("\xc3\xb6a-]\\?"), 6, 55987, 17287, 0x80716d6e},
		{"", []string{"/", "a", "[a", "-b", "]", "\\", "**", "^"}, 5, 37449, 1974, 0x14f82df7},
	} {
		var answers []byte
		right := 0
		eachText(c.head, c.of, c.most, func(p string) {
			err := glob.Check(p)
			if err == api.OK {
				right++
			}
			answers = append(answers, byte(err))
		})
		if sum := crc32.ChecksumIEEE(answers); len(answers) != c.count || right != c.right || sum != c.checksum {
			t.Errorf("case %d: %d answers, %d right, checksum %x", i, len(answers), right, sum)
		}
	}
}

func TestCheckOfAllShortTexts(t *testing.T) {
	eachText("", charactersOf("/a[]-^\\"), 6, func(p string) { checkCheck(t, p) })
	eachText("/[a-c", charactersOf("/a[]-^\\"), 5, func(p string) { checkCheck(t, p) })
	for b := range 256 {
		one := string([]byte{byte(b)})
		for _, p := range []string{one, "/" + one, "/" + one + one, "/[" + one + "]", "/[" + one + "-" + one + "]", "/\\" + one, "/[\\" + one + "]", "/[a-" + one + "]", "/a" + one + "/b"} {
			checkCheck(t, p)
		}
	}
}

// Each two characters around where their bytes get more are held against each
// other by their numbers.
func TestCheckOfItemsThatGoDown(t *testing.T) {
	edges := []rune{0, 1, ' ', '!', '+', ',', 'A', 'a', 'z', '~', 0x7f, 0x80, 0xff, 0x100, 0x7ff, 0x800, 0xd7ff, 0xe000, 0xfffd, 0xffff, 0x10000, 0x10001, 0x10ffff}
	for _, a := range edges {
		for _, b := range edges {
			if !utf8.ValidRune(a) || !utf8.ValidRune(b) {
				t.Fatal("no such character")
			}
			want := api.OK
			if a > b {
				want = api.ErrSyntax
			}
			for _, p := range []string{"/[" + string(a) + "-" + string(b) + "]", "/[^" + string(a) + "-" + string(b) + "]", "/[\\" + string(a) + "-\\" + string(b) + "x]"} {
				if err := glob.Check(p); err != want {
					t.Errorf("Check(%q) = %v, want %v", p, err, want)
				}
			}
		}
	}
}
