package names_test

import (
	"fmt"
	"hash/crc32"
	"slices"
	"strings"
	"testing"

	"lumberroom/api"
	"lumberroom/names"
)

// slowClean goes from the back, and counts which parts are taken away.
func slowClean(p string) (string, api.Errno) {
	parts := strings.Split(p, "/")
	taken := 0
	var kept []string
	for _, part := range slices.Backward(parts) {
		switch {
		case part == "" || part == ".":
		case part == "..":
			taken++
		case taken > 0:
			taken--
		default:
			kept = append(kept, part)
		}
	}
	if taken > 0 {
		return "", api.ErrName
	}
	slices.Reverse(kept)
	return slowJoin(kept)
}

func checkClean(t *testing.T, p string) {
	t.Helper()
	want, wrong := slowClean(p)
	got, err := names.Clean(p)
	if got != want || err != wrong {
		t.Fatalf("Clean(%.60q) = %.60q, %v, want %.60q, %v", p, got, err, want, wrong)
	}
	if err != api.OK {
		return
	}
	// What is clean stays, and is a path.
	if again, err := names.Clean(got); again != got || err != api.OK {
		t.Fatalf("%.60q is cleaned to %q, and that to %q, %v", p, got, again, err)
	}
	if _, err := names.Split(got); err != api.OK {
		t.Fatalf("%.60q is cleaned to %q, whose names are wrong: %v", p, got, err)
	}
}

func TestClean(t *testing.T) {
	for _, c := range []struct{ p, want string }{
		{"", "/"},
		{"/", "/"},
		{"//", "/"},
		{".", "/"},
		{"./", "/"},
		{"/.", "/"},
		{"/./././", "/"},
		{"a", "/a"},
		{"/a", "/a"},
		{"a/", "/a"},
		{"//a//", "/a"},
		{"./a/.", "/a"},
		{"a/b", "/a/b"},
		{"/a/b/", "/a/b"},
		{"a/./b//../c", "/a/c"},
		{"a/..", "/"},
		{"a/../", "/"},
		{"/a/../b", "/b"},
		{"a/b/..", "/a"},
		{"a/b/../..", "/"},
		{"a/b/../../c", "/c"},
		{"a/../b/../c", "/c"},
		{"a/b/c/../../d", "/a/d"},
		{"a/b//..", "/a"},
		{"a/b/./..", "/a"},
		{"a/./../b", "/b"},
		// Parts that only look like these.
		{"...", "/..."},
		{"a/...", "/a/..."},
		{"a/.../..", "/a"},
		{"a/..b/.c/d..", "/a/..b/.c/d.."},
		{" /a", "/ /a"},
		{"a/. /.. ", "/a/. /.. "},
		{"a\\..\\b", "/a\\..\\b"},
		{"\xc3\xb6/\xef\xbf\xbd", "/\xc3\xb6/\xef\xbf\xbd"},
		// What is taken away may be wrong.
		{"\xff/../a", "/a"},
		{"a/\xff/..", "/a"},
		{"a/\n/../b", "/a/b"},
		{tooLong + "/..", "/"},
		{"a/" + strings.Repeat("b", 5000) + "/../c", "/a/c"},
		{strings.Repeat("a", 1<<20) + "/..", "/"},
		// Also what is too deep.
		{"1/2/3/4/5/6/7/8", "/1/2/3/4/5/6/7/8"},
		{"1/2/3/4/5/6/7/8/./", "/1/2/3/4/5/6/7/8"},
		{"1/2/3/4/5/6/7/8/9/..", "/1/2/3/4/5/6/7/8"},
		{"1/2/3/4/5/6/7/8/9/10/../..", "/1/2/3/4/5/6/7/8"},
		{"1/2/3/4/5/6/7/8/../9", "/1/2/3/4/5/6/7/9"},
		{"1/2/3/4/5/6/7/8/9/../../10", "/1/2/3/4/5/6/7/10"},
		{strings.Repeat("a/", 5000) + strings.Repeat("../", 4998), "/a/a"},
		{strings.Repeat("a/../", 5000) + "b", "/b"},
		{strings.Repeat("/", 5000) + "b" + strings.Repeat("/.", 5000), "/b"},
		{long + "/" + long, "/" + long + "/" + long},
	} {
		if got, err := names.Clean(c.p); got != c.want || err != api.OK {
			t.Errorf("Clean(%.60q) = %.60q, %v, want %.60q", c.p, got, err, c.want)
		}
		checkClean(t, c.p)
	}
}

func TestCleanRefuses(t *testing.T) {
	for _, c := range []struct {
		p    string
		want api.Errno
	}{
		// Nothing to be taken away.
		{"..", api.ErrName},
		{"/..", api.ErrName},
		{"../", api.ErrName},
		{"../a", api.ErrName},
		{"./..", api.ErrName},
		{"//..", api.ErrName},
		{"a/../..", api.ErrName},
		{"a/../../b", api.ErrName},
		{"/a/b/../../..", api.ErrName},
		{"a/./../..", api.ErrName},
		{"a//../..", api.ErrName},
		{strings.Repeat("a/", 500) + strings.Repeat("../", 501), api.ErrName},
		// That is told ahead of all else.
		{"../" + tooLong, api.ErrName},
		{tooLong + "/../../a", api.ErrName},
		{"../1/2/3/4/5/6/7/8/9", api.ErrName},
		{"a/../../" + tooLong + "/\xff", api.ErrName},
		{"../../1/2/3/4/5/6/7/8/" + tooLong, api.ErrName},
		// What Join tells.
		{"\xff", api.ErrName},
		{"a/b\x00", api.ErrName},
		{"a/\x7f/b", api.ErrName},
		{"\x1f/../\x1f", api.ErrName},
		{tooLong, api.ErrLarge},
		{"a/" + tooLong + "/b", api.ErrLarge},
		{"a/../" + tooLong, api.ErrLarge},
		{"1/2/3/4/5/6/7/8/9", api.ErrDeep},
		{"/1/2/3/4/5/6/7/8/9/", api.ErrDeep},
		{"1/2/3/4/5/6/7/8/9/10/..", api.ErrDeep},
		{"1/2/3/4/5/6/7/8/\xff", api.ErrDeep},
		{"1/2/3/4/5/6/7/8/" + tooLong, api.ErrDeep},
		{"1/2/3/4/5/6/7/\xff/9", api.ErrName},
		{"1/2/3/4/5/6/7/" + tooLong + "/9", api.ErrLarge},
		{tooLong + "/\xff", api.ErrLarge},
		{"\xff/" + tooLong, api.ErrName},
		{strings.Repeat("a/", 5000), api.ErrDeep},
	} {
		if got, err := names.Clean(c.p); got != "" || err != c.want {
			t.Errorf("Clean(%.60q) = %.60q, %v, want %v alone", c.p, got, err, c.want)
		}
		checkClean(t, c.p)
	}
}

func TestCleanLeavesPaths(t *testing.T) {
	for _, c := range rightPaths {
		if got, err := names.Clean(c.p); got != c.p || err != api.OK {
			t.Errorf("Clean(%q) = %q, %v", c.p, got, err)
		}
	}
}

// These were worked out by another program.
func TestCleanOfMany(t *testing.T) {
	var answers []byte
	count := 0
	eachText("", pathParts, 6, func(p string) {
		checkClean(t, p)
		clean, err := names.Clean(p)
		answers = fmt.Appendf(answers, "%d %s\n", err, clean)
		count++
	})
	if sum := crc32.ChecksumIEEE(answers); count != 137257 || sum != 0x360a6528 {
		t.Errorf("%d answers, checksum %x", count, sum)
	}
}

func TestCleanOfAllShortTexts(t *testing.T) {
	eachText("", bytesOf("/.a"), 10, func(p string) { checkClean(t, p) })
	eachText("", bytesOf("/.a\xc3\xb6\x1f"), 6, func(p string) { checkClean(t, p) })
	eachText("/1/2/3/4/5/6/7", bytesOf("/.a"), 8, func(p string) { checkClean(t, p) })
}
