package names_test

import (
	"fmt"
	"hash/crc32"
	"testing"

	"lumberroom/api"
	"lumberroom/names"
)

// slowLess goes by bytes. A "/" ends a name, so that it stands for less than
// any byte of a name.
func slowLess(a, b string) (bool, api.Errno) {
	if _, err := slowSplit(a); err != api.OK {
		return false, err
	}
	if _, err := slowSplit(b); err != api.OK {
		return false, err
	}
	if a == "/" || b == "/" {
		return a == "/" && b != "/", api.OK
	}
	for i := range min(len(a), len(b)) {
		x, y := int(a[i]), int(b[i])
		if x == '/' {
			x = -1
		}
		if y == '/' {
			y = -1
		}
		if x != y {
			return x < y, api.OK
		}
	}
	return len(a) < len(b), api.OK
}

func checkLess(t *testing.T, a, b string) {
	t.Helper()
	want, wrong := slowLess(a, b)
	if got, err := names.Less(a, b); got != want || err != wrong {
		t.Fatalf("Less(%.60q, %.60q) = %v, %v, want %v, %v", a, b, got, err, want, wrong)
	}
}

// rising are paths, each of which comes ahead of those behind it.
var rising = []string{
	"/",
	"/ ",
	"/ /z",
	"/!",
	"/-",
	"/...",
	"/10",
	"/9",
	"/B",
	"/a",
	"/a/ ",
	"/a/!/~",
	"/a/b",
	"/a/b/c",
	"/a/b/c/d/e/f/g/h",
	"/a/b/c!",
	"/a/b!",
	"/a/bb",
	"/a/c",
	"/a/\xc3\xb6",
	"/a ",
	"/a!",
	"/a!/b",
	"/a-b",
	"/a.b",
	"/a0",
	"/aa",
	"/aa/a",
	"/ab",
	"/a\xc2\x80",
	"/b",
	"/b/a",
	"/o\xcc\x88",
	"/~",
	"/\xc3\xb6",
	"/\xc3\xbf",
	"/\xc4\x80",
	"/\xed\x9f\xbf",
	"/\xee\x80\x80",
	"/\xef\xbf\xbd",
	"/\xef\xbf\xbf",
	"/\xf0\x90\x80\x80",
	"/\xf4\x8f\xbf\xbf",
	"/\xf4\x8f\xbf\xbf/a",
	"/\xf4\x8f\xbf\xbfa",
}

func TestLess(t *testing.T) {
	for i, a := range rising {
		for j, b := range rising {
			if got, err := names.Less(a, b); got != (i < j) || err != api.OK {
				t.Errorf("Less(%q, %q) = %v, %v, want %v", a, b, got, err, i < j)
			}
			checkLess(t, a, b)
		}
	}
}

func TestLessRefuses(t *testing.T) {
	for _, c := range wrongPaths {
		for _, p := range rising {
			for _, pair := range [][2]string{{c.p, p}, {p, c.p}, {c.p, c.p}} {
				if less, err := names.Less(pair[0], pair[1]); less || err != c.want {
					t.Errorf("Less(%.60q, %.60q) = %v, %v, want %v alone", pair[0], pair[1], less, err, c.want)
				}
			}
		}
		// Of two errors that of the first path is told.
		for _, other := range wrongPaths {
			if less, err := names.Less(c.p, other.p); less || err != c.want {
				t.Errorf("Less(%.60q, %.60q) = %v, %v, want %v alone", c.p, other.p, less, err, c.want)
			}
		}
	}
}

// These were worked out by another program.
func TestLessOfMany(t *testing.T) {
	var paths []string
	eachText("", []string{"/", "a", "/a", "/b", "!", "/\xc3\xb6"}, 3, func(p string) { paths = append(paths, p) })
	var answers []byte
	for _, a := range paths {
		for _, b := range paths {
			checkLess(t, a, b)
			less, err := names.Less(a, b)
			is := 0
			if less {
				is = 1
			}
			answers = fmt.Appendf(answers, "%d%d ", is, err)
		}
	}
	if sum := crc32.ChecksumIEEE(answers); len(paths) != 259 || sum != 0x40c3f04d {
		t.Errorf("%d paths, checksum %x", len(paths), sum)
	}
}
