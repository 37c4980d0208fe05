package glob_test

import (
	"hash/crc32"
	"slices"
	"strings"
	"testing"

	"lumberroom/api"
	"lumberroom/glob"
)

func checkSkips(t *testing.T, rules []string, path string) {
	t.Helper()
	want, wrong := slowSkips(rules, path)
	if out, err := glob.Skips(rules, path); out != want || err != wrong {
		t.Fatalf("Skips(%.80q, %.80q) = %v, %v, want %v, %v", rules, path, out, err, want, wrong)
	}
}

func TestSkips(t *testing.T) {
	for _, c := range []struct {
		rules   []string
		out, in []string
	}{
		{nil, nil, []string{"/", "/a", "/a/b"}},
		{[]string{}, nil, []string{"/", "/a", "/a/b"}},
		{[]string{"/a"}, []string{"/a", "/a/b", "/a/b/c"}, []string{"/", "/b", "/b/a", "/ab"}},
		{[]string{"/a/b"}, []string{"/a/b", "/a/b/c"}, []string{"/", "/a", "/b", "/a/c", "/b/b"}},
		{[]string{"/*"}, []string{"/a", "/a/b"}, []string{"/"}},
		{[]string{"/*/*"}, []string{"/a/b", "/a/b/c"}, []string{"/", "/a"}},
		{[]string{"/a", "/b"}, []string{"/a", "/b", "/a/c", "/b/c"}, []string{"/", "/c", "/c/a"}},
		// The root is never out.
		{[]string{"/**"}, []string{"/a", "/a/b"}, []string{"/"}},
		{[]string{"/**/**", "/**"}, []string{"/a"}, []string{"/"}},
		// "!".
		{[]string{"!/a"}, nil, []string{"/", "/a", "/b", "/a/b"}},
		{[]string{"/*", "!/b"}, []string{"/c", "/c/d", "/a/b"}, []string{"/", "/b", "/b/a", "/b/b"}},
		{[]string{"/**", "!/b"}, []string{"/a", "/b/a", "/b/b"}, []string{"/", "/b"}},
		{[]string{"/**", "!/b/**"}, []string{"/a", "/a/b"}, []string{"/", "/b", "/b/a", "/b/a/c"}},
		// The last one that matches has the word.
		{[]string{"!/b", "/*"}, []string{"/b", "/c"}, []string{"/"}},
		{[]string{"/b", "!/b", "/b"}, []string{"/b", "/b/c"}, []string{"/", "/c"}},
		{[]string{"!/b", "/b", "!/b"}, nil, []string{"/", "/b", "/b/c"}},
		{[]string{"/b", "!/b", "/c"}, []string{"/c"}, []string{"/", "/b"}},
		{[]string{"/*.o", "!/a.o", "/x"}, []string{"/b.o", "/x", "/x/a.o"}, []string{"/", "/a.o", "/b/c.o"}},
		{[]string{"/**/*.o", "!/keep/*.o"}, []string{"/b.o", "/a/b.o", "/keep/a/b.o"}, []string{"/", "/keep", "/keep/b.o"}},
		// What is out takes all below it with it, whatever the rules say of that.
		{[]string{"/a", "!/a/b"}, []string{"/a", "/a/b", "/a/b/c"}, []string{"/", "/b"}},
		{[]string{"/a", "!/a/**/b"}, []string{"/a", "/a/b", "/a/c/b"}, []string{"/"}},
		{[]string{"/a", "!/a/**"}, nil, []string{"/", "/a", "/a/b"}},
		{[]string{"/a/**", "!/a"}, []string{"/a/b", "/a/b/c"}, []string{"/", "/a"}},
		{[]string{"/**/x", "!/**/x/y"}, []string{"/x", "/x/y", "/a/x/y/z"}, []string{"/", "/a", "/y"}},
		{[]string{"/a/b/c/d/e/f/g"}, []string{"/a/b/c/d/e/f/g", "/a/b/c/d/e/f/g/h"}, []string{"/a/b/c/d/e/f", "/a/b/c/d/e/f/h"}},
		// "!" and "\" elsewhere.
		{[]string{"/!a"}, []string{"/!a"}, []string{"/a", "/"}},
		{[]string{"/*", "!/!a"}, []string{"/a"}, []string{"/!a", "/"}},
		{[]string{"/\\!a"}, []string{"/!a"}, []string{"/a"}},
	} {
		for i, paths := range [][]string{c.out, c.in} {
			for _, path := range paths {
				if out, err := glob.Skips(c.rules, path); out != (i == 0) || err != api.OK {
					t.Errorf("Skips(%q, %q) = %v, %v", c.rules, path, out, err)
				}
				checkSkips(t, c.rules, path)
			}
		}
	}
}

func TestSkipsRefuses(t *testing.T) {
	of := func(n int, rule string) []string { return slices.Repeat([]string{rule}, n) }
	sixty := "/" + strings.Repeat("a", 59)
	for _, c := range []struct {
		rules []string
		path  string
		want  api.Errno
	}{
		// Too many rules, whatever they are.
		{of(21, "/a"), "/a", api.ErrLarge},
		{of(21, "!/a"), "/", api.ErrLarge},
		{of(5000, "/a"), "/b", api.ErrLarge},
		{of(21, "/["), "/a", api.ErrLarge},
		{of(21, ""), "", api.ErrLarge},
		{of(21, "/a"), "/a/", api.ErrLarge},
		{of(21, "/a"), strings.Repeat("/a", 9), api.ErrLarge},
		{of(20, "/["), "/a", api.ErrSyntax},
		// Rules that are wrong.
		{[]string{""}, "/a", api.ErrSyntax},
		{[]string{"!"}, "/a", api.ErrSyntax},
		{[]string{"!!/a"}, "/a", api.ErrSyntax},
		{[]string{"!a"}, "/a", api.ErrSyntax},
		{[]string{" !/a"}, "/a", api.ErrSyntax},
		{[]string{"! /a"}, "/a", api.ErrSyntax},
		{[]string{"!/"}, "/", api.ErrSyntax},
		{[]string{"/"}, "/", api.ErrSyntax},
		{[]string{"a"}, "/a", api.ErrSyntax},
		{[]string{"\\!/a"}, "/a", api.ErrSyntax},
		{[]string{"!/["}, "/a", api.ErrSyntax},
		{[]string{"!/\xff"}, "/a", api.ErrSyntax},
		{[]string{sixty + "a"}, "/a", api.ErrLarge},
		{[]string{"!" + sixty + "a"}, "/a", api.ErrLarge},
		// The "!" is none of a pattern's bytes.
		{[]string{"!" + strings.Repeat("a", 60)}, "/a", api.ErrSyntax},
		{[]string{"!" + strings.Repeat("a", 61)}, "/a", api.ErrLarge},
		{[]string{"!!" + strings.Repeat("a", 59)}, "/a", api.ErrSyntax},
		{[]string{"!!" + strings.Repeat("a", 60)}, "/a", api.ErrLarge},
		// Rule by rule, also where those ahead say enough.
		{[]string{"/a", "/["}, "/a", api.ErrSyntax},
		{[]string{"/[", "/a"}, "/a", api.ErrSyntax},
		{[]string{"/a", "/["}, "/", api.ErrSyntax},
		{[]string{"/[", sixty + "a"}, "/a", api.ErrSyntax},
		{[]string{sixty + "a", "/["}, "/a", api.ErrLarge},
		{append(of(19, "/a"), "/a/"), "/a", api.ErrSyntax},
		{append(of(19, "/a"), sixty+"b"), "/a", api.ErrLarge},
		// The path.
		{nil, "", api.ErrName},
		{nil, "a", api.ErrName},
		{nil, "/a/", api.ErrName},
		{nil, "/" + tooLong, api.ErrLarge},
		{nil, strings.Repeat("/a", 9), api.ErrDeep},
		{[]string{"/a"}, "/a/", api.ErrName},
		{[]string{"/a"}, "/a/..", api.ErrName},
		{[]string{"/**"}, "/a/" + tooLong, api.ErrLarge},
		{[]string{"/a"}, strings.Repeat("/a", 9), api.ErrDeep},
		{of(20, "!/a"), "//", api.ErrName},
		// A rule's error comes ahead of it.
		{[]string{"/["}, "a", api.ErrSyntax},
		{[]string{"/a", "!"}, strings.Repeat("/a", 9), api.ErrSyntax},
		{[]string{sixty + "a"}, "/\xff", api.ErrLarge},
	} {
		if out, err := glob.Skips(c.rules, c.path); out || err != c.want {
			t.Errorf("Skips(%.80q, %.80q) = %v, %v, want %v alone", c.rules, c.path, out, err, c.want)
		}
		checkSkips(t, c.rules, c.path)
	}
	for _, rules := range [][]string{of(20, "/a"), of(20, "!"+sixty), {sixty}, {"!" + sixty}} {
		if _, err := glob.Skips(rules, "/a"); err != api.OK {
			t.Errorf("Skips(%.80q, /a): %v", rules, err)
		}
	}
}

// The last of as many rules as there may be has the word, wherever it stands.
func TestSkipsOfManyRules(t *testing.T) {
	for at := range 20 {
		out := slices.Repeat([]string{"/b"}, 20)
		out[at] = "/a"
		in := slices.Repeat([]string{"/a"}, 20)
		in[at] = "!/*"
		for i, rules := range [][]string{out, in, in[:at+1]} {
			want := i == 0 || i == 1 && at < 19
			if is, err := glob.Skips(rules, "/a"); is != want || err != api.OK {
				t.Errorf("Skips(%q, /a) = %v, %v", rules, is, err)
			}
		}
	}
}

func TestSkipsHasTheErrorsOfCheck(t *testing.T) {
	for _, c := range wrongPatterns {
		// One that begins with "!" is another pattern as a rule.
		if !strings.HasPrefix(c.pattern, "!") {
			if out, err := glob.Skips([]string{"/x", c.pattern}, "/x"); out || err != c.want {
				t.Errorf("Skips of %.80q: %v, %v, want %v alone", c.pattern, out, err, c.want)
			}
		}
		if out, err := glob.Skips([]string{"/x", "!" + c.pattern}, "/x"); out || err != c.want {
			t.Errorf("Skips of !%.80q: %v, %v, want %v alone", c.pattern, out, err, c.want)
		}
	}
	for _, p := range rightPatterns {
		for _, path := range []string{"/a", "/a/b", "/"} {
			checkSkips(t, []string{p}, path)
			checkSkips(t, []string{"/a", "!" + p}, path)
		}
	}
}

// eachList tells all lists of up to n of these rules behind head.
func eachList(head, of []string, n int, tell func([]string)) {
	tell(head)
	if n == 0 {
		return
	}
	for _, rule := range of {
		eachList(append(slices.Clone(head), rule), of, n-1, tell)
	}
}

// These were worked out by another program.
func TestSkipsOfMany(t *testing.T) {
	paths := pathsOf([]string{"/a", "/b"}, 3)
	var answers []byte
	outs := 0
	eachList(nil, []string{"/a", "!/a", "/**", "!/**/b", "/a/*", "!/a/b", "/*"}, 4, func(rules []string) {
		for _, path := range paths {
			out, err := glob.Skips(rules, path)
			if err != api.OK {
				t.Fatal(rules, path, err)
			}
			answer := byte(0)
			if out {
				answer = 1
				outs++
			}
			answers = append(answers, answer)
		}
	})
	if sum := crc32.ChecksumIEEE(answers); len(answers) != 42015 || outs != 28961 || sum != 0xc85d230a {
		t.Errorf("%d answers, %d out, checksum %x", len(answers), outs, sum)
	}
}

func TestSkipsEndsSoon(t *testing.T) {
	path := strings.Repeat("/"+long, 8)
	for _, rule := range []string{strings.Repeat("/**", 19) + "/b", "/**/" + strings.Repeat("*a", 20) + "*b/**", strings.Repeat("/**/*a*a*a*a*b", 4)} {
		for range 20 {
			if out, err := glob.Skips(slices.Repeat([]string{rule}, 20), path); out || err != api.OK {
				t.Errorf("Skips of %q: %v, %v", rule, out, err)
			}
		}
	}
}
