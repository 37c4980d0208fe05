package glob_test

import (
	"slices"
	"strings"
	"testing"
	"unsafe"

	"lumberroom/api"
	"lumberroom/glob"
)

// odd has n bytes that show no order.
func odd(seed, n int) string {
	b := make([]byte, n)
	for i := range b {
		seed = (seed*1103515245 + 12345) % (1 << 31)
		b[i] = byte(seed >> 16)
	}
	return string(b)
}

// oddOf is of up to n of these parts, that show no order.
func oddOf(parts []string, seed, n int) string {
	var s string
	for _, c := range []byte(odd(seed, 1+seed%n)) {
		s += parts[int(c)%len(parts)]
	}
	return s
}

func oddPattern(seed int) string {
	return "/" + oddOf([]string{"a", "b", "*", "?", "/", "/**", "[a-b]", "[^a]", "[", "]", "-", "^", "\\", "\xc3\xb6", "[\xc3\xa4-\xc3\xb6]", "x*"}, seed, 12)
}

func oddPath(seed int) string {
	return oddOf([]string{"/a", "/b", "/ab", "/\xc3\xb6", "a", "b", "/*", "/x-", "]", "\\", "/" + long}, seed, 6)
}

func oddRules(seed int) []string {
	var l []string
	for i := range seed % 7 {
		rule := oddPattern(seed + 31*i)
		if (seed+i)%3 == 0 {
			rule = "!" + rule
		}
		l = append(l, rule)
	}
	return l
}

// checkAll: whatever comes, the calls answer what they should, the same each
// time.
func checkAll(t *testing.T, rules []string, pattern, path string) {
	t.Helper()
	for range 2 {
		checkCheck(t, pattern)
		checkCheck(t, path)
		checkMatch(t, pattern, path)
		checkMatch(t, path, pattern)
		checkSkips(t, rules, path)
		checkSkips(t, append(slices.Clone(rules), pattern), path)
		checkSkips(t, []string{pattern, "!" + pattern, path}, path)
	}
}

func TestCallsAnswerAnything(t *testing.T) {
	texts := []string{"", "/", "/a", "/a/b", "//", "!", "!/a", "\xff", "/\xff", "/" + tooLong, strings.Repeat("/a", 9)}
	for _, c := range wrongPatterns {
		texts = append(texts, c.pattern[:min(100, len(c.pattern))])
	}
	for _, a := range texts {
		for _, b := range texts {
			checkAll(t, nil, a, b)
			checkAll(t, []string{a}, b, "/a")
		}
	}
	for _, part := range []string{"/", "/a", "/**", "*", "?", "[", "]", "[a]", "[a-", "\\", "^", "-", "!", "\xff", "\xc3\xb6", long} {
		checkAll(t, []string{strings.Repeat(part, 1<<16)}, strings.Repeat(part, 1<<16), "/"+strings.Repeat(part, 1<<16))
		checkAll(t, slices.Repeat([]string{part}, 5000), "/"+part, "/a")
		for n := range 62 {
			checkAll(t, nil, "/"+strings.Repeat(part, n), "/"+strings.Repeat(part, n%25))
		}
	}
	checkSkips(t, make([]string, 20), "/a")
	checkSkips(t, make([]string, 1<<16), "/a")
	for seed := range 2000 {
		checkAll(t, oddRules(seed), odd(seed, seed%70), "/"+odd(seed+1, seed%30))
		checkAll(t, oddRules(seed), oddPattern(seed), oddPath(seed+1))
	}
}

// Right patterns that were not written by hand are tried, not only wrong ones.
func TestOddPatternsAreOfAllSorts(t *testing.T) {
	right, yes, out := 0, 0, 0
	for seed := range 5000 {
		pattern, path := oddPattern(seed), oddPath(seed*3)
		checkMatch(t, pattern, path)
		if glob.Check(pattern) == api.OK {
			right++
		}
		if is, _ := glob.Match(pattern, path); is {
			yes++
		}
		rules := []string{"/**/*b*", "!" + pattern, "/**/*", "!" + oddPattern(seed+1)}
		checkSkips(t, rules, path)
		if is, _ := glob.Skips(rules, path); is {
			out++
		}
	}
	if right < 500 || yes < 20 || out < 200 {
		t.Errorf("of 5000 only %d are right, %d match, %d are out", right, yes, out)
	}
}

func TestCallsKeepNothing(t *testing.T) {
	rules := []string{"/*", "!/b", "/[x-z]*"}
	for seed := range 500 {
		checkAll(t, oddRules(seed), oddPattern(seed), oddPath(seed))
		out, err := glob.Skips(rules, "/c/d")
		in, inErr := glob.Skips(rules, "/b/d")
		is, isErr := glob.Match("/**/[a-c]?", "/q/bx")
		if !out || in || !is || err != api.OK || inErr != api.OK || isErr != api.OK {
			t.Fatal("what was asked in between is to be seen in the answer")
		}
	}
}

// inMemory is s in memory that can be written to, with more behind it.
func inMemory(s string) (string, []byte) {
	memory := []byte(s + "/behind")
	return unsafe.String(unsafe.SliceData(memory), len(s)), memory
}

func TestTextsAreNotChanged(t *testing.T) {
	for seed := range 2000 {
		for _, pattern := range []string{oddPattern(seed), rightPatterns[seed%len(rightPatterns)]} {
			path := oddPath(seed)
			p, ofPattern := inMemory(pattern)
			s, ofPath := inMemory(path)
			r, ofRule := inMemory("!" + pattern)
			glob.Check(p)
			glob.Match(p, s)
			glob.Skips([]string{p, r}, s)
			if string(ofPattern) != pattern+"/behind" || string(ofPath) != path+"/behind" || string(ofRule) != "!"+pattern+"/behind" {
				t.Fatalf("the memory of %q, %q was changed", pattern, path)
			}
		}
	}
}

// The list of rules is left as it was, its spare memory included.
func TestRulesAreNotChanged(t *testing.T) {
	for seed := range 500 {
		rules := append(make([]string, 0, 12), oddRules(seed)...)
		for i := len(rules); i < cap(rules); i++ {
			rules[:cap(rules)][i] = "/spare"
		}
		before := slices.Clone(rules[:cap(rules)])
		for _, path := range []string{oddPath(seed), "/a/b/c"} {
			out, err := glob.Skips(rules, path)
			again, againErr := glob.Skips(slices.Clone(rules), path)
			if !slices.Equal(rules[:cap(rules)], before) {
				t.Fatalf("Skips changed its rules: %q", rules[:cap(rules)])
			}
			if out != again || err != againErr {
				t.Fatalf("Skips(%q, %q) hangs on spare memory", rules, path)
			}
		}
	}
}

func FuzzPatterns(f *testing.F) {
	for i, c := range matches {
		f.Add(c.pattern, slices.Concat(c.yes, c.no)[0], rightPatterns[i%len(rightPatterns)])
	}
	for _, c := range wrongPatterns {
		f.Add(c.pattern, "/a/b", "!/a")
	}
	for seed := range 20 {
		f.Add(oddPattern(seed), oddPath(seed), odd(seed, 20))
	}
	f.Fuzz(func(t *testing.T, pattern, path, rule string) {
		checkAll(t, []string{rule}, pattern, path)
		checkAll(t, []string{"/**", "!" + rule, "/" + pattern}, "/"+pattern, "/"+path)
	})
}
