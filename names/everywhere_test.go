package names_test

import (
	"slices"
	"strings"
	"testing"
	"unsafe"

	"lumberroom/api"
	"lumberroom/names"
)

// odd has n bytes that show no order.
func odd(seed, n int) string {
	b := make([]byte, n)
	for i := range b {
		seed = (seed*1103515245 + 12345) % (1 << 31)
		b[i] = byte(seed >> 16)
	}
	return string(b)
}

// oddPath is of parts that show no order, of which most may be in a path.
func oddPath(seed int) string {
	parts := []string{"/a", "/bc", "/\xc3\xb6", "/.", "/..", "/", ".", "/" + long, "/...", "/x y", "!", "/\xef\xbf\xbd"}
	var p string
	for _, c := range []byte(odd(seed, 1+seed%20)) {
		p += parts[int(c)%len(parts)]
	}
	return p
}

// checkAll: whatever comes, the calls answer what they should, the same each
// time.
func checkAll(t *testing.T, a, b string) {
	t.Helper()
	for range 2 {
		for _, s := range []string{a, b} {
			checkCheck(t, s)
			checkSplit(t, s)
			checkClean(t, s)
			checkJoin(t, strings.Split(s, "/"))
		}
		checkJoin(t, []string{a})
		checkJoin(t, []string{a, b})
		checkLess(t, a, b)
	}
}

func TestCallsAnswerAnything(t *testing.T) {
	texts := []string{""}
	for _, c := range someNames {
		texts = append(texts, c.name[:min(200, len(c.name))])
	}
	for _, c := range wrongPaths {
		texts = append(texts, c.p[:min(200, len(c.p))])
	}
	for _, c := range rightPaths {
		texts = append(texts, c.p)
	}
	for _, a := range texts {
		for _, b := range texts {
			checkAll(t, a, b)
		}
	}
	for _, part := range []string{"/", "/a", "../", "a/../", "./", "\xff", "\xc3\xb6", long} {
		checkAll(t, strings.Repeat(part, 1<<16), "/"+strings.Repeat(part, 1<<16))
	}
	for seed := range 3000 {
		checkAll(t, odd(seed, seed%50), "/"+odd(seed+1, seed%30))
		checkAll(t, oddPath(seed), oddPath(seed+1))
	}
	checkJoin(t, make([]string, 5000))
	checkJoin(t, slices.Repeat([]string{"a"}, 5000))
}

func TestCallsKeepNothing(t *testing.T) {
	split, _ := names.Split("/a/b/c")
	want := slices.Clone(split)
	for seed := range 500 {
		checkAll(t, odd(seed, seed%50), oddPath(seed))
	}
	again, err := names.Split("/a/b/c")
	if !slices.Equal(split, want) || !slices.Equal(again, want) || err != api.OK {
		t.Error("what was asked in between is to be seen in the answer")
	}
}

// inMemory is s in memory that can be written to, with more behind it.
func inMemory(s string) (string, []byte) {
	memory := []byte(s + "/behind")
	return unsafe.String(unsafe.SliceData(memory), len(s)), memory
}

func TestTextsAreNotChangedAndNotKept(t *testing.T) {
	for seed := range 2000 {
		for _, p := range []string{oddPath(seed), rightPaths[seed%len(rightPaths)].p} {
			text, memory := inMemory(p)
			err := names.Check(text)
			split, splitErr := names.Split(text)
			clean, cleanErr := names.Clean(text)
			names.Less(text, text)
			if string(memory) != p+"/behind" {
				t.Fatalf("the memory of %q was changed", p)
			}
			clear(memory)
			wantSplit, wantSplitErr := slowSplit(p)
			wantClean, wantCleanErr := slowClean(p)
			if err != slowCheck(p) || !slices.Equal(split, wantSplit) || splitErr != wantSplitErr || clean != wantClean || cleanErr != wantCleanErr {
				t.Fatalf("an answer of %q shares its memory", p)
			}
		}
	}
}

// What is joined has memory of its own, and the list is left as it was, its
// spare memory included.
func TestListsAreNotChangedAndNotKept(t *testing.T) {
	for _, c := range rightPaths {
		var memories [][]byte
		l := make([]string, 0, len(c.l)+5)
		for _, name := range c.l {
			text, memory := inMemory(name)
			l, memories = append(l, text), append(memories, memory)
		}
		for i := len(l); i < cap(l); i++ {
			l[:cap(l)][i] = "spare"
		}
		before := slices.Clone(l[:cap(l)])
		p, err := names.Join(l)
		if !slices.Equal(l[:cap(l)], before) || !slices.Equal(l, c.l) {
			t.Errorf("Join changed its list: %q", l)
		}
		for _, memory := range memories {
			clear(memory)
		}
		clear(l[:cap(l)])
		if p != c.p || err != api.OK {
			t.Errorf("what was joined to %q shares memory with its names: %q, %v", c.p, p, err)
		}
	}
}

// share tells whether two texts have a byte of memory in common.
func share(a, b string) bool {
	if a == "" || b == "" {
		return false
	}
	a0 := uintptr(unsafe.Pointer(unsafe.StringData(a)))
	b0 := uintptr(unsafe.Pointer(unsafe.StringData(b)))
	return a0 < b0+uintptr(len(b)) && b0 < a0+uintptr(len(a))
}

// Also where one name is all there is.
func TestAnswersAreMemoryOfTheirOwn(t *testing.T) {
	for _, c := range rightPaths {
		// The texts of the table may lie in memory that is shared already.
		p := strings.Clone(c.p)
		first, _ := names.Split(p)
		second, _ := names.Split(p)
		joined, _ := names.Join(first)
		all := slices.Concat([]string{p, joined}, first, second)
		if p != "/" {
			// Of the root's path, of which there is nothing to be made, one is enough.
			clean, _ := names.Clean(p)
			all = append(all, clean)
		}
		for i, a := range all {
			for _, b := range all[i+1:] {
				if share(a, b) {
					t.Errorf("of %q two answers share memory: %q, %q", c.p, a, b)
				}
			}
		}
	}
}

// Not even the spare memory of a list is another one's.
func TestListsAreMemoryOfTheirOwn(t *testing.T) {
	for _, c := range rightPaths {
		first, _ := names.Split(c.p)
		second, _ := names.Split(c.p)
		for i := range second[:cap(second)] {
			second[:cap(second)][i] = "other"
		}
		if third, _ := names.Split(c.p); !slices.Equal(first, c.l) || !slices.Equal(third, c.l) {
			t.Errorf("two lists of %q share memory", c.p)
		}
		if slices.Contains(first[len(first):cap(first)], "other") {
			t.Errorf("two lists of %q share spare memory", c.p)
		}
	}
}

func FuzzPaths(f *testing.F) {
	for i, c := range rightPaths {
		f.Add(c.p, wrongPaths[i].p)
		f.Add(wrongPaths[i+len(rightPaths)].p, c.p)
	}
	for seed := range 20 {
		f.Add(oddPath(seed), odd(seed, 20))
	}
	f.Fuzz(func(t *testing.T, a, b string) {
		checkAll(t, a, b)
		checkAll(t, "/"+a, "/"+a+"/"+b)
	})
}
