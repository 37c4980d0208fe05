package shield_test

import (
	"math"
	"slices"
	"strings"
	"testing"
	"unsafe"

	"lumberroom/api"
	"lumberroom/shield"
)

// guardError is the error that Guard is to tell.
func guardError(parts []string, p int) api.Errno {
	if len(parts) == 0 || len(parts) > 16 || p <= 0 || p > 8 {
		return api.ErrArg
	}
	for _, s := range parts {
		if len(s) > 4096 {
			return api.ErrLarge
		}
		if len(s) != len(parts[0]) {
			return api.ErrForm
		}
	}
	return api.OK
}

// checkCalls: whatever is handed in, the calls answer what they should, the
// same each time, and leave the lists and their spare memory as they were.
func checkCalls(t *testing.T, l []api.Shard, n, p int) {
	t.Helper()
	var parts []string
	for _, s := range l {
		parts = append(parts, s.Bytes)
	}
	shardMemory, partMemory := slices.Clone(l[:cap(l)]), slices.Clone(parts[:cap(parts)])
	want := guardError(parts, p)
	var guards []string
	if want == api.OK {
		guards = slowGuards(parts, p)
	}
	for range 2 {
		if got, err := shield.Guard(parts, p); !slices.Equal(got, guards) || err != want {
			t.Errorf("Guard of %d parts, %d: %.40x, %v, want %.40x, %v", len(parts), p, got, err, guards, want)
		}
		checkMend(t, l, n)
	}
	if !slices.Equal(l[:cap(l)], shardMemory) || !slices.Equal(parts[:cap(parts)], partMemory) {
		t.Errorf("a list of %d was changed", len(l))
	}
}

func TestCallsAnswerAnything(t *testing.T) {
	wild := []int{math.MinInt, -1 << 32, -8, -1, 0, 1, 2, 8, 9, 16, 17, 24, 1 << 32, math.MaxInt}
	for _, n := range wild {
		for _, p := range wild {
			for _, count := range []int{0, 1, 2, 9, 10, 16, 17, 24, 25, 100} {
				checkCalls(t, shards(repeat(3, count)...), n, p)
				checkCalls(t, shards(repeat(3, 100)...)[:count], n, p)
				checkCalls(t, shards(repeat(-3, count)...), n, p)
				checkCalls(t, shards(repeat(0, count)...), n, p)
			}
		}
	}
	for i, c := range unmended {
		checkCalls(t, c.l, c.n, 1+i%8)
		checkCalls(t, c.l, 1+i%16, c.n)
	}
	for _, c := range mended {
		checkCalls(t, c.l, len(c.parts), len(c.l)-len(c.parts))
	}
	checkCalls(t, shards(repeat(4096, 16)...), 8, 8)
	checkCalls(t, shards(repeat(4096, 24)...), 16, 8)
	checkCalls(t, shards(1<<20, 1<<20), 1, 1)
}

func TestCallsKeepNothing(t *testing.T) {
	parts := oddParts(1, 5, 40)
	guards, _ := shield.Guard(parts, 3)
	l := without(shardsOf(parts, 3), 0b101)
	made, _ := shield.Mend(l, 5)
	keptGuards, keptMade := slices.Clone(guards), slices.Clone(made)
	for _, c := range guarded {
		shield.Guard(c.parts, len(c.guards))
	}
	for _, c := range unguarded {
		shield.Guard(c.parts, c.p)
	}
	for _, c := range mended {
		shield.Mend(c.l, len(c.parts))
		shield.Check(c.l, len(c.parts))
	}
	for _, c := range unmended {
		shield.Mend(c.l, c.n)
		shield.Check(c.l, c.n)
	}
	if !slices.Equal(guards, keptGuards) || !slices.Equal(made, keptMade) {
		t.Error("an answer was changed by what was asked behind it")
	}
	guardsAgain, _ := shield.Guard(parts, 3)
	madeAgain, _ := shield.Mend(l, 5)
	if !slices.Equal(guardsAgain, guards) || !slices.Equal(madeAgain, parts) || shield.Check(l, 5) != api.OK {
		t.Error("what was asked in between is to be seen in the answer")
	}
}

// inMemory are texts in one memory that can be written to, with more behind each.
func inMemory(l []string) ([]string, []byte) {
	memory := []byte(strings.Join(l, "behind it") + "behind it")
	var texts []string
	at := 0
	for _, s := range l {
		texts = append(texts, unsafe.String(unsafe.SliceData(memory[at:]), len(s)))
		at += len(s) + len("behind it")
	}
	return texts, memory
}

// checkMemory: the memory of texts is not changed, and the answer's is another.
func checkMemory(t *testing.T, call func([]string) []string, l []string) {
	t.Helper()
	texts, memory := inMemory(l)
	before := string(memory)
	got := call(texts)
	if string(memory) != before {
		t.Fatalf("the memory of %.20q was changed", l)
	}
	kept := strings.Clone(strings.Join(got, "|"))
	for i := range memory {
		memory[i] ^= 255
	}
	clear(texts)
	if strings.Join(got, "|") != kept {
		t.Errorf("what is answered to %.20q changes with its memory", l)
	}
}

func TestTextsAreNotChangedAndNotKept(t *testing.T) {
	for n := 1; n <= api.MaxParts; n++ {
		for p := 1; p <= api.MaxGuards; p++ {
			parts := oddParts(n+p, n, 6)
			checkMemory(t, func(texts []string) []string {
				guards, _ := shield.Guard(texts, p)
				return guards
			}, parts)
			all := slices.Concat(parts, slowGuards(parts, p))
			for _, lost := range []uint32{0, 1, 1<<p - 1, (1<<p - 1) << n} {
				checkMemory(t, func(texts []string) []string {
					var l []api.Shard
					for k, s := range texts {
						l = append(l, api.Shard{Has: lost>>k&1 == 0, Bytes: s})
					}
					shield.Check(l, n)
					made, _ := shield.Mend(l, n)
					return made
				}, all)
			}
		}
	}
}

// spans are the places in memory of texts that are not empty.
func spans(l []string) [][2]uintptr {
	var all [][2]uintptr
	for _, s := range l {
		if s != "" {
			at := uintptr(unsafe.Pointer(unsafe.StringData(s)))
			all = append(all, [2]uintptr{at, at + uintptr(len(s))})
		}
	}
	slices.SortFunc(all, func(a, b [2]uintptr) int { return int(a[0]) - int(b[0]) })
	return all
}

func TestAnswersAreMemoryOfTheirOwn(t *testing.T) {
	for n := 1; n <= api.MaxParts; n++ {
		for p := 1; p <= api.MaxGuards; p++ {
			parts := slices.Repeat([]string{"the same"}, n)
			l := shardsOf(parts, p)
			all := []string{parts[0]}
			for _, s := range l[n:] {
				all = append(all, s.Bytes)
			}
			for range 2 {
				guards, _ := shield.Guard(parts, p)
				whole, _ := shield.Mend(l, n)
				made, _ := shield.Mend(without(l, 1<<p-1), n)
				all = slices.Concat(all, guards, whole, made)
			}
			at := spans(all)
			for i := 1; i < len(at); i++ {
				if at[i-1][1] > at[i][0] {
					t.Fatalf("%d parts, %d guards: two answers share memory", n, p)
				}
			}
		}
	}
}

// Not even the spare memory of a list is another one's.
func TestListsAreMemoryOfTheirOwn(t *testing.T) {
	parts := oddParts(1, 5, 40)
	l := shardsOf(parts, 3)
	for _, ask := range []func() []string{
		func() []string { guards, _ := shield.Guard(parts, 3); return guards },
		func() []string { made, _ := shield.Mend(l, 5); return made },
		func() []string { made, _ := shield.Mend(without(l, 0b111), 5); return made },
	} {
		first := ask()
		want := slices.Clone(first)
		second := ask()
		for i := range second[:cap(second)] {
			second[:cap(second)][i] = "other"
		}
		if third := ask(); !slices.Equal(first, want) || !slices.Equal(third, want) {
			t.Error("two answers share a list's memory")
		}
	}
	if !slices.Equal(parts, oddParts(1, 5, 40)) || !slices.Equal(l, shardsOf(parts, 3)) {
		t.Error("an answer shares a list's memory with what was handed in")
	}
}

// A list that was changed is read anew.
func TestListsAreNotKept(t *testing.T) {
	l := shards(repeat(4, 12)...)
	for i := range l {
		checkCalls(t, l, 8, 4)
		l[i].Has = i%3 != 0
		l[11-i].Bytes = odd(i+20, 4)
	}
}

// FuzzShards cuts odd bytes into shards, one of which may be longer.
func FuzzShards(f *testing.F) {
	f.Add("some bytes that are cut into shards", 5, 4, 3, 2, uint32(0b10110), 99)
	f.Add("", 24, 0, 16, 8, uint32(0xffff00), 0)
	f.Fuzz(func(t *testing.T, s string, count, size, n, p int, has uint32, longer int) {
		l := make([]api.Shard, count&31)
		size &= 15
		for k := range l {
			bytes := make([]byte, size)
			s = s[copy(bytes, s):]
			l[k] = api.Shard{Has: has>>k&1 == 1, Bytes: string(bytes)}
			if k == longer {
				l[k].Bytes += s
			}
		}
		checkCalls(t, l, n, p)
		// Most of the numbers that come are wrong ones: these are right more often.
		checkCalls(t, l, 1+n&15, 1+p&7)
	})
}

// FuzzLosses guards odd parts, and loses some of the shards.
func FuzzLosses(f *testing.F) {
	f.Add(1, 16, 8, 20, uint32(0x00aa55))
	f.Add(2, 1, 1, 0, uint32(1))
	f.Fuzz(func(t *testing.T, seed, n, p, size int, lost uint32) {
		n, p = 1+n&15, 1+p&7
		parts := oddParts(seed, n, size&63)
		checkLoss(t, shardsOf(parts, p), parts, lost&(1<<(n+p)-1))
	})
}
