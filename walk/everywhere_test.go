package walk_test

import (
	"math"
	"slices"
	"strings"
	"testing"
	"unsafe"

	"lumberroom/api"
	"lumberroom/walk"
)

// checkWorld: whatever comes, the calls answer what they should, the same each
// time, and leave the list and its spare memory as they were.
func checkWorld(t *testing.T, way api.Way, w []api.Item) {
	t.Helper()
	before := slices.Clone(w[:cap(w)])
	for range 2 {
		checkCheck(t, w)
		checkWayOK(t, way)
		checkPlant(t, way, w)
	}
	if !slices.Equal(w[:cap(w)], before) {
		t.Fatalf("a world of %d items was changed", len(w))
	}
}

// checkBlobs is the same of the calls that take blobs.
func checkBlobs(t *testing.T, l []api.Blob, root api.ID) {
	t.Helper()
	before := slices.Clone(l[:cap(l)])
	for range 2 {
		checkReap(t, l, root)
		for _, b := range l[:min(20, len(l))] {
			checkNeeds(t, b)
		}
	}
	if !slices.Equal(l[:cap(l)], before) {
		t.Fatalf("a list of %d blobs was changed", len(l))
	}
}

func TestCallsAnswerAnything(t *testing.T) {
	wild := []int{math.MinInt, -1 << 32, -1, 0, 1, 2, 3, 4, 15, 16, 257, 511, 512, 1024, 1025, 1<<32 + 1, math.MaxInt}
	for _, n := range wild {
		for _, m := range wild {
			for _, k := range wild {
				way := api.Way{Fixed: n, Cut: api.Cut{Min: n, Max: m, Bits: k}}
				w := []api.Item{{Path: "/a", Kind: n, Mode: m, Time: k}, {Path: "/a/b", Kind: m, Mode: k, Time: n, Bytes: odd(k, max(0, k%7))}, {Path: "/c", Kind: k, Mode: n, Time: m, Bytes: "c"}}
				checkWorld(t, way, w)
				checkWorld(t, api.Way{Cut: way.Cut}, w[2:])
				checkWorld(t, someWays[0], w[:1])
				checkWorld(t, someWays[0], w[1:])
			}
			b := api.Blob{Kind: n, Bytes: odd(m, max(0, m%7))}
			checkBlobs(t, []api.Blob{b, {Kind: m, Bytes: "\x00"}}, api.ID{byte(n)})
		}
	}
	huge := strings.Repeat("/h", 1<<19)
	for _, count := range []int{0, 1, 99, 100, 101, 1000, 1 << 17} {
		checkWorld(t, someWays[0], make([]api.Item, count))
		checkWorld(t, someWays[0], slices.Repeat([]api.Item{dir("/a")}, count))
	}
	for _, count := range []int{0, 1, 999, 1000, 1001, 1 << 17} {
		checkBlobs(t, make([]api.Blob, count), api.ID{})
		checkBlobs(t, slices.Repeat([]api.Blob{data("a")}, count), idOf(data("a")))
	}
	checkWorld(t, someWays[0], []api.Item{file(huge, "")})
	checkWorld(t, someWays[0], []api.Item{file("/"+strings.Repeat("h", 1<<20), "")})
	for kind := range 5 {
		checkWorld(t, someWays[0], []api.Item{{Path: "/a", Kind: kind, Bytes: huge}})
		checkBlobs(t, []api.Blob{{Kind: kind, Bytes: huge}}, api.ID{})
		for seed := range 500 {
			b := api.Blob{Kind: kind, Bytes: odd(seed, seed)}
			checkBlobs(t, []api.Blob{b, data(odd(seed, 3))}, api.ID([]byte(odd(seed, 8))))
			b.Bytes = "\x01\x01" + b.Bytes[:seed/20]
			checkBlobs(t, []api.Blob{data(odd(seed, 3)), b}, api.ID([]byte(odd(seed, 8))))
		}
	}
	for seed := range 200 {
		w := oddWorld(seed, seed)
		checkWorld(t, someWays[seed%len(someWays)], w)
		slices.Reverse(w)
		checkWorld(t, someWays[seed%len(someWays)], w)
	}
}

// The bytes of a directory that was planted, with one of them changed, are
// either refused or reaped as another world.
func TestReapOfChangedBlobs(t *testing.T) {
	l, root := planted(t, api.Way{Fixed: 100}, oddWorld(90, 40)[:12])
	for i, b := range l {
		for at := range b.Bytes {
			for _, c := range []byte{0, 1, 2, 3, 4, '/', 255, b.Bytes[at] + 1} {
				changed := []byte(b.Bytes)
				changed[at] = c
				other := api.Blob{Kind: b.Kind, Bytes: string(changed)}
				heap := slices.Insert(slices.Clone(l), i, other)
				checkReap(t, heap, idOf(other))
				if other != b {
					checkReapRefuses(t, slices.Concat(l[:i], []api.Blob{other}, l[i+1:]), root, api.ErrNone)
				}
			}
		}
	}
}

func TestCallsKeepNothing(t *testing.T) {
	way, w := api.Way{Fixed: 50}, oddWorld(2, 30)
	l, root := planted(t, way, w)
	reaped, _ := walk.Reap(l, root)
	needs, _ := walk.Needs(l[len(l)-1])
	keptBlobs, keptNeeds := slices.Clone(l), slices.Clone(needs)
	for _, v := range someWorlds() {
		other, otherRoot, _ := walk.Plant(way, v)
		walk.Reap(other, otherRoot)
		walk.Needs(other[len(other)-1])
	}
	walk.Plant(way, w[5:])
	walk.Reap(l[5:], root)
	if !slices.Equal(l, keptBlobs) || !slices.Equal(reaped, w) || !slices.Equal(needs, keptNeeds) {
		t.Error("an answer was changed by what was asked behind it")
	}
	again, rootAgain := planted(t, way, w)
	needsAgain, _ := walk.Needs(l[len(l)-1])
	if !slices.Equal(again, l) || rootAgain != root || !slices.Equal(needsAgain, needs) {
		t.Error("what was asked in between is to be seen in the answer")
	}
	// Blobs of an earlier call are no part of a later one's.
	checkReapRefuses(t, l[1:], root, api.ErrNone)
	a, b := colliding(t)
	for _, s := range []string{a, b, a} {
		if _, _, err := walk.Plant(api.Way{Fixed: 16}, []api.Item{file("/a", s)}); err != api.OK {
			t.Errorf("Plant: %v", err)
		}
	}
}

// inMemory is s in memory that can be written to.
func inMemory(s string) (string, []byte) {
	memory := []byte(s + "behind")
	return unsafe.String(unsafe.SliceData(memory), len(s)), memory
}

// The memory of what is planted is not changed, and blobs are other memory,
// also where a piece is a whole file.
func TestWorldsAreNotChangedAndNotKept(t *testing.T) {
	for _, right := range someWorlds() {
		for _, way := range someWays {
			var memories [][]byte
			w := make([]api.Item, len(right), len(right)+5)
			for i, x := range right {
				path, ofPath := inMemory(x.Path)
				bytes, ofBytes := inMemory(x.Bytes)
				memories = append(memories, ofPath, ofBytes)
				x.Path, x.Bytes = path, bytes
				w[i] = x
			}
			walk.Check(w)
			l, root, err := walk.Plant(way, w)
			if !slices.Equal(w, right) || slices.ContainsFunc(w[len(w):cap(w)], func(x api.Item) bool { return x != api.Item{} }) {
				t.Fatalf("a world of %d items was changed", len(w))
			}
			for i, x := range right {
				if string(memories[2*i]) != x.Path+"behind" || string(memories[2*i+1]) != x.Bytes+"behind" {
					t.Fatalf("the texts of item %d of %d were changed", i, len(right))
				}
			}
			for _, memory := range memories {
				clear(memory)
			}
			clear(w)
			want, wantRoot := planted(t, way, right)
			if !slices.Equal(l, want) || root != wantRoot || err != api.OK {
				t.Fatalf("the blobs of %d items change with them", len(right))
			}
		}
	}
}

func TestBlobsAreNotChangedAndNotKept(t *testing.T) {
	for _, w := range someWorlds() {
		for _, way := range someWays {
			right, root := planted(t, way, w)
			var memories [][]byte
			l := make([]api.Blob, len(right), len(right)+5)
			for i, b := range right {
				bytes, memory := inMemory(b.Bytes)
				memories = append(memories, memory)
				l[i] = api.Blob{Kind: b.Kind, Bytes: bytes}
			}
			got, err := walk.Reap(l, root)
			needs, _ := walk.Needs(l[len(l)-1])
			want, _ := slowNeeds(right[len(l)-1])
			if !slices.Equal(l, right) || slices.ContainsFunc(l[len(l):cap(l)], func(b api.Blob) bool { return b != api.Blob{} }) {
				t.Fatalf("a list of %d blobs was changed", len(l))
			}
			for i, memory := range memories {
				if string(memory) != right[i].Bytes+"behind" {
					t.Fatalf("the bytes of blob %d of %d were changed", i, len(l))
				}
				clear(memory)
			}
			clear(l)
			if !slices.Equal(got, w) || err != api.OK {
				t.Fatalf("%d items change with the blobs they were reaped from", len(w))
			}
			if !slices.Equal(needs, want) {
				t.Fatal("what a blob needs changes with it")
			}
		}
	}
}

// Not even the spare memory of a list is another one's.
func TestListsAreMemoryOfTheirOwn(t *testing.T) {
	for _, w := range someWorlds() {
		l, root := planted(t, someWays[1], w)
		for range 3 {
			blobs, _ := planted(t, someWays[1], w)
			items, _ := walk.Reap(l, root)
			needs, _ := walk.Needs(l[len(l)-1])
			want, _ := slowNeeds(l[len(l)-1])
			if !slices.Equal(blobs, l) || !slices.Equal(items, w) || !slices.Equal(needs, want) {
				t.Fatalf("two answers of %d items share memory", len(w))
			}
			for i := range blobs[:cap(blobs)] {
				blobs[:cap(blobs)][i] = data("other")
			}
			for i := range items[:cap(items)] {
				items[:cap(items)][i] = file("/other", "")
			}
			for i := range needs[:cap(needs)] {
				needs[:cap(needs)][i] = api.ID{99}
			}
		}
	}
}

// A list that was changed is gone through anew.
func TestListsAreNotRemembered(t *testing.T) {
	w := oddWorld(3, 40)
	l, root := planted(t, someWays[2], w)
	for i := range w {
		w[i].Time++
		checkWorld(t, someWays[2], w)
		w[i].Mode += 400
		checkWorld(t, someWays[2], w)
		w[i].Mode %= 512
	}
	for i := range l {
		right := l[i]
		l[i] = data("changed")
		checkBlobs(t, l, root)
		l[i] = right
	}
	checkReaped(t, l, root, oddWorld(3, 40))
}

// cutUp are items of 8 bytes each, most of them nearly right: the first byte
// tells how many names of the path ahead are the item's too.
func cutUp(s string) []api.Item {
	var w []api.Item
	var ahead []string
	for ; len(s) >= 8; s = s[8:] {
		names := append(slices.Clone(ahead[:min(len(ahead), int(s[0])%10)]), strings.TrimSpace(s[1:3]))
		x := api.Item{Path: "/" + strings.Join(names, "/"), Kind: int(s[3]) % 5, Mode: int(s[4])*3 - 1, Time: int(int8(s[5]))}
		x.Bytes = strings.Repeat(s[6:7], int(s[7])*int(s[0]>>4))
		w = append(w, x)
		ahead = names
	}
	return w
}

func FuzzWorlds(f *testing.F) {
	f.Add("\x00 a\x02100\x00\x01 b\x01100\x05\x02 c\x03200\x10", 16, 16, 64, 4)
	f.Add(odd(1, 400), 0, 16, 64, 4)
	f.Add("", 1024, 0, 0, 0)
	f.Fuzz(func(t *testing.T, s string, fixed, least, most, bits int) {
		way := api.Way{Fixed: fixed, Cut: api.Cut{Min: least, Max: most, Bits: bits}}
		w := cutUp(s)
		checkWorld(t, way, w)
		// Of the same items the right ones are a world.
		var right []api.Item
		for _, x := range w {
			if walk.Check(append(right, x)) == api.OK {
				right = append(right, x)
			}
		}
		checkWorld(t, way, right)
		if l, root, err := walk.Plant(someWays[len(s)%10], right); err == api.OK {
			checkReaped(t, l, root, right)
		}
	})
}

func FuzzBlobs(f *testing.F) {
	for seed := range 20 {
		f.Add(seed, 1, 1, "\x01")
		f.Add(seed, 100, seed, "\x00")
	}
	f.Fuzz(func(t *testing.T, seed, which, at int, other string) {
		l := oddHeap(t, seed)
		i := int(uint(which) % uint(len(l)))
		checkBlobs(t, l, idOf(l[i]))
		s := l[i].Bytes
		at = int(uint(at) % uint(len(s)+1))
		changed := api.Blob{Kind: l[i].Kind, Bytes: s[:at] + other + s[min(len(s), at+len(other)):]}
		l = append(l, changed)
		checkBlobs(t, l, idOf(l[0]))
		if len(changed.Bytes) <= 4096 {
			checkBlobs(t, l, idOf(changed))
		}
	})
}
