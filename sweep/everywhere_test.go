package sweep_test

import (
	"math"
	"slices"
	"testing"

	"lumberroom/api"
	"lumberroom/sweep"
)

// next is a number up to 2^23 that shows no order.
func next(seed *int) int {
	*seed = (*seed*1103515245 + 12345) % (1 << 31)
	return *seed >> 8
}

// oddHeap is a right heap.
func oddHeap(seed int) api.Heap {
	seed = seed*7919 + 1
	things := [...]int{3, 6, 15, 41}[next(&seed)%4]
	h := api.Heap{Things: make([]api.Thing, next(&seed)%things), Busy: next(&seed)%2 == 1}
	gone := next(&seed) % 3 * 2
	var held []int
	for i := range h.Things {
		if next(&seed)%8 < gone {
			h.Things[i].Free = true
		} else {
			held = append(held, i)
		}
	}
	most := [...]int{2, 3, 6, 65}[next(&seed)%4]
	colours := next(&seed) % 3
	for _, i := range held {
		h.Things[i].Colour = [...][6]int{{}, {0, 1, 2, 0, 1, 2}, {0, 2, 0, 2, 0, 2}}[colours][next(&seed)%6]
		for range next(&seed) % most {
			h.Things[i].Kids = append(h.Things[i].Kids, held[next(&seed)%len(held)])
		}
	}
	most = [...]int{2, 3, 6, 65}[next(&seed)%4]
	for range next(&seed) % most {
		if len(held) > 0 {
			h.Roots = append(h.Roots, held[next(&seed)%len(held)])
		}
	}
	return h
}

// oddAct is an act upon the odd heap of that seed.
func oddAct(seed int) api.Act {
	count := len(oddHeap(seed).Things)
	seed = seed*104729 + 1
	a := api.Act{Kind: next(&seed)%6 + 1}
	a.From = next(&seed)%(count+2) - 1
	a.To = next(&seed)%(count+2) - 1
	if next(&seed)%2 == 0 {
		a.To = next(&seed) % 3
	}
	return a
}

// spare is a heap with all memory behind its lists.
func spare(h api.Heap) api.Heap {
	h = api.Heap{Things: slices.Clone(h.Things[:cap(h.Things)]), Roots: h.Roots[:cap(h.Roots)], Busy: h.Busy}
	for i, x := range h.Things {
		h.Things[i].Kids = x.Kids[:cap(x.Kids)]
	}
	return h
}

// roomy is a heap with spare memory behind its lists.
func roomy(h api.Heap) api.Heap {
	h.Things = append(make([]api.Thing, 0, len(h.Things)+3), h.Things...)
	for i, x := range h.Things {
		h.Things[i].Kids = append(make([]int, 0, len(x.Kids)+3), x.Kids...)
	}
	h.Roots = append(make([]int, 0, len(h.Roots)+3), h.Roots...)
	return h
}

// checkAll: whatever comes, the calls answer what they should, the same each
// time, and leave the lists and their spare memory as they were.
func checkAll(t *testing.T, h api.Heap, acts ...api.Act) {
	t.Helper()
	was := copied(spare(h))
	for range 2 {
		checkCheck(t, h)
		checkLive(t, h)
		for _, a := range acts {
			checkDo(t, h, a)
		}
	}
	if !same(spare(h), was) {
		t.Fatalf("a list was changed: %s", told(h))
	}
}

// allKinds are acts of each kind.
func allKinds(from, to int) []api.Act {
	var l []api.Act
	for kind := -1; kind < 9; kind++ {
		l = append(l, api.Act{Kind: kind, From: from, To: to})
	}
	return l
}

func TestCallsAnswerAnything(t *testing.T) {
	wild := []int{0, 1, 2, 3, 5, 64, 65}
	for i := range 64 {
		wild = append(wild, 1<<i, 1<<i-1, -1<<i)
	}
	wild = append(wild, noThings...)
	for i, n := range wild {
		for _, m := range []int{0, 1, 3, -1, n, wild[i*7%len(wild)], wild[i*31%len(wild)]} {
			checkAll(t, heap("w1,2 g0 b1 - | 0 !"), append(allKinds(n, m), api.Act{Kind: n, From: m, To: m}, api.Act{Kind: m, From: n, To: m})...)
		}
		for _, busy := range []bool{false, true} {
			h := lone(4)
			h.Busy = busy
			checkAll(t, with(h, 1, 0, n), allKinds(1, 0)...)
			checkAll(t, rooted(h, n, 1), allKinds(1, 0)...)
			checkAll(t, like(h, 2, n), allKinds(1, 2)...)
			checkAll(t, like(free(rooted(h), 2), 2, n), allKinds(1, 2)...)
			checkAll(t, with(free(rooted(h), 2), 2, n), allKinds(1, 2)...)
			checkAll(t, with(free(rooted(h), 2), 3, n), allKinds(1, 2)...)
		}
	}
	for _, count := range []int{0, 1, 39, 40, 41, 64, 65, 256, 1 << 16, 1 << 18} {
		for _, n := range []int{0, -1, 39, 40, math.MaxInt, math.MinInt} {
			checkAll(t, rooted(lone(count), n), allKinds(0, 0)...)
			checkAll(t, with(lone(3), 1, times(n, count)...), allKinds(1, 1)...)
			checkAll(t, rooted(lone(40), times(n, count)...), allKinds(1, 1)...)
		}
	}
	for seed := range 3000 {
		checkAll(t, oddHeap(seed), append(allKinds(seed%7, seed%3), oddAct(seed))...)
	}
}

// Things may have one list: each other's, a piece of it, or the roots.
func TestListsThatShareMemory(t *testing.T) {
	for seed := range 1000 {
		h := roomy(oddHeap(seed))
		for i := range h.Things {
			if h.Things[i].Free {
				continue
			}
			switch other := h.Things[i*7%(i+1)].Kids; {
			case i%3 == 0:
				h.Things[i].Kids = other
			case i%3 == 1:
				h.Things[i].Kids = h.Roots
			case len(other) > 1:
				h.Things[i].Kids = other[:len(other)-1]
			}
		}
		checkAll(t, h, append(allKinds(seed%5, seed%3), oddAct(seed))...)
		if len(h.Things) > 0 {
			h.Roots = h.Things[0].Kids
			checkAll(t, h, append(allKinds(seed%3, seed%5), oddAct(seed))...)
		}
	}
}

func TestCallsKeepNothing(t *testing.T) {
	h := heap("w1,2 g b0,3 w - | 0 2 1 !")
	live, err := sweep.Live(h)
	var answers []api.Heap
	for _, a := range []api.Act{mark, fresh, link(0, 3), cut(2, 1), hold(3), drop(1)} {
		g, wrong := sweep.Do(h, a)
		if wrong != api.OK || err != api.OK {
			t.Fatal("these are no acts to be asked for", err, wrong)
		}
		answers = append(answers, g)
	}
	liveWas := slices.Clone(live)
	var were []api.Heap
	for _, g := range answers {
		were = append(were, copied(g))
	}
	for seed := range 1000 {
		sweep.Check(oddHeap(seed))
		sweep.Live(oddHeap(seed))
		sweep.Do(oddHeap(seed), oddAct(seed))
		sweep.Do(h, oddAct(seed))
		for _, g := range answers {
			sweep.Live(g)
			sweep.Do(g, oddAct(seed))
		}
	}
	if !slices.Equal(live, liveWas) || !slices.EqualFunc(answers, were, same) {
		t.Error("an answer was changed by what was asked behind it")
	}
	checkAll(t, h, mark, fresh, link(0, 3), cut(2, 1), hold(3), drop(1))
}

// What was handed in may be written over, and so may another answer, spare
// memory included.
func TestListsAreMemoryOfTheirOwn(t *testing.T) {
	for seed := range 2000 {
		h, a := roomy(oddHeap(seed)), oddAct(seed)
		was := copied(spare(h))
		live, _ := sweep.Live(h)
		another, _ := sweep.Live(h)
		g, _ := sweep.Do(h, a)
		other, _ := sweep.Do(h, a)
		if !same(spare(h), was) {
			t.Fatalf("seed %d: a list was changed", seed)
		}
		overwrite(another, seed%2 == 0)
		overwriteHeap(other)
		overwriteHeap(h)
		if want, _ := slowLive(oddHeap(seed)); !slices.Equal(live, want) {
			t.Fatalf("seed %d: what is live changes with another list", seed)
		}
		want, _ := slowDo(oddHeap(seed), a)
		if !same(g, want) {
			t.Fatalf("seed %d: the heap changes with another list", seed)
		}
		checkOwnLists(t, g)
	}
}

// checkOwnLists: each list of a heap, spare memory included, may be written
// over, and no other one changes.
func checkOwnLists(t *testing.T, g api.Heap) {
	t.Helper()
	lists := [][]int{g.Roots}
	for _, x := range g.Things {
		lists = append(lists, x.Kids)
	}
	for i, l := range lists {
		overwrite(l, i+1000)
	}
	for i, l := range lists {
		for _, n := range l[:cap(l)] {
			if n != i+1000 {
				t.Fatalf("list %d of a heap shares memory with another one", i)
			}
		}
	}
}

// overwrite changes a list and its spare memory.
func overwrite[T any](l []T, with T) {
	for i := range l[:cap(l)] {
		l[:cap(l)][i] = with
	}
}

func overwriteHeap(h api.Heap) {
	for _, x := range h.Things[:cap(h.Things)] {
		overwrite(x.Kids, -1)
	}
	overwrite(h.Roots, -1)
	overwrite(h.Things, api.Thing{Kids: []int{-1}, Colour: 7, Free: true})
}

// A heap that was changed is gone through anew.
func TestListsAreNotRemembered(t *testing.T) {
	h := heap("w1,2 g2 b0,3 w w3,4 - w | 0 2 6 !")
	ask := func() { checkAll(t, h, mark, fresh, link(0, 4), link(3, 0), cut(2, 1), hold(3), drop(1)) }
	for i := range h.Things {
		was := h.Things[i]
		for _, x := range []api.Thing{{}, {Free: true}, {Colour: 1}, {Colour: 2, Kids: []int{i}}, {Kids: []int{5}}, {Colour: 3}, {Kids: []int{4, 6}}} {
			h.Things[i] = x
			ask()
		}
		h.Things[i] = was
		for j, kid := range was.Kids {
			for n := range 8 {
				was.Kids[j] = n
				ask()
			}
			was.Kids[j] = kid
		}
	}
	for i, root := range h.Roots {
		for n := range 8 {
			h.Roots[i] = n
			ask()
			h.Busy = !h.Busy
			ask()
		}
		h.Roots[i] = root
	}
}

// cutUp is a heap of so many things, each of the colour that a byte tells, with
// two bytes for each kid, and roots of what is behind a byte ff; a byte above
// all things is one of the numbers that are none.
func cutUp(count int, s string) api.Heap {
	h := api.Heap{Things: make([]api.Thing, count)}
	number := func(b byte) int {
		if int(b) >= count && b > 250 {
			return noThings[int(b)%len(noThings)]
		}
		return int(b) % max(count, 1)
	}
	for i := range min(count, len(s)) {
		switch b := int(s[i]); {
		case b == 255:
			h.Things[i].Colour = 3
		case b < 64:
			h.Things[i].Free = true
		default:
			h.Things[i].Colour = b % 3
		}
	}
	s = s[min(count, len(s)):]
	for len(s) >= 2 && s[0] != 255 && count > 0 {
		x := &h.Things[int(s[0])%count]
		if !x.Free || s[1] == 254 {
			x.Kids = append(x.Kids, number(s[1]))
		}
		s = s[2:]
	}
	for i := range s {
		h.Roots = append(h.Roots, number(s[i]))
	}
	return h
}

func FuzzHeaps(f *testing.F) {
	f.Add(byte(3), byte(0), byte(1), "abc\x00\x01\xff\x00")
	f.Add(byte(5), byte(2), byte(7), "cdefa\x00\x01\x01\x02\x02\x00\x03\x04\xff\x03\x01")
	f.Add(byte(40), byte(39), byte(0), "\xc7\xc6\xc6\xc5\xc5\xff\xff\xc7")
	f.Add(byte(41), byte(255), byte(128), "")
	f.Fuzz(func(t *testing.T, count, from, to byte, s string) {
		for _, things := range []int{int(count), int(count) % 41, int(count) % 8} {
			h := cutUp(things, s)
			for _, h.Busy = range []bool{false, true} {
				checkAll(t, h, append(allKinds(int(from), int(to)), allKinds(int(from)%8, int(to)%8)...)...)
			}
		}
	})
}
