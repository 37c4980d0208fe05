package graph_test

import (
	"math"
	"slices"
	"testing"

	"lumberroom/api"
	"lumberroom/graph"
)

// next is a number up to 2^23 that shows no order.
func next(seed *int) int {
	*seed = (*seed*1103515245 + 12345) % (1 << 31)
	return *seed >> 8
}

// oddKids is a right graph: of one seed in three anything is anything's kid,
// of the others things wait for those ahead of them in some order, of some of
// these but for one kid.
func oddKids(seed int) [][]int {
	kind := seed % 3
	seed = seed*7919 + 1
	things := [...]int{4, 12, 50, 201}[next(&seed)%4]
	count := next(&seed) % things
	most := [...]int{2, 3, 6, 65}[next(&seed)%4]
	order := make([]int, count)
	for i := range order {
		at := next(&seed) % (i + 1)
		order[i] = order[at]
		order[at] = i
	}
	kids := make([][]int, count)
	for i, thing := range order {
		for range next(&seed) % most {
			if kind == 0 {
				kids[thing] = append(kids[thing], next(&seed)%count)
			} else if i > 0 {
				kids[thing] = append(kids[thing], order[next(&seed)%i])
			}
		}
	}
	if kind == 2 && count > 0 {
		kids[next(&seed)%count] = []int{next(&seed) % count}
	}
	return kids
}

// oddRoots are right roots of the odd graph of that seed.
func oddRoots(seed int) []int {
	count := len(oddKids(seed))
	seed = seed*104729 + 1
	most := [...]int{2, 3, 8, 65}[next(&seed)%4]
	var roots []int
	for range next(&seed) % most {
		if count > 0 {
			roots = append(roots, next(&seed)%count)
		}
	}
	return roots
}

// copied is a graph in memory of its own, spare memory included, and all
// memory behind it, as it is now.
func copied(kids [][]int) [][]int {
	another := slices.Clone(kids[:cap(kids)])
	for i, has := range another {
		another[i] = slices.Clone(has[:cap(has)])
	}
	return another
}

// same tells whether what was copied is as it was.
func same(kids, was [][]int) bool {
	return slices.EqualFunc(kids[:cap(kids)], was, func(has, had []int) bool { return slices.Equal(has[:cap(has)], had) })
}

// checkAll: whatever comes, the calls answer what they should, the same each
// time, and leave the lists and their spare memory as they were.
func checkAll(t *testing.T, kids [][]int, roots []int) {
	t.Helper()
	was, rootsWere := copied(kids), slices.Clone(roots[:cap(roots)])
	for range 2 {
		checkCheck(t, kids)
		checkReach(t, kids, roots)
		checkOrder(t, kids)
	}
	if !same(kids, was) || !slices.Equal(roots[:cap(roots)], rootsWere) {
		t.Fatalf("a list was changed: of %s and %v", short(kids), few(roots))
	}
}

func TestCallsAnswerAnything(t *testing.T) {
	wild := []int{0, 1, 2, 3, 5, 64, 65}
	for i := range 64 {
		wild = append(wild, 1<<i, 1<<i-1, -1<<i)
	}
	wild = append(wild, noThings...)
	for _, n := range wild {
		for _, m := range wild {
			checkAll(t, [][]int{{n}, {m, n}, nil, {0}}, []int{3, 0})
			checkAll(t, [][]int{{1}, nil, {0}}, []int{n, m})
			checkAll(t, [][]int{{1}, {n}}, []int{m})
		}
	}
	for _, count := range []int{0, 1, 64, 65, 200, 201, 1 << 16, 1 << 20} {
		for _, n := range []int{0, -1, 199, math.MaxInt, math.MinInt} {
			checkAll(t, lone(count), []int{n})
			checkAll(t, slices.Repeat([][]int{{n}}, count), []int{0})
			checkAll(t, [][]int{nil, times(n, count), {2}}, []int{1})
			checkAll(t, lone(200), times(n, count))
		}
	}
	for seed := range 3000 {
		checkAll(t, oddKids(seed), oddRoots(seed))
	}
}

// Things may have one list: each other's, a piece of it, or the roots.
func TestListsThatShareMemory(t *testing.T) {
	for seed := range 300 {
		kids, roots := oddKids(seed), oddRoots(seed)
		for i := range kids {
			switch j := i * 7 % (i + 1); {
			case i%3 == 0:
				kids[i] = kids[j]
			case i%3 == 1:
				kids[i] = roots
			case len(kids[j]) > 1:
				kids[i] = kids[j][1:]
			}
		}
		checkAll(t, kids, roots)
		if len(kids) > 0 {
			checkAll(t, kids, kids[0])
		}
	}
}

func TestCallsKeepNothing(t *testing.T) {
	kids, roots := oddKids(182), oddRoots(182)
	reached, err := graph.Reach(kids, roots)
	order, err2 := graph.Order(kids)
	if err != api.OK || err2 != api.OK || len(order) < 20 || len(roots) < 2 {
		t.Fatal("this is no graph to be asked about", len(order), len(roots), err, err2)
	}
	reachedWas, orderWas := slices.Clone(reached), slices.Clone(order)
	for seed := range 1000 {
		graph.Check(oddKids(seed))
		graph.Reach(oddKids(seed), oddRoots(seed))
		graph.Reach(kids, oddRoots(seed))
		graph.Reach(oddKids(seed), roots)
		graph.Order(oddKids(seed))
	}
	if !slices.Equal(reached, reachedWas) || !slices.Equal(order, orderWas) {
		t.Error("an answer was changed by what was asked behind it")
	}
	again, _ := graph.Reach(kids, roots)
	orderAgain, _ := graph.Order(kids)
	if !slices.Equal(again, reachedWas) || !slices.Equal(orderAgain, orderWas) {
		t.Error("what was asked in between is to be seen in the answer")
	}
}

// What was handed in may be written over, and so may another answer, spare
// memory included.
func TestListsAreMemoryOfTheirOwn(t *testing.T) {
	for seed := range 1000 {
		kids := append(make([][]int, 0, 205), oddKids(seed)...)
		for i := range kids {
			kids[i] = append(make([]int, 0, len(kids[i])+3), kids[i]...)
		}
		roots := append(make([]int, 0, 70), oddRoots(seed)...)
		was, rootsWere := copied(kids), slices.Clone(roots[:cap(roots)])
		reached, _ := graph.Reach(kids, roots)
		another, _ := graph.Reach(kids, roots)
		order, _ := graph.Order(kids)
		orderOther, _ := graph.Order(kids)
		if !same(kids, was) || !slices.Equal(roots[:cap(roots)], rootsWere) {
			t.Fatalf("seed %d: a list was changed", seed)
		}
		overwrite(another, seed%2 == 0)
		overwrite(orderOther, -1)
		for _, has := range kids {
			overwrite(has, -1)
		}
		overwrite(roots, -1)
		overwrite(kids, nil)
		if want, _ := slowReach(oddKids(seed), oddRoots(seed)); !slices.Equal(reached, want) {
			t.Fatalf("seed %d: what is reached changes with another list", seed)
		}
		if want, _ := slowOrder(oddKids(seed)); !slices.Equal(order, want) {
			t.Fatalf("seed %d: the order changes with another list", seed)
		}
		checkAll(t, oddKids(seed), oddRoots(seed))
	}
}

// overwrite changes a list and its spare memory.
func overwrite[T any](l []T, with T) {
	for i := range l[:cap(l)] {
		l[:cap(l)][i] = with
	}
}

// A list that was changed is gone through anew.
func TestListsAreNotRemembered(t *testing.T) {
	kids, roots := down(30), []int{15, 4}
	for thing := range kids {
		had := kids[thing]
		for _, has := range [][]int{nil, {0}, {thing}, {29}, {-1}, {30}, {(thing + 1) % 30, (thing + 9) % 30}, times(0, 65)} {
			kids[thing] = has
			checkAll(t, kids, roots)
		}
		kids[thing] = had
		for i := range had {
			for n := range 31 {
				was := had[i]
				had[i] = n
				checkAll(t, kids, roots)
				had[i] = was
			}
		}
		for i, n := range roots {
			roots[i] = thing * 31 / 29
			checkAll(t, kids, roots)
			roots[i] = n
		}
	}
}

// cutUp is a graph of so many things, with two bytes for each kid, and roots of
// what is behind a byte ff; a byte above all things is one of the numbers that
// are none.
func cutUp(count int, s string) (kids [][]int, roots []int) {
	number := func(b byte) int {
		if int(b) >= count && b > 250 {
			return noThings[int(b)%len(noThings)]
		}
		return int(b) % max(count, 1)
	}
	kids = lone(count)
	for len(s) >= 2 && s[0] != 255 && count > 0 {
		thing := int(s[0]) % count
		kids[thing] = append(kids[thing], number(s[1]))
		s = s[2:]
	}
	for i := range s {
		roots = append(roots, number(s[i]))
	}
	return kids, roots
}

func FuzzGraphs(f *testing.F) {
	f.Add(byte(3), "\x00\x01\xff\x00")
	f.Add(byte(5), "\x00\x01\x01\x02\x02\x00\x03\x04\xff\x03\x01")
	f.Add(byte(200), "\xc7\xc6\xc6\xc5\xc5\xff\xff\xc7")
	f.Add(byte(201), "")
	f.Fuzz(func(t *testing.T, count byte, s string) {
		kids, roots := cutUp(int(count), s)
		checkAll(t, kids, roots)
		kids, roots = cutUp(int(count)%8, s)
		checkAll(t, kids, roots)
	})
}
