package graph_test

import (
	"slices"
	"strconv"
	"testing"

	"lumberroom/api"
	"lumberroom/graph"
)

func TestOrder(t *testing.T) {
	for _, c := range []struct {
		what string
		kids [][]int
		want []int
	}{
		{"no things", nil, nil},
		{"no things either", [][]int{}, nil},
		{"one thing", lone(1), []int{0}},
		{"things without kids", lone(4), []int{0, 1, 2, 3}},
		{"a kid, and one alone", [][]int{{1}, nil, nil}, []int{1, 0, 2}},
		{"down", down(4), []int{0, 1, 2, 3}},
		{"up", up(4), []int{3, 2, 1, 0}},
		{"one in front comes as soon as it may", [][]int{{2}, {0}, nil, nil}, []int{2, 0, 1, 3}},
		{"one in front comes ahead of those behind", [][]int{{3}, nil, nil, nil, nil}, []int{1, 2, 3, 0, 4}},
		{"two in front, the second one ready first", [][]int{{1}, {3}, nil, nil, nil}, []int{2, 3, 1, 0, 4}},
		{"two in front that wait for one", [][]int{{2}, {2}, nil, nil}, []int{2, 0, 1, 3}},
		{"two in front that wait for one, the first one for the second one too", [][]int{{2, 1}, {2}, nil, nil}, []int{2, 1, 0, 3}},
		{"one that waits for two", [][]int{{1, 3}, nil, nil, nil, nil}, []int{1, 2, 3, 0, 4}},
		{"one that waits for two, told in the other order", [][]int{{3, 1}, nil, nil, nil, nil}, []int{1, 2, 3, 0, 4}},
		{"equal kids", [][]int{{2, 2, 1, 2}, {2, 2}, nil}, []int{2, 1, 0}},
		{"two ways to one", [][]int{{1, 2}, {3}, {3}, nil}, []int{3, 1, 2, 0}},
		{"all that are behind", [][]int{{1, 2, 3, 4}, {2, 3, 4}, {3, 4}, {4}, nil}, []int{4, 3, 2, 1, 0}},
		{"all that are in front", [][]int{nil, {0}, {0, 1}, {0, 1, 2}, {3, 2, 1, 0}}, []int{0, 1, 2, 3, 4}},
		{"of two parts", [][]int{{4}, {5}, {0}, {1}, nil, nil}, []int{4, 0, 2, 5, 1, 3}},
		{"a hop back", [][]int{{5}, {0}, {1}, {2}, nil, {4}}, []int{4, 5, 0, 1, 2, 3}},
	} {
		if l, err := graph.Order(c.kids); !slices.Equal(l, c.want) || err != api.OK {
			t.Errorf("%s: Order = %v, %v, want %v", c.what, l, err, c.want)
		}
		checkOrder(t, c.kids)
	}
}

func TestOrderOfRings(t *testing.T) {
	for _, c := range []struct {
		what string
		kids [][]int
	}{
		{"a kid of itself", [][]int{{0}}},
		{"a kid of itself behind others", [][]int{nil, nil, {2}}},
		{"a kid of itself ahead of others", [][]int{{0}, nil, nil}},
		{"a kid of itself, and of others", [][]int{{1, 0}, nil, {0}}},
		{"two", [][]int{{1}, {0}}},
		{"two that have another one", [][]int{{1, 2}, {0, 2}, nil}},
		{"two that another one has", [][]int{{1}, {2}, {1}}},
		{"two rings", [][]int{{2}, {3}, {0}, {1}}},
		{"three among others", [][]int{nil, {3}, nil, {5}, nil, {1}, {0}}},
		{"all of all", all(64)},
		{"one that waits for a ring, as for others", [][]int{{1, 2}, nil, {3}, {2}}},
	} {
		if l, err := graph.Order(c.kids); l != nil || err != api.ErrForm {
			t.Errorf("%s: Order = %v, %v, want ErrForm", c.what, l, err)
		}
		checkOrder(t, c.kids)
	}
}

// Orders as long as there may be.
func TestOrderOfManyThings(t *testing.T) {
	for _, count := range []int{1, 2, 3, 63, 64, 65, 199, 200} {
		rising := numbersUp(count)
		falling := slices.Clone(rising)
		slices.Reverse(falling)
		for _, c := range []struct {
			what string
			kids [][]int
			want []int
		}{
			{"lone", lone(count), rising},
			{"down", down(count), rising},
			{"up", up(count), falling},
		} {
			if l, err := graph.Order(c.kids); !slices.Equal(l, c.want) || err != api.OK {
				t.Errorf("%s of %d: Order = %v, %v", c.what, count, l, err)
			}
		}
		if l, err := graph.Order(ring(count)); l != nil || err != api.ErrForm {
			t.Errorf("a ring of %d: Order = %v, %v", count, l, err)
		}
		for thing := range count {
			if l, err := graph.Order(with(up(count), thing, thing)); l != nil || err != api.ErrForm {
				t.Errorf("%d things up, %d its own kid: Order = %v, %v", count, thing, l, err)
			}
			for _, has := range [][]int{times(thing, 64), append(times(thing, 63), (thing+1)%count), append(times(count-1, 63), 0)} {
				for _, one := range []int{0, thing, count - 1} {
					checkOrder(t, with(lone(count), one, has...))
					checkOrder(t, with(up(count), one, has...))
					checkOrder(t, with(down(count), one, has...))
				}
			}
		}
	}
}

// numbersUp are the numbers below one, rising.
func numbersUp(count int) []int {
	var l []int
	for i := range count {
		l = append(l, i)
	}
	return l
}

func line(order []int, err api.Errno) string {
	s := strconv.Itoa(int(err)) + ":"
	for _, n := range order {
		s += " " + strconv.Itoa(n)
	}
	return s + "\n"
}

// All graphs of up to four things.
func TestOrderOfSmallGraphs(t *testing.T) {
	for _, c := range []struct {
		count int
		want  uint32
	}{{1, 0xc3d251f7}, {2, 0x051f209d}, {3, 0x51c392c5}, {4, 0x2056fbe2}} {
		var all []byte
		for which := range 1 << (c.count * c.count) {
			all = append(all, line(graph.Order(small(c.count, which)))...)
		}
		checkSum(t, "the orders of "+strconv.Itoa(c.count)+" things", all, c.want)
	}
}

func TestOrderOfOddGraphs(t *testing.T) {
	var all []byte
	for seed := range 5000 {
		all = append(all, line(graph.Order(oddKids(seed)))...)
	}
	checkSum(t, "the orders of odd graphs", all, 0x858232cc)
}

// The order of a thing's kids, and how often one is among them, is not to be
// seen in the answers.
func TestKidsInAnotherOrder(t *testing.T) {
	for seed := range 1000 {
		kids, roots := oddKids(seed), oddRoots(seed)
		order, err := graph.Order(kids)
		reached, _ := graph.Reach(kids, roots)
		for i := range kids {
			slices.Reverse(kids[i])
			if i%2 == 0 && len(kids[i]) > 0 && len(kids[i]) < 64 {
				kids[i] = append(kids[i], kids[i][i%len(kids[i])])
			}
			if i%3 == 0 {
				slices.Sort(kids[i])
				kids[i] = slices.Compact(kids[i])
			}
		}
		slices.Reverse(roots)
		if again, wrong := graph.Order(kids); !slices.Equal(again, order) || wrong != err {
			t.Fatalf("seed %d: the orders are %v, %v and %v, %v", seed, order, err, again, wrong)
		}
		if again, _ := graph.Reach(kids, roots); !slices.Equal(again, reached) {
			t.Fatalf("seed %d: %s is reached, and %s", seed, marks(reached), marks(again))
		}
	}
}

// Each thing is told once, behind its kids.
func TestOrderHasKidsFirst(t *testing.T) {
	orders := 0
	for seed := range 2000 {
		kids := oddKids(seed)
		order, err := graph.Order(kids)
		if err != api.OK {
			continue
		}
		orders++
		at := make(map[int]int)
		for i, thing := range order {
			at[thing] = i
		}
		if len(order) != len(kids) || len(at) != len(kids) {
			t.Fatalf("seed %d: of %d things %v are told", seed, len(kids), order)
		}
		for thing, has := range kids {
			for _, kid := range has {
				if at[kid] >= at[thing] {
					t.Fatalf("seed %d: %d is told ahead of its kid %d", seed, thing, kid)
				}
			}
		}
	}
	if orders < 500 {
		t.Errorf("only %d of 2000 odd graphs have an order", orders)
	}
}
