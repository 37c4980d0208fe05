package graph_test

import (
	"math"
	"slices"
	"testing"

	"lumberroom/api"
	"lumberroom/graph"
)

// lone are so many things without kids.
func lone(count int) [][]int { return make([][]int, count) }

// with is a graph in which one thing has other kids.
func with(kids [][]int, thing int, has ...int) [][]int {
	kids = slices.Clone(kids)
	kids[thing] = has
	return kids
}

// all has each thing as a kid of each one.
func all(count int) [][]int {
	kids := lone(count)
	for i := range kids {
		for j := range count {
			kids[i] = append(kids[i], j)
		}
	}
	return kids
}

func times(n, count int) []int { return slices.Repeat([]int{n}, count) }

// noThings are none in a graph of up to 200 things.
var noThings = []int{
	-1, 200, -2, 201, -199, -200, -201, 255, 256, 257, -256, 1 << 16, 1<<16 + 1, 1 << 31, -1 << 31, 1 << 32, 1<<32 + 1, -1<<32 + 1,
	math.MaxInt, math.MaxInt - 1, math.MinInt, math.MinInt + 1,
}

func TestCheck(t *testing.T) {
	for _, c := range []struct {
		what string
		kids [][]int
		want api.Errno
	}{
		{"no things", nil, api.OK},
		{"no things either", [][]int{}, api.OK},
		{"a thing without kids", lone(1), api.OK},
		{"a thing with an empty list", [][]int{{}}, api.OK},
		{"a kid of itself", [][]int{{0}}, api.OK},
		{"two that have each other", [][]int{{1}, {0}}, api.OK},
		{"equal kids", [][]int{{1, 1, 1}, {0, 0}}, api.OK},
		{"all kids of all", all(64), api.OK},
		{"200 things", lone(200), api.OK},
		{"200 things, the last one has the last one", with(lone(200), 199, 199), api.OK},
		{"200 things, the first one has 64 kids", with(lone(200), 0, times(199, 64)...), api.OK},
		{"64 kids of itself", [][]int{times(0, 64)}, api.OK},

		{"201 things", lone(201), api.ErrLarge},
		{"201 things with a right kid", with(lone(201), 0, 200), api.ErrLarge},
		{"201 things with a wrong kid", with(lone(201), 0, 201), api.ErrLarge},
		{"400 things", lone(400), api.ErrLarge},
		{"456 things", lone(456), api.ErrLarge},
		{"65 kids", [][]int{times(0, 65)}, api.ErrLarge},
		{"65 kids of the last of 200", with(lone(200), 199, times(0, 65)...), api.ErrLarge},
		{"128 kids", [][]int{nil, times(0, 128)}, api.ErrLarge},
		{"256 kids", [][]int{nil, times(0, 256)}, api.ErrLarge},
		{"all kids of all of 65", all(65), api.ErrLarge},
		{"65 kids, the first one wrong", [][]int{append([]int{-1}, times(0, 64)...)}, api.ErrLarge},
		{"65 wrong kids", [][]int{times(9, 65)}, api.ErrLarge},
		{"65 kids of a thing, and a wrong one of the next one", [][]int{times(0, 65), {-1}}, api.ErrLarge},

		{"a wrong kid", [][]int{{1}}, api.ErrArg},
		{"a kid below 0", [][]int{{-1}}, api.ErrArg},
		{"64 kids, the last one wrong", [][]int{append(times(0, 63), 1)}, api.ErrArg},
		{"a wrong kid behind a right one", [][]int{{1, 2}, nil}, api.ErrArg},
		{"a wrong kid of the last of 200", with(lone(200), 199, 200), api.ErrArg},
		{"a wrong kid of a thing, and 65 of the next one", [][]int{{-1}, times(0, 65)}, api.ErrArg},
		{"a wrong kid of the last but one of 200, and 65 of the last one", with(with(lone(200), 198, 200), 199, times(0, 65)...), api.ErrArg},
	} {
		if err := graph.Check(c.kids); err != c.want {
			t.Errorf("%s: Check = %v, want %v", c.what, err, c.want)
		}
		if c.want == api.OK {
			continue
		}
		for _, roots := range [][]int{nil, {0}, {-1}, {999}, times(0, 64), times(0, 65), times(-1, 65)} {
			if l, err := graph.Reach(c.kids, roots); l != nil || err != c.want {
				t.Errorf("%s: Reach of %d roots = %d things, %v, want %v", c.what, len(roots), len(l), err, c.want)
			}
		}
		if l, err := graph.Order(c.kids); l != nil || err != c.want {
			t.Errorf("%s: Order = %v, %v, want %v", c.what, l, err, c.want)
		}
	}
}

// A kid that is none is found wherever it stands, whatever stands beside it.
func TestCheckOfWrongKids(t *testing.T) {
	for _, things := range []int{1, 2, 3, 199, 200} {
		for _, thing := range []int{0, things / 2, things - 1} {
			for _, many := range []int{1, 2, 64} {
				for _, at := range []int{0, many / 2, many - 1} {
					for _, n := range append([]int{things, things + 1, -things}, noThings...) {
						has := times(things-1, many)
						has[at] = n
						if err := graph.Check(with(lone(things), thing, has...)); err != api.ErrArg {
							t.Fatalf("Check of %d things, thing %d having %v = %v, want ErrArg", things, thing, has, err)
						}
					}
				}
			}
		}
	}
}

// As many things and kids as there are up to some above the bounds.
func TestCheckOfManyThings(t *testing.T) {
	for things := range 450 {
		checkCheck(t, lone(things))
		for _, many := range []int{1, 63, 64, 65} {
			for _, n := range []int{-1, 0, things - 1, things} {
				if things > 0 {
					checkCheck(t, with(lone(things), 0, times(n, many)...))
					checkCheck(t, with(lone(things), things-1, times(n, many)...))
				}
			}
		}
	}
	for many := range 300 {
		for _, n := range []int{0, 9, 10} {
			checkCheck(t, with(lone(10), many%10, times(n, many)...))
		}
	}
}
