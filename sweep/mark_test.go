package sweep_test

import (
	"slices"
	"strings"
	"testing"

	"lumberroom/api"
	"lumberroom/sweep"
)

func TestMarkBegins(t *testing.T) {
	checkActs(t, []act{
		{"no things", "|", mark, "| !", api.OK},
		{"no roots", "w w1 |", mark, "w w1 | !", api.OK},
		{"a root", "w1 w | 0", mark, "g1 w | 0 !", api.OK},
		{"roots", "w w0 w w | 3 1", mark, "w g0 w g | 3 1 !", api.OK},
		{"equal roots", "w w | 1 1", mark, "w g | 1 1 !", api.OK},
		{"one that is Free", "w - w | 2", mark, "w - g | 2 !", api.OK},
		{"other colours", "b g b g w | 2 3", mark, "w w g g w | 2 3 !", api.OK},
		{"a Grey one that is not live", "w g0 | 0", mark, "g w0 | 0 !", api.OK},
		{"From and To say nothing", "w w | 1", api.Act{Kind: 1, From: 0, To: 0}, "w g | 1 !", api.OK},
		{"From and To say nothing, whatever they are", "w w | 1", api.Act{Kind: 1, From: -1, To: 99}, "w g | 1 !", api.OK},
		{"64 roots", "w w |" + manyRoots(64), mark, "g w |" + manyRoots(64) + " !", api.OK},
	})
}

func TestMarkGoesOn(t *testing.T) {
	checkActs(t, []act{
		{"a Grey thing", "g | 0 !", mark, "b | 0 !", api.OK},
		{"its kids", "g1,2 w w w | 0 !", mark, "b1,2 g g w | 0 !", api.OK},
		{"its kids in front", "w w w g0,1 | 3 !", mark, "g g w b0,1 | 3 !", api.OK},
		{"no kids of its kids", "g1 w2 w | 0 !", mark, "b1 g2 w | 0 !", api.OK},
		{"kids of other colours", "g3,2,1 w g b | 0 !", mark, "b3,2,1 g g b | 0 !", api.OK},
		{"equal kids", "g1,1 w | 0 !", mark, "b1,1 g | 0 !", api.OK},
		{"a kid of itself", "g0 | 0 !", mark, "b0 | 0 !", api.OK},
		{"a kid of itself, and of another one", "g0,1 w0 | 0 !", mark, "b0,1 g0 | 0 !", api.OK},
		{"the first Grey one", "w b g3 w g5 w | 0 !", mark, "w b b3 g g5 w | 0 !", api.OK},
		{"the first Grey one, not the first root", "w g3 g4 w w | 2 1 !", mark, "w b3 g4 g w | 2 1 !", api.OK},
		{"the first Grey one, not live", "g1 w w3 w | 2 !", mark, "b1 g w3 w | 2 !", api.OK},
		{"the last Grey one", "b1 b g | 0 2 !", mark, "b1 b b | 0 2 !", api.OK},
		{"White things that are roots", "w g w | 0 2 1 !", mark, "w b w | 0 2 1 !", api.OK},
		{"one that is Free", "g - w | 0 !", mark, "b - w | 0 !", api.OK},
		{"From and To say nothing", "w g0 g | !", api.Act{Kind: 1, From: 2, To: 2}, "g b0 g | !", api.OK},
	})
}

func TestMarkEnds(t *testing.T) {
	checkActs(t, []act{
		{"no things", "| !", mark, "|", api.OK},
		{"all are Black", "b1 b0 | 0 !", mark, "w1 w0 | 0", api.OK},
		{"all are White", "w w2 w1 | !", mark, "- - - |", api.OK},
		{"one that is White", "b w1,0 b | 0 2 !", mark, "w - w | 0 2", api.OK},
		{"one that is Free", "- b - w | 1 !", mark, "- w - - | 1", api.OK},
		{"all are Free", "- - | !", mark, "- - |", api.OK},
		{"a Black one that is not live", "b b0 | 0 !", mark, "w w0 | 0", api.OK},
		{"kids and roots stay in their order", "b2,0,2 w b | 2 0 2 !", mark, "w2,0,2 - w | 2 0 2", api.OK},
		{"From and To say nothing", "b w | 0 !", api.Act{Kind: 1, From: 1, To: 1}, "w - | 0", api.OK},
		// No heap that began as Heap{} comes to these.
		{"a root that is White", "w b | 0 1 !", mark, "- w | 0 1", api.OK},
		{"a White kid of a Black one", "b1 w0 | 0 !", mark, "w1 - | 0", api.OK},
	})
}

// From Heap{} on, act by act.
func TestMarking(t *testing.T) {
	h := api.Heap{}
	for _, c := range []struct {
		a    api.Act
		want string
	}{
		{fresh, "w | 0"},
		{fresh, "w w | 0 1"},
		{fresh, "w w w | 0 1 2"},
		{fresh, "w w w w | 0 1 2 3"},
		{link(0, 1), "w1 w w w | 0 1 2 3"},
		{link(1, 2), "w1 w2 w w | 0 1 2 3"},
		{drop(3), "w1 w2 w w | 0 1 2"},
		{drop(1), "w1 w2 w w | 0 2"},
		{drop(1), "w1 w2 w w | 0"},
		{mark, "g1 w2 w w | 0 !"},
		{mark, "b1 g2 w w | 0 !"},
		{link(0, 2), "b1,2 g2 g w | 0 !"},
		{cut(1, 0), "b1,2 g g w | 0 !"},
		{fresh, "b1,2 g g w g | 0 4 !"},
		{mark, "b1,2 b g w g | 0 4 !"},
		{cut(0, 0), "b2 b g w g | 0 4 !"},
		{drop(1), "b2 b g w g | 0 !"},
		{mark, "b2 b b w g | 0 !"},
		{mark, "b2 b b w b | 0 !"},
		{mark, "w2 w w - w | 0"},
		{fresh, "w2 w w w w | 0 3"},
		{mark, "g2 w w g w | 0 3 !"},
		{drop(1), "g2 w w g w | 0 !"},
		{mark, "b2 w g g w | 0 !"},
		{mark, "b2 w b g w | 0 !"},
		{mark, "b2 w b b w | 0 !"},
		{mark, "w2 - w w - | 0"},
		{fresh, "w2 w w w - | 0 1"},
		{mark, "g2 g w w - | 0 1 !"},
		{mark, "b2 g g w - | 0 1 !"},
		{fresh, "b2 g g w g | 0 1 4 !"},
		{mark, "b2 b g w g | 0 1 4 !"},
		{mark, "b2 b b w g | 0 1 4 !"},
		{mark, "b2 b b w b | 0 1 4 !"},
		{mark, "w2 w w - w | 0 1 4"},
	} {
		checkDo(t, h, c.a)
		g, err := sweep.Do(h, c.a)
		if told(g) != c.want || err != api.OK {
			t.Fatalf("Do(%s, %v) = %s, %v, want %s", told(h), c.a, told(g), err, c.want)
		}
		h = g
	}
}

// steps marks until marking has ended.
func steps(t *testing.T, h api.Heap) (api.Heap, int) {
	t.Helper()
	was := h
	for n := 1; ; n++ {
		g, err := sweep.Do(h, mark)
		if err != api.OK || n > len(h.Things)+2 {
			t.Fatalf("step %d of marking %s: %s, %v", n, told(was), told(g), err)
		}
		if !g.Busy {
			return g, n
		}
		h = g
	}
}

// Where nothing is done between the steps, what is live stays, and all else is
// freed, in a step for each thing that is live, one ahead of them, and one
// behind them.
func TestMarkingAlone(t *testing.T) {
	for seed := range 3000 {
		h := oddHeap(seed)
		h.Busy = false
		live, err := sweep.Live(h)
		if err != api.OK {
			t.Fatalf("seed %d: %v", seed, err)
		}
		want := copied(h)
		count := 2
		for i, l := range live {
			want.Things[i].Colour = api.White
			if l {
				count++
			} else {
				want.Things[i] = api.Thing{Free: true}
			}
		}
		if g, n := steps(t, h); !same(g, want) || n != count {
			t.Fatalf("marking of %s: %s in %d steps, want %s in %d", told(h), told(g), n, told(want), count)
		}
	}
}

// Once marking has ended there is nothing to be freed by the next one.
func TestMarkingTwice(t *testing.T) {
	for seed := range 1000 {
		h := oddHeap(seed)
		h.Busy = false
		g, n := steps(t, h)
		again, m := steps(t, g)
		if !same(again, g) || n != m {
			t.Fatalf("marking of %s: %s in %d steps, %s in %d", told(h), told(g), n, told(again), m)
		}
	}
}

func TestMarkOfSmallHeaps(t *testing.T) {
	var all []byte
	small(3, func(h api.Heap) {
		g, err := sweep.Do(h, mark)
		if err == api.OK || slices.Equal(h.Roots, []int{0, 2}) {
			all = append(all, line(g, err)...)
		}
	})
	checkSum(t, "steps of marking of three things", all, 0xb742e9d7)
}

// Marking of as many things as there may be, each with as many kids, and in a
// row.
func TestMarkingOfManyThings(t *testing.T) {
	h := lone(40)
	for i := range h.Things {
		for j := range 64 {
			h.Things[i].Kids = append(h.Things[i].Kids, (i*j+j)%40)
		}
	}
	row := lone(40)
	for i := range 39 {
		row = with(row, i+1, i)
	}
	for root := range 40 {
		for _, h := range []api.Heap{rooted(h, times(root, 64)...), rooted(row, root)} {
			for g := h; ; {
				checkDo(t, g, mark)
				if g, _ = sweep.Do(g, mark); !g.Busy {
					break
				}
			}
			live, _ := slowLive(h)
			g, n := steps(t, h)
			if want := strings.Count(marks(live), "x") + 2; n != want {
				t.Fatalf("marking of %s ends in %d steps, want %d", told(h), n, want)
			}
			for i := range live {
				if g.Things[i].Free == live[i] {
					t.Fatalf("marking of %s ends in %s", told(h), told(g))
				}
			}
		}
	}
}
