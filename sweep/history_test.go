package sweep_test

import (
	"slices"
	"strconv"
	"testing"

	"lumberroom/api"
	"lumberroom/sweep"
)

// watch is what is known of a history that began as Heap{}: what was neither
// live nor Free when marking began, rising; and what was seen so far.
type watch struct {
	lost        []int
	ends, freed int
}

// see holds an act against the promises: h came to be g.
func (w *watch) see(t *testing.T, h api.Heap, a api.Act, g api.Heap) {
	t.Helper()
	live, err := slowLive(h)
	if wrong := sweep.Check(g); err != api.OK || wrong != api.OK {
		t.Fatalf("Do(%s, %v) = %s: Check tells %v of it", told(h), a, told(g), wrong)
	}
	for i := range live {
		if live[i] && g.Things[i].Free {
			t.Fatalf("Do(%s, %v) = %s: %d was live, and is freed", told(h), a, told(g), i)
		}
	}
	switch {
	case g.Busy && !h.Busy:
		w.lost = nil
		for i, x := range h.Things {
			if !live[i] && !x.Free {
				w.lost = append(w.lost, i)
			}
		}
	case h.Busy && !g.Busy:
		w.ends++
		w.freed += len(w.lost)
		for _, i := range w.lost {
			if !g.Things[i].Free {
				t.Fatalf("Do(%s, %v) = %s: %d was not live when marking began, and is not Free when it ends", told(h), a, told(g), i)
			}
		}
		w.lost = nil
	}
}

// nextAct is any act that may be done, or nearly so, upon a heap, of some
// kinds more often than of others.
func nextAct(seed *int, h api.Heap, kinds string) api.Act {
	a := api.Act{Kind: int(kinds[next(seed)%len(kinds)] - '0')}
	a.From = next(seed) % (len(h.Things) + 1)
	a.To = next(seed) % (len(h.Things) + 1)
	switch a.Kind {
	case api.ACut:
		a.To = next(seed) % 3
	case api.ADrop:
		a.To = next(seed) % (len(h.Roots) + 1)
	}
	return a
}

// history goes on from Heap{}, act by act.
func history(seed, acts int, do func(h api.Heap, a api.Act, g api.Heap, err api.Errno)) {
	kinds := [...]string{"12333345566", "1112334556", "11111123344566666", "1222333333333456", "222223333333314"}[seed%5]
	seed = seed*7919 + 1
	h := api.Heap{}
	for range acts {
		a := nextAct(&seed, h, kinds)
		g, err := sweep.Do(h, a)
		do(h, a, g, err)
		if err == api.OK {
			h = g
		}
	}
}

func TestHistories(t *testing.T) {
	var all []byte
	var w watch
	most, errs := 0, make(map[api.Errno]int)
	for seed := range 300 {
		w.lost = nil
		history(seed, 400, func(h api.Heap, a api.Act, g api.Heap, err api.Errno) {
			all = append(all, line(g, err)...)
			errs[err]++
			if err == api.OK {
				w.see(t, h, a, g)
				most = max(most, len(g.Things))
			}
		})
	}
	checkSum(t, "odd histories", all, 0xb603477a)
	if w.ends < 1000 || w.freed < 1000 || most < 40 || errs[api.ErrFull] == 0 || errs[api.ErrLarge] == 0 || errs[api.ErrNone] == 0 {
		t.Error("these are no histories to learn from:", w.ends, w.freed, most, errs)
	}
}

// bounds are how many things, kids and roots there are at most.
type bounds struct{ things, kids, roots int }

// within tells whether a heap has no more.
func (b bounds) within(h api.Heap) bool {
	return len(h.Things) <= b.things && len(h.Roots) <= b.roots &&
		!slices.ContainsFunc(h.Things, func(x api.Thing) bool { return len(x.Kids) > b.kids })
}

// acts are all that may be done within bounds.
func (b bounds) acts() []api.Act {
	all := []api.Act{mark, fresh}
	for from := range b.things {
		for to := range b.things {
			all = append(all, link(from, to))
		}
		for kid := range b.kids {
			all = append(all, cut(from, kid))
		}
		all = append(all, hold(from))
	}
	for root := range b.roots {
		all = append(all, drop(root))
	}
	return all
}

// Whatever is done, in whatever order, with few things.
func TestAllHistories(t *testing.T) {
	for _, b := range []struct {
		bounds
		want uint32
	}{{bounds{1, 2, 3}, 0x24ef4526}, {bounds{2, 2, 2}, 0x1d2f181d}, {bounds{3, 1, 2}, 0xbfb0875e}} {
		type state struct {
			h    api.Heap
			lost []int
		}
		known := make(map[string]bool)
		heaps := make(map[string]bool)
		states := []state{{}}
		for len(states) > 0 {
			s := states[len(states)-1]
			states = states[:len(states)-1]
			for _, a := range b.acts() {
				g, err := sweep.Do(s.h, a)
				if err != api.OK || !b.within(g) {
					continue
				}
				w := watch{lost: s.lost}
				w.see(t, s.h, a, g)
				if key := told(g) + " " + numbers(w.lost, ","); !known[key] {
					known[key] = true
					heaps[told(g)] = true
					states = append(states, state{g, w.lost})
				}
			}
		}
		var lines []string
		for h := range heaps {
			lines = append(lines, h+"\n")
		}
		slices.Sort(lines)
		var all []byte
		for _, l := range lines {
			all = append(all, l...)
		}
		checkSum(t, strconv.Itoa(len(lines))+" heaps", all, b.want)
	}
}
