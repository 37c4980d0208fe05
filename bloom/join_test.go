package bloom_test

import (
	"math"
	"slices"
	"testing"

	"lumberroom/api"
	"lumberroom/bloom"
)

func slowJoin(l []api.Bloom) api.Bloom {
	var joined flags
	for _, b := range l {
		for k, is := range flagsOf(b) {
			joined[k] = joined[k] || is
		}
	}
	return bloomOf(joined)
}

func slowCount(b api.Bloom) int {
	count := 0
	for _, is := range flagsOf(b) {
		if is {
			count++
		}
	}
	return count
}

func TestJoin(t *testing.T) {
	for i, c := range []struct {
		l    []api.Bloom
		want api.Bloom
	}{
		{nil, api.Bloom{}},
		{[]api.Bloom{}, api.Bloom{}},
		{[]api.Bloom{{}}, api.Bloom{}},
		{[]api.Bloom{{}, {}, {}}, api.Bloom{}},
		{[]api.Bloom{{1, 2, 3}}, api.Bloom{1, 2, 3}},
		{[]api.Bloom{{1}, {2}}, api.Bloom{3}},
		{[]api.Bloom{{3}, {5}}, api.Bloom{7}},
		{[]api.Bloom{{3}, {3}}, api.Bloom{3}},
		{[]api.Bloom{{3}, {}}, api.Bloom{3}},
		{[]api.Bloom{{}, {3}}, api.Bloom{3}},
		{[]api.Bloom{{1}, {15: 1 << 63}}, api.Bloom{0: 1, 15: 1 << 63}},
		{[]api.Bloom{{0, 1}, {0, 0, 1}, {14: 6}, {0, 4, 1, 14: 9}}, api.Bloom{0, 5, 1, 14: 15}},
		{[]api.Bloom{full(), {1}}, full()},
		{[]api.Bloom{{1}, full(), {}}, full()},
		{[]api.Bloom{without(full(), 777), {}}, without(full(), 777)},
		{[]api.Bloom{without(full(), 777), without(full(), 778)}, full()},
	} {
		if got := bloom.Join(c.l...); got != c.want {
			t.Errorf("case %d: Join(%x) = %x, want %x", i, c.l, got, c.want)
		}
	}
	if got := bloom.Join(); got != (api.Bloom{}) {
		t.Errorf("Join of no Bloom: %x", got)
	}
}

// Every bit counts, wherever in the list it is.
func TestJoinTakesEachBitOfEach(t *testing.T) {
	for k := range 1024 {
		var f flags
		f[k] = true
		for _, at := range []int{0, 1, 2, 3, 4} {
			l := make([]api.Bloom, 5)
			l[at] = bloomOf(f)
			if got := bloom.Join(l...); got != bloomOf(f) {
				t.Errorf("bit %d of number %d: %x", k, at, got)
			}
		}
	}
	var all []api.Bloom
	for k := range 1024 {
		var f flags
		f[k] = true
		all = append(all, bloomOf(f))
		if got := bloom.Join(all...); got != slowJoin(all) || bloom.Count(got) != k+1 {
			t.Fatalf("Join of the first %d bits: %x", k+1, got)
		}
	}
}

// Blooms of some IDs, joined, are the Bloom of all of them.
func TestJoinIsWhatAddMakes(t *testing.T) {
	for seed := range 30 {
		var together api.Bloom
		l := make([]api.Bloom, seed%7+1)
		for i := range 3 * seed {
			id := oddID(200*seed + i)
			together = bloom.Add(together, id)
			l[i%len(l)] = bloom.Add(l[i%len(l)], id)
		}
		joined := bloom.Join(l...)
		if joined != together {
			t.Errorf("%d IDs in %d Blooms: %x, want %x", 3*seed, len(l), joined, together)
		}
		for i := range 3 * seed {
			if !bloom.Has(joined, oddID(200*seed+i)) {
				t.Errorf("ID %d of %d is not there", i, 3*seed)
			}
		}
		slices.Reverse(l)
		if bloom.Join(l...) != together || bloom.Join(l[0], bloom.Join(l[1:]...)) != together {
			t.Errorf("%d Blooms make other bits in another order", len(l))
		}
	}
}

func TestCount(t *testing.T) {
	for _, c := range []struct {
		b    api.Bloom
		want int
	}{
		{api.Bloom{}, 0},
		{api.Bloom{1}, 1},
		{api.Bloom{1 << 63}, 1},
		{api.Bloom{15: 1 << 63}, 1},
		{api.Bloom{0x780}, 4},
		{api.Bloom{0x781}, 5},
		{api.Bloom{math.MaxUint64}, 64},
		{api.Bloom{8: math.MaxUint64, 9: 1}, 65},
		{api.Bloom{1, 1, 1, 1, 1, 1, 1, 1, 1, 1, 1, 1, 1, 1, 1, 1}, 16},
		{without(full(), 0), 1023},
		{without(full(), 1023), 1023},
		{full(), 1024},
	} {
		if n := bloom.Count(c.b); n != c.want {
			t.Errorf("Count(%x) = %d, want %d", c.b, n, c.want)
		}
	}
}

func TestCountOfEachBit(t *testing.T) {
	var rising flags
	for k := range 1024 {
		var one flags
		one[k] = true
		rising[k] = true
		if n := bloom.Count(bloomOf(one)); n != 1 {
			t.Errorf("bit %d alone: %d", k, n)
		}
		if n := bloom.Count(bloomOf(rising)); n != k+1 {
			t.Errorf("bits up to %d: %d", k, n)
		}
	}
}

// An ID has at most four marks, and at least one.
func TestCountOfMarks(t *testing.T) {
	seen := [6]int{}
	for b := range uint32(1024) {
		n := bloom.Count(bloom.Add(api.Bloom{}, idOf(b*7, b)))
		seen[min(n, 5)]++
	}
	// Of b 0 there is one mark, of 512 two; of no other b are two the same.
	if seen != [6]int{0, 1, 1, 0, 1022, 0} {
		t.Errorf("how many have 0, 1, .. marks: %v", seen)
	}
}
