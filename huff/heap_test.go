package huff

import (
	"cmp"
	"slices"
	"strings"
	"testing"
)

// checkTaken puts all items, takes them again, and holds them against a sorted
// list of them.
func checkTaken[T comparable](t *testing.T, items []T, compare func(a, b T) int) {
	t.Helper()
	h := &minHeap[T]{before: func(a, b T) bool { return compare(a, b) < 0 }}
	for i, item := range items {
		if h.size() != i {
			t.Fatalf("with %d items the size is %d", i, h.size())
		}
		h.put(item)
	}
	for i, want := range slices.SortedFunc(slices.Values(items), compare) {
		if h.size() != len(items)-i {
			t.Fatalf("%d of %d taken: the size is %d", i, len(items), h.size())
		}
		if got := h.take(); got != want {
			t.Fatalf("of %v item %d is %v, want %v", items, i, got, want)
		}
	}
	if h.size() != 0 {
		t.Errorf("%v: %d are left", items, h.size())
	}
}

// orders are all orders of the numbers from 0 to n-1.
func orders(n int) [][]int {
	if n == 0 {
		return [][]int{{}}
	}
	var all [][]int
	for _, l := range orders(n - 1) {
		for at := range n {
			all = append(all, slices.Insert(slices.Clone(l), at, n-1))
		}
	}
	return all
}

func TestHeapTakesNumbersInOrder(t *testing.T) {
	for n := range 8 {
		for _, l := range orders(n) {
			checkTaken(t, l, cmp.Compare[int])
			checkTaken(t, l, func(a, b int) int { return cmp.Compare(b, a) })
			for i := range l {
				l[i] /= 3 // many are alike
			}
			checkTaken(t, l, cmp.Compare[int])
		}
	}
}

func TestHeapTakesOtherTypesInOrder(t *testing.T) {
	checkTaken(t, strings.Fields("of any type with an order the first one is taken first"), strings.Compare)
	checkTaken(t, []float64{2.5, -1, 0, 1e9, 2.25}, cmp.Compare[float64])
	type pair struct{ a, b int }
	var pairs []pair
	for i := range 300 {
		pairs = append(pairs, pair{i * 7 % 10, i * 31 % 300})
	}
	checkTaken(t, pairs, func(x, y pair) int { return cmp.Or(cmp.Compare(x.a, y.a), cmp.Compare(x.b, y.b)) })
}

// What is put in between is taken where it belongs.
func TestHeapPutAndTakenInTurn(t *testing.T) {
	h := &minHeap[int]{before: func(a, b int) bool { return a < b }}
	var held []int
	for i := range 1000 {
		n := i * 7919 % 503
		h.put(n)
		held = append(held, n)
		if i%3 == 2 {
			slices.Sort(held)
			for range 2 {
				if got := h.take(); got != held[0] {
					t.Fatalf("step %d: %d, want %d", i, got, held[0])
				}
				held = held[1:]
			}
		}
		if h.size() != len(held) {
			t.Fatalf("step %d: the size is %d, want %d", i, h.size(), len(held))
		}
	}
}
