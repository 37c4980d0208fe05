package huff

// minHeap hands out its items in the order of before, whatever the order in
// which they came.
type minHeap[T any] struct {
	before func(a, b T) bool
	// Each item is not behind its kids, which stand at 2i+1 and 2i+2: so the
	// first one of all stands at 0.
	items []T
}

func (h *minHeap[T]) size() int {
	return len(h.items)
}

func (h *minHeap[T]) put(item T) {
	h.items = append(h.items, item)
	at := len(h.items) - 1
	for at > 0 {
		parent := (at - 1) / 2
		if !h.before(h.items[at], h.items[parent]) {
			return
		}
		h.swap(at, parent)
		at = parent
	}
}

// take hands out the first item of h, which is not empty.
func (h *minHeap[T]) take() T {
	first := h.items[0]
	last := len(h.items) - 1
	h.swap(0, last)
	h.items = h.items[:last]
	at := 0
	for least := h.leastAt(at); least != at; least = h.leastAt(at) {
		h.swap(at, least)
		at = least
	}
	return first
}

// leastAt is where the first one of the item at a place and its kids stands.
func (h *minHeap[T]) leastAt(at int) int {
	least := at
	for kid := 2*at + 1; kid <= 2*at+2; kid++ {
		if kid < len(h.items) && h.before(h.items[kid], h.items[least]) {
			least = kid
		}
	}
	return least
}

func (h *minHeap[T]) swap(i, j int) {
	h.items[i], h.items[j] = h.items[j], h.items[i]
}
