package delta

import (
	"lumberroom/api"
	"lumberroom/names"
)

// pair is what two lists have at one place: a thing of one of them, or of
// both.
type pair[A, B any] struct {
	a        A
	b        B
	inA, inB bool
}

// sideBySide goes through two lists that rise, at one time; compare tells
// whether a thing of a stands ahead of one of b (below 0), at the same place
// (0), or behind it.
func sideBySide[A, B any](a []A, b []B, compare func(A, B) int) []pair[A, B] {
	var l []pair[A, B]
	for len(a) > 0 && len(b) > 0 {
		var p pair[A, B]
		order := compare(a[0], b[0])
		if order <= 0 {
			p.a, p.inA, a = a[0], true, a[1:]
		}
		if order >= 0 {
			p.b, p.inB, b = b[0], true, b[1:]
		}
		l = append(l, p)
	}
	for _, x := range a {
		l = append(l, pair[A, B]{a: x, inA: true})
	}
	for _, y := range b {
		l = append(l, pair[A, B]{b: y, inB: true})
	}
	return l
}

func compareItems(x, y api.Item) int {
	return comparePaths(x.Path, y.Path)
}

func compareItemWithEdit(x api.Item, y api.Edit) int {
	return comparePaths(x.Path, y.Path)
}

func compareEdits(x, y api.Edit) int {
	return comparePaths(x.Path, y.Path)
}

// comparePaths is for paths that were split already, so that Less has no
// error.
func comparePaths(a, b string) int {
	if a == b {
		return 0
	}
	if less, _ := names.Less(a, b); less {
		return -1
	}
	return 1
}
