package graph_test

import (
	"slices"
	"strconv"
	"strings"
	"testing"

	"lumberroom/api"
	"lumberroom/graph"
)

// What stands here is written anew from the chapter's words.

func slowCheck(kids [][]int) api.Errno {
	if len(kids) >= 201 {
		return api.ErrLarge
	}
	for i := range kids {
		if len(kids[i]) >= 65 {
			return api.ErrLarge
		}
		for j := range kids[i] {
			if !isThing(kids, kids[i][j]) {
				return api.ErrArg
			}
		}
	}
	return api.OK
}

func isThing(kids [][]int, n int) bool {
	for i := range kids {
		if i == n {
			return true
		}
	}
	return false
}

// slowReach asks of all things until none is reached anew: is it a root, or a
// kid of one that is reached?
func slowReach(kids [][]int, roots []int) ([]bool, api.Errno) {
	if err := slowCheck(kids); err != api.OK {
		return nil, err
	}
	if len(roots) >= 65 {
		return nil, api.ErrLarge
	}
	reached := make([]bool, len(kids))
	for _, n := range roots {
		if !isThing(kids, n) {
			return nil, api.ErrArg
		}
		reached[n] = true
	}
	for more := true; more; {
		more = false
		for i := range kids {
			for _, kid := range kids[i] {
				if reached[i] && !reached[kid] {
					reached[kid] = true
					more = true
				}
			}
		}
	}
	return reached, api.OK
}

// slowOrder counts of each thing the kids that were not told, and has at each
// moment a list of those of which none is left, rising.
func slowOrder(kids [][]int) ([]int, api.Errno) {
	if err := slowCheck(kids); err != api.OK {
		return nil, err
	}
	left := make([]int, len(kids))
	havers := make([][]int, len(kids))
	var ready []int
	for i := range kids {
		left[i] = len(kids[i])
		for _, kid := range kids[i] {
			havers[kid] = append(havers[kid], i)
		}
		if left[i] == 0 {
			ready = append(ready, i)
		}
	}
	var order []int
	for len(ready) > 0 {
		one := ready[0]
		ready = ready[1:]
		order = append(order, one)
		for _, h := range havers[one] {
			left[h]--
			if left[h] == 0 {
				at, _ := slices.BinarySearch(ready, h)
				ready = slices.Insert(ready, at, h)
			}
		}
	}
	if len(order) != len(kids) {
		return nil, api.ErrForm
	}
	return order, api.OK
}

func checkCheck(t *testing.T, kids [][]int) {
	t.Helper()
	if err, want := graph.Check(kids), slowCheck(kids); err != want {
		t.Fatalf("Check(%s) = %v, want %v", short(kids), err, want)
	}
}

func checkReach(t *testing.T, kids [][]int, roots []int) {
	t.Helper()
	reached, err := graph.Reach(kids, roots)
	want, wrong := slowReach(kids, roots)
	if err != wrong || !slices.Equal(reached, want) || err != api.OK && reached != nil {
		t.Fatalf("Reach(%s, %v) = %s, %v, want %s, %v", short(kids), few(roots), marks(reached), err, marks(want), wrong)
	}
}

func checkOrder(t *testing.T, kids [][]int) {
	t.Helper()
	order, err := graph.Order(kids)
	want, wrong := slowOrder(kids)
	if err != wrong || !slices.Equal(order, want) || err != api.OK && order != nil {
		t.Fatalf("Order(%s) = %v, %v, want %v, %v", short(kids), order, err, want, wrong)
	}
}

// few are the first ones of a list.
func few[T any](l []T) []T { return l[:min(len(l), 70)] }

// short is the beginning of a graph.
func short(kids [][]int) string {
	var b strings.Builder
	for i, has := range few(kids) {
		b.WriteString(strconv.Itoa(i) + ":")
		for _, kid := range few(has) {
			b.WriteString(" " + strconv.Itoa(kid))
		}
		b.WriteString("; ")
	}
	return b.String() + strconv.Itoa(len(kids)) + " things"
}

// marks has an x of each thing that is reached.
func marks(reached []bool) string {
	s := make([]byte, len(reached))
	for i, r := range reached {
		s[i] = '.'
		if r {
			s[i] = 'x'
		}
	}
	return string(s)
}
