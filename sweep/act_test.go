package sweep_test

import (
	"math"
	"strconv"
	"strings"
	"testing"

	"lumberroom/api"
	"lumberroom/sweep"
)

var (
	mark  = api.Act{Kind: 1}
	fresh = api.Act{Kind: 2}
)

func link(from, to int) api.Act  { return api.Act{Kind: 3, From: from, To: to} }
func cut(from, kid int) api.Act  { return api.Act{Kind: 4, From: from, To: kid} }
func hold(thing int) api.Act     { return api.Act{Kind: 5, To: thing} }
func drop(root int) api.Act      { return api.Act{Kind: 6, To: root} }
func manyRoots(roots int) string { return strings.Repeat(" 0", roots) }

type act struct {
	what, h string
	a       api.Act
	want    string
	err     api.Errno
}

func checkActs(t *testing.T, acts []act) {
	t.Helper()
	for _, c := range acts {
		h := heap(c.h)
		g, err := sweep.Do(h, c.a)
		if err != c.err || err != api.OK && !isNone(g) || err == api.OK && told(g) != c.want {
			t.Errorf("%s: Do(%s, %v) = %s, %v, want %s, %v", c.what, c.h, c.a, told(g), err, c.want, c.err)
		}
		checkDo(t, h, c.a)
	}
}

func TestFresh(t *testing.T) {
	lone40 := strings.Repeat("w ", 40)
	checkActs(t, []act{
		{"a first thing", "|", fresh, "w | 0", api.OK},
		{"a first thing, while marking", "| !", fresh, "g | 0 !", api.OK},
		{"behind all others", "w1 b | 1 0", fresh, "w1 b w | 1 0 2", api.OK},
		{"behind all others, while marking", "w1 b | 1 0 !", fresh, "w1 b g | 1 0 2 !", api.OK},
		{"behind others that are not live", "w1 w w | ", fresh, "w1 w w w | 3", api.OK},
		{"the first one that is Free", "w - - | 0", fresh, "w w - | 0 1", api.OK},
		{"the first one that is Free, while marking", "b - - | 0 !", fresh, "b g - | 0 1 !", api.OK},
		{"the first one of all", "- w2 b - | 1 2 1", fresh, "w w2 b - | 1 2 1 0", api.OK},
		{"the last one of all", "w w g -  | ", fresh, "w w g w | 3", api.OK},
		{"From and To say nothing", "w - | 0", api.Act{Kind: 2, From: 0, To: 0}, "w w | 0 1", api.OK},
		{"From and To say nothing, whatever they are", "w | 0", api.Act{Kind: 2, From: -9, To: math.MaxInt}, "w w | 0 1", api.OK},
		{"the 40th thing", strings.Repeat("w ", 39) + "| 0", fresh, lone40 + "| 0 39", api.OK},
		{"the last one of 40, which is Free", strings.Repeat("w ", 39) + "- |", fresh, lone40 + "| 39", api.OK},
		{"40 things", lone40 + "|", fresh, "", api.ErrFull},
		{"40 things, while marking", lone40 + "| !", fresh, "", api.ErrFull},
		{"40 things that are live", lone40 + "| 39", fresh, "", api.ErrFull},
		{"the 64th root", "w |" + manyRoots(63), fresh, "w w |" + manyRoots(63) + " 1", api.OK},
		{"64 roots", "w |" + manyRoots(64), fresh, "", api.ErrLarge},
		{"64 roots, while marking", "b |" + manyRoots(64) + " !", fresh, "", api.ErrLarge},
		{"64 roots, and one that is Free", "w - |" + manyRoots(64), fresh, "", api.ErrLarge},
		{"64 roots, and 40 things", lone40 + "|" + manyRoots(64), fresh, "", api.ErrFull},
		{"64 roots, and 40 things, one of them Free", strings.Repeat("w ", 39) + "- |" + manyRoots(64), fresh, "", api.ErrLarge},
		{"64 roots, and 39 things", strings.Repeat("w ", 39) + "|" + manyRoots(64), fresh, "", api.ErrLarge},
	})
}

func TestLink(t *testing.T) {
	kids := func(many int) string { return "w" + strings.Repeat("1,", many-1) + "1" }
	checkActs(t, []act{
		{"a kid", "w w | 0 1", link(0, 1), "w1 w | 0 1", api.OK},
		{"behind the others", "w1,0 w w | 0 2", link(0, 2), "w1,0,2 w w | 0 2", api.OK},
		{"one that is its kid already", "w1 w | 0", link(0, 1), "w1,1 w | 0", api.OK},
		{"itself", "w | 0", link(0, 0), "w0 | 0", api.OK},
		{"its haver", "w1 w | 0", link(1, 0), "w1 w0 | 0", api.OK},
		{"a kid of a kid", "w1 w2 w | 0", link(0, 2), "w1,2 w2 w | 0", api.OK},
		{"colours stay", "b g w | 0 1 2", link(0, 2), "b2 g w | 0 1 2", api.OK},
		{"colours stay, of a Grey kid", "w g | 0 1", link(0, 1), "w1 g | 0 1", api.OK},
		{"while marking", "b w | 0 1 !", link(0, 1), "b1 g | 0 1 !", api.OK},
		{"while marking, to one that is Grey", "g w | 0 1 !", link(0, 1), "g1 g | 0 1 !", api.OK},
		{"while marking, to one that is White", "w w | 0 1 !", link(0, 1), "w1 g | 0 1 !", api.OK},
		{"while marking, a Grey kid", "b g | 0 1 !", link(0, 1), "b1 g | 0 1 !", api.OK},
		{"while marking, a Black kid", "w b | 0 1 !", link(0, 1), "w1 b | 0 1 !", api.OK},
		{"while marking, itself", "w | 0 !", link(0, 0), "g0 | 0 !", api.OK},
		{"while marking, itself, Black", "b | 0 !", link(0, 0), "b0 | 0 !", api.OK},
		{"while marking, its kid once more", "g1 w | 0 !", link(0, 1), "g1,1 g | 0 !", api.OK},
		{"From is not live", "w w | 1", link(0, 1), "", api.ErrNone},
		{"To is not live", "w w | 0", link(0, 1), "", api.ErrNone},
		{"From is not live, but has To", "w1 w | 1", link(0, 1), "", api.ErrNone},
		{"From and To are one, not live", "w w | 0", link(1, 1), "", api.ErrNone},
		{"a ring that is not live", "w1 w0 w | 2", link(0, 1), "", api.ErrNone},
		{"Black, but not live", "b b | 0 !", link(0, 1), "", api.ErrNone},
		{"From is Free", "- w | 1", link(0, 1), "", api.ErrNone},
		{"To is Free", "w - | 0", link(0, 1), "", api.ErrNone},
		{"From is no thing", "w w | 0 1", link(2, 1), "", api.ErrNone},
		{"To is no thing", "w w | 0 1", link(0, 2), "", api.ErrNone},
		{"From is below 0", "w w | 0 1", link(-1, 1), "", api.ErrNone},
		{"To is below 0", "w w | 0 1", link(0, -1), "", api.ErrNone},
		{"no things", "|", link(0, 0), "", api.ErrNone},
		{"the 64th kid", kids(63) + " w | 0", link(0, 0), kids(63) + ",0 w | 0", api.OK},
		{"64 kids", kids(64) + " w | 0", link(0, 1), "", api.ErrLarge},
		{"64 kids, while marking", kids(64) + " w | 0 !", link(0, 1), "", api.ErrLarge},
		{"64 kids of To", kids(64) + " w | 0", link(1, 0), kids(64) + " w0 | 0", api.OK},
		{"64 kids, not live", kids(64) + " w | 1", link(0, 1), "", api.ErrNone},
		{"64 kids, To is not live", kids(64) + " w w | 0", link(0, 2), "", api.ErrNone},
		{"64 kids, To is no thing", kids(64) + " w | 0", link(0, 40), "", api.ErrNone},
		{"64 roots", "w w |" + manyRoots(63) + " 1", link(0, 1), "w1 w |" + manyRoots(63) + " 1", api.OK},
	})
}

func TestCut(t *testing.T) {
	checkActs(t, []act{
		{"its one kid", "w1 w | 0", cut(0, 0), "w w | 0", api.OK},
		{"its first kid", "w1,2,0 w w | 0", cut(0, 0), "w2,0 w w | 0", api.OK},
		{"its second kid", "w1,2,0 w w | 0", cut(0, 1), "w1,0 w w | 0", api.OK},
		{"its last kid", "w1,2,0 w w | 0", cut(0, 2), "w1,2 w w | 0", api.OK},
		{"one of equal kids", "w1,2,1,2 w w | 0", cut(0, 2), "w1,2,2 w w | 0", api.OK},
		{"itself", "w0,0 | 0", cut(0, 1), "w0 | 0", api.OK},
		{"of one that is live by another one", "w1 w0,2 w | 0", cut(1, 1), "w1 w0 w | 0", api.OK},
		{"what has it live", "w1 w0 w | 1", cut(1, 0), "w1 w w | 1", api.OK},
		{"colours stay", "b1,2 g w | 0", cut(0, 1), "b1 g w | 0", api.OK},
		{"colours stay, while marking", "g1,2 w w | 0 !", cut(0, 1), "g1 w w | 0 !", api.OK},
		{"colours stay, of a Black one", "b1,1 g | 0 !", cut(0, 0), "b1 g | 0 !", api.OK},
		{"the number is not that of a thing", "w0,1 w | 0", cut(0, 1), "w0 w | 0", api.OK},
		{"no kids", "w w | 0 1", cut(0, 0), "", api.ErrNone},
		{"no such kid", "w1,0 w | 0", cut(0, 2), "", api.ErrNone},
		{"a kid below 0", "w1,0 w | 0", cut(0, -1), "", api.ErrNone},
		{"as many kids as another one has", "w1 w0,1,0 | 0", cut(0, 1), "", api.ErrNone},
		{"From is not live", "w1 w | 1", cut(0, 0), "", api.ErrNone},
		{"From is a kid of itself, not live", "w0 w | 1", cut(0, 0), "", api.ErrNone},
		{"From is not live, and has no such kid", "w1 w | 1", cut(0, 1), "", api.ErrNone},
		{"From is Black, but not live", "b1 b | 1 !", cut(0, 0), "", api.ErrNone},
		{"From is Free", "- w | 1", cut(0, 0), "", api.ErrNone},
		{"From is no thing", "w0 | 0", cut(1, 0), "", api.ErrNone},
		{"From is below 0", "w0 | 0", cut(-1, 0), "", api.ErrNone},
		{"no things", "|", cut(0, 0), "", api.ErrNone},
	})
}

func TestHold(t *testing.T) {
	checkActs(t, []act{
		{"a kid", "w1 w | 0", hold(1), "w1 w | 0 1", api.OK},
		{"behind the other roots", "w1 w w | 2 0 2", hold(1), "w1 w w | 2 0 2 1", api.OK},
		{"a root", "w w | 1 0", hold(1), "w w | 1 0 1", api.OK},
		{"colours stay", "b1 w | 0", hold(1), "b1 w | 0 1", api.OK},
		{"while marking", "g1 w | 0 !", hold(1), "g1 g | 0 1 !", api.OK},
		{"while marking, a Grey one", "b1 g | 0 !", hold(1), "b1 g | 0 1 !", api.OK},
		{"while marking, a Black one", "b1 b | 0 !", hold(1), "b1 b | 0 1 !", api.OK},
		{"From says nothing", "w1 w | 0", api.Act{Kind: 5, From: -7, To: 1}, "w1 w | 0 1", api.OK},
		{"From says nothing, whatever it is", "w1 w w | 0", api.Act{Kind: 5, From: 2, To: 0}, "w1 w w | 0 0", api.OK},
		{"not live", "w w0 | 0", hold(1), "", api.ErrNone},
		{"not live, though From is", "w w | 0", api.Act{Kind: 5, From: 0, To: 1}, "", api.ErrNone},
		{"Black, but not live", "w b | 0 !", hold(1), "", api.ErrNone},
		{"Free", "w - | 0", hold(1), "", api.ErrNone},
		{"no thing", "w w | 0 1", hold(2), "", api.ErrNone},
		{"below 0", "w w | 0 1", hold(-1), "", api.ErrNone},
		{"no things", "|", hold(0), "", api.ErrNone},
		{"the 64th root", "w1 w |" + manyRoots(63), hold(1), "w1 w |" + manyRoots(63) + " 1", api.OK},
		{"64 roots", "w |" + manyRoots(64), hold(0), "", api.ErrLarge},
		{"64 roots, while marking", "b |" + manyRoots(64) + " !", hold(0), "", api.ErrLarge},
		{"64 roots, not live", "w w |" + manyRoots(64), hold(1), "", api.ErrNone},
		{"64 roots, no thing", "w |" + manyRoots(64), hold(1), "", api.ErrNone},
	})
}

func TestDrop(t *testing.T) {
	checkActs(t, []act{
		{"its one root", "w | 0", drop(0), "w |", api.OK},
		{"the first root", "w w w | 2 0 1", drop(0), "w w w | 0 1", api.OK},
		{"the second root", "w w w | 2 0 1", drop(1), "w w w | 2 1", api.OK},
		{"the last root", "w w w | 2 0 1", drop(2), "w w w | 2 0", api.OK},
		{"one of equal roots", "w w | 1 0 1 0", drop(2), "w w | 1 0 0", api.OK},
		{"one that has kids", "w1 w0 | 0", drop(0), "w1 w0 |", api.OK},
		{"colours stay", "b g w | 0 1 2", drop(1), "b g w | 0 2", api.OK},
		{"colours stay, while marking", "b g w | 0 1 2 !", drop(1), "b g w | 0 2 !", api.OK},
		{"From says nothing", "w w | 0 1", api.Act{Kind: 6, From: -7, To: 1}, "w w | 0", api.OK},
		{"From says nothing, whatever it is", "w w | 0 1", api.Act{Kind: 6, From: 1, To: 0}, "w w | 1", api.OK},
		{"the last one of 64", "w w |" + manyRoots(63) + " 1", drop(63), "w w |" + manyRoots(63), api.OK},
		{"no roots", "w w |", drop(0), "", api.ErrNone},
		{"no such root", "w w | 1", drop(1), "", api.ErrNone},
		{"a root below 0", "w w | 1", drop(-1), "", api.ErrNone},
		{"behind 64 roots", "w |" + manyRoots(64), drop(64), "", api.ErrNone},
		{"no things", "|", drop(0), "", api.ErrNone},
	})
}

// A kind that is none is told behind a wrong heap, and ahead of all else.
func TestKinds(t *testing.T) {
	for _, kind := range append([]int{0, -1, -2, -3, -4, -5, -6, 7, 8, 9, 255, 256, 257, 1<<32 + 1, -1<<32 + 2, math.MaxInt, math.MinInt, math.MinInt + 1}, noThings...) {
		for _, h := range []string{"|", "| !", "w | 0", "b1 w | 0 !", strings.Repeat("w ", 40) + "|" + manyRoots(64)} {
			for _, n := range []int{0, 1, -1, 99} {
				a := api.Act{Kind: kind, From: n, To: -n}
				if g, err := sweep.Do(heap(h), a); !isNone(g) || err != api.ErrKind {
					t.Errorf("Do(%s, %v) = %s, %v, want ErrKind", h, a, told(g), err)
				}
			}
		}
	}
}

func TestWrongNumbers(t *testing.T) {
	h := heap("w1,2 w0 g1 b - | 3 0")
	for kind := 3; kind < 7; kind++ {
		for _, n := range append([]int{5, 6, -5}, noThings...) {
			for _, a := range []api.Act{{Kind: kind, From: n, To: n}, {Kind: kind, From: 0, To: n}, {Kind: kind, From: n, To: 0}} {
				checkDo(t, h, a)
				if g, err := sweep.Do(h, a); (kind < 5 || a.To == n) && (!isNone(g) || err != api.ErrNone) {
					t.Errorf("Do(%s, %v) = %s, %v, want ErrNone", told(h), a, told(g), err)
				}
			}
		}
	}
}

// Acts upon heaps of as many things, kids and roots as there may be.
func TestActsOfManyThings(t *testing.T) {
	for _, count := range []int{39, 40} {
		for _, many := range []int{1, 62, 63, 64} {
			h := lone(count)
			for i := range h.Things {
				h.Things[i].Colour = i % 3
				for j := range many {
					h.Things[i].Kids = append(h.Things[i].Kids, (i+j)%count)
				}
			}
			for i := range max(0, many-count) {
				h.Roots = append(h.Roots, i)
			}
			for _, h.Busy = range []bool{false, true} {
				for kind := range 8 {
					for _, from := range []int{0, 1, count / 2, count - 1, count} {
						for _, to := range []int{0, 1, count - 1, count, many - 1, many, 63, 64} {
							checkDo(t, h, api.Act{Kind: kind, From: from, To: to})
						}
					}
				}
			}
		}
	}
}

func line(h api.Heap, err api.Errno) string {
	return strconv.Itoa(int(err)) + ": " + told(h) + "\n"
}

// All acts upon all heaps of up to two things.
func TestActsOfSmallHeaps(t *testing.T) {
	for _, c := range []struct {
		count int
		want  uint32
	}{{0, 0xc99e71a8}, {1, 0x3fc0ccbf}, {2, 0xfbc606dd}} {
		var all []byte
		small(c.count, func(h api.Heap) {
			for kind := range 8 {
				for from := range c.count + 2 {
					for to := range c.count + 2 {
						all = append(all, line(sweep.Do(h, api.Act{Kind: kind, From: from - 1, To: to - 1}))...)
					}
				}
			}
		})
		checkSum(t, "acts upon heaps of "+strconv.Itoa(c.count)+" things", all, c.want)
	}
}

func TestActsOfOddHeaps(t *testing.T) {
	var all []byte
	for seed := range 20000 {
		all = append(all, line(sweep.Do(oddHeap(seed), oddAct(seed)))...)
	}
	checkSum(t, "acts upon odd heaps", all, 0xd9b1d16c)
}
