package sweep_test

import (
	"math"
	"slices"
	"strings"
	"testing"

	"lumberroom/api"
	"lumberroom/sweep"
)

var everyKind = []int{0, api.AMark, api.AFresh, api.ALink, api.ACut, api.AHold, api.ADrop, 7}

// lone is a heap of so many things that are live, without kids.
func lone(count int) api.Heap {
	h := api.Heap{Things: make([]api.Thing, count)}
	for i := range count {
		h.Roots = append(h.Roots, i)
	}
	return h
}

// with is a heap in which one thing has other kids.
func with(h api.Heap, thing int, kids ...int) api.Heap {
	h.Things = slices.Clone(h.Things)
	h.Things[thing].Kids = kids
	return h
}

// like is a heap in which one thing has another colour.
func like(h api.Heap, thing, colour int) api.Heap {
	h.Things = slices.Clone(h.Things)
	h.Things[thing].Colour = colour
	return h
}

// rooted is a heap with other roots.
func rooted(h api.Heap, roots ...int) api.Heap {
	h.Roots = roots
	return h
}

// free is a heap of which one thing is Free.
func free(h api.Heap, thing int) api.Heap {
	h.Things = slices.Clone(h.Things)
	h.Things[thing] = api.Thing{Free: true}
	return h
}

func times(n, count int) []int { return slices.Repeat([]int{n}, count) }

// noThings are none in a heap of up to 40 things.
var noThings = []int{
	-1, 40, -2, 41, -39, -40, -41, 64, 255, 256, 257, -256, 1 << 16, 1<<16 + 1, 1 << 31, -1 << 31, 1 << 32, 1<<32 + 1, -1<<32 + 1,
	math.MaxInt, math.MaxInt - 1, math.MinInt, math.MinInt + 1,
}

// noColours are none.
var noColours = []int{-1, 3, -2, 4, 255, 256, 257, 258, 1 << 16, 1 << 32, 1<<32 + 1, -1 << 32, math.MaxInt, math.MinInt, math.MinInt + 1}

func TestCheck(t *testing.T) {
	for _, c := range []struct {
		what string
		h    api.Heap
		want api.Errno
	}{
		{"no things", heap("|"), api.OK},
		{"no things, while marking", heap("| !"), api.OK},
		{"empty lists", api.Heap{Things: []api.Thing{}, Roots: []int{}}, api.OK},
		{"an empty list of kids", api.Heap{Things: []api.Thing{{Kids: []int{}}, {Kids: []int{}, Free: true}}}, api.OK},
		{"a thing", heap("w |"), api.OK},
		{"a thing that is a root", heap("w | 0"), api.OK},
		{"a thing that is Free", heap("- |"), api.OK},
		{"all colours", heap("w g b | 0 1 2"), api.OK},
		{"all colours, while marking", heap("b g w | !"), api.OK},
		{"kids", heap("w1,2 g0 b2,1 | 1"), api.OK},
		{"a kid of itself", heap("w0 |"), api.OK},
		{"equal kids and roots", heap("w0,0,1 g1,1 - | 1 1 0 1"), api.OK},
		{"all are Free", heap("- - - |"), api.OK},
		{"kids on both sides of one that is Free", heap("b2 - w0 | 0 2"), api.OK},
		{"40 things", lone(40), api.OK},
		{"40 things, the last one has the last one", with(lone(40), 39, 39), api.OK},
		{"40 things, the first one has 64 kids", with(lone(40), 0, times(39, 64)...), api.OK},
		{"64 kids of itself", with(lone(1), 0, times(0, 64)...), api.OK},
		{"64 roots", rooted(lone(2), times(1, 64)...), api.OK},

		{"41 things", rooted(lone(41)), api.ErrLarge},
		{"41 things with roots", lone(41), api.ErrLarge},
		{"41 things, all Free", heap(strings.Repeat("- ", 41)), api.ErrLarge},
		{"41 things, a wrong colour", like(lone(41), 0, 3), api.ErrLarge},
		{"41 things, a wrong kid", with(lone(41), 0, -1), api.ErrLarge},
		{"41 things, a wrong root", rooted(lone(41), -1), api.ErrLarge},
		{"256 things", rooted(lone(256)), api.ErrLarge},
		{"65 roots", rooted(lone(1), times(0, 65)...), api.ErrLarge},
		{"65 roots of no things", rooted(lone(0), times(0, 65)...), api.ErrLarge},
		{"65 wrong roots", rooted(lone(1), times(-1, 65)...), api.ErrLarge},
		{"65 roots, a wrong colour", like(rooted(lone(1), times(0, 65)...), 0, 3), api.ErrLarge},
		{"65 roots, a wrong kid", with(rooted(lone(1), times(0, 65)...), 0, 1), api.ErrLarge},
		{"65 roots, Free with kids", rooted(heap("-0"), times(0, 65)...), api.ErrLarge},
		{"256 roots", rooted(lone(1), times(0, 256)...), api.ErrLarge},
		{"65 kids", with(lone(1), 0, times(0, 65)...), api.ErrLarge},
		{"65 kids of the last one of 40", with(lone(40), 39, times(7, 65)...), api.ErrLarge},
		{"65 wrong kids", with(lone(1), 0, times(-1, 65)...), api.ErrLarge},
		{"65 kids, a wrong colour", like(with(lone(1), 0, times(0, 65)...), 0, 3), api.ErrLarge},
		{"65 kids of one that is Free", api.Heap{Things: []api.Thing{{Free: true, Kids: times(0, 65)}}}, api.ErrLarge},
		{"65 kids, and a wrong root", rooted(with(lone(1), 0, times(0, 65)...), 1), api.ErrLarge},
		{"65 kids, a wrong colour behind", like(with(lone(2), 0, times(0, 65)...), 1, 3), api.ErrLarge},
		{"65 kids, a wrong kid behind", with(with(lone(2), 0, times(0, 65)...), 1, 2), api.ErrLarge},
		{"256 kids", with(lone(1), 0, times(0, 256)...), api.ErrLarge},

		{"a colour that is none", like(lone(1), 0, 3), api.ErrForm},
		{"a colour below 0", like(lone(1), 0, -1), api.ErrForm},
		{"a colour that is none, and a wrong kid", with(like(lone(1), 0, 3), 0, 1), api.ErrForm},
		{"a colour that is none, and a wrong root", rooted(like(lone(1), 0, 3), 1), api.ErrForm},
		{"a colour that is none, 65 kids behind", with(like(lone(2), 0, 3), 1, times(0, 65)...), api.ErrForm},
		{"a colour that is none, a wrong kid behind", with(like(lone(2), 0, 3), 1, 2), api.ErrForm},
		{"Free, a colour that is none", like(heap("- |"), 0, 3), api.ErrForm},
		{"Free and Grey", heap("g- |"), api.ErrForm},
		{"Free and Black", heap("b- |"), api.ErrForm},
		{"Free and Black, while marking", heap("b- | !"), api.ErrForm},
		{"Free with a kid", heap("-1 w |"), api.ErrForm},
		{"Free with itself as a kid", heap("-0 |"), api.ErrForm},
		{"Free with a wrong kid", heap("-1 |"), api.ErrForm},
		{"Free with 64 kids", api.Heap{Things: []api.Thing{{Free: true, Kids: times(1, 64)}, {}}}, api.ErrForm},
		{"Free and Grey with a kid", heap("g-1 w |"), api.ErrForm},
		{"Free and Grey, and a root", heap("w g- | 1"), api.ErrForm},
		{"Free and Grey, 65 kids behind", with(heap("g- w |"), 1, times(1, 65)...), api.ErrForm},
		{"the last one of 40 is Free and Grey", like(free(rooted(lone(40)), 39), 39, 1), api.ErrForm},

		{"a kid that is no thing", heap("w1 |"), api.ErrArg},
		{"a kid ahead of the things", with(lone(1), 0, -1), api.ErrArg},
		{"a wrong kid behind right ones", heap("w0,1,2 w | 0"), api.ErrArg},
		{"a kid that is Free", heap("w1 - |"), api.ErrArg},
		{"a kid in front that is Free", heap("- w0 |"), api.ErrArg},
		{"a kid that is Free, of one that is not live", heap("w w2 - | 0"), api.ErrArg},
		{"a kid that is Free and Grey behind", heap("w1 g- |"), api.ErrArg},
		{"a kid that is Free and Grey in front", heap("g- w0 |"), api.ErrForm},
		{"a wrong kid, a wrong colour behind", like(heap("w2 w |"), 1, 3), api.ErrArg},
		{"a wrong kid, 65 kids behind", with(heap("w2 w |"), 1, times(0, 65)...), api.ErrArg},
		{"a wrong kid, Free with kids behind", heap("w2 -0 |"), api.ErrArg},
		{"a root that is no thing", heap("w | 1"), api.ErrArg},
		{"a root of no things", heap("| 0"), api.ErrArg},
		{"a root below 0", heap("w | -1"), api.ErrArg},
		{"a wrong root behind right ones", heap("w w | 0 1 0 2"), api.ErrArg},
		{"a root that is Free", heap("- | 0"), api.ErrArg},
		{"a root that is Free behind one that is not", heap("w - | 0 1"), api.ErrArg},
		{"a root behind 40 things", rooted(lone(40), 40), api.ErrArg},
		{"64 roots, the last one wrong", rooted(lone(1), append(times(0, 63), 1)...), api.ErrArg},
		{"a wrong root, 65 kids", rooted(with(lone(1), 0, times(0, 65)...), 1), api.ErrLarge},
		{"a root that is Free, a wrong colour behind", like(heap("- w | 0"), 1, 3), api.ErrForm},
	} {
		if err := sweep.Check(c.h); err != c.want {
			t.Errorf("%s: Check = %v, want %v", c.what, err, c.want)
		}
		checkCheck(t, c.h)
		if c.want == api.OK {
			continue
		}
		if live, err := sweep.Live(c.h); live != nil || err != c.want {
			t.Errorf("%s: Live = %s, %v, want %v", c.what, marks(live), err, c.want)
		}
		for _, kind := range everyKind {
			if g, err := sweep.Do(c.h, api.Act{Kind: kind}); !isNone(g) || err != c.want {
				t.Errorf("%s: Do of kind %d = %s, %v, want %v", c.what, kind, told(g), err, c.want)
			}
		}
	}
}

// A kid, a root or a colour that is none is found wherever it stands, whatever
// stands beside it.
func TestCheckOfWrongNumbers(t *testing.T) {
	for _, count := range []int{1, 2, 39, 40} {
		for _, thing := range []int{0, count / 2, count - 1} {
			for colour := -300; colour < 300; colour++ {
				checkCheck(t, like(lone(count), thing, colour))
				checkCheck(t, like(free(rooted(lone(count)), thing), thing, colour))
			}
			for _, colour := range noColours {
				if err := sweep.Check(like(lone(count), thing, colour)); err != api.ErrForm {
					t.Fatalf("Check of %d things, thing %d of colour %d = %v, want ErrForm", count, thing, colour, err)
				}
			}
			for _, n := range append([]int{count, count + 1, -count}, noThings...) {
				for _, many := range []int{1, 2, 64} {
					for _, at := range []int{0, many / 2, many - 1} {
						list := times(count-1, many)
						list[at] = n
						if err := sweep.Check(with(lone(count), thing, list...)); err != api.ErrArg {
							t.Fatalf("Check of %d things, thing %d having %v = %v, want ErrArg", count, thing, list, err)
						}
						if err := sweep.Check(rooted(lone(count), list...)); err != api.ErrArg {
							t.Fatalf("Check of %d things, roots %v = %v, want ErrArg", count, list, err)
						}
					}
				}
			}
		}
	}
}

// Of any two things the one may be a kid of the other one, or a root, unless
// it is Free.
func TestCheckOfFreeThings(t *testing.T) {
	for thing := range 40 {
		for kid := range 40 {
			for gone := range 40 {
				if gone == thing {
					continue
				}
				h := with(free(rooted(lone(40)), gone), thing, kid)
				want := api.OK
				if kid == gone {
					want = api.ErrArg
				}
				if err := sweep.Check(h); err != want {
					t.Fatalf("Check of %d having %d, %d Free = %v, want %v", thing, kid, gone, err, want)
				}
				if err := sweep.Check(rooted(free(lone(40), gone), thing, kid)); err != want {
					t.Fatalf("Check of roots %d and %d, %d Free = %v, want %v", thing, kid, gone, err, want)
				}
			}
		}
	}
}

// As many things, kids and roots as there are up to some above the bounds.
func TestCheckOfManyThings(t *testing.T) {
	for many := range 300 {
		for _, n := range []int{-1, 0, 9, 10} {
			checkCheck(t, with(lone(10), many%10, times(n, many)...))
			checkCheck(t, rooted(lone(10), times(n, many)...))
			checkCheck(t, rooted(lone(many), n))
			if many > 0 {
				checkCheck(t, with(rooted(lone(many)), many-1, n, n))
				checkCheck(t, with(rooted(lone(many)), 0, times(n, 65)...))
			}
		}
	}
}
